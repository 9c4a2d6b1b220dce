import Derived.Test.YtfoahpideglghaaGreatDoorLeaf
import Derived.Test.YtfoahpideglghaaGreatDoorMath
import Derived.BigQuiet
import Derived.Deep.QuietTactic
namespace Go.Proofs.YtfoahpideglghaaGreatDoor
open Go.RowKit

def wordVals (n X : Nat) : List Value := (List.range (nw n)).map fun k => .int .u64 (wordAt X k)

theorem wordVals_length (n X : Nat) : (wordVals n X).length = nw n := by simp [wordVals]
theorem wordVals_get (n X k : Nat) (h : k < nw n) : (wordVals n X)[k]? = some (.int .u64 (wordAt X k)) := by
  simp [wordVals, h]

/-- A set of the program: its struct is block b, its words begin block g. -/
structure IsSet (w : World) (b g cap n X : Nat) : Prop where
  hn : n ≤ 8192
  hX : X < 2 ^ n
  blk : w.heap[b]? = some (.cells #[.int .i64 n, .slice (some ⟨g, 0, none⟩) (nw n) cap] 97 (0, 0))
  own : w.ownsRow 0 99 1 (.slice (some ⟨g, 0, none⟩) (nw n) cap) (nw n) (wordVals n X)

theorem IsSet.c0 {w : World} {b g cap n X : Nat} (h : IsSet w b g cap n X) : w.cell? ⟨b, 0, none⟩ = some (.int .i64 n) := by
  rw [cell_of_row w b 0 _ 97 (0, 0) h.blk]; rfl
theorem IsSet.c1 {w : World} {b g cap n X : Nat} (h : IsSet w b g cap n X) : w.cell? ⟨b, 1, none⟩ = some (.slice (some ⟨g, 0, none⟩) (nw n) cap) := by
  rw [cell_of_row w b 1 _ 97 (0, 0) h.blk]; rfl
theorem IsSet.word {w : World} {b g cap n X : Nat} (h : IsSet w b g cap n X) (k : Nat) (hk : k < nw n) : w.cell? ⟨g, k, none⟩ = some (.int .u64 (wordAt X k)) := by
  have := h.own.cells (g := g) rfl k _ (wordVals_get n X k hk)
  rw [Addr.add_lit] at this
  simpa using this
theorem nw_le {n : Nat} (h : n ≤ 8192) : nw n ≤ 128 := by unfold nw; omega

theorem cell_lt {w : World} {k : Nat} {o : Obj} (h : w.heap[k]? = some o) : k < w.heap.size := (Array.getElem?_eq_some_iff.1 h).1
theorem IsSet.blt {w : World} {b g cap n X : Nat} (h : IsSet w b g cap n X) : b < w.heap.size := cell_lt h.blk
theorem IsSet.glt {w : World} {b g cap n X : Nat} (h : IsSet w b g cap n X) : g < w.heap.size := (h.own.lt g rfl).2

theorem IsSet.below {w w' : World} {b g cap n X : Nat} (h : IsSet w b g cap n X) (hb : Below w.heap.size w w') : IsSet w' b g cap n X := by
  refine ⟨h.hn, h.hX, ?_, ?_⟩
  · rw [hb.block b h.blt]; exact h.blk
  · exact h.own.kept (row := none) ⟨hb.os, hb.tape, hb.output, hb.size, fun k hk _ => hb.block k hk⟩ (.inr (by simp [Value.ownBlock]))

set_option maxHeartbeats 400000 in
theorem count_any (b g cap n X : Nat) (w : World) (hs : IsSet w b g cap n X) :
    Calls Tryz.prog 70 #[.pointer (some ⟨b, 0, none⟩)] w fun e w' => e = .returned (.int .i64 (cnt n X)) ∧ w' = w := by
  have h1 := hs.c1
  have hnw := nw_le hs.hn
  have hfull := cnt_full n X hs.hX
  have HF : Hid (cnt (64 * nw n) X = cnt n X) := hfull
  have hword := hs.word
  clear hfull hs
  generalize nw n = m at *
  go_enter Tryz.func70, Tryz.ntmps70
  go_wp2
  go_loop [3, 11] (fun c i => ∃ k : Nat, k ≤ m ∧ i = .int .i64 k ∧ c = .int .i64 (cnt (64 * k) X)) (fun _ i => m - (intOf i).toNat)
  case atStart => exact ⟨0, Nat.zero_le _, rfl, rfl⟩
  case round =>
    obtain ⟨k, hk, rfl, rfl⟩ := hrel
    by_cases hlt : k < m
    · have hw := hword k hlt
      have hc1 := cnt_le (64 * k) X
      have hc2 := cnt_le 64 (wordAt X k)
      have HS : Hid (cnt (64 * (k + 1)) X = cnt (64 * k) X + cnt 64 (wordAt X k)) := cnt_succ X k
      have hlw := wordAt_lt X k
      clear hword
      go_wp2_with (go_at_call 102; refine (ones_any _ _ hlw).mono ?_; rintro e w' ⟨rfl, rfl⟩)
      go_round
      case rel => exact ⟨k + 1, by omega, by go_num, by rw [HS.out]; go_num⟩
      case measure => simp [intOf]; omega
    · clear hword
      go_wp2
      go_ret
      have : k = m := by omega
      subst this
      exact ⟨ret_int (by rw [← HF.out]), rfl⟩
end Go.Proofs.YtfoahpideglghaaGreatDoor
