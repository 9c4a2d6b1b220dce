import Derived.Test.YtfoahpideglghaaGreatDoorPL
import Derived.Test.YtfoahpideglghaaGreatDoorMath
import Derived.BigQuiet
import Derived.Deep.QuietTactic
namespace Go.Proofs.YtfoahpideglghaaGreatDoor
open Go.RowKit

def wordVals (n X : Nat) : List Value := (List.range (nw n)).map fun k => .int .u64 (wordAt X k)

theorem wordVals_length (n X : Nat) : (wordVals n X).length = nw n := by simp [wordVals]
theorem wordVals_get (n X k : Nat) (h : k < nw n) : (wordVals n X)[k]? = some (.int .u64 (wordAt X k)) := by
  simp [wordVals, h]

/-- A set of the program: its struct is block b, its words begin block g. -/
structure IsSet (w : World) (b g cap n X : Nat) : Prop where
  hn : n ≤ 8192
  hX : X < 2 ^ n
  blk : w.heap[b]? = some (.cells #[.int .i64 n, .slice (some ⟨g, 0, none⟩) (nw n) cap] 97 (0, 0))
  own : w.ownsRow 0 99 1 (.slice (some ⟨g, 0, none⟩) (nw n) cap) (nw n) (wordVals n X)

theorem IsSet.c0 {w : World} {b g cap n X : Nat} (h : IsSet w b g cap n X) : w.cell? ⟨b, 0, none⟩ = some (.int .i64 n) := by
  rw [cell_of_row w b 0 _ 97 (0, 0) h.blk]; rfl
theorem IsSet.c1 {w : World} {b g cap n X : Nat} (h : IsSet w b g cap n X) : w.cell? ⟨b, 1, none⟩ = some (.slice (some ⟨g, 0, none⟩) (nw n) cap) := by
  rw [cell_of_row w b 1 _ 97 (0, 0) h.blk]; rfl
theorem IsSet.word {w : World} {b g cap n X : Nat} (h : IsSet w b g cap n X) (k : Nat) (hk : k < nw n) : w.cell? ⟨g, k, none⟩ = some (.int .u64 (wordAt X k)) := by
  have := h.own.cells (g := g) rfl k _ (wordVals_get n X k hk)
  rw [Addr.add_lit] at this
  simpa using this
theorem nw_le {n : Nat} (h : n ≤ 8192) : nw n ≤ 128 := by unfold nw; omega

theorem cell_lt {w : World} {k : Nat} {o : Obj} (h : w.heap[k]? = some o) : k < w.heap.size := (Array.getElem?_eq_some_iff.1 h).1
theorem IsSet.blt {w : World} {b g cap n X : Nat} (h : IsSet w b g cap n X) : b < w.heap.size := cell_lt h.blk
theorem IsSet.glt {w : World} {b g cap n X : Nat} (h : IsSet w b g cap n X) : g < w.heap.size := (h.own.lt g rfl).2

theorem IsSet.below {w w' : World} {b g cap n X : Nat} (h : IsSet w b g cap n X) (hb : Below w.heap.size w w') : IsSet w' b g cap n X := by
  refine ⟨h.hn, h.hX, ?_, ?_⟩
  · rw [hb.block b h.blt]; exact h.blk
  · exact h.own.kept (row := none) ⟨hb.os, hb.tape, hb.output, hb.size, fun k hk _ => hb.block k hk⟩ (.inr (by simp [Value.ownBlock]))

set_option maxHeartbeats 400000 in
theorem count_any (b g cap n X : Nat) (w : World) (hs : IsSet w b g cap n X) :
    Calls Tryz.prog 70 #[.pointer (some ⟨b, 0, none⟩)] w fun e w' => e = .returned (.int .i64 (cnt n X)) ∧ w' = w := by
  have h1 := hs.c1
  have hnw := nw_le hs.hn
  have hfull := cnt_full n X hs.hX
  have HF : Hid (cnt (64 * nw n) X = cnt n X) := hfull
  have hword := hs.word
  clear hfull hs
  generalize nw n = m at *
  go_enter Tryz.func70, Tryz.ntmps70
  go_wp2
  go_loop [3, 11] (fun c i => ∃ k : Nat, k ≤ m ∧ i = .int .i64 k ∧ c = .int .i64 (cnt (64 * k) X)) (fun _ i => m - (intOf i).toNat)
  case atStart => exact ⟨0, Nat.zero_le _, rfl, rfl⟩
  case round =>
    obtain ⟨k, hk, rfl, rfl⟩ := hrel
    by_cases hlt : k < m
    · have hw := hword k hlt
      have hc1 := cnt_le (64 * k) X
      have hc2 := cnt_le 64 (wordAt X k)
      have HS : Hid (cnt (64 * (k + 1)) X = cnt (64 * k) X + cnt 64 (wordAt X k)) := cnt_succ X k
      have hlw := wordAt_lt X k
      clear hword
      go_wp2_with (go_at_call 102; refine (ones_any _ _ hlw).mono ?_; rintro e w' ⟨rfl, rfl⟩)
      go_round
      case rel => exact ⟨k + 1, by omega, by go_num, by rw [HS.out]; go_num⟩
      case measure => simp [intOf]; omega
    · clear hword
      go_wp2
      go_ret
      have : k = m := by omega
      subst this
      exact ⟨ret_int (by rw [← HF.out]), rfl⟩
end Go.Proofs.YtfoahpideglghaaGreatDoor
namespace Go.Proofs.YtfoahpideglghaaGreatDoor
open Go.RowKit

theorem inRange_no (b : Nat) (i n : Int) (w : World) (hc : w.cell? ⟨b, 0, none⟩ = some (.int .i64 n)) (hi : ¬ (0 ≤ i ∧ i < n)) :
    Calls Tryz.prog 117 #[.pointer (some ⟨b, 0, none⟩), .int .i64 i] w fun e w' => e = .returned (.bool false) ∧ w' = w := by
  have := inRange_any b i n w hc
  rwa [decide_eq_false hi] at this
set_option maxRecDepth 100000 in
theorem inRange_yes (b : Nat) (i n : Int) (w : World) (hc : w.cell? ⟨b, 0, none⟩ = some (.int .i64 n)) (hi : 0 ≤ i ∧ i < n) :
    Calls Tryz.prog 117 #[.pointer (some ⟨b, 0, none⟩), .int .i64 i] w fun e w' => e = .returned (.bool true) ∧ w' = w := by
  have := inRange_any b i n w hc
  rwa [decide_eq_true hi] at this

set_option maxRecDepth 100000 in
set_option maxHeartbeats 400000 in
theorem has_out (b g cap n X : Nat) (i : Int) (w : World) (hs : IsSet w b g cap n X) (hi : ¬ (0 ≤ i ∧ i < (n : Int))) :
    Calls Tryz.prog 95 #[.pointer (some ⟨b, 0, none⟩), .int .i64 i] w fun e w' => e = .returned (.bool false) ∧ ∃ q, w' = w.drewN q := by
  have h0 := hs.c0
  have HI : Hid (¬ (0 ≤ i ∧ i < (n : Int))) := hi
  clear hs hi
  go_enter Tryz.func95, Tryz.ntmps95
  go_wp2_with fail
  go_quiet ((go_at_call 117; exact Calls.quiet_of_same (inRange_no b i n _ h0 HI.out)))
  go_wp2
  go_ret
  exact ⟨rfl, _, rfl⟩

theorem ret_bool {a b : Bool} (h : a = b) : Ending.returned (.bool a) = .returned (.bool b) := by rw [h]

theorem has_and (X j : Nat) : (bits BinOp.and IntKind.u64 (wordAt X (j / 64) : Int) ((2 ^ (j % 64) : Nat) : Int) != 0) = X.testBit j := by
  have hl : (2:Nat) ^ (j % 64) < 2 ^ 64 := Nat.pow_lt_pow_right (by decide) (Nat.mod_lt _ (by decide))
  rw [bits_and_u64_nat _ _ (wordAt_lt _ _) hl, ← testBit_word X j]
  have := and_bit (wordAt X (j / 64)) (j % 64)
  cases h : (wordAt X (j / 64)).testBit (j % 64)
  · rw [this.2 h]; rfl
  · rw [bne_iff_ne]
    intro h0
    rw [this.1 (by exact_mod_cast h0)] at h
    cases h

set_option maxRecDepth 100000 in
set_option maxHeartbeats 400000 in
theorem has_in (b g cap n X j : Nat) (w : World) (hs : IsSet w b g cap n X) (hi : j < n) :
    Calls Tryz.prog 95 #[.pointer (some ⟨b, 0, none⟩), .int .i64 j] w fun e w' => e = .returned (.bool (X.testBit j)) ∧ ∃ q, w' = w.drewN q := by
  have h0 := hs.c0
  have h1 := hs.c1
  have hn := hs.hn
  have hw := hs.word (j / 64) (by unfold nw; omega)
  have hnw : j / 64 < nw n := by unfold nw; omega
  clear hs
  go_enter Tryz.func95, Tryz.ntmps95
  go_wp2_with fail
  go_quiet (first | (go_at_call 117; exact Calls.quiet_of_same (inRange_yes b j n _ h0 (by omega))) | (go_at_call 108; exact Calls.quiet_of_same (bit_any j _ (by omega) (by omega))))
  go_wp2
  go_ret
  exact ⟨ret_bool (by rw [← has_and X j]; simp), _, rfl⟩

/-- Has of whatever number. -/
def hasB (X : Nat) (i : Int) : Bool := decide (0 ≤ i) && X.testBit i.toNat

theorem has_any (b g cap n X : Nat) (i : Int) (w : World) (hs : IsSet w b g cap n X) :
    Calls Tryz.prog 95 #[.pointer (some ⟨b, 0, none⟩), .int .i64 i] w fun e w' => e = .returned (.bool (hasB X i)) ∧ ∃ q, w' = w.drewN q := by
  by_cases hi : 0 ≤ i ∧ i < (n : Int)
  · obtain ⟨j, rfl⟩ := Int.eq_ofNat_of_zero_le hi.1
    have := has_in b g cap n X j w hs (by omega)
    have e : hasB X (j : Int) = X.testBit j := by simp [hasB]
    rwa [e]
  · have := has_out b g cap n X i w hs hi
    have e : hasB X i = false := by
      unfold hasB
      by_cases h0 : 0 ≤ i
      · have hlt : X < 2 ^ i.toNat := Nat.lt_of_lt_of_le hs.hX (Nat.pow_le_pow_right (by decide) (by omega))
        simp [Nat.testBit_lt_two_pow hlt]
      · simp [h0]
    rwa [e]

theorem ownsRow_base {w : World} {base base' : Nat} {e : TypeId} {size : Nat} {v : Value} {n : Nat} {xs : List Value} (h : w.ownsRow base e size v n xs) (hb : base' ≤ base) : w.ownsRow base' e size v n xs := by
  refine ⟨h.1, ?_⟩
  rcases h.2 with h2 | ⟨g, cap, cur, hv, hg, r⟩
  · exact .inl h2
  · exact .inr ⟨g, cap, cur, hv, by omega, r⟩
theorem wordVals_zero (n : Nat) : wordVals n 0 = List.replicate (nw n) (.int .u64 0) := by
  unfold wordVals wordAt
  apply List.ext_getElem?
  intro i
  by_cases h : i < nw n <;> simp [h]

set_option maxRecDepth 100000 in
theorem info67 : (Tryz.prog.info? 99).map (fun i => (i.zero, i.size, i.bytes)) = some (some (.int .u64 0), 1, 8) := by kernel_rfl

set_option maxRecDepth 100000 in
set_option maxHeartbeats 400000 in
theorem new_ok (n : Nat) (w : World) (h : n ≤ 8192) :
    Calls Tryz.prog 101 #[.int .i64 n] w fun e w' => ∃ b g cap, e = .returned (.tuple #[.pointer (some ⟨b, 0, none⟩), .int .i64 0]) ∧ IsSet w' b g cap n 0 ∧ w.heap.size ≤ b ∧ w.heap.size ≤ g ∧ b ≠ g ∧ Below w.heap.size w w' := by
  obtain ⟨i0, hi, hz0, hz1, hz2⟩ := info_parts info67
  go_enter Tryz.func101, Tryz.ntmps101
  go_wp2_with (at_make; refine wpList_make_full _ rfl _ _ 95 rfl w.heap.size 99 i0 (.int .u64 0) 1 Tryz.underlying95 hi hz0 hz1 _ _ _ _ (nw n) rfl rfl ?_ ?_ ?_ ?_ ?_ ?_)
  · unfold nw; omega
  · unfold nw; omega
  · rw [hz2]; unfold nw; omega
  · unfold nw maxLen; omega
  · exact Nat.le_refl _
  · intro w1 hown hgrow
    go_wp2
    go_ret2
    have hg : w.heap.size < w1.heap.size := (hown.lt _ rfl).2
    rw [toList_madeCells_one, ← wordVals_zero] at hown
    have hA := hown.alloc (.cells #[.int .i64 n, .slice (some ⟨w.heap.size, 0, none⟩) (nw n) (nw n)] 97)
    refine ⟨w1.heap.size, w.heap.size, nw n, rfl, ⟨h, Nat.two_pow_pos n, heap_alloc_new _ _, ownsRow_base hA (Nat.zero_le _)⟩, by omega, Nat.le_refl _, by omega, ?_⟩
    exact ((Below.refl _ _).grown hgrow (Nat.le_refl _) (by intro k hk; cases hk)).alloc (by omega) _
end Go.Proofs.YtfoahpideglghaaGreatDoor
