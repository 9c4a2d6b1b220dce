import Derived.Test.YtchoopnjckcohaaGreatDoorQaa
import Derived.Deep.AppendLies
import Derived.Deep.RegionWith
import Derived.BigRegion
import Derived.Deep.RegionHeld3
import Derived.RangeFuncRecord
import Derived.Deep.CutBlock
import Derived.Deep.CutRange
import Derived.Deep.DeepCutAuto
import Derived.Lib.Small
namespace Go.Proofs.YtchoopnjckcohaaGreatDoor
open Go.RowKit

theorem hide {p : Prop} (h : p) : Hid p := h
theorem IsSet.drew {w : World} {b g cap n X : Nat} (h : IsSet w b g cap n X) : IsSet w.drew b g cap n X := ⟨h.hn, h.hX, h.blk, h.own.drew⟩
theorem IsSet.store {w : World} {b g cap n X X' j : Nat} {v : Int} (h : IsSet w b g cap n X) (hbg : b ≠ g) (hj : j < nw n) (hX' : X' < 2 ^ n)
    (ho : ∀ i, i < nw n → i ≠ j → wordAt X' i = wordAt X i) (hv : v = (wordAt X' j : Int)) : IsSet (w.setCell ⟨g, j, none⟩ (.int .u64 v)) b g cap n X' := by
  refine ⟨h.hn, hX', ?_, ?_⟩
  · rw [heap_setCell_other w ⟨g, j, none⟩ b _ hbg]; exact h.blk
  · have := (h.own.stored j (.int .u64 v)).1
    have e : (wordVals n X).set j (.int .u64 v) = wordVals n X' := by
      apply List.ext_getElem?
      intro i
      rw [List.getElem?_set]
      by_cases hij : j = i
      · subst hij
        rw [if_pos rfl, if_pos (by rw [wordVals_length]; exact hj), wordVals_get n X' j hj, hv]
      · rw [if_neg hij]
        by_cases hi : i < nw n
        · rw [wordVals_get n X i hi, wordVals_get n X' i hi, ho i hi (fun h => hij h.symm)]
        · rw [List.getElem?_eq_none (by rw [wordVals_length]; omega), List.getElem?_eq_none (by rw [wordVals_length]; omega)]
    rwa [e] at this
theorem below_drewN' {B : Nat} {w w' : World} (h : Below B w w') (q : Nat) : Below B w (w'.drewN q) := ⟨h.os, h.tape, h.output, h.size, h.block⟩
theorem info_parts {P : Program} {t : TypeId} {z : Option Value} {s b : Nat} (h : (P.info? t).map (fun i => (i.zero, i.size, i.bytes)) = some (z, s, b)) : ∃ i, P.info? t = some i ∧ i.zero = z ∧ i.size = s ∧ i.bytes = b := by
  cases hi : P.info? t with
  | none => simp [hi] at h
  | some i =>
    rw [hi] at h
    simp only [Option.map_some, Option.some.injEq, Prod.mk.injEq] at h
    exact ⟨i, rfl, h.1, h.2.1, h.2.2⟩
theorem info3 : (Tryz.prog.info? 3).map (fun i => (i.zero, i.size, i.bytes)) = some (some (.int .i64 0), 1, 8) := by kernel_rfl
/-- The numbers as the program holds them. -/
def intV (l : List Nat) : List Value := l.map fun (i : Nat) => .int .i64 (i : Int)
/-- A variable (block c) that holds a slice of the call's own with these numbers; below B nothing has turned since w. -/
structure LSt (w : World) (B base c : Nat) (l : List Nat) (wr : World) : Prop where
  ex : ∃ g cap, wr.heap[c]? = some (.cells #[.slice (some ⟨g, 0, none⟩) l.length cap] 22 (0, 0)) ∧ wr.ownsRow base 3 1 (.slice (some ⟨g, 0, none⟩) l.length cap) l.length (intV l) ∧ g ≠ c
  below : Below B w wr
  base_le : base ≤ wr.heap.size
set_option maxRecDepth 100000 in
set_option maxHeartbeats 400000 in
theorem put_any (w0 : World) (c base B j : Nat) (i : Int) (hij : i = (j : Int)) (l : List Nat) (w : World) (hst : LSt w0 B base c l w) (hBc : B ≤ c) (hBb : B ≤ base) (hn : l.length ≤ 100000) :
    Calls Tryz.prog 118 #[.int .i64 i, .pointer (some ⟨c, 0, none⟩)] w fun e w' => e = .returned (.bool true) ∧ LSt w0 B base c (l ++ [j]) w' := by
  obtain ⟨⟨gv, capv, hc, hown, hne⟩, hbw, hbase⟩ := hst
  obtain ⟨i0, hi, hz0, hz1, hz2⟩ := info_parts info3
  have hcell := cell_of_one hc
  have hclt := cell_lt hc
  have HIJ := hide hij
  clear hij
  go_enter Tryz.func118, Tryz.ntmps118
  go_wp2_with (at_builtin; refine wpList_append_lies _ rfl _ _ _ rfl base 3 i0 _ 1 8 Tryz.underlying22 hi hz0 hz1 hz2 rfl (by omega) _ l.length (intV l) rfl (hown.alloc _) ⟨w.heap.size, 0, none⟩ 1 1 [.int .i64 i] rfl rfl (World.news_of_block (cs := #[.int .i64 i]) (t := 3) (fr := (0, 0)) (heap_alloc_new w _)) (by simp [Value.oneCell']) (by omega) (by unfold maxLen; omega) (by omega) (by simp; omega) (w.heap.size + 1) (by simp) ?_)
  intro g cap w1 hown1 hgr hat hlt
  have hc1 : w1.heap[c]? = some (.cells #[.slice (some ⟨gv, 0, none⟩) l.length capv] 22 (0, 0)) := by
    rw [hgr.block c (by simp; omega) (by simp [Value.ownBlock]; omega), heap_alloc_old _ _ hclt]; exact hc
  have hgc : g ≠ c := by
    rcases hat with h | h
    · simp [Value.ownBlock] at h; omega
    · omega
  have hcell1 := cell_of_one hc1
  have hfree1 := free_of_one hc1
  have hgv := (hown.lt gv rfl).1
  have hb1 : Below B w0 w1 := (hbw.alloc (by omega) _).grown hgr (by simp; omega) (by intro k hk; simp [Value.ownBlock] at hk; omega)
  have hsz := hgr.size
  clear hat hgr hcell hc hown
  go_wp2
  go_ret
  have hV : intV l ++ [.int .i64 i] = intV (l ++ [j]) := by simp [intV, HIJ.out]
  have hL : (l ++ [j]).length = l.length + 1 := by simp
  rw [hV] at hown1
  refine ⟨rfl, ⟨g, cap, ?_, ?_, hgc⟩, hb1.setCell hBc _, ?_⟩
  · rw [hL]; exact one_setCell hc1
  · rw [hL]; exact ownsRow_setCell_other hown1 (by simp [Value.ownBlock]; omega) _
  · simp at hsz ⊢; omega
set_option maxRecDepth 100000 in
theorem TabAt.below {w w' : World} {B : Nat} (h : TabAt w) (hb : Below B w w') (h0 : 0 < B) : TabAt w' := fun j hj => (hb.cell (p := ⟨0, j, none⟩) h0).trans (h j hj)
set_option maxRecDepth 100000 in
theorem and_pred_u64 (y : Nat) (h0 : y ≠ 0) (hy : y < 18446744073709551616) : bits BinOp.and IntKind.u64 (y : Int) ((y : Int) - 1) = ((y &&& (y - 1) : Nat) : Int) := by
  rw [show ((y : Int) - 1) = ((y - 1 : Nat) : Int) by omega, bits_and_u64_nat _ _ hy (by omega)]
set_option maxRecDepth 100000 in
set_option maxHeartbeats 1000000 in
theorem walk_list (w : World) (g cap m X c base B : Nat) (hword : ∀ k, k < m → w.cell? ⟨g, k, none⟩ = some (.int .u64 (wordAt X k))) (hm : m ≤ 128) (hT : TabAt w) (hgB : g < B) (hB0 : 0 < B)
    (hst : LSt w B base c [] w) (hBc : B ≤ c) (hBb : B ≤ base) :
    Calls Tryz.prog 117 #[.slice (some ⟨g, 0, none⟩) m cap, .func (.func 118) #[] #[.pointer (some ⟨c, 0, none⟩)]] w fun e w' => e = .returned (.tuple #[]) ∧ LSt w B base c (elems (64 * m) X) w' := by
  go_enter Tryz.func117, Tryz.ntmps117
  go_wp2
  go_loopw [8] (fun i wr => ∃ k : Nat, k ≤ m ∧ i = .int .i64 k ∧ LSt w B base c (elems (64 * k) X) wr) (fun i _ => m - (intOf i).toNat)
  case atStart => exact ⟨0, Nat.zero_le _, rfl, by simpa [elems] using hst⟩
  case round =>
    obtain ⟨k, hk, rfl, hsr⟩ := hrel
    clear hst
    by_cases hlt : k < m
    · have hcw : wr.cell? ⟨g, k, none⟩ = some (.int .u64 (wordAt X k)) := (hsr.below.cell hgB).trans (hword k hlt)
      have hwl := wordAt_lt X k
      clear hword
      go_wp2
      go_loopw [5] (fun yy wi => ∃ (y : Nat) (acc : List Nat), yy = .int .u64 y ∧ y < 18446744073709551616 ∧ LSt w B base c acc wi ∧ acc ++ (elems 64 y).map (64 * k + ·) = elems (64 * (k + 1)) X) (fun yy _ => (intOf yy).toNat)
      case atStart => exact ⟨_, _, rfl, hwl, hsr, (elems_succ X k).symm⟩
      case round =>
        obtain ⟨y, acc, rfl, hy, hsi, hacc⟩ := hrel
        have HA := hide hacc
        clear hacc hcw hsr
        by_cases h0 : y = 0
        · have hyb : ((y : Int) != 0) = false := by simp [h0]
          have HY := hide h0
          clear h0
          go_wp2
          go_roundw
          case rel =>
            have e := HA.out
            rw [HY.out, elems_zero] at e
            simp at e
            subst e
            exact ⟨k + 1, by omega, by go_num, hsi⟩
          case measure => simp [intOf]; omega
        · have hyb : ((y : Int) != 0) = true := by simp [h0]
          have hT2 : TabAt wr := hT.below hsi.below hB0
          have hc64 : Lib.ctz 64 y < 64 := by obtain ⟨_, _, h⟩ := ctz_spec y h0 hy; exact h
          have hstep : Hid (acc ++ [64 * k + Lib.ctz 64 y] ++ (elems 64 (y &&& (y - 1))).map (64 * k + ·) = elems (64 * (k + 1)) X) := by
            rw [← HA.out, elems_step y h0 hy]
            show _ = _
            simp
          have hacl : acc.length ≤ 100000 := by
            have h1 := congrArg List.length HA.out
            have h2 := cnt_le (64 * (k + 1)) X
            unfold cnt at h2
            simp at h1
            omega
          have hyp := and_pred_u64 y h0 hy
          have hlt2 := and_pred_lt y h0
          go_wp2_with (first | (go_at_call 143; refine (tz_any y hy h0 _ hT2).mono ?_; rintro e w' ⟨rfl, hw⟩; obtain rfl := hw.symm; clear hw) | (go_at_call 118; refine (put_any w c base B (64 * k + Lib.ctz 64 y) _ (by omega) acc _ hsi hBc hBb hacl).mono ?_; rintro e w2 ⟨rfl, hsi2⟩))
          go_roundw
          case rel => exact ⟨y &&& (y - 1), _, rfl, by omega, hsi2, hstep.out⟩
          case measure => simp [intOf]; omega
    · clear hword
      go_wp2
      go_end0
      have hke : k = m := by omega
      subst hke
      exact ⟨rfl, hsr⟩
set_option maxRecDepth 100000 in
set_option maxHeartbeats 400000 in
theorem list_any (b g cap n X : Nat) (w : World) (hs : IsSet w b g cap n X) (hT : TabAt w) :
    Calls Tryz.prog 77 #[.pointer (some ⟨b, 0, none⟩)] w fun e w' => ∃ gl capl, e = .returned (.slice (some ⟨gl, 0, none⟩) (elems n X).length capl) ∧ w'.ownsRow w.heap.size 3 1 (.slice (some ⟨gl, 0, none⟩) (elems n X).length capl) (elems n X).length (intV (elems n X)) ∧ Below w.heap.size w w' := by
  have h1 := hs.c1
  have hblt := hs.blt
  have hglt := hs.glt
  have hcl := cnt_le n X
  have hn := hs.hn
  have hw0 : 0 < w.heap.size := by omega
  obtain ⟨i0, hi, hz0, hz1, hz2⟩ := info_parts info3
  go_enter Tryz.func77, Tryz.ntmps77
  go_wp2_with (first | (go_at_call 116; refine (count_any b g cap n X _ hs).mono ?_; rintro e w' ⟨rfl, hw⟩; obtain rfl := hw.symm; clear hw) | (at_make; refine wpList_make_own _ rfl _ _ 22 rfl w.heap.size 3 i0 (.int .i64 0) 1 Tryz.underlying22 hi hz0 hz1 _ _ _ (cnt n X) rfl rfl rfl ?_ ?_ ?_ ?_))
  · rw [hz2]; omega
  · unfold maxLen; omega
  · exact Nat.le_refl _
  · intro w1 hown hgrow
    have hb1 : Below w.heap.size w w1 := (Below.refl _ _).grown hgrow (Nat.le_refl _) (by intro k hk; cases hk)
    have hs1 := hs.below hb1
    have h11 := hs1.c1
    have hlt1 : w.heap.size < w1.heap.size := (hown.lt _ rfl).2
    have hT1 := hT.below hb1 hw0
    have hblt1 : b < w1.heap.size := hs1.blt
    clear hs h1
    go_wp2_with fail
    have hA := fun o => (Below.refl w.heap.size w1).alloc (by omega) o
    refine (walk_list _ g cap (nw n) X w1.heap.size w.heap.size w.heap.size (fun k hk => by rw [(hA _).cell (p := ⟨g, k, none⟩) hglt]; exact hs1.word k hk) (nw_le hn) (hT1.below (hA _) hw0) hglt hw0 ⟨⟨w.heap.size, cnt n X, heap_alloc_new _ _, hown.alloc _, by omega⟩, Below.refl _ _, by simp; omega⟩ (by omega) (Nat.le_refl _)).mono ?_
    rintro e w2 ⟨rfl, hst⟩
    obtain ⟨⟨gl, capl, hc, hownl, hne⟩, hbl, hbase⟩ := hst
    have hfull := elems_full n (64 * nw n) X hs1.hX (by unfold nw; omega)
    rw [hfull] at hc hownl
    have hcell := cell_of_one hc
    have hb2 : Below w.heap.size w w2 := (hb1.alloc (by omega) _).trans hbl
    clear hc hbl hs1 hA hfull hown hgrow
    go_wp2
    go_ret
    exact ⟨gl, capl, rfl, hownl, hb2⟩
end Go.Proofs.YtchoopnjckcohaaGreatDoor
namespace Go.Proofs.YtchoopnjckcohaaGreatDoor
open Go.RowKit

theorem or_bit (X j : Nat) : bits BinOp.or IntKind.u64 (wordAt X (j / 64) : Int) ((2 ^ (j % 64) : Nat) : Int) = (wordAt (X ||| 2 ^ j) (j / 64) : Int) := by
  have hl : (2:Nat) ^ (j % 64) < 18446744073709551616 := Nat.lt_of_lt_of_le (Nat.pow_lt_pow_right (by decide) (Nat.mod_lt j (by decide))) (Nat.le_refl (2 ^ 64))
  rw [bits_or_u64_nat _ _ (wordAt_lt _ _) hl]
  congr 1
  apply Nat.eq_of_testBit_eq
  intro t
  rw [Nat.testBit_or, wordAt_testBit, wordAt_testBit, Nat.testBit_or, Nat.testBit_two_pow, Nat.testBit_two_pow]
  by_cases ht : t < 64
  · have : (j % 64 = t) ↔ (j = 64 * (j / 64) + t) := by omega
    simp [ht, this]
  · have : ¬ (j % 64 = t) := by omega
    simp [ht, this]
theorem or_other (X j i : Nat) (hne : i ≠ j / 64) : wordAt (X ||| 2 ^ j) i = wordAt X i := by
  apply Nat.eq_of_testBit_eq
  intro t
  rw [wordAt_testBit, wordAt_testBit, Nat.testBit_or, Nat.testBit_two_pow]
  by_cases ht : t < 64
  · have : ¬ (j = 64 * i + t) := by omega
    simp [this]
  · simp [ht]
set_option maxRecDepth 100000 in
theorem or_lt (n X j : Nat) (hX : X < 2 ^ n) (hj : j < n) : X ||| 2 ^ j < 2 ^ n := Nat.or_lt_two_pow hX (Nat.pow_lt_pow_right (by decide) hj)
set_option maxRecDepth 100000 in
set_option maxHeartbeats 1000000 in
theorem add_in (b g cap n X j B : Nat) (w : World) (hs : IsSet w b g cap n X) (hbg : b ≠ g) (hj : j < n) (hB : B ≤ g) :
    Calls Tryz.prog 138 #[.pointer (some ⟨b, 0, none⟩), .int .i64 j] w fun e w' => e = .returned (.int .i64 0) ∧ IsSet w' b g cap n (X ||| 2 ^ j) ∧ Below B w w' := by
  have h0 := hs.c0
  have h1 := hs.c1
  have hn := hs.hn
  have hix : j / 64 < nw n := by unfold nw; omega
  have hw := hs.word (j / 64) hix
  have hfz : w.frozen? ⟨g, j / 64, none⟩ = false := hs.own.frozenAt _
  have HS := hide hs
  obtain ⟨q, hq⟩ : ∃ q, j / 64 = q := ⟨_, rfl⟩
  have hi2 : IntKind.i64.wrap ((j : Int) / 64) = (q : Int) := by rw [IntKind.wrap_i64]; omega
  rw [hq] at hix hw hfz
  have hi0 : (0 : Int) ≤ (q : Int) := by omega
  have hi1 : (q : Int) < (nw n : Int) := by omega
  have HQ := hide hq
  clear hs hq
  go_enter Tryz.func138, Tryz.ntmps138
  go_wp2_with (go_at_call 153; refine (inRange_yes b j n _ h0 (by omega)).mono ?_; rintro e w' ⟨rfl, hw⟩; obtain rfl := hw.symm; clear hw)
  go_region_with (go_at_call 154; refine (bit_any j _ (by omega) (by omega)).mono ?_; rintro e w' ⟨rfl, rfl⟩)
  all_goals go_wp2
  all_goals go_ret
  all_goals
    refine ⟨rfl, IsSet.drew (HS.out.store hbg hix (or_lt n X j HS.out.hX hj) (fun i _ hne => or_other X j i (by rw [HQ.out]; exact hne)) ?_), (Below.setCell (Below.refl _ _) hB _).drew⟩
    rw [← HQ.out]
    have hm : (((j : Int) % 64).toNat) = j % 64 := by omega
    have := or_bit X j
    first
      | exact this
      | (simp only [hm]; exact this)
      | (simp only [hm]; simpa using this)
/-- A slice of numbers that can be read. -/
def ReadsI (w : World) (ao : Option Addr) (l : List Int) : Prop := ∀ k, k < l.length → ∃ g o, ao = some ⟨g, o, none⟩ ∧ w.cell? ⟨g, o + k, none⟩ = some (.int .i64 (l.getD k 0))
theorem ReadsI.below {w w' : World} {ao : Option Addr} {l : List Int} (h : ReadsI w ao l) (hb : Below w.heap.size w w') : ReadsI w' ao l := fun k hk => by
  obtain ⟨g, o, rfl, hc⟩ := h k hk
  exact ⟨g, o, rfl, (hb.cell (p := ⟨g, o + k, none⟩) (World.block_lt_of_cell? w _ hc)).trans hc⟩
end Go.Proofs.YtchoopnjckcohaaGreatDoor
namespace Go.Proofs.YtchoopnjckcohaaGreatDoor
open Go.RowKit

end Go.Proofs.YtchoopnjckcohaaGreatDoor
namespace Go.Proofs.YtchoopnjckcohaaGreatDoor
open Go.RowKit

/-- An operation on sets that goes bit by bit. -/
structure BitOp (F : Nat → Nat → Nat) : Prop where
  ex : ∃ φ : Bool → Bool → Bool, φ false false = false ∧ ∀ x y i, (F x y).testBit i = φ (x.testBit i) (y.testBit i)
theorem lt_of_bits {x n : Nat} (h : ∀ i, n ≤ i → x.testBit i = false) : x < 2 ^ n := Nat.lt_pow_two_of_testBit x h
theorem BitOp.lt {F : Nat → Nat → Nat} (h : BitOp F) {x y n : Nat} (hx : x < 2 ^ n) (hy : y < 2 ^ n) : F x y < 2 ^ n := by
  obtain ⟨φ, h0, hb⟩ := h.ex
  apply lt_of_bits
  intro i hi
  rw [hb, Nat.testBit_lt_two_pow (Nat.lt_of_lt_of_le hx (Nat.pow_le_pow_right (by decide) hi)), Nat.testBit_lt_two_pow (Nat.lt_of_lt_of_le hy (Nat.pow_le_pow_right (by decide) hi)), h0]
theorem BitOp.word {F : Nat → Nat → Nat} (h : BitOp F) (X Y k : Nat) : wordAt (F X Y) k = F (wordAt X k) (wordAt Y k) := by
  obtain ⟨φ, h0, hb⟩ := h.ex
  apply Nat.eq_of_testBit_eq
  intro t
  rw [wordAt_testBit, hb, hb, wordAt_testBit, wordAt_testBit]
  by_cases ht : t < 64 <;> simp [ht, h0]
theorem IsSet.other {w w' : World} {b g cap n X r : Nat} (h : IsSet w b g cap n X) (hg : w.grownBy w' (some r)) (h1 : b ≠ r) (h2 : g ≠ r) : IsSet w' b g cap n X := by
  refine ⟨h.hn, h.hX, ?_, h.own.kept hg (.inr (by simp [Value.ownBlock]; exact h2))⟩
  rw [hg.block b h.blt (by simp; exact h1)]; exact h.blk
end Go.Proofs.YtchoopnjckcohaaGreatDoor
namespace Go.Proofs.YtchoopnjckcohaaGreatDoor
open Go.RowKit

end Go.Proofs.YtchoopnjckcohaaGreatDoor
namespace Go.Proofs.YtchoopnjckcohaaGreatDoor
open Go.RowKit

/-! ### nfa: which automata may be -/
attribute [local go_sem] Oper.semAt_some
abbrev EdT := Int × Int × Int
def RdN (W : World) (ao : Option Addr) (L : List Int) : Prop := ∀ (j : Nat) (h : j < L.length), ∃ g o, ao = some ⟨g, o, none⟩ ∧ W.cell? ⟨g, o + j, none⟩ = some (.int .i64 L[j])
def RdE (W : World) (ao : Option Addr) (L : List EdT) : Prop := ∀ (j : Nat) (h : j < L.length), ∃ g o, ao = some ⟨g, o, none⟩ ∧ W.cell? ⟨g, o + j * 3, none⟩ = some (.int .i64 L[j].1) ∧ W.cell? ⟨g, o + j * 3 + 1, none⟩ = some (.int .i64 L[j].2.1) ∧ W.cell? ⟨g, o + j * 3 + 2, none⟩ = some (.int .i64 L[j].2.2)
theorem RdN.on {W W' : World} {ao : Option Addr} {L : List Int} (h : RdN W ao L) (d : Below W.heap.size W W') : RdN W' ao L := fun j hj => by
  obtain ⟨g, o, rfl, c⟩ := h j hj
  exact ⟨g, o, rfl, (d.cell (p := ⟨g, o + j, none⟩) (World.block_lt_of_cell? W _ c)).trans c⟩
theorem RdE.on {W W' : World} {ao : Option Addr} {L : List EdT} (h : RdE W ao L) (d : Below W.heap.size W W') : RdE W' ao L := fun j hj => by
  obtain ⟨g, o, rfl, c1, c2, c3⟩ := h j hj
  have hg : g < W.heap.size := World.block_lt_of_cell? W ⟨g, o + j * 3, none⟩ c1
  exact ⟨g, o, rfl, (d.cell (p := ⟨g, o + j * 3, none⟩) hg).trans c1, (d.cell (p := ⟨g, o + j * 3 + 1, none⟩) hg).trans c2, (d.cell (p := ⟨g, o + j * 3 + 2, none⟩) hg).trans c3⟩
theorem cell_of {w : World} {b j : Nat} {cs : Array Value} {t : TypeId} {fr : Nat × Nat} {v : Value} (h : w.heap[b]? = some (.cells cs t fr)) (hv : cs[j]? = some v) : w.cell? ⟨b, j, none⟩ = some v := by simp [World.cell?, h, hv]
theorem fz_of {W : World} {b j : Nat} {c : Array Value} {t : TypeId} (h : W.heap[b]? = some (.cells c t (0, 0))) : W.frozen? ⟨b, j, none⟩ = false := by simp [World.frozen?, h]
theorem blk_on {W W' : World} {g : Nat} {o : Obj} (h : W.heap[g]? = some o) (d : Below W.heap.size W W') : W'.heap[g]? = some o := (d.block _ (Array.getElem?_eq_some_iff.1 h).1).trans h
/-- A number from 0 to one below a bound. -/
def inB (n x : Int) : Bool := decide (0 ≤ x ∧ x < n)
theorem inB_iff {n x : Int} : inB n x = true ↔ 0 ≤ x ∧ x < n := by simp [inB]
theorem inB_not {n x : Int} : inB n x = false ↔ ¬ (0 ≤ x ∧ x < n) := by simp [inB]
set_option maxRecDepth 100000 in
theorem within_any (x n : Int) (w : World) : Calls Tryz.prog 111 #[.int .i64 x, .int .i64 n] w fun e w' => e = .returned (.bool (inB n x)) ∧ w' = w := by
  by_cases h : 0 ≤ x
  · go_enter Tryz.func111, Tryz.ntmps111
    go_wp2
    go_ret
    exact ⟨by simp [inB, h], rfl⟩
  · go_enter Tryz.func111, Tryz.ntmps111
    go_wp2
    go_ret
    exact ⟨by simp [inB]; omega, rfl⟩
set_option maxRecDepth 100000 in
set_option maxHeartbeats 1000000 in
theorem allWithin_any (ao : Option Addr) (cp : Nat) (L : List Int) (n : Int) (w : World) (hr : Hid (RdN w ao L)) (hl : L.length ≤ 4194304) : Calls Tryz.prog 112 #[.slice ao L.length cp, .int .i64 n] w fun e w' => e = .returned (.bool (L.all (inB n))) ∧ w' = w := by
  obtain ⟨m, hm⟩ : ∃ m, m = L.length := ⟨_, rfl⟩
  have HL := hide hm
  rw [← hm]
  rw [← hm] at hl
  clear hm
  go_enter Tryz.func112, Tryz.ntmps112
  go_wp2
  go_loopw [9] (fun iv wr => ∃ i : Nat, i ≤ m ∧ iv = .int .i64 i ∧ wr = w ∧ Hid ((L.take i).all (inB n) = true)) (fun iv _ => m - (intOf iv).toNat)
  case atStart => exact ⟨0, Nat.zero_le _, rfl, rfl, hide (by simp)⟩
  case round =>
    obtain ⟨i, hi, rfl, hw, HY⟩ := hrel
    obtain rfl := hw
    by_cases hil : i < m
    · have i0 : (0 : Int) ≤ (i : Int) := by omega
      have i1 : (i : Int) < (m : Int) := by omega
      have hi2 : i < L.length := by rw [← HL.out]; exact hil
      obtain ⟨g, o, rfl, c⟩ := hr.out i hi2
      have HT := hide (show L.take (i + 1) = L.take i ++ [L[i]] by rw [List.take_add_one, List.getElem?_eq_getElem hi2]; rfl)
      have HM := hide (List.getElem_mem hi2)
      obtain ⟨x, hx⟩ : ∃ x, L[i] = x := ⟨_, rfl⟩
      rw [hx] at c HT HM
      clear hx
      cases hb : inB n x
      · go_wp2_with (go_at_call 111; refine (within_any x n wr).mono ?_; rintro e w2 ⟨rfl, rfl⟩)
        go_wp2
        go_ret
        refine ⟨?_, rfl⟩
        have : L.all (inB n) = false := List.all_eq_false.2 ⟨x, HM.out, by rw [hb]; simp⟩
        rw [this]
        rfl
      · go_wp2_with (go_at_call 111; refine (within_any x n wr).mono ?_; rintro e w2 ⟨rfl, rfl⟩)
        go_wp2
        go_roundw
        case rel => exact ⟨i + 1, by omega, by go_num, trivial, hide (by rw [HT.out, List.all_append, HY.out]; simp [hb])⟩
        case measure => simp [intOf]; omega
    · obtain rfl : m = i := by omega
      have i1 : ¬ (m : Int) < (m : Int) := by omega
      go_wp2
      go_ret
      refine ⟨?_, rfl⟩
      have q := HY.out
      rw [HL.out, List.take_length] at q
      rw [q]
      rfl
/-- An automaton may be. -/
def edOk (n m : Int) (e : EdT) : Bool := inB n e.1 && inB m e.2.1 && inB n e.2.2
def mayA (n m : Int) (St Fi : List Int) (Ed : List EdT) : Bool := inB 4097 n && inB 129 m && decide (Ed.length ≤ 65536) && St.all (inB n) && Fi.all (inB n) && Ed.all (edOk n m)
/-- Its lists, read. -/
structure RdA (W : World) (a1 a2 a3 : Option Addr) (St Fi : List Int) (Ed : List EdT) : Prop where
  s : RdN W a1 St
  f : RdN W a2 Fi
  e : RdE W a3 Ed
theorem RdA.on {W W' : World} {a1 a2 a3 : Option Addr} {St Fi : List Int} {Ed : List EdT} (h : RdA W a1 a2 a3 St Fi Ed) (d : Below W.heap.size W W') : RdA W' a1 a2 a3 St Fi Ed := ⟨h.s.on d, h.f.on d, h.e.on d⟩
set_option maxRecDepth 100000 in
set_option maxHeartbeats 4000000 in
theorem valid_any (w : World) (n m : Int) (a1 a2 a3 : Option Addr) (c1 c2 c3 : Nat) (St Fi : List Int) (Ed : List EdT) (hA : Hid (RdA w a1 a2 a3 St Fi Ed)) (h1 : St.length ≤ 4194304) (h2 : Fi.length ≤ 4194304) (h3 : Ed.length ≤ 4194304) :
    Calls Tryz.prog 75 #[.agg #[.int .i64 n, .int .i64 m, .slice a1 St.length c1, .slice a2 Fi.length c2, .slice a3 Ed.length c3]] w fun e w' => e = .returned (.int .i64 (if mayA n m St Fi Ed then 0 else 2)) ∧ Below w.heap.size w w' := by
  obtain ⟨W0, hW0⟩ : ∃ W0, w.alloc (.cells #[.int .i64 n, .int .i64 m, .slice a1 St.length c1, .slice a2 Fi.length c2, .slice a3 Ed.length c3] 25) = W0 := ⟨_, rfl⟩
  have d0 : Below w.heap.size w W0 := by rw [← hW0]; exact (Below.refl _ _).alloc (Nat.le_refl _) _
  have B0 : W0.heap[w.heap.size]? = some (.cells #[.int .i64 n, .int .i64 m, .slice a1 St.length c1, .slice a2 Fi.length c2, .slice a3 Ed.length c3] 25 (0, 0)) := by rw [← hW0]; exact World.alloc_heap_new _ _
  have HD := hide (And.intro d0 B0)
  have k0 : W0.cell? ⟨w.heap.size, 0, none⟩ = some (.int .i64 n) := cell_of B0 rfl
  have k1 : W0.cell? ⟨w.heap.size, 1, none⟩ = some (.int .i64 m) := cell_of B0 rfl
  have k2 : W0.cell? ⟨w.heap.size, 2, none⟩ = some (.slice a1 St.length c1) := cell_of B0 rfl
  have k3 : W0.cell? ⟨w.heap.size, 3, none⟩ = some (.slice a2 Fi.length c2) := cell_of B0 rfl
  have k4 : W0.cell? ⟨w.heap.size, 4, none⟩ = some (.slice a3 Ed.length c3) := cell_of B0 rfl
  have HA := hide (hA.out.on d0)
  clear d0 B0 hA
  have T1 := allWithin_any a1 c1 St n W0 (hide HA.out.s) h1
  have T2 := allWithin_any a2 c2 Fi n W0 (hide HA.out.f) h2
  obtain ⟨r, hr⟩ : ∃ r : Int, (if mayA n m St Fi Ed then (0 : Int) else 2) = r := ⟨_, rfl⟩
  rw [hr]
  have HR := hide hr
  have HB : Hid (mayA n m St Fi Ed = false → Ending.returned (.int .i64 2) = Ending.returned (.int .i64 r)) := hide (fun h => by rw [← HR.out, h]; rfl)
  clear hr
  go_enter Tryz.func75, Tryz.ntmps75
  cases e1 : inB 4097 n
  · go_wp2_with (go_at_call 111; refine (within_any _ _ _).mono ?_; rintro e w2 ⟨rfl, hw⟩; obtain rfl := hw.symm)
    go_ret
    exact ⟨HB.out (by simp [mayA, e1]), HD.out.1⟩
  cases e2 : inB 129 m
  · go_wp2_with (go_at_call 111; refine (within_any _ _ _).mono ?_; rintro e w2 ⟨rfl, hw⟩; obtain rfl := hw.symm)
    go_ret
    exact ⟨HB.out (by simp [mayA, e2]), HD.out.1⟩
  by_cases e3 : Ed.length ≤ 65536
  case neg =>
    have i3 : (65536 : Int) < (Ed.length : Int) := by omega
    go_wp2_with (go_at_call 111; refine (within_any _ _ _).mono ?_; rintro e w2 ⟨rfl, hw⟩; obtain rfl := hw.symm)
    go_ret
    exact ⟨HB.out (by simp [mayA, e3]), HD.out.1⟩
  have i3 : ¬ (65536 : Int) < (Ed.length : Int) := by omega
  cases e4 : St.all (inB n)
  · rw [e4] at T1
    go_wp2_with (first
      | (go_at_call 111; refine (within_any _ _ _).mono ?_; rintro e w2 ⟨rfl, hw⟩; obtain rfl := hw.symm)
      | (go_at_call 112; refine T1.mono ?_; rintro e w2 ⟨rfl, hw⟩; obtain rfl := hw.symm))
    go_ret
    exact ⟨HB.out (by simp [mayA, e4]), HD.out.1⟩
  rw [e4] at T1
  cases e5 : Fi.all (inB n)
  · rw [e5] at T2
    go_wp2_with (first
      | (go_at_call 111; refine (within_any _ _ _).mono ?_; rintro e w2 ⟨rfl, hw⟩; obtain rfl := hw.symm)
      | (go_at_call_of 112 a1; refine T1.mono ?_; rintro e w2 ⟨rfl, hw⟩; obtain rfl := hw.symm)
      | (go_at_call_of 112 a2; refine T2.mono ?_; rintro e w2 ⟨rfl, hw⟩; obtain rfl := hw.symm))
    go_ret
    exact ⟨HB.out (by simp [mayA, e5]), HD.out.1⟩
  rw [e5] at T2
  have HM : Hid (Ed.all (edOk n m) = true → mayA n m St Fi Ed = true) := hide (fun h => by simp [mayA, e1, e2, e3, e4, e5, h])
  obtain ⟨L, hL⟩ : ∃ L, Ed.length = L := ⟨_, rfl⟩
  have HL := hide hL
  rw [hL] at k4 h3 e3 i3 hW0
  rw [hL]
  clear hL
  go_upto_region 5 with (first
    | (go_at_call 111; refine (within_any _ _ _).mono ?_; rintro e w2 ⟨rfl, hw⟩; obtain rfl := hw.symm)
    | (go_at_call_of 112 a1; refine T1.mono ?_; rintro e w2 ⟨rfl, hw⟩; obtain rfl := hw.symm)
      | (go_at_call_of 112 a2; refine T2.mono ?_; rintro e w2 ⟨rfl, hw⟩; obtain rfl := hw.symm))
  clear T1 T2 e1 e2 e4 e5
  go_wp2
  go_loopw [38] (fun iv wr => ∃ i : Nat, i ≤ L ∧ iv = .int .i64 i ∧ Hid (Below W0.heap.size W0 wr ∧ (Ed.take i).all (edOk n m) = true)) (fun iv _ => L - (intOf iv).toNat)
  case atStart => exact ⟨0, Nat.zero_le _, rfl, hide ⟨Below.refl _ _, by simp⟩⟩
  case round =>
    obtain ⟨i, hi, rfl, HY⟩ := hrel
    by_cases hil : i < L
    · have i0 : (0 : Int) ≤ (i : Int) := by omega
      have i1 : (i : Int) < (L : Int) := by omega
      have hi2 : i < Ed.length := by rw [HL.out]; exact hil
      obtain ⟨g, o, rfl, q1, q2, q3⟩ := (HA.out.e.on HY.out.1) i hi2
      have HT := hide (show Ed.take (i + 1) = Ed.take i ++ [Ed[i]] by rw [List.take_add_one, List.getElem?_eq_getElem hi2]; rfl)
      have HN := hide (List.getElem_mem hi2)
      obtain ⟨x, hx⟩ : ∃ x, Ed[i] = x := ⟨_, rfl⟩
      rw [hx] at q1 q2 q3 HT HN
      clear hx
      obtain ⟨x1, x2, x3⟩ := x
      obtain ⟨W1, hW1⟩ : ∃ W1, wr.alloc (.cells #[.int .i64 x1, .int .i64 x2, .int .i64 x3] 61) = W1 := ⟨_, rfl⟩
      have HW : Hid (W1.heap[wr.heap.size]? = some (.cells #[.int .i64 x1, .int .i64 x2, .int .i64 x3] 61 (0, 0)) ∧ Below W0.heap.size W0 W1) := hide (by rw [← hW1]; exact ⟨World.alloc_heap_new _ _, HY.out.1.alloc HY.out.1.size _⟩)
      have HBx := hide (blk_on HD.out.2 HW.out.2)
      have y0 : W1.cell? ⟨wr.heap.size, 0, none⟩ = some (.int .i64 x1) := cell_of HW.out.1 rfl
      have y1 : W1.cell? ⟨wr.heap.size, 1, none⟩ = some (.int .i64 x2) := cell_of HW.out.1 rfl
      have y2 : W1.cell? ⟨wr.heap.size, 2, none⟩ = some (.int .i64 x3) := cell_of HW.out.1 rfl
      have z0 : W1.cell? ⟨w.heap.size, 0, none⟩ = some (.int .i64 n) := cell_of HBx.out rfl
      have z1 : W1.cell? ⟨w.heap.size, 1, none⟩ = some (.int .i64 m) := cell_of HBx.out rfl
      have HBd : Hid (edOk n m (x1, x2, x3) = false → mayA n m St Fi Ed = false) := hide (fun h => by
        have : Ed.all (edOk n m) = false := List.all_eq_false.2 ⟨_, HN.out, by rw [h]; simp⟩
        simp [mayA, this])
      cases f1 : inB n x1
      · go_wp2_with (go_at_call 111; refine (within_any _ _ _).mono ?_; rintro e w2 ⟨rfl, hw⟩; obtain rfl := hw.symm)
        go_ret
        exact ⟨HB.out (HBd.out (by simp [edOk, f1])), HD.out.1.trans (HW.out.2.mono HD.out.1.size)⟩
      cases f2 : inB m x2
      · go_wp2_with (go_at_call 111; refine (within_any _ _ _).mono ?_; rintro e w2 ⟨rfl, hw⟩; obtain rfl := hw.symm)
        go_ret
        exact ⟨HB.out (HBd.out (by simp [edOk, f2])), HD.out.1.trans (HW.out.2.mono HD.out.1.size)⟩
      cases f3 : inB n x3
      · go_wp2_with (go_at_call 111; refine (within_any _ _ _).mono ?_; rintro e w2 ⟨rfl, hw⟩; obtain rfl := hw.symm)
        go_ret
        exact ⟨HB.out (HBd.out (by simp [edOk, f3])), HD.out.1.trans (HW.out.2.mono HD.out.1.size)⟩
      go_wp2_with (go_at_call 111; refine (within_any _ _ _).mono ?_; rintro e w2 ⟨rfl, hw⟩; obtain rfl := hw.symm)
      go_roundw
      case rel => exact ⟨i + 1, by omega, by go_num, hide ⟨HW.out.2, by rw [HT.out, List.all_append, HY.out.2]; simp [edOk, f1, f2, f3]⟩⟩
      case measure => simp [intOf]; omega
    · obtain rfl : L = i := by omega
      have i1 : ¬ (L : Int) < (L : Int) := by omega
      go_wp2
      go_ret
      have q := HY.out.2
      rw [← HL.out, List.take_length] at q
      exact ⟨by rw [← HR.out, HM.out q]; rfl, HD.out.1.trans (HY.out.1.mono HD.out.1.size)⟩
end Go.Proofs.YtchoopnjckcohaaGreatDoor
namespace Go.Proofs.YtchoopnjckcohaaGreatDoor
open Go.RowKit
attribute [local go_sem] Oper.semAt_some

/-! ### Sets of states; Post and Pre -/
theorem own_blk {w w' : World} {B e sz n g cap : Nat} {xs : List Value} (h : w.ownsRow B e sz (.slice (some ⟨g, 0, none⟩) n cap) n xs) (hg : w'.heap[g]? = w.heap[g]?) : w'.ownsRow B e sz (.slice (some ⟨g, 0, none⟩) n cap) n xs := by
  refine ⟨h.1, ?_⟩
  rcases h.2 with z | ⟨g', cap', cur, e1, hb, hc, rest⟩
  · exact .inl z
  · cases e1
    exact .inr ⟨g, cap, cur, rfl, hb, hg.trans hc, rest⟩
theorem IsSet.keep {w w' : World} {b g cap n X : Nat} (h : IsSet w b g cap n X) (h1 : w'.heap[b]? = w.heap[b]?) (h2 : w'.heap[g]? = w.heap[g]?) : IsSet w' b g cap n X := ⟨h.hn, h.hX, h1.trans h.blk, own_blk h.own h2⟩
/-- An edge's ends. -/
def ends (back : Bool) (e : EdT) : Int × Int := if back then (e.2.2, e.1) else (e.1, e.2.2)
end Go.Proofs.YtchoopnjckcohaaGreatDoor
namespace Go.Proofs.YtchoopnjckcohaaGreatDoor
open Go.RowKit Go.Maps
attribute [local go_sem] Oper.semAt_some

/-! ### How two edges are compared -/
structure Only (w w' : World) (R : Nat → Prop) : Prop where
  os : w'.os = w.os
  tape : w'.tape = w.tape
  output : w'.output = w.output
  size : w.heap.size ≤ w'.heap.size
  block : ∀ k, k < w.heap.size → ¬ R k → w'.heap[k]? = w.heap[k]?
theorem Only.ofBelow {w w' : World} {R : Nat → Prop} (h : Below w.heap.size w w') : Only w w' R := ⟨h.os, h.tape, h.output, h.size, fun k hk _ => h.block k hk⟩
theorem Only.toBelow {w w' : World} {R : Nat → Prop} {B : Nat} (h : Only w w' R) (hB : B ≤ w.heap.size) (hR : ∀ k, R k → B ≤ k) : Below B w w' :=
  ⟨h.os, h.tape, h.output, h.size, fun k hk => h.block k (by omega) (fun hr => by have := hR k hr; omega)⟩
theorem Only.trans {a b c : World} {R : Nat → Prop} (h : Only a b R) (k : Only b c R) : Only a c R :=
  ⟨k.os.trans h.os, k.tape.trans h.tape, k.output.trans h.output, Nat.le_trans h.size k.size, fun i hi hn => (k.block i (Nat.lt_of_lt_of_le hi h.size) hn).trans (h.block i hi hn)⟩
theorem Only.mono {w w' : World} {R R' : Nat → Prop} (h : Only w w' R) (hr : ∀ k, k < w.heap.size → R k → R' k) : Only w w' R' := ⟨h.os, h.tape, h.output, h.size, fun k hk hn => h.block k hk (fun h' => hn (hr k hk h'))⟩
/-- What is new may be written. -/
theorem Only.andNew {a b c : World} {R S : Nat → Prop} (h : Only a b R) (k : Only b c S) (hs : ∀ i, i < a.heap.size → S i → R i) : Only a c R :=
  ⟨k.os.trans h.os, k.tape.trans h.tape, k.output.trans h.output, Nat.le_trans h.size k.size, fun i hi hn => (k.block i (Nat.lt_of_lt_of_le hi h.size) (fun hx => hn (hs i hi hx))).trans (h.block i hi hn)⟩
theorem flat_get {α : Type} (cs : α → List Value) (sz : Nat) (hl : ∀ a, (cs a).length = sz) : ∀ (l : List α) (j i : Nat) (hj : j < l.length), i < sz → (l.flatMap cs)[j * sz + i]? = (cs l[j])[i]?
  | a :: l, 0, i, _, hi => by
    rw [Nat.zero_mul, Nat.zero_add, List.flatMap_cons, List.getElem?_append_left (by rw [hl]; exact hi)]; rfl
  | a :: l, j + 1, i, hj, hi => by
    rw [List.flatMap_cons, List.getElem?_append_right (by rw [hl, Nat.succ_mul]; omega), hl, show (j + 1) * sz + i - sz = j * sz + i by rw [Nat.succ_mul]; omega]
    exact flat_get cs sz hl l j i (by simpa using hj) hi
theorem nan_any (x : Int) (w : World) : Calls Tryz.prog 158 #[.int .i64 x] w fun e w' => e = .returned (.bool false) ∧ w' = w := by
  go_enter Tryz.func158, Tryz.ntmps158
  go_wp2
  go_ret
  simp
theorem cmpi_any (x y : Int) (w : World) : Calls Tryz.prog 145 #[.int .i64 x, .int .i64 y] w fun e w' => e = .returned (.int .i64 (Lib.compareInt x y)) ∧ w' = w := by
  unfold Lib.compareInt
  by_cases h1 : x < y
  · go_enter Tryz.func145, Tryz.ntmps145
    go_wp2_with (go_at_call 158; refine (nan_any _ _).mono ?_; rintro e w' ⟨rfl, rfl⟩)
    go_ret
    simp
  · by_cases h2 : y < x
    · go_enter Tryz.func145, Tryz.ntmps145
      go_wp2_with (go_at_call 158; refine (nan_any _ _).mono ?_; rintro e w' ⟨rfl, rfl⟩)
      go_ret
      simp
    · go_enter Tryz.func145, Tryz.ntmps145
      go_wp2_with (go_at_call 158; refine (nan_any _ _).mono ?_; rintro e w' ⟨rfl, rfl⟩)
      go_ret
      simp
/-- How two edges stand: by From, by Sym, by To. -/
def cmpE (x y : EdT) : Int := if x.1 ≠ y.1 then Lib.compareInt x.1 y.1 else if x.2.1 ≠ y.2.1 then Lib.compareInt x.2.1 y.2.1 else Lib.compareInt x.2.2 y.2.2
theorem two_new (w : World) (a b : Obj) (n : Nat) : ((w.alloc a).alloc b).drewN n = { w with heap := w.heap ++ #[a, b], drawn := w.drawn + n } := by
  have h : (w.heap.push a).push b = w.heap ++ #[a, b] := by apply Array.ext'; simp
  show ({ w with heap := (w.heap.push a).push b, drawn := w.drawn + n } : World) = _
  rw [h]
set_option maxRecDepth 100000 in
set_option maxHeartbeats 1000000 in
theorem cmpE_any (x y : EdT) (w : World) : Calls Tryz.prog 147 #[.agg #[.int .i64 x.1, .int .i64 x.2.1, .int .i64 x.2.2], .agg #[.int .i64 y.1, .int .i64 y.2.1, .int .i64 y.2.2]] w fun e w' => e = .returned (.int .i64 (cmpE x y)) ∧ ∃ q os, w' = { w with heap := w.heap ++ os, drawn := w.drawn + q } := by
  obtain ⟨x0, x1, x2⟩ := x
  obtain ⟨y0, y1, y2⟩ := y
  simp only
  obtain ⟨W0, hW0⟩ : ∃ W0, (w.alloc (.cells #[.int .i64 x0, .int .i64 x1, .int .i64 x2] 61)).alloc (.cells #[.int .i64 y0, .int .i64 y1, .int .i64 y2] 61) = W0 := ⟨_, rfl⟩
  have a0 : W0.heap[w.heap.size]? = some (.cells #[.int .i64 x0, .int .i64 x1, .int .i64 x2] 61 (0, 0)) := by rw [← hW0]; exact (Below.heap_alloc _ _ _ (by simp)).trans (World.alloc_heap_new _ _)
  have b0 : W0.heap[w.heap.size + 1]? = some (.cells #[.int .i64 y0, .int .i64 y1, .int .i64 y2] 61 (0, 0)) := by
    rw [← hW0]
    have := World.alloc_heap_new (w.alloc (.cells #[.int .i64 x0, .int .i64 x1, .int .i64 x2] 61)) (.cells #[.int .i64 y0, .int .i64 y1, .int .i64 y2] 61)
    simpa using this
  have c0 : W0.cell? ⟨w.heap.size, 0, none⟩ = some (.int .i64 x0) := by simp [World.cell?, a0]
  have c1 : W0.cell? ⟨w.heap.size, 1, none⟩ = some (.int .i64 x1) := by simp [World.cell?, a0]
  have c2 : W0.cell? ⟨w.heap.size, 2, none⟩ = some (.int .i64 x2) := by simp [World.cell?, a0]
  have d0 : W0.cell? ⟨w.heap.size + 1, 0, none⟩ = some (.int .i64 y0) := by simp [World.cell?, b0]
  have d1 : W0.cell? ⟨w.heap.size + 1, 1, none⟩ = some (.int .i64 y1) := by simp [World.cell?, b0]
  have d2 : W0.cell? ⟨w.heap.size + 1, 2, none⟩ = some (.int .i64 y2) := by simp [World.cell?, b0]
  have HW := hide hW0
  clear a0 b0
  unfold cmpE
  simp only
  have T0 := fun W => cmpi_any x0 y0 W
  have T1 := fun W => cmpi_any x1 y1 W
  have T2 := fun W => cmpi_any x2 y2 W
  by_cases h0 : x0 = y0
  · by_cases h1 : x1 = y1
    · by_cases h2 : x2 = y2
      · subst h0; subst h1; subst h2
        rw [if_neg (by simp), if_neg (by simp), show Lib.compareInt x2 x2 = 0 by simp [Lib.compareInt]]
        go_enter Tryz.func147, Tryz.ntmps147
        go_wp2_with fail
        go_ret
        exact ⟨rfl, 0, _, by rw [← HW.out]; exact two_new w _ _ 0⟩
      · subst h0; subst h1
        rw [if_neg (by simp), if_neg (by simp)]
        go_enter Tryz.func147, Tryz.ntmps147
        go_wp2_with (go_at_call 145; refine (T2 _).mono ?_; rintro e w' ⟨rfl, rfl⟩)
        go_ret
        exact ⟨rfl, 0, _, by rw [← HW.out]; exact two_new w _ _ 0⟩
    · subst h0
      rw [if_neg (by simp), if_pos h1]
      go_enter Tryz.func147, Tryz.ntmps147
      go_wp2_with (go_at_call 145; refine (T1 _).mono ?_; rintro e w' ⟨rfl, rfl⟩)
      go_ret
      exact ⟨rfl, 0, _, by rw [← HW.out]; exact two_new w _ _ 0⟩
  · rw [if_pos h0]
    go_enter Tryz.func147, Tryz.ntmps147
    go_wp2_with (go_at_call 145; refine (T0 _).mono ?_; rintro e w' ⟨rfl, rfl⟩)
    go_ret
    exact ⟨rfl, 0, _, by rw [← HW.out]; exact two_new w _ _ 0⟩
end Go.Proofs.YtchoopnjckcohaaGreatDoor
