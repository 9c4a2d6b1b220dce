import Derived.Test.YtnfdifkcchciaaaDoorUnd
namespace Go.Proofs.YtnfdifkcchciaaaDoor
open Go.RowKit Go.Maps

theorem cell_new {w : World} {vs : List Value} {t : TypeId} {k : Nat} (hk : k < vs.length) : (w.alloc (.cells vs.toArray t)).cell? ⟨w.heap.size, k, none⟩ = some vs[k] := by
  rw [World.cell?_alloc_at _ _ _ _ rfl]
  simp [hk]
theorem lit_str (w : World) (l : List ByteArray) (t : TypeId) : StrS (w.alloc (.cells (strV l).toArray t)) (.slice (some ⟨w.heap.size, 0, none⟩) l.length l.length) l :=
  ⟨_, _, rfl, fun k hk => ⟨_, _, rfl, by rw [Nat.zero_add, cell_new (by rw [strV_length]; exact hk)]; simp [strV]⟩⟩
theorem lit_int (w : World) (l : List Nat) (t : TypeId) : IntS (w.alloc (.cells (intV l).toArray t)) (.slice (some ⟨w.heap.size, 0, none⟩) l.length l.length) l :=
  ⟨_, _, rfl, fun k hk => ⟨_, _, rfl, by rw [Nat.zero_add, cell_new (by rw [intV_length]; exact hk)]; simp [intV]⟩⟩

def sA : ByteArray := ⟨#[97]⟩
def sB : ByteArray := ⟨#[98]⟩
def sC : ByteArray := ⟨#[99]⟩
def sM : ByteArray := ⟨#[45]⟩
theorem vA : vld ⟨#[97]⟩ = true := by decide
theorem vM : vld ⟨#[45]⟩ = false := by decide
theorem lv1 : [sA, sB].all vld = true := by decide
theorem lv2 : [sC, sA].all vld = true := by decide
theorem ln1 : [sA, sB].Nodup := by decide
theorem ln2 : [sC, sA].Nodup := by decide
theorem lm : mrg [sA, sB] [sC, sA] = [sA, sB, sC] := by decide
theorem lq : qOf [sA, sB] [sC, sA] = [2, 0] := by decide

set_option maxRecDepth 100000 in
set_option maxHeartbeats 1000000 in
theorem lives_any (w : World) (hT : BytesAt w) (hw0 : 0 < w.heap.size) :
    Calls Tryd.prog 8 #[] w fun e w' => e = .returned (.bool true) ∧ Below w.heap.size w w' := by
  have HT := hide hT
  clear hT
  go_enter Tryd.func8, Tryd.ntmps8
  go_wp2_with fail
  have b1 := (Below.refl w.heap.size w).alloc (Nat.le_refl _) (.cells (strV [sA, sB]).toArray 9)
  have b2 := b1.alloc b1.size (.cells (strV [sC, sA]).toArray 9)
  have s1 := (lit_str w [sA, sB] 9).below ((Below.refl _ _).alloc (Nat.le_refl _) (.cells (strV [sC, sA]).toArray 9))
  have s2 := lit_str (w.alloc (.cells (strV [sA, sB]).toArray 9)) [sC, sA] 9
  have hsz : (w.alloc (.cells (strV [sA, sB]).toArray 9)).heap.size = w.heap.size + 1 := by simp
  rw [hsz] at s2
  clear hsz
  refine (merge_ok _ _ [sA, sB] [sC, sA] _ s1 s2 (by decide) (by decide) ⟨by decide, by decide⟩ ⟨by decide, by decide⟩ lv1 lv2 ln1 ln2 (HT.out.below b2 hw0) (Nat.lt_of_lt_of_le hw0 b2.size)).mono ?_
  rintro e w1 ⟨v, p, q, rfl, ov, op, oq, d1⟩
  rw [lm] at ov
  rw [lq] at oq
  have D := b2.trans (d1.mono b2.size)
  have HO := hide (And.intro ov.str (And.intro op.int oq.int))
  clear b1 b2 s1 s2 d1 ov op oq
  go_wp2_with fail
  refine (valid_any _ _ (HT.out.below D hw0) (Nat.lt_of_lt_of_le hw0 D.size)).mono ?_
  rintro e w2 ⟨rfl, d2⟩
  rw [vA]
  replace HO := hide (And.intro (HO.out.1.below d2) (And.intro (HO.out.2.1.below d2) (HO.out.2.2.below d2)))
  replace D := D.trans (d2.mono D.size)
  clear d2
  go_wp2_with fail
  refine (valid_any _ _ (HT.out.below D hw0) (Nat.lt_of_lt_of_le hw0 D.size)).mono ?_
  rintro e w3 ⟨rfl, d2⟩
  rw [vM]
  replace HO := hide (And.intro (HO.out.1.below d2) (And.intro (HO.out.2.1.below d2) (HO.out.2.2.below d2)))
  replace D := D.trans (d2.mono D.size)
  clear d2
  go_wp2_with fail
  have a1 := (Below.refl w3.heap.size w3).alloc (Nat.le_refl _) (.cells (strV [sA, sB, sC]).toArray 9)
  refine (same_any v _ [sA, sB, sC] _ (HO.out.1.below a1) (lit_str w3 [sA, sB, sC] 9) (by decide)).mono ?_
  rintro e w4 ⟨rfl, d2⟩
  replace d2 := a1.trans (d2.mono a1.size)
  replace HO := hide (And.intro (HO.out.1.below d2) (And.intro (HO.out.2.1.below d2) (HO.out.2.2.below d2)))
  replace D := D.trans (d2.mono D.size)
  clear d2 a1
  go_wp2_with fail
  have a1 := (Below.refl w4.heap.size w4).alloc (Nat.le_refl _) (.cells (intV [0, 1]).toArray 3)
  refine (sameInts_any p _ [0, 1] _ (HO.out.2.1.below a1) (lit_int w4 [0, 1] 3) (by decide)).mono ?_
  rintro e w5 ⟨rfl, d2⟩
  replace d2 := a1.trans (d2.mono a1.size)
  replace HO := hide (And.intro (HO.out.1.below d2) (And.intro (HO.out.2.1.below d2) (HO.out.2.2.below d2)))
  replace D := D.trans (d2.mono D.size)
  clear d2 a1
  go_wp2_with fail
  have a1 := (Below.refl w5.heap.size w5).alloc (Nat.le_refl _) (.cells (intV [2, 0]).toArray 3)
  refine (sameInts_any q _ [2, 0] _ (HO.out.2.2.below a1) (lit_int w5 [2, 0] 3) (by decide)).mono ?_
  rintro e w6 ⟨rfl, d2⟩
  replace d2 := a1.trans (d2.mono a1.size)
  replace D := D.trans (d2.mono D.size)
  clear d2 a1
  go_wp2
  go_ret
  exact ⟨rfl, D⟩

end Go.Proofs.YtnfdifkcchciaaaDoor
