import Derived.Test.YtgifamdoolcemaaDoorCk
namespace Go.Proofs.YtgifamdoolcemaaDoor
open Go.RowKit Go.Maps

/-- The small file. -/
def smallL : List Nat := [79, 112, 115, 32, 97, 58, 49, 10, 65, 117, 116, 111, 109, 97, 116, 111, 110, 32, 120, 10, 83, 116, 97, 116, 101, 115, 10, 70, 105, 110, 97, 108, 32, 83, 116, 97, 116, 101, 115, 10, 84, 114, 97, 110, 115, 105, 116, 105, 111, 110, 115]
def smallB : ByteArray := ⟨#[79, 112, 115, 32, 97, 58, 49, 10, 65, 117, 116, 111, 109, 97, 116, 111, 110, 32, 120, 10, 83, 116, 97, 116, 101, 115, 10, 70, 105, 110, 97, 108, 32, 83, 116, 97, 116, 101, 115, 10, 84, 114, 97, 110, 115, 105, 116, 105, 111, 110, 115]⟩
def headB : ByteArray := smallB.extract 0 49
set_option maxRecDepth 100000 in
theorem ev1 : lenF smallB = 51 ∧ errF smallB = 0 ∧ lenF ⟨#[120]⟩ = 0 ∧ errF ⟨#[120]⟩ = 30 ∧ folI ⟨#[79, 112]⟩ = false ∧ cerF ⟨#[79, 112]⟩ = 0 ∧ cerF headB = 0 := by decide +kernel
set_option maxRecDepth 100000 in
theorem ev2 : lenF ⟨#[79, 112]⟩ = 2 ∧ folF (endF ⟨#[79, 112]⟩) = [115] ∧ lenF headB = 49 ∧ compF (endF headB) = [110, 115] := by decide +kernel
theorem ev3 : folB ⟨#[79, 112]⟩ = ⟨#[115]⟩ := by
  unfold folB
  rw [ev2.1, ev2.2.1, if_neg (by decide)]
  rfl
theorem ev4 : cmpB headB = ⟨#[110, 115]⟩ := by
  unfold cmpB
  rw [ev2.2.2.1, ev2.2.2.2, if_neg (by decide)]
  rfl

set_option maxRecDepth 100000 in
set_option maxHeartbeats 1000000 in
theorem works_any (w : World) (hT : RowsAt w) (hw0 : 0 < w.heap.size) :
    Calls Tryd.prog 7 #[] w fun e w' => e = .returned (.bool true) ∧ Below w.heap.size w w' := by
  have HT := hide hT
  have c1 := fun W h1 h2 => check_any smallB W h1 h2 (by decide)
  have c2 := fun W h1 h2 => check_any ⟨#[120]⟩ W h1 h2 (by decide)
  have c3 := fun W h1 h2 => follow_any ⟨#[79, 112]⟩ W h1 h2 (by decide)
  have c4 := fun W h1 h2 => complete_any headB W h1 h2 (by decide +kernel)
  rw [ev1.1, ev1.2.1] at c1
  rw [ev1.2.2.1, ev1.2.2.2.1] at c2
  rw [ev3, ev1.2.2.2.2.1, ev1.2.2.2.2.2.1] at c3
  rw [ev4, ev1.2.2.2.2.2.2] at c4
  unfold smallB at c1
  unfold headB smallB at c4
  clear hT
  go_enter Tryd.func7, Tryd.ntmps7
  go_wp2_with fail
  refine (c1 _ HT.out hw0).mono ?_
  rintro e w1 ⟨rfl, d⟩
  clear c1
  go_wp2_with fail
  refine (c2 _ (HT.out.below d hw0) (Nat.lt_of_lt_of_le hw0 d.size)).mono ?_
  rintro e w2 ⟨rfl, d2⟩
  replace d := d.trans (d2.mono d.size)
  clear c2 d2
  go_wp2_with fail
  refine (c3 _ (HT.out.below d hw0) (Nat.lt_of_lt_of_le hw0 d.size)).mono ?_
  rintro e w3 ⟨rfl, d2⟩
  replace d := d.trans (d2.mono d.size)
  clear c3 d2
  go_wp2_with fail
  refine (c4 _ (HT.out.below d hw0) (Nat.lt_of_lt_of_le hw0 d.size)).mono ?_
  rintro e w4 ⟨rfl, d2⟩
  replace d := d.trans (d2.mono d.size)
  have HD := hide d
  clear c4 d2 d
  go_wp2
  go_ret
  exact ⟨by first | rfl | decide, HD.out⟩
end Go.Proofs.YtgifamdoolcemaaDoor
