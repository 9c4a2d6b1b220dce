import Derived.Test.YtfoahpideglghaaGreatDoorRN
import Derived.Test.YtfoahpideglghaaGreatDoorIm
namespace Go.Proofs.YtfoahpideglghaaGreatDoor
open Go.RowKit Go.Maps Go.Shelf

/-! ### Paths -/
theorem hasB_of {X : Nat} {i : Int} (h0 : 0 ≤ i) (h : X.testBit i.toNat = true) : hasB X i = true := by unfold hasB; simp [h0, h]
theorem and_zero_iff (A B : Nat) : A &&& B = 0 ↔ ¬ ∃ p : Int, hasB A p = true ∧ hasB B p = true := by
  constructor
  · rintro h ⟨p, h1, h2⟩
    have q : (A &&& B).testBit p.toNat = true := by rw [Nat.testBit_and, (hasB_nat h1).2, (hasB_nat h2).2]; rfl
    rw [h] at q
    simp at q
  · intro h
    refine Nat.eq_of_testBit_eq fun i => ?_
    rw [Nat.zero_testBit, Nat.testBit_and]
    cases ha : A.testBit i
    · rfl
    · cases hb : B.testBit i
      · rfl
      · exact absurd ⟨(i : Int), hasB_of (by omega) (by simpa using ha), hasB_of (by omega) (by simpa using hb)⟩ h
end Go.Proofs.YtfoahpideglghaaGreatDoor
