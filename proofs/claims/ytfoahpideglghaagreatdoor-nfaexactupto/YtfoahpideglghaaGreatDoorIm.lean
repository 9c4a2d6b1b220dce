import Derived.Test.YtfoahpideglghaaGreatDoorWS
namespace Go.Proofs.YtfoahpideglghaaGreatDoor
open Go.RowKit Go.Maps Go.Shelf

/-! ### Images and the other way round -/
def itl (l : List Nat) : List Int := l.map fun (i : Nat) => (i : Int)
theorem itl_len (l : List Nat) : (itl l).length = l.length := List.length_map _
theorem intV_itl (l : List Nat) : intV l = (itl l).map (Value.int .i64) := by simp [intV, itl]
theorem mem_itl {l : List Nat} {x : Int} : x ∈ itl l ↔ ∃ i ∈ l, (i : Int) = x := by simp [itl]
theorem setI_test (n : Nat) (q : Nat) (L : List Int) : (setI n L).testBit q = true ↔ ∃ i ∈ L, (0 ≤ i ∧ i < (n : Int)) ∧ i.toNat = q := by
  have key : ∀ (L : List Int) (X : Nat), (L.foldl (fun X i => if 0 ≤ i ∧ i < (n : Int) then X ||| 2 ^ i.toNat else X) X).testBit q = true ↔ X.testBit q = true ∨ ∃ i ∈ L, (0 ≤ i ∧ i < (n : Int)) ∧ i.toNat = q := by
    intro L
    induction L with
    | nil => intro X; simp
    | cons a L ih =>
      intro X
      rw [List.foldl_cons, ih]
      simp only [List.mem_cons, exists_eq_or_imp]
      by_cases h : 0 ≤ a ∧ a < (n : Int)
      · rw [if_pos h, Nat.testBit_or, Bool.or_eq_true, Nat.testBit_two_pow, decide_eq_true_eq]
        simp only [h, true_and, and_self]
        exact or_assoc
      · rw [if_neg h]
        simp only [h, false_and, false_or]
  unfold setI
  rw [key]
  simp
theorem lt_two_pow {N X : Nat} (h : ∀ q, X.testBit q = true → q < N) : X < 2 ^ N := Nat.lt_pow_two_of_testBit X fun q hq => by
  cases e : X.testBit q
  · rfl
  · have := h q e; omega
theorem bit_lt {N X q : Nat} (hX : X < 2 ^ N) (h : X.testBit q = true) : q < N := Nat.lt_of_not_le fun hle => by
  have := Nat.testBit_lt_two_pow (Nat.lt_of_lt_of_le hX (Nat.pow_le_pow_right (by omega) hle))
  rw [this] at h; cases h
theorem setI_lt (N : Nat) (L : List Int) : setI N L < 2 ^ N := lt_two_pow fun q h => by
  obtain ⟨i, _, h1, h2⟩ := (setI_test N q L).1 h
  omega
theorem hasB_setI {N : Nat} {Q : List Int} {y : Int} : hasB (setI N Q) y = true ↔ y ∈ Q ∧ 0 ≤ y ∧ y < (N : Int) := by
  unfold hasB
  rw [Bool.and_eq_true, decide_eq_true_eq, setI_test]
  constructor
  · rintro ⟨h0, i, hi, h1, h2⟩
    have : i = y := by omega
    subst this
    exact ⟨hi, h1⟩
  · rintro ⟨h1, h2⟩
    exact ⟨h2.1, y, h1, h2, rfl⟩
end Go.Proofs.YtfoahpideglghaaGreatDoor
