import Derived.Test.YtfoahpideglghaaGreatDoorNB
namespace Go.Proofs.YtfoahpideglghaaGreatDoor
open Go.RowKit
attribute [local go_sem] Oper.semAt_some

/-! ### image -/
def imgF (back : Bool) (X : Nat) (sym : Int) (L : List EdT) : Nat := L.foldl (fun R e => if e.2.1 = sym ∧ hasB X (ends back e).1 = true then R ||| 2 ^ (ends back e).2.toNat else R) 0
theorem imgF_snoc (back : Bool) (X : Nat) (sym : Int) (L : List EdT) (e : EdT) : imgF back X sym (L ++ [e]) = if e.2.1 = sym ∧ hasB X (ends back e).1 = true then imgF back X sym L ||| 2 ^ (ends back e).2.toNat else imgF back X sym L := by
  unfold imgF
  rw [List.foldl_append]
  rfl
theorem imgF_test (back : Bool) (X : Nat) (sym : Int) (L : List EdT) (q : Nat) : (imgF back X sym L).testBit q = true ↔ ∃ e ∈ L, e.2.1 = sym ∧ hasB X (ends back e).1 = true ∧ (ends back e).2.toNat = q := by
  suffices h : ∀ R : Nat, (L.foldl (fun (R : Nat) (e : EdT) => if e.2.1 = sym ∧ hasB X (ends back e).1 = true then R ||| 2 ^ (ends back e).2.toNat else R) R).testBit q = true ↔ R.testBit q = true ∨ ∃ e ∈ L, e.2.1 = sym ∧ hasB X (ends back e).1 = true ∧ (ends back e).2.toNat = q by
    unfold imgF
    rw [h]
    simp
  induction L with
  | nil => intro R; simp
  | cons a L ih =>
    intro R
    rw [List.foldl_cons, ih]
    by_cases hc : a.2.1 = sym ∧ hasB X (ends back a).1 = true
    · rw [if_pos hc, Nat.testBit_or, Nat.testBit_two_pow]
      simp only [Bool.or_eq_true, decide_eq_true_eq, List.mem_cons, exists_eq_or_imp]
      constructor
      · rintro ((h | h) | h)
        · exact .inl h
        · exact .inr (.inl ⟨hc.1, hc.2, h⟩)
        · exact .inr (.inr h)
      · rintro (h | ⟨_, _, h⟩ | h)
        · exact .inl (.inl h)
        · exact .inl (.inr h)
        · exact .inr h
    · rw [if_neg hc]
      simp only [List.mem_cons, exists_eq_or_imp]
      constructor
      · rintro (h | h)
        · exact .inl h
        · exact .inr (.inr h)
      · rintro (h | ⟨h1, h2, _⟩ | h)
        · exact .inl h
        · exact absurd ⟨h1, h2⟩ hc
        · exact .inr h
theorem may_parts {n m : Int} {St Fi : List Int} {Ed : List EdT} (h : mayA n m St Fi Ed = true) : (0 ≤ n ∧ n ≤ 4096) ∧ (0 ≤ m ∧ m ≤ 128) ∧ Ed.length ≤ 65536 ∧ St.all (inB n) = true ∧ Fi.all (inB n) = true ∧ ∀ e ∈ Ed, (0 ≤ e.1 ∧ e.1 < n) ∧ (0 ≤ e.2.1 ∧ e.2.1 < m) ∧ 0 ≤ e.2.2 ∧ e.2.2 < n := by
  unfold mayA at h
  simp only [Bool.and_eq_true, decide_eq_true_eq, inB_iff] at h
  obtain ⟨⟨⟨⟨⟨h1, h2⟩, h3⟩, h4⟩, h5⟩, h6⟩ := h
  refine ⟨by omega, by omega, h3, h4, h5, fun e he => ?_⟩
  have := List.all_eq_true.1 h6 e he
  simp only [edOk, Bool.and_eq_true, inB_iff] at this
  exact ⟨this.1.1, this.1.2, this.2⟩
end Go.Proofs.YtfoahpideglghaaGreatDoor
