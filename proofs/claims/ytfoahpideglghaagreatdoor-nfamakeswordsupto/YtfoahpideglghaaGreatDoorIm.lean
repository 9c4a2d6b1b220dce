import Derived.Test.YtfoahpideglghaaGreatDoorWS
namespace Go.Proofs.YtfoahpideglghaaGreatDoor
open Go.RowKit Go.Maps Go.Shelf

/-! ### Images and the other way round -/
def itl (l : List Nat) : List Int := l.map fun (i : Nat) => (i : Int)
theorem itl_len (l : List Nat) : (itl l).length = l.length := List.length_map _
theorem intV_itl (l : List Nat) : intV l = (itl l).map (Value.int .i64) := by simp [intV, itl]
theorem mem_itl {l : List Nat} {x : Int} : x ∈ itl l ↔ ∃ i ∈ l, (i : Int) = x := by simp [itl]
theorem setI_test (n : Nat) (q : Nat) (L : List Int) : (setI n L).testBit q = true ↔ ∃ i ∈ L, (0 ≤ i ∧ i < (n : Int)) ∧ i.toNat = q := by
  have key : ∀ (L : List Int) (X : Nat), (L.foldl (fun X i => if 0 ≤ i ∧ i < (n : Int) then X ||| 2 ^ i.toNat else X) X).testBit q = true ↔ X.testBit q = true ∨ ∃ i ∈ L, (0 ≤ i ∧ i < (n : Int)) ∧ i.toNat = q := by
    intro L
    induction L with
    | nil => intro X; simp
    | cons a L ih =>
      intro X
      rw [List.foldl_cons, ih]
      simp only [List.mem_cons, exists_eq_or_imp]
      by_cases h : 0 ≤ a ∧ a < (n : Int)
      · rw [if_pos h, Nat.testBit_or, Bool.or_eq_true, Nat.testBit_two_pow, decide_eq_true_eq]
        simp only [h, true_and, and_self]
        exact or_assoc
      · rw [if_neg h]
        simp only [h, false_and, false_or]
  unfold setI
  rw [key]
  simp
theorem lt_two_pow {N X : Nat} (h : ∀ q, X.testBit q = true → q < N) : X < 2 ^ N := Nat.lt_pow_two_of_testBit X fun q hq => by
  cases e : X.testBit q
  · rfl
  · have := h q e; omega
theorem bit_lt {N X q : Nat} (hX : X < 2 ^ N) (h : X.testBit q = true) : q < N := Nat.lt_of_not_le fun hle => by
  have := Nat.testBit_lt_two_pow (Nat.lt_of_lt_of_le hX (Nat.pow_le_pow_right (by omega) hle))
  rw [this] at h; cases h
theorem setI_lt (N : Nat) (L : List Int) : setI N L < 2 ^ N := lt_two_pow fun q h => by
  obtain ⟨i, _, h1, h2⟩ := (setI_test N q L).1 h
  omega
theorem setI_elems {N X : Nat} (hX : X < 2 ^ N) : setI N (itl (elems N X)) = X := by
  apply Nat.eq_of_testBit_eq
  intro q
  rw [Bool.eq_iff_iff, setI_test]
  constructor
  · rintro ⟨i, hi, _, rfl⟩
    obtain ⟨j, hj, rfl⟩ := mem_itl.1 hi
    exact (mem_elems.1 hj).2
  · intro h
    have := bit_lt hX h
    exact ⟨(q : Int), mem_itl.2 ⟨q, mem_elems.2 ⟨this, h⟩, rfl⟩, ⟨by omega, by omega⟩, by omega⟩
theorem imgF_pow {N X : Nat} {back : Bool} {y : Int} {L : List EdT} (hi : ∀ x ∈ L, (0 ≤ x.1 ∧ x.1 < (N : Int)) ∧ 0 ≤ x.2.2 ∧ x.2.2 < (N : Int)) : imgF back X y L < 2 ^ N := lt_two_pow fun _ h => imgF_lt hi h
theorem wordF_pow {N : Nat} {Ed : List EdT} (hi : ∀ x ∈ Ed, (0 ≤ x.1 ∧ x.1 < (N : Int)) ∧ 0 ≤ x.2.2 ∧ x.2.2 < (N : Int)) {X : Nat} (hX : X < 2 ^ N) (Wd : List Int) : wordF Ed X Wd < 2 ^ N := by
  rcases Wd.eq_nil_or_concat with rfl | ⟨l, y, rfl⟩
  · exact hX
  · rw [List.concat_eq_append, wordF_snoc]; exact imgF_pow hi
theorem hasB_setI {N : Nat} {Q : List Int} {y : Int} : hasB (setI N Q) y = true ↔ y ∈ Q ∧ 0 ≤ y ∧ y < (N : Int) := by
  unfold hasB
  rw [Bool.and_eq_true, decide_eq_true_eq, setI_test]
  constructor
  · rintro ⟨h0, i, hi, h1, h2⟩
    have : i = y := by omega
    subst this
    exact ⟨hi, h1⟩
  · rintro ⟨h1, h2⟩
    exact ⟨h2.1, y, h1, h2, rfl⟩
/-- A state's image meets a set just if the set's image the other way round has the state. -/
theorem img_dual {N : Nat} {Ed : List EdT} (hi : ∀ x ∈ Ed, (0 ≤ x.1 ∧ x.1 < (N : Int)) ∧ 0 ≤ x.2.2 ∧ x.2.2 < (N : Int)) (back : Bool) (Q : List Int) (y : Int) (s : Nat) (hs : s < N) :
    ((itl (elems N (imgF back (setI N [(s : Int)]) y Ed))).any fun x => decide (x ∈ Q)) = decide ((s : Int) ∈ itl (elems N (imgF (!back) (setI N Q) y Ed))) := by
  rw [Bool.eq_iff_iff, List.any_eq_true, decide_eq_true_eq]
  constructor
  · rintro ⟨x, hx, hq⟩
    rw [decide_eq_true_eq] at hq
    obtain ⟨j, hj, rfl⟩ := mem_itl.1 hx
    obtain ⟨e, he, h1, h2, h3⟩ := (imgF_test _ _ _ _ _).1 (mem_elems.1 hj).2
    rw [hasB_setI] at h2
    have hr := hi e he
    have h2a : (ends back e).1 = (s : Int) := by simpa using h2.1
    refine mem_itl.2 ⟨s, mem_elems.2 ⟨hs, (imgF_test _ _ _ _ _).2 ⟨e, he, h1, hasB_setI.2 ?_, ?_⟩⟩, rfl⟩
    · cases back
      · have e1 : (ends false e).2 = e.2.2 := rfl
        have e2 : (ends (!false) e).1 = e.2.2 := rfl
        rw [e1] at h3
        rw [e2]
        have : ((j : Nat) : Int) = e.2.2 := by omega
        rw [← this]
        exact ⟨hq, by omega, by omega⟩
      · have e1 : (ends true e).2 = e.1 := rfl
        have e2 : (ends (!true) e).1 = e.1 := rfl
        rw [e1] at h3
        rw [e2]
        have : ((j : Nat) : Int) = e.1 := by omega
        rw [← this]
        exact ⟨hq, by omega, by omega⟩
    · cases back
      · have e2 : (ends (!false) e).2 = e.1 := rfl
        have e3 : (ends false e).1 = e.1 := rfl
        rw [e3] at h2a
        rw [e2, h2a]; rfl
      · have e2 : (ends (!true) e).2 = e.2.2 := rfl
        have e3 : (ends true e).1 = e.2.2 := rfl
        rw [e3] at h2a
        rw [e2, h2a]; rfl
  · intro h
    obtain ⟨t, ht, hts⟩ := mem_itl.1 h
    have : t = s := by omega
    subst this
    obtain ⟨e, he, h1, h2, h3⟩ := (imgF_test _ _ _ _ _).1 (mem_elems.1 ht).2
    rw [hasB_setI] at h2
    have hr := hi e he
    cases back
    · have e1 : (ends (!false) e).1 = e.2.2 := rfl
      have e2 : (ends (!false) e).2 = e.1 := rfl
      rw [e1] at h2
      rw [e2] at h3
      refine ⟨e.2.2, mem_itl.2 ⟨e.2.2.toNat, mem_elems.2 ⟨by omega, (imgF_test _ _ _ _ _).2 ⟨e, he, h1, hasB_setI.2 ⟨?_, ?_⟩, rfl⟩⟩, by omega⟩, by simpa using h2.1⟩
      · have e3 : (ends false e).1 = e.1 := rfl
        rw [e3]
        simp
        omega
      · have e3 : (ends false e).1 = e.1 := rfl
        rw [e3]; omega
    · have e1 : (ends (!true) e).1 = e.1 := rfl
      have e2 : (ends (!true) e).2 = e.2.2 := rfl
      rw [e1] at h2
      rw [e2] at h3
      refine ⟨e.1, mem_itl.2 ⟨e.1.toNat, mem_elems.2 ⟨by omega, (imgF_test _ _ _ _ _).2 ⟨e, he, h1, hasB_setI.2 ⟨?_, ?_⟩, rfl⟩⟩, by omega⟩, by simpa using h2.1⟩
      · have e3 : (ends true e).1 = e.2.2 := rfl
        rw [e3]
        simp
        omega
      · have e3 : (ends true e).1 = e.2.2 := rfl
        rw [e3]; omega
end Go.Proofs.YtfoahpideglghaaGreatDoor
