import Derived.Test.YtfoahpideglghaaGreatDoorRN
import Derived.Test.YtfoahpideglghaaGreatDoorIm
namespace Go.Proofs.YtfoahpideglghaaGreatDoor
open Go.RowKit Go.Maps Go.Shelf

/-! ### Paths -/
theorem edge_img {Ed : List EdT} {X : Nat} {p q y : Int} (h : (p, y, q) ∈ Ed) (hq : hasB X q = true) : (imgF true X y Ed).testBit p.toNat = true :=
  (imgF_test true X y Ed p.toNat).2 ⟨_, h, rfl, by simpa [ends] using hq, by simp [ends]⟩
theorem edge_post {Ed : List EdT} {X : Nat} {p q y : Int} (h : (p, y, q) ∈ Ed) (hp : hasB X p = true) : (imgF false X y Ed).testBit q.toNat = true :=
  (imgF_test false X y Ed q.toNat).2 ⟨_, h, rfl, by simpa [ends] using hp, by simp [ends]⟩
theorem hasB_of {X : Nat} {i : Int} (h0 : 0 ≤ i) (h : X.testBit i.toNat = true) : hasB X i = true := by unfold hasB; simp [h0, h]
/-- Each state of a path lies in its place's set. -/
theorem isP_rest {N : Nat} {St Fi : List Int} {Ed : List EdT} {Ss Wd : List Int} (hi : ∀ x ∈ Ed, (0 ≤ x.1 ∧ x.1 < (N : Int)) ∧ 0 ≤ x.2.2 ∧ x.2.2 < (N : Int)) (hF : ∀ x ∈ Fi, 0 ≤ x ∧ x < (N : Int)) (h : IsP St Fi Ed Ss Wd) :
    ∀ k, k ≤ Wd.length → ∀ hk : Wd.length - k < Ss.length, hasB (restF Ed (setI N Fi) Wd (Wd.length - k)) Ss[Wd.length - k] = true := by
  obtain ⟨hl, _, hf, he⟩ := h
  intro k
  induction k with
  | zero =>
    intro _ hk
    simp only [Nat.sub_zero]
    rw [restF_last]
    exact hasB_setI.2 ⟨hf, hF _ hf⟩
  | succ k ih =>
    intro hk1 hk
    have h1 : Wd.length - (k + 1) < Wd.length := by omega
    have e1 := he _ h1
    have e2 : Wd.length - (k + 1) + 1 = Wd.length - k := by omega
    rw [restF_step Ed _ Wd _ h1]
    have q := ih (by omega) (by omega)
    have h2 := hi _ e1
    simp only at h2
    refine hasB_of h2.1.1 (edge_img e1 ?_)
    simp only [e2]
    exact q
theorem path_len (Es : List EdT) (F : Nat → Nat) (Wd : List Int) (p0 k : Nat) : (itl (pathF Es F Wd p0 k)).length = k := by simp [itl, pathF]
theorem path_at (Es : List EdT) (F : Nat → Nat) (Wd : List Int) (p0 k i : Nat) (h : i < (itl (pathF Es F Wd p0 k)).length) : (itl (pathF Es F Wd p0 k))[i] = ((stP Es F Wd p0 i : Nat) : Int) := by simp [itl, pathF]
/-- The least path is a path. -/
theorem path_is {N : Nat} {St Fi : List Int} {Ed : List EdT} {Wd : List Int} (hi : ∀ x ∈ Ed, (0 ≤ x.1 ∧ x.1 < (N : Int)) ∧ 0 ≤ x.2.2 ∧ x.2.2 < (N : Int)) {p0 : Nat} (h0 : (setI N St &&& restF Ed (setI N Fi) Wd 0).testBit p0 = true) :
    IsP St Fi Ed (itl (pathF (riseE Ed) (restF Ed (setI N Fi) Wd) Wd p0 (Wd.length + 1))) Wd := by
  rw [Nat.testBit_and, Bool.and_eq_true] at h0
  have hL := rest_links hi (setI N Fi) Wd
  have hall := hL.all h0.2
  have hlen := path_len (riseE Ed) (restF Ed (setI N Fi) Wd) Wd p0 (Wd.length + 1)
  refine ⟨hlen, ?_, ?_, fun i h => ?_⟩
  · rw [path_at]
    obtain ⟨x, hx, hb, rfl⟩ := (setI_test N p0 St).1 h0.1
    show ((x.toNat : Nat) : Int) ∈ St
    rw [Int.toNat_of_nonneg hb.1]; exact hx
  · rw [path_at]
    have q := hall Wd.length (Nat.le_refl _)
    rw [restF_last] at q
    obtain ⟨x, hx, hb, e⟩ := (setI_test N _ Fi).1 q
    rw [← e, Int.toNat_of_nonneg hb.1]; exact hx
  · rw [path_at, path_at]
    obtain ⟨hk, _, _, q3, _⟩ := hL.step (p0 := p0) h (hall i (by omega))
    have hm := fromL_iff.1 (List.getElem_mem hk)
    rw [← q3]
    have hm1 := (riseE_iff Ed _).1 hm.1
    generalize (fromL (riseE Ed) (stP (riseE Ed) (restF Ed (setI N Fi) Wd) Wd p0 i) Wd[i])[frstE (restF Ed (setI N Fi) Wd (i + 1)) (fromL (riseE Ed) (stP (riseE Ed) (restF Ed (setI N Fi) Wd) Wd p0 i) Wd[i])] = x at hm hm1
    obtain ⟨x0, x1, x2⟩ := x
    simp only at hm
    rw [← hm.2.1, ← hm.2.2]
    exact hm1
/-- A path's first state is one from which the whole word can be read. -/
theorem isP_zero {N : Nat} {St Fi : List Int} {Ed : List EdT} {Ss Wd : List Int} (hi : ∀ x ∈ Ed, (0 ≤ x.1 ∧ x.1 < (N : Int)) ∧ 0 ≤ x.2.2 ∧ x.2.2 < (N : Int)) (hS : ∀ x ∈ St, 0 ≤ x ∧ x < (N : Int)) (hF : ∀ x ∈ Fi, 0 ≤ x ∧ x < (N : Int)) (h : IsP St Fi Ed Ss Wd) (h0 : 0 < Ss.length) :
    0 ≤ Ss[0] ∧ (setI N St &&& restF Ed (setI N Fi) Wd 0).testBit Ss[0].toNat = true := by
  have q := isP_rest hi hF h Wd.length (Nat.le_refl _) (by omega)
  simp only [Nat.sub_self] at q
  obtain ⟨hl, hs, _, _⟩ := h
  have hb := hS _ hs
  refine ⟨hb.1, ?_⟩
  rw [Nat.testBit_and, Bool.and_eq_true]
  exact ⟨(setI_test N _ St).2 ⟨_, hs, hb, rfl⟩, (hasB_nat q).2⟩
/-- No path is less. -/
theorem path_least {N : Nat} {St Fi : List Int} {Ed : List EdT} {Ss Wd : List Int} (hi : ∀ x ∈ Ed, (0 ≤ x.1 ∧ x.1 < (N : Int)) ∧ 0 ≤ x.2.2 ∧ x.2.2 < (N : Int)) (hS : ∀ x ∈ St, 0 ≤ x ∧ x < (N : Int)) (hF : ∀ x ∈ Fi, 0 ≤ x ∧ x < (N : Int)) {p0 : Nat} (h0 : (setI N St &&& restF Ed (setI N Fi) Wd 0).testBit p0 = true) (hm : ∀ q, (setI N St &&& restF Ed (setI N Fi) Wd 0).testBit q = true → p0 ≤ q) (h : IsP St Fi Ed Ss Wd) :
    ¬ lessL Ss (itl (pathF (riseE Ed) (restF Ed (setI N Fi) Wd) Wd p0 (Wd.length + 1))) := by
  rintro ⟨k, ka, kb, hlt, heq⟩
  rw [path_at] at hlt
  have hlen := path_len (riseE Ed) (restF Ed (setI N Fi) Wd) Wd p0 (Wd.length + 1)
  cases k with
  | zero =>
    have q := isP_zero hi hS hF h ka
    have := hm _ q.2
    have e : stP (riseE Ed) (restF Ed (setI N Fi) Wd) Wd p0 0 = p0 := rfl
    rw [e] at hlt
    omega
  | succ j =>
    have hj : j < Wd.length := by omega
    have q := isP_rest hi hF h (Wd.length - (j + 1)) (by omega) (by omega)
    have e2 : Wd.length - (Wd.length - (j + 1)) = j + 1 := by omega
    simp only [e2] at q
    obtain ⟨hl, _, _, he⟩ := h
    have e1 := he j hj
    have e3 := heq j (by omega)
    rw [path_at] at e3
    rw [e3] at e1
    rw [Nat.testBit_and, Bool.and_eq_true] at h0
    have hL := rest_links hi (setI N Fi) Wd
    obtain ⟨hk, _, q2, q3, _⟩ := hL.step (p0 := p0) hj (hL.all h0.2 j (by omega))
    have hin : (((stP (riseE Ed) (restF Ed (setI N Fi) Wd) Wd p0 j : Nat) : Int), Wd[j], Ss[j + 1]) ∈ fromL (riseE Ed) (stP (riseE Ed) (restF Ed (setI N Fi) Wd) Wd p0 j) Wd[j] := fromL_iff.2 ⟨(riseE_iff Ed _).2 e1, rfl, rfl⟩
    obtain ⟨t, ht, hte⟩ := List.getElem_of_mem hin
    have hge : ¬ t < frstE (restF Ed (setI N Fi) Wd (j + 1)) (fromL (riseE Ed) (stP (riseE Ed) (restF Ed (setI N Fi) Wd) Wd p0 j) Wd[j]) := fun hc => by
      have := q2 t ht hc
      rw [hte] at this
      simp only at this
      rw [this] at q
      cases q
    have hup := from_up (riseE_ss Ed) rfl _ t hk ht (by omega)
    rw [hte, q3] at hup
    simp only at hup
    omega
/-- A word leads from a state to another. -/
def Rch (Ed : List EdT) : List Int → Int → Int → Prop
  | [], p, q => p = q
  | y :: W, p, q => ∃ r, (p, y, r) ∈ Ed ∧ Rch Ed W r q
theorem wordF_rch {N : Nat} {Ed : List EdT} (hi : ∀ x ∈ Ed, (0 ≤ x.1 ∧ x.1 < (N : Int)) ∧ 0 ≤ x.2.2 ∧ x.2.2 < (N : Int)) : ∀ (Wd : List Int) (X : Nat) (q : Int), hasB (wordF Ed X Wd) q = true ↔ ∃ p, hasB X p = true ∧ Rch Ed Wd p q
  | [], X, q => ⟨fun h => ⟨q, h, rfl⟩, fun ⟨p, h, e⟩ => by cases e; exact h⟩
  | y :: W, X, q => by
    show hasB (wordF Ed (imgF false X y Ed) W) q = true ↔ _
    rw [wordF_rch hi W]
    constructor
    · rintro ⟨r, hr, hR⟩
      obtain ⟨h0, h1⟩ := hasB_nat hr
      obtain ⟨e, he, e1, e2, e3⟩ := (imgF_test false X y Ed _).1 h1
      obtain ⟨x0, x1, x2⟩ := e
      simp [ends] at e1 e2 e3
      have hb := hi _ he
      simp only at hb
      refine ⟨x0, e2, r, ?_, hR⟩
      rw [← e1, show r = x2 by omega]
      exact he
    · rintro ⟨p, hp, r, he, hR⟩
      have hb := hi _ he
      exact ⟨r, hasB_of hb.2.1 (edge_post he hp), hR⟩
theorem restF_rch {N : Nat} {Ed : List EdT} (hi : ∀ x ∈ Ed, (0 ≤ x.1 ∧ x.1 < (N : Int)) ∧ 0 ≤ x.2.2 ∧ x.2.2 < (N : Int)) (F0 : Nat) : ∀ (Wd : List Int) (p : Int), hasB (restF Ed F0 Wd 0) p = true ↔ ∃ q, hasB F0 q = true ∧ Rch Ed Wd p q
  | [], p => ⟨fun h => ⟨p, h, rfl⟩, fun ⟨q, h, e⟩ => by cases e; exact h⟩
  | y :: W, p => by
    have e0 : restF Ed F0 (y :: W) 0 = imgF true (restF Ed F0 W 0) y Ed := rfl
    rw [e0]
    constructor
    · intro hp
      obtain ⟨h0, h1⟩ := hasB_nat hp
      obtain ⟨e, he, e1, e2, e3⟩ := (imgF_test true _ y Ed _).1 h1
      obtain ⟨x0, x1, x2⟩ := e
      simp [ends] at e1 e2 e3
      have hb := hi _ he
      simp only at hb
      obtain ⟨q, hq, hR⟩ := (restF_rch hi F0 W x2).1 e2
      refine ⟨q, hq, x2, ?_, hR⟩
      rw [← e1, show p = x0 by omega]
      exact he
    · rintro ⟨q, hq, r, he, hR⟩
      have hb := hi _ he
      exact hasB_of hb.1.1 (edge_img he ((restF_rch hi F0 W r).2 ⟨q, hq, hR⟩))
theorem and_zero_iff (A B : Nat) : A &&& B = 0 ↔ ¬ ∃ p : Int, hasB A p = true ∧ hasB B p = true := by
  constructor
  · rintro h ⟨p, h1, h2⟩
    have q : (A &&& B).testBit p.toNat = true := by rw [Nat.testBit_and, (hasB_nat h1).2, (hasB_nat h2).2]; rfl
    rw [h] at q
    simp at q
  · intro h
    refine Nat.eq_of_testBit_eq fun i => ?_
    rw [Nat.zero_testBit, Nat.testBit_and]
    cases ha : A.testBit i
    · rfl
    · cases hb : B.testBit i
      · rfl
      · exact absurd ⟨(i : Int), hasB_of (by omega) (by simpa using ha), hasB_of (by omega) (by simpa using hb)⟩ h
/-- A word is taken just if a start is one from which it can be read. -/
theorem taken_iff {N : Nat} {Ed : List EdT} (hi : ∀ x ∈ Ed, (0 ≤ x.1 ∧ x.1 < (N : Int)) ∧ 0 ≤ x.2.2 ∧ x.2.2 < (N : Int)) (X Y : Nat) (Wd : List Int) : wordF Ed X Wd &&& Y = 0 ↔ X &&& restF Ed Y Wd 0 = 0 := by
  rw [and_zero_iff, and_zero_iff]
  refine not_congr ⟨?_, ?_⟩
  · rintro ⟨q, h1, h2⟩
    obtain ⟨p, hp, hR⟩ := (wordF_rch hi Wd X q).1 h1
    exact ⟨p, hp, (restF_rch hi Y Wd p).2 ⟨q, h2, hR⟩⟩
  · rintro ⟨p, h1, h2⟩
    obtain ⟨q, hq, hR⟩ := (restF_rch hi Y Wd p).1 h2
    exact ⟨q, (wordF_rch hi Wd X q).2 ⟨p, h1, hR⟩, hq⟩
end Go.Proofs.YtfoahpideglghaaGreatDoor
