import Derived.Test.YtfoahpideglghaaGreatDoorPn
import Derived.Test.YtfoahpideglghaaGreatDoorTu
namespace Go.Proofs.YtfoahpideglghaaGreatDoor
open Go.RowKit Go.Maps Go.Shelf

/-! ### Numbers in order, each once -/
theorem cpL_ss {zs : List Int} (hs : zs.Pairwise (· ≤ ·)) : (Lib.compact zs).Pairwise (· < ·) := by
  have key : ∀ m, m ≤ zs.length → (Lib.compactUpTo zs.toArray m).Pairwise (· < ·) ∧ (∀ x ∈ Lib.compactUpTo zs.toArray m, ∃ j, j < m ∧ ∃ h : j < zs.length, x = zs[j]) := by
    intro m
    induction m with
    | zero => intro _; exact ⟨by simp [Lib.compactUpTo], fun x hx => by simp [Lib.compactUpTo] at hx⟩
    | succ m ih =>
      intro hm
      obtain ⟨k1, k2⟩ := ih (by omega)
      rw [Lib.compactUpTo_succ]
      by_cases hk : Lib.keeps zs.toArray m = true
      · rw [if_pos hk]
        have hm' : m < zs.length := by omega
        have em : zs.toArray[m]! = zs[m] := by simp [hm']
        refine ⟨?_, fun x hx => ?_⟩
        · rw [List.pairwise_append]
          refine ⟨k1, by simp, fun x hx y hy => ?_⟩
          rw [List.mem_singleton.1 hy, em]
          obtain ⟨j, hj, hjl, rfl⟩ := k2 x hx
          unfold Lib.keeps at hk
          rw [decide_eq_true_eq] at hk
          have hm0 : m ≠ 0 := by omega
          have hk2 := hk.resolve_left hm0
          have e1 : zs.toArray[m - 1]! = zs[m - 1] := by simp [show m - 1 < zs.length by omega]
          rw [em, e1] at hk2
          have l1 : zs[m - 1] ≤ zs[m] := (List.pairwise_iff_getElem.1 hs) (m - 1) m (by omega) hm' (by omega)
          rcases Nat.lt_or_ge j (m - 1) with q | q
          · have l2 : zs[j] ≤ zs[m - 1] := (List.pairwise_iff_getElem.1 hs) j (m - 1) hjl (by omega) q
            omega
          · have : j = m - 1 := by omega
            subst this; omega
        · rcases List.mem_append.1 hx with hx | hx
          · obtain ⟨j, hj, q⟩ := k2 x hx
            exact ⟨j, by omega, q⟩
          · rw [List.mem_singleton.1 hx]; exact ⟨m, by omega, hm', em⟩
      · rw [if_neg hk, List.append_nil]
        exact ⟨k1, fun x hx => by obtain ⟨j, hj, q⟩ := k2 x hx; exact ⟨j, by omega, q⟩⟩
  exact (key zs.length (Nat.le_refl _)).1
theorem sortI_up (L : List Int) : (sortI L).Pairwise (· ≤ ·) := by
  have hp : (sortI L).Pairwise fun a b => decide (a ≤ b) = true := List.pairwise_mergeSort (le := fun x y : Int => decide (x ≤ y)) (fun a b c h1 h2 => by
    simp only [decide_eq_true_eq] at *
    omega) (fun a b => by
    simp only [Bool.or_eq_true, decide_eq_true_eq]
    omega) L
  exact hp.imp fun q => by simpa using q
theorem riseL_ss (L : List Int) : (riseL L).Pairwise (· < ·) := cpL_ss (sortI_up L)
theorem ssL_eq : ∀ (A B : List Int), A.Pairwise (· < ·) → B.Pairwise (· < ·) → (∀ x, x ∈ A ↔ x ∈ B) → A = B
  | [], [], _, _, _ => rfl
  | [], b :: B, _, _, h => absurd ((h b).2 (by simp)) (by simp)
  | a :: A, [], _, _, h => absurd ((h a).1 (by simp)) (by simp)
  | a :: A, b :: B, hA, hB, h => by
    rw [List.pairwise_cons] at hA hB
    have e : a = b := by
      rcases List.mem_cons.1 ((h a).1 (by simp)) with q | q
      · exact q
      · rcases List.mem_cons.1 ((h b).2 (by simp)) with r | r
        · exact r.symm
        · have := hB.1 a q; have := hA.1 b r; omega
    subst e
    congr 1
    refine ssL_eq A B hA.2 hB.2 fun x => ⟨fun q => ?_, fun q => ?_⟩
    · rcases List.mem_cons.1 ((h x).1 (by simp [q])) with r | r
      · subst r; have := hA.1 x q; omega
      · exact r
    · rcases List.mem_cons.1 ((h x).2 (by simp [q])) with r | r
      · subst r; have := hB.1 x q; omega
      · exact r
theorem riseL_same {A B : List Int} (h : ∀ x, x ∈ A ↔ x ∈ B) : riseL A = riseL B := ssL_eq _ _ (riseL_ss A) (riseL_ss B) fun x => by rw [riseL_iff, riseL_iff, h]
theorem riseE_same {A B : List EdT} (h : ∀ x, x ∈ A ↔ x ∈ B) : riseE A = riseE B := ss_eq _ _ (riseE_ss A) (riseE_ss B) fun x => by rw [riseE_iff, riseE_iff, h]
theorem riseL_idem (L : List Int) : riseL (riseL L) = riseL L := riseL_same fun x => riseL_iff L x
theorem riseE_idem (L : List EdT) : riseE (riseE L) = riseE L := riseE_same fun x => riseE_iff L x
theorem tE_tE (e : EdT) : tE (tE e) = e := rfl
theorem mem_turnE {L : List EdT} {e : EdT} : e ∈ turnE L ↔ tE e ∈ L := by
  unfold turnE
  constructor
  · intro h
    obtain ⟨x, hx, rfl⟩ := List.mem_map.1 h
    exact hx
  · intro h
    exact List.mem_map.2 ⟨tE e, h, rfl⟩
theorem rise_turn2 (L : List EdT) : riseE (turnE (riseE (turnE L))) = riseE L := riseE_same fun x => by rw [mem_turnE, riseE_iff, mem_turnE, tE_tE]

/-! ### Which words are taken -/
theorem may_of {n m : Int} {St Fi : List Int} {Ed : List EdT} (h1 : 0 ≤ n ∧ n ≤ 4096) (h2 : 0 ≤ m ∧ m ≤ 128) (h3 : Ed.length ≤ 65536) (h4 : ∀ x ∈ St, 0 ≤ x ∧ x < n) (h5 : ∀ x ∈ Fi, 0 ≤ x ∧ x < n) (h6 : ∀ e ∈ Ed, (0 ≤ e.1 ∧ e.1 < n) ∧ (0 ≤ e.2.1 ∧ e.2.1 < m) ∧ 0 ≤ e.2.2 ∧ e.2.2 < n) : mayA n m St Fi Ed = true := by
  unfold mayA
  simp only [Bool.and_eq_true, List.all_eq_true, decide_eq_true_eq]
  refine ⟨⟨⟨⟨⟨inB_iff.2 (by omega), inB_iff.2 (by omega)⟩, h3⟩, fun x hx => inB_iff.2 (h4 x hx)⟩, fun x hx => inB_iff.2 (h5 x hx)⟩, fun e he => ?_⟩
  obtain ⟨q1, q2, q3⟩ := h6 e he
  unfold edOk
  rw [inB_iff.2 q1, inB_iff.2 q2, inB_iff.2 q3]
  rfl
theorem may_st {n m : Int} {St Fi : List Int} {Ed : List EdT} (h : mayA n m St Fi Ed = true) : (∀ x ∈ St, 0 ≤ x ∧ x < n) ∧ (∀ x ∈ Fi, 0 ≤ x ∧ x < n) := by
  obtain ⟨_, _, _, h4, h5, _⟩ := may_parts h
  exact ⟨fun x hx => inB_iff.1 (List.all_eq_true.1 h4 x hx), fun x hx => inB_iff.1 (List.all_eq_true.1 h5 x hx)⟩
/-- A word leads from a start to an end. -/
def Tak (St Fi : List Int) (Ed : List EdT) (Wd : List Int) : Prop := ∃ p, p ∈ St ∧ ∃ q, q ∈ Fi ∧ Rch Ed Wd p q
open Classical in
/-- Is a word taken? -/
noncomputable def tkB (n m : Int) (St Fi : List Int) (Ed : List EdT) (Wd : List Int) : Bool := decide (wordErr n m St Fi Ed Wd = 0 ∧ Tak St Fi Ed Wd)
theorem wordErr_iff {n m : Int} {St Fi : List Int} {Ed : List EdT} {Wd : List Int} : wordErr n m St Fi Ed Wd = 0 ↔ mayA n m St Fi Ed = true ∧ Wd.all (inB m) = true :=
  ⟨wordErr_zero, fun ⟨h1, h2⟩ => by unfold wordErr; rw [if_pos h1, if_pos h2]⟩
open Classical in
theorem tkB_iff {n m : Int} {St Fi : List Int} {Ed : List EdT} {Wd : List Int} : tkB n m St Fi Ed Wd = true ↔ mayA n m St Fi Ed = true ∧ Wd.all (inB m) = true ∧ Tak St Fi Ed Wd := by
  refine Iff.trans (decide_eq_true_iff (p := wordErr n m St Fi Ed Wd = 0 ∧ Tak St Fi Ed Wd)) ?_
  rw [wordErr_iff, and_assoc]
theorem tkB_bad {n m : Int} {St Fi : List Int} {Ed : List EdT} {Wd : List Int} (h : wordErr n m St Fi Ed Wd ≠ 0) : tkB n m St Fi Ed Wd = false := by
  cases q : tkB n m St Fi Ed Wd
  · rfl
  · exact absurd (wordErr_iff.2 ⟨(tkB_iff.1 q).1, (tkB_iff.1 q).2.1⟩) h
theorem tkB_ok {N : Nat} {m : Int} {St Fi : List Int} {Ed : List EdT} {Wd : List Int} (h : wordErr N m St Fi Ed Wd = 0) : (!decide (wordF Ed (setI N St) Wd &&& setI N Fi = 0)) = tkB N m St Fi Ed Wd := by
  rw [Bool.eq_iff_iff, tkB_iff]
  have hm := wordErr_iff.1 h
  have hin := may_in hm.1
  have hs := may_st hm.1
  rw [Bool.not_eq_true', decide_eq_false_iff_not, and_zero_iff, Classical.not_not]
  constructor
  · rintro ⟨q, h1, h2⟩
    obtain ⟨p, hp, hR⟩ := (wordF_rch hin Wd _ q).1 h1
    exact ⟨hm.1, hm.2, p, (hasB_setI.1 hp).1, q, (hasB_setI.1 h2).1, hR⟩
  · rintro ⟨_, _, p, hp, q, hq, hR⟩
    exact ⟨q, (wordF_rch hin Wd _ q).2 ⟨p, hasB_setI.2 ⟨hp, hs.1 p hp⟩, hR⟩, hasB_setI.2 ⟨hq, hs.2 q hq⟩⟩
theorem rch_same {E E' : List EdT} (h : ∀ e, e ∈ E ↔ e ∈ E') : ∀ (W : List Int) (p q : Int), Rch E W p q ↔ Rch E' W p q
  | [], _, _ => Iff.rfl
  | y :: W, p, q => by
    constructor
    · rintro ⟨r, h1, h2⟩; exact ⟨r, (h _).1 h1, (rch_same h W r q).1 h2⟩
    · rintro ⟨r, h1, h2⟩; exact ⟨r, (h _).2 h1, (rch_same h W r q).2 h2⟩
theorem rch_app {E : List EdT} : ∀ (A B : List Int) (p q : Int), Rch E (A ++ B) p q ↔ ∃ r, Rch E A p r ∧ Rch E B r q
  | [], B, p, q => ⟨fun h => ⟨p, rfl, h⟩, fun ⟨r, h1, h2⟩ => by cases h1; exact h2⟩
  | y :: A, B, p, q => by
    constructor
    · rintro ⟨r, h1, h2⟩
      obtain ⟨s, h3, h4⟩ := (rch_app A B r q).1 h2
      exact ⟨s, ⟨r, h1, h3⟩, h4⟩
    · rintro ⟨s, ⟨r, h1, h3⟩, h4⟩
      exact ⟨r, h1, (rch_app A B r q).2 ⟨s, h3, h4⟩⟩
theorem rch_turn {E : List EdT} : ∀ (W : List Int) (p q : Int), Rch (turnE E) W.reverse q p ↔ Rch E W p q
  | [], p, q => ⟨fun h => Eq.symm h, fun h => Eq.symm h⟩
  | y :: W, p, q => by
    rw [List.reverse_cons, rch_app]
    constructor
    · rintro ⟨r, h1, s, h2, h3⟩
      cases h3
      exact ⟨r, mem_turnE.1 h2, (rch_turn W r q).1 h1⟩
    · rintro ⟨r, h1, h2⟩
      exact ⟨r, (rch_turn W r q).2 h2, p, mem_turnE.2 h1, rfl⟩
theorem all_rev {m : Int} {W : List Int} : W.reverse.all (inB m) = W.all (inB m) := List.all_reverse
/-- In order, each once: the same words. -/
theorem may_rise {n m : Int} {St Fi : List Int} {Ed : List EdT} (h : mayA n m St Fi Ed = true) : mayA n m (riseL St) (riseL Fi) (riseE Ed) = true := by
  obtain ⟨h1, h2, h3, _, _, h6⟩ := may_parts h
  obtain ⟨h4, h5⟩ := may_st h
  exact may_of h1 h2 (Nat.le_trans (riseE_len Ed) h3) (fun x hx => h4 x ((riseL_iff St x).1 hx)) (fun x hx => h5 x ((riseL_iff Fi x).1 hx)) (fun e he => h6 e ((riseE_iff Ed e).1 he))
theorem tk_normal {n m : Int} {St Fi : List Int} {Ed : List EdT} (h : mayA n m St Fi Ed = true) (Wd : List Int) : tkB n m (riseL St) (riseL Fi) (riseE Ed) Wd = tkB n m St Fi Ed Wd := by
  rw [Bool.eq_iff_iff, tkB_iff, tkB_iff]
  refine and_congr (by rw [h, may_rise h]) (and_congr Iff.rfl ?_)
  constructor
  · rintro ⟨p, hp, q, hq, hR⟩
    exact ⟨p, (riseL_iff _ _).1 hp, q, (riseL_iff _ _).1 hq, (rch_same (riseE_iff Ed) Wd p q).1 hR⟩
  · rintro ⟨p, hp, q, hq, hR⟩
    exact ⟨p, (riseL_iff _ _).2 hp, q, (riseL_iff _ _).2 hq, (rch_same (riseE_iff Ed) Wd p q).2 hR⟩
/-- Turned round: the words backwards. -/
theorem may_turn {n m : Int} {St Fi : List Int} {Ed : List EdT} (h : mayA n m St Fi Ed = true) : mayA n m (riseL Fi) (riseL St) (riseE (turnE Ed)) = true := by
  obtain ⟨h1, h2, h3, _, _, h6⟩ := may_parts h
  obtain ⟨h4, h5⟩ := may_st h
  refine may_of h1 h2 (Nat.le_trans (riseE_len _) (by rw [turnE_len]; exact h3)) (fun x hx => h5 x ((riseL_iff Fi x).1 hx)) (fun x hx => h4 x ((riseL_iff St x).1 hx)) (fun e he => ?_)
  have q := h6 _ (mem_turnE.1 ((riseE_iff _ e).1 he))
  exact ⟨q.2.2, q.2.1, q.1⟩
theorem tk_turn {n m : Int} {St Fi : List Int} {Ed : List EdT} (h : mayA n m St Fi Ed = true) (Wd : List Int) : tkB n m (riseL Fi) (riseL St) (riseE (turnE Ed)) Wd.reverse = tkB n m St Fi Ed Wd := by
  rw [Bool.eq_iff_iff, tkB_iff, tkB_iff]
  refine and_congr (by rw [h, may_turn h]) (and_congr (by rw [all_rev]) ?_)
  constructor
  · rintro ⟨p, hp, q, hq, hR⟩
    exact ⟨q, (riseL_iff _ _).1 hq, p, (riseL_iff _ _).1 hp, (rch_turn Wd q p).1 ((rch_same (riseE_iff _) _ p q).1 hR)⟩
  · rintro ⟨p, hp, q, hq, hR⟩
    exact ⟨q, (riseL_iff _ _).2 hq, p, (riseL_iff _ _).2 hp, (rch_same (riseE_iff _) _ q p).2 ((rch_turn Wd p q).2 hR)⟩
/-- Two beside each other. -/
def shL (k : Int) (L : List Int) : List Int := L.map (· + k)
def shE (k : Int) (e : EdT) : EdT := (e.1 + k, e.2.1, e.2.2 + k)
def shEs (k : Int) (L : List EdT) : List EdT := L.map (shE k)
theorem mem_shL {k x : Int} {L : List Int} : x ∈ shL k L ↔ x - k ∈ L := by
  unfold shL
  constructor
  · intro h
    obtain ⟨y, hy, rfl⟩ := List.mem_map.1 h
    rw [show y + k - k = y by omega]; exact hy
  · intro h
    exact List.mem_map.2 ⟨_, h, by omega⟩
theorem mem_shEs {k : Int} {e : EdT} {L : List EdT} : e ∈ shEs k L ↔ (e.1 - k, e.2.1, e.2.2 - k) ∈ L := by
  unfold shEs
  constructor
  · intro h
    obtain ⟨y, hy, rfl⟩ := List.mem_map.1 h
    simp only [shE]
    rw [show y.1 + k - k = y.1 by omega, show y.2.2 + k - k = y.2.2 by omega]; exact hy
  · intro h
    refine List.mem_map.2 ⟨_, h, ?_⟩
    obtain ⟨x, y, z⟩ := e
    simp only [shE, Prod.mk.injEq]
    exact ⟨by omega, trivial, by omega⟩
theorem rch_low {k : Int} {A B : List EdT} (hA : ∀ e ∈ A, 0 ≤ e.2.2 ∧ e.2.2 < k) (hB : ∀ e ∈ B, 0 ≤ e.1) : ∀ (W : List Int) (p q : Int), p < k → (Rch (A ++ shEs k B) W p q ↔ Rch A W p q)
  | [], _, _, _ => Iff.rfl
  | y :: W, p, q, hp => by
    constructor
    · rintro ⟨r, h1, h2⟩
      rcases List.mem_append.1 h1 with h1 | h1
      · exact ⟨r, h1, (rch_low hA hB W r q (hA _ h1).2).1 h2⟩
      · have := hB _ (mem_shEs.1 h1)
        simp only at this
        omega
    · rintro ⟨r, h1, h2⟩
      exact ⟨r, List.mem_append.2 (Or.inl h1), (rch_low hA hB W r q (hA _ h1).2).2 h2⟩
theorem rch_high {k : Int} {A B : List EdT} (hA : ∀ e ∈ A, e.1 < k) (hB : ∀ e ∈ B, 0 ≤ e.2.2) : ∀ (W : List Int) (p q : Int), k ≤ p → (Rch (A ++ shEs k B) W p q ↔ Rch B W (p - k) (q - k))
  | [], p, q, _ => ⟨fun h => by cases h; exact rfl, fun h => by have h : p - k = q - k := h; show p = q; omega⟩
  | y :: W, p, q, hp => by
    constructor
    · rintro ⟨r, h1, h2⟩
      rcases List.mem_append.1 h1 with h1 | h1
      · have := hA _ h1
        simp only at this
        omega
      · have h3 := mem_shEs.1 h1
        simp only at h3
        have := hB _ h3
        simp only at this
        exact ⟨r - k, h3, (rch_high hA hB W r q (by omega)).1 h2⟩
    · rintro ⟨r, h1, h2⟩
      have := hB _ h1
      simp only at this
      refine ⟨r + k, List.mem_append.2 (Or.inr (mem_shEs.2 ?_)), (rch_high hA hB W (r + k) q (by omega)).2 ?_⟩
      · simp only
        rw [show r + k - k = r by omega]; exact h1
      · rw [show r + k - k = r by omega]; exact h2
theorem tk_union {n n' m : Int} {St Fi St' Fi' : List Int} {Ed Ed' : List EdT} (h : mayA n m St Fi Ed = true) (h' : mayA n' m St' Fi' Ed' = true) (hn : n + n' ≤ 4096) (hl : (riseE Ed).length + (riseE Ed').length ≤ 65536) (Wd : List Int) :
    mayA (n + n') m (riseL St ++ shL n (riseL St')) (riseL Fi ++ shL n (riseL Fi')) (riseE Ed ++ shEs n (riseE Ed')) = true ∧ tkB (n + n') m (riseL St ++ shL n (riseL St')) (riseL Fi ++ shL n (riseL Fi')) (riseE Ed ++ shEs n (riseE Ed')) Wd = (tkB n m St Fi Ed Wd || tkB n' m St' Fi' Ed' Wd) := by
  have hr := may_rise h
  have hr' := may_rise h'
  rw [← tk_normal h, ← tk_normal h']
  generalize riseL St = S at *
  generalize riseL Fi = F at *
  generalize riseE Ed = E at *
  generalize riseL St' = S' at *
  generalize riseL Fi' = F' at *
  generalize riseE Ed' = E' at *
  obtain ⟨h1, h2, h3, _, _, h6⟩ := may_parts hr
  obtain ⟨h4, h5⟩ := may_st hr
  obtain ⟨k1, k2, k3, _, _, k6⟩ := may_parts hr'
  obtain ⟨k4, k5⟩ := may_st hr'
  have hM : mayA (n + n') m (S ++ shL n S') (F ++ shL n F') (E ++ shEs n E') = true := by
    refine may_of (by omega) h2 (by rw [List.length_append]; unfold shEs; rw [List.length_map]; exact hl) (fun x hx => ?_) (fun x hx => ?_) (fun e he => ?_)
    · rcases List.mem_append.1 hx with q | q
      · have := h4 x q; omega
      · have := k4 _ (mem_shL.1 q); omega
    · rcases List.mem_append.1 hx with q | q
      · have := h5 x q; omega
      · have := k5 _ (mem_shL.1 q); omega
    · rcases List.mem_append.1 he with q | q
      · have := h6 e q; omega
      · have := k6 _ (mem_shEs.1 q)
        simp only at this
        omega
  refine ⟨hM, ?_⟩
  rw [Bool.eq_iff_iff, Bool.or_eq_true, tkB_iff, tkB_iff, tkB_iff]
  have L := rch_low (k := n) (A := E) (B := E') (fun e he => (h6 e he).2.2) (fun e he => (k6 e he).1.1) Wd
  have H := rch_high (k := n) (A := E) (B := E') (fun e he => (h6 e he).1.2) (fun e he => (k6 e he).2.2.1) Wd
  have stay : ∀ (W : List Int) (p q : Int), p < n → Rch E W p q → q < n := by
    intro W
    induction W with
    | nil => intro p q hp hR; cases hR; exact hp
    | cons y W ih =>
      rintro p q hp ⟨r, e, hR⟩
      exact ih r q (h6 _ e).2.2.2 hR
  have rise : ∀ (W : List Int) (p q : Int), 0 ≤ p → Rch E' W p q → 0 ≤ q := by
    intro W
    induction W with
    | nil => intro p q hp hR; cases hR; exact hp
    | cons y W ih =>
      rintro p q hp ⟨r, e, hR⟩
      exact ih r q (k6 _ e).2.2.1 hR
  constructor
  · rintro ⟨_, hw, p, hp, q, hq, hR⟩
    rcases List.mem_append.1 hp with hp | hp
    · left
      have hpn := (h4 p hp).2
      have hR2 := (L p q hpn).1 hR
      refine ⟨hr, hw, p, hp, q, ?_, hR2⟩
      rcases List.mem_append.1 hq with hq | hq
      · exact hq
      · have := (k5 _ (mem_shL.1 hq)).1
        have := stay Wd p q hpn hR2
        omega
    · right
      have hp2 := mem_shL.1 hp
      have hpn := (k4 _ hp2).1
      have hR2 := (H p q (by omega)).1 hR
      refine ⟨hr', hw, p - n, hp2, q - n, ?_, hR2⟩
      rcases List.mem_append.1 hq with hq | hq
      · have := (h5 _ hq).2
        have := rise Wd _ _ hpn hR2
        omega
      · exact mem_shL.1 hq
  · rintro (⟨_, hw, p, hp, q, hq, hR⟩ | ⟨_, hw, p, hp, q, hq, hR⟩)
    · exact ⟨hM, hw, p, List.mem_append.2 (Or.inl hp), q, List.mem_append.2 (Or.inl hq), (L p q (h4 p hp).2).2 hR⟩
    · have hpn := (k4 _ hp).1
      refine ⟨hM, hw, p + n, List.mem_append.2 (Or.inr (mem_shL.2 (by rw [show p + n - n = p by omega]; exact hp))), q + n, List.mem_append.2 (Or.inr (mem_shL.2 (by rw [show q + n - n = q by omega]; exact hq))), (H (p + n) (q + n) (by omega)).2 ?_⟩
      rw [show p + n - n = p by omega, show q + n - n = q by omega]; exact hR
/-- Other symbols. -/
def toF (To : List Int) (x : Int) : Int := To[x.toNat]?.getD 0
def rlE (To : List Int) (e : EdT) : EdT := (e.1, toF To e.2.1, e.2.2)
def rlEs (To : List Int) (L : List EdT) : List EdT := L.map (rlE To)
theorem toF_at {To : List Int} {x : Int} (h0 : 0 ≤ x) (h : x < (To.length : Int)) : toF To x ∈ To ∧ ∃ hx : x.toNat < To.length, toF To x = To[x.toNat] := by
  have hx : x.toNat < To.length := by omega
  unfold toF
  rw [List.getElem?_eq_getElem hx]
  exact ⟨List.getElem_mem hx, hx, rfl⟩
theorem toF_inj {To : List Int} (hd : To.Nodup) {x y : Int} (hx0 : 0 ≤ x) (hx : x < (To.length : Int)) (hy0 : 0 ≤ y) (hy : y < (To.length : Int)) (e : toF To x = toF To y) : x = y := by
  obtain ⟨_, kx, ex⟩ := toF_at hx0 hx
  obtain ⟨_, ky, ey⟩ := toF_at hy0 hy
  rw [ex, ey] at e
  rcases Nat.lt_trichotomy x.toNat y.toNat with q | q | q
  · exact absurd e ((List.pairwise_iff_getElem.1 hd) _ _ kx ky q)
  · omega
  · exact absurd e.symm ((List.pairwise_iff_getElem.1 hd) _ _ ky kx q)
theorem rch_rl {To : List Int} {E : List EdT} (hd : To.Nodup) (hE : ∀ e ∈ E, 0 ≤ e.2.1 ∧ e.2.1 < (To.length : Int)) : ∀ (W : List Int), (∀ x ∈ W, 0 ≤ x ∧ x < (To.length : Int)) → ∀ p q : Int, Rch (rlEs To E) (W.map (toF To)) p q ↔ Rch E W p q
  | [], _, _, _ => Iff.rfl
  | y :: W, hW, p, q => by
    have ih := rch_rl hd hE W fun x hx => hW x (List.mem_cons_of_mem _ hx)
    have hy := hW y (by simp)
    rw [List.map_cons]
    constructor
    · rintro ⟨r, h1, h2⟩
      obtain ⟨e, he, h3⟩ := List.mem_map.1 h1
      obtain ⟨x0, x1, x2⟩ := e
      simp only [rlE, Prod.mk.injEq] at h3
      have hx := hE _ he
      simp only at hx
      have := toF_inj hd hx.1 hx.2 hy.1 hy.2 h3.2.1
      refine ⟨r, ?_, (ih r q).1 h2⟩
      rw [← h3.1, ← h3.2.2, ← this]
      exact he
    · rintro ⟨r, h1, h2⟩
      exact ⟨r, List.mem_map.2 ⟨_, h1, rfl⟩, (ih r q).2 h2⟩
theorem may_rl {n m k : Int} {St Fi To : List Int} {Ed : List EdT} (h : mayA n m St Fi Ed = true) (hk : 0 ≤ k ∧ k ≤ 128) (hl : (To.length : Int) = m) (ht : ∀ x ∈ To, 0 ≤ x ∧ x < k) : mayA n k (riseL St) (riseL Fi) (riseE (rlEs To Ed)) = true := by
  obtain ⟨h1, h2, h3, _, _, h6⟩ := may_parts h
  obtain ⟨h4, h5⟩ := may_st h
  refine may_of h1 hk (Nat.le_trans (riseE_len _) (by unfold rlEs; rw [List.length_map]; exact h3)) (fun x hx => h4 x ((riseL_iff St x).1 hx)) (fun x hx => h5 x ((riseL_iff Fi x).1 hx)) (fun e he => ?_)
  obtain ⟨x, hx, rfl⟩ := List.mem_map.1 ((riseE_iff _ e).1 he)
  have q := h6 x hx
  exact ⟨q.1, ht _ (toF_at q.2.1.1 (by omega)).1, q.2.2⟩
theorem tk_widen {n m k : Int} {St Fi To : List Int} {Ed : List EdT} (h : mayA n m St Fi Ed = true) (hk : 0 ≤ k ∧ k ≤ 128) (hl : (To.length : Int) = m) (ht : ∀ x ∈ To, 0 ≤ x ∧ x < k) (hd : To.Nodup) {Wd : List Int} (hW : ∀ x ∈ Wd, 0 ≤ x ∧ x < (To.length : Int)) :
    tkB n k (riseL St) (riseL Fi) (riseE (rlEs To Ed)) (Wd.map (toF To)) = tkB n m St Fi Ed Wd := by
  have hh := (may_parts h).2.2.2.2.2
  have R := rch_rl (E := Ed) hd (fun e he => by have := hh e he; omega) Wd hW
  rw [Bool.eq_iff_iff, tkB_iff, tkB_iff]
  have w1 : (Wd.map (toF To)).all (inB k) = true := List.all_eq_true.2 fun x hx => by
    obtain ⟨y, hy, rfl⟩ := List.mem_map.1 hx
    exact inB_iff.2 (ht _ (toF_at (hW y hy).1 (hW y hy).2).1)
  have w2 : Wd.all (inB m) = true := List.all_eq_true.2 fun x hx => inB_iff.2 (by have := hW x hx; omega)
  rw [h, may_rl h hk hl ht, w1, w2]
  refine and_congr Iff.rfl (and_congr Iff.rfl ?_)
  constructor
  · rintro ⟨p, hp, q, hq, hR⟩
    exact ⟨p, (riseL_iff _ _).1 hp, q, (riseL_iff _ _).1 hq, (R p q).1 ((rch_same (riseE_iff _) _ p q).1 hR)⟩
  · rintro ⟨p, hp, q, hq, hR⟩
    exact ⟨p, (riseL_iff _ _).2 hp, q, (riseL_iff _ _).2 hq, (rch_same (riseE_iff _) _ p q).2 ((R p q).2 hR)⟩
theorem rch_syms {To : List Int} {E : List EdT} (hE : ∀ e ∈ E, 0 ≤ e.2.1 ∧ e.2.1 < (To.length : Int)) : ∀ (W : List Int) (p q : Int), Rch (rlEs To E) W p q → ∀ x ∈ W, x ∈ To
  | [], _, _, _, _, hx => by simp at hx
  | y :: W, p, q, ⟨r, h1, h2⟩, x, hx => by
    rcases List.mem_cons.1 hx with hx | hx
    · subst hx
      obtain ⟨e, he, h3⟩ := List.mem_map.1 h1
      obtain ⟨x0, x1, x2⟩ := e
      simp only [rlE, Prod.mk.injEq] at h3
      have q := hE _ he
      simp only at q
      rw [← h3.2.1]
      exact (toF_at q.1 q.2).1
    · exact rch_syms hE W r q h2 x hx
theorem tk_strange {n m k : Int} {St Fi To : List Int} {Ed : List EdT} (h : mayA n m St Fi Ed = true) (hl : (To.length : Int) = m) {Wd : List Int} (hT : tkB n k (riseL St) (riseL Fi) (riseE (rlEs To Ed)) Wd = true) : ∀ x ∈ Wd, x ∈ To := by
  obtain ⟨_, _, p, _, q, _, hR⟩ := tkB_iff.1 hT
  have hh := (may_parts h).2.2.2.2.2
  exact rch_syms (fun e he => by have := hh e he; omega) Wd p q ((rch_same (riseE_iff _) _ p q).1 hR)
/-- As many numbers as places: none twice. -/
theorem sub_len : ∀ (B A : List Nat), A.Nodup → (∀ x ∈ A, x ∈ B) → A.length ≤ B.length
  | [], A, _, h => by
    cases A with
    | nil => simp
    | cons a A => exact absurd (h a (by simp)) (by simp)
  | b :: B, A, hn, h => by
    have h1 : (A.erase b).length ≤ B.length := sub_len B (A.erase b) (hn.erase b) fun x hx => by
      have q := (List.Nodup.mem_erase_iff hn).1 hx
      rcases List.mem_cons.1 (h x q.2) with r | r
      · exact absurd r q.1
      · exact r
    have := List.length_erase (a := b) (l := A)
    simp only [List.length_cons]
    split at this <;> omega
theorem nodup_of_len : ∀ (B A : List Nat), A.Nodup → (∀ x ∈ A, x ∈ B) → B.length ≤ A.length → B.Nodup
  | [], _, _, _, _ => List.nodup_nil
  | b :: B, A, hn, h, hl => by
    have hb : b ∉ B := fun hb => by
      have := sub_len B A hn fun x hx => by
        rcases List.mem_cons.1 (h x hx) with r | r
        · rw [r]; exact hb
        · exact r
      simp only [List.length_cons] at hl
      omega
    refine List.nodup_cons.2 ⟨hb, nodup_of_len B (A.erase b) (hn.erase b) (fun x hx => ?_) ?_⟩
    · have q := (List.Nodup.mem_erase_iff hn).1 hx
      rcases List.mem_cons.1 (h x q.2) with r | r
      · exact absurd r q.1
      · exact r
    · have := List.length_erase (a := b) (l := A)
      simp only [List.length_cons] at hl
      split at this <;> omega
theorem elems_nodup (n X : Nat) : (elems n X).Nodup := (elems_sorted n X).imp fun h => Nat.ne_of_lt h
theorem to_nodup {k : Nat} {To : List Int} (hl : To.length ≤ (elems k (setI k To)).length) : To.Nodup := by
  have h := nodup_of_len (To.map Int.toNat) (elems k (setI k To)) (elems_nodup _ _) (fun x hx => by
    obtain ⟨_, h2⟩ := mem_elems.1 hx
    obtain ⟨i, hi, _, e⟩ := (setI_test k x To).1 h2
    exact List.mem_map.2 ⟨i, hi, e⟩) (by rw [List.length_map]; exact hl)
  have := List.pairwise_map.1 h
  exact this.imp fun {a b} hab e => hab (by rw [e])
theorem to_count {k : Nat} {To : List Int} (ht : ∀ x ∈ To, 0 ≤ x ∧ x < (k : Int)) (hd : To.Nodup) : To.length ≤ (elems k (setI k To)).length := by
  have hn : (To.map Int.toNat).Nodup := by
    refine List.pairwise_map.2 (List.Pairwise.imp_of_mem (fun {a b} ha hb hab e => hab ?_) hd)
    have := ht a ha
    have := ht b hb
    omega
  have := sub_len (elems k (setI k To)) (To.map Int.toNat) hn fun x hx => by
    obtain ⟨i, hi, rfl⟩ := List.mem_map.1 hx
    have := ht i hi
    exact mem_elems.2 ⟨by omega, (setI_test k _ To).2 ⟨i, hi, this, rfl⟩⟩
  rw [List.length_map] at this
  exact this
end Go.Proofs.YtfoahpideglghaaGreatDoor
