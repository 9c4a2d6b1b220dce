import Derived.Test.YtfoahpideglghaaGreatDoorPn
import Derived.Test.YtfoahpideglghaaGreatDoorTu
namespace Go.Proofs.YtfoahpideglghaaGreatDoor
open Go.RowKit Go.Maps Go.Shelf

/-! ### Numbers in order, each once -/
theorem cpL_ss {zs : List Int} (hs : zs.Pairwise (· ≤ ·)) : (Lib.compact zs).Pairwise (· < ·) := by
  have key : ∀ m, m ≤ zs.length → (Lib.compactUpTo zs.toArray m).Pairwise (· < ·) ∧ (∀ x ∈ Lib.compactUpTo zs.toArray m, ∃ j, j < m ∧ ∃ h : j < zs.length, x = zs[j]) := by
    intro m
    induction m with
    | zero => intro _; exact ⟨by simp [Lib.compactUpTo], fun x hx => by simp [Lib.compactUpTo] at hx⟩
    | succ m ih =>
      intro hm
      obtain ⟨k1, k2⟩ := ih (by omega)
      rw [Lib.compactUpTo_succ]
      by_cases hk : Lib.keeps zs.toArray m = true
      · rw [if_pos hk]
        have hm' : m < zs.length := by omega
        have em : zs.toArray[m]! = zs[m] := by simp [hm']
        refine ⟨?_, fun x hx => ?_⟩
        · rw [List.pairwise_append]
          refine ⟨k1, by simp, fun x hx y hy => ?_⟩
          rw [List.mem_singleton.1 hy, em]
          obtain ⟨j, hj, hjl, rfl⟩ := k2 x hx
          unfold Lib.keeps at hk
          rw [decide_eq_true_eq] at hk
          have hm0 : m ≠ 0 := by omega
          have hk2 := hk.resolve_left hm0
          have e1 : zs.toArray[m - 1]! = zs[m - 1] := by simp [show m - 1 < zs.length by omega]
          rw [em, e1] at hk2
          have l1 : zs[m - 1] ≤ zs[m] := (List.pairwise_iff_getElem.1 hs) (m - 1) m (by omega) hm' (by omega)
          rcases Nat.lt_or_ge j (m - 1) with q | q
          · have l2 : zs[j] ≤ zs[m - 1] := (List.pairwise_iff_getElem.1 hs) j (m - 1) hjl (by omega) q
            omega
          · have : j = m - 1 := by omega
            subst this; omega
        · rcases List.mem_append.1 hx with hx | hx
          · obtain ⟨j, hj, q⟩ := k2 x hx
            exact ⟨j, by omega, q⟩
          · rw [List.mem_singleton.1 hx]; exact ⟨m, by omega, hm', em⟩
      · rw [if_neg hk, List.append_nil]
        exact ⟨k1, fun x hx => by obtain ⟨j, hj, q⟩ := k2 x hx; exact ⟨j, by omega, q⟩⟩
  exact (key zs.length (Nat.le_refl _)).1
theorem sortI_up (L : List Int) : (sortI L).Pairwise (· ≤ ·) := by
  have hp : (sortI L).Pairwise fun a b => decide (a ≤ b) = true := List.pairwise_mergeSort (le := fun x y : Int => decide (x ≤ y)) (fun a b c h1 h2 => by
    simp only [decide_eq_true_eq] at *
    omega) (fun a b => by
    simp only [Bool.or_eq_true, decide_eq_true_eq]
    omega) L
  exact hp.imp fun q => by simpa using q
theorem riseL_ss (L : List Int) : (riseL L).Pairwise (· < ·) := cpL_ss (sortI_up L)
theorem ssL_eq : ∀ (A B : List Int), A.Pairwise (· < ·) → B.Pairwise (· < ·) → (∀ x, x ∈ A ↔ x ∈ B) → A = B
  | [], [], _, _, _ => rfl
  | [], b :: B, _, _, h => absurd ((h b).2 (by simp)) (by simp)
  | a :: A, [], _, _, h => absurd ((h a).1 (by simp)) (by simp)
  | a :: A, b :: B, hA, hB, h => by
    rw [List.pairwise_cons] at hA hB
    have e : a = b := by
      rcases List.mem_cons.1 ((h a).1 (by simp)) with q | q
      · exact q
      · rcases List.mem_cons.1 ((h b).2 (by simp)) with r | r
        · exact r.symm
        · have := hB.1 a q; have := hA.1 b r; omega
    subst e
    congr 1
    refine ssL_eq A B hA.2 hB.2 fun x => ⟨fun q => ?_, fun q => ?_⟩
    · rcases List.mem_cons.1 ((h x).1 (by simp [q])) with r | r
      · subst r; have := hA.1 x q; omega
      · exact r
    · rcases List.mem_cons.1 ((h x).2 (by simp [q])) with r | r
      · subst r; have := hB.1 x q; omega
      · exact r
theorem riseE_same {A B : List EdT} (h : ∀ x, x ∈ A ↔ x ∈ B) : riseE A = riseE B := ss_eq _ _ (riseE_ss A) (riseE_ss B) fun x => by rw [riseE_iff, riseE_iff, h]
theorem mem_turnE {L : List EdT} {e : EdT} : e ∈ turnE L ↔ tE e ∈ L := by
  unfold turnE
  constructor
  · intro h
    obtain ⟨x, hx, rfl⟩ := List.mem_map.1 h
    exact hx
  · intro h
    exact List.mem_map.2 ⟨tE e, h, rfl⟩
/-! ### Which words are taken -/
theorem may_of {n m : Int} {St Fi : List Int} {Ed : List EdT} (h1 : 0 ≤ n ∧ n ≤ 4096) (h2 : 0 ≤ m ∧ m ≤ 128) (h3 : Ed.length ≤ 65536) (h4 : ∀ x ∈ St, 0 ≤ x ∧ x < n) (h5 : ∀ x ∈ Fi, 0 ≤ x ∧ x < n) (h6 : ∀ e ∈ Ed, (0 ≤ e.1 ∧ e.1 < n) ∧ (0 ≤ e.2.1 ∧ e.2.1 < m) ∧ 0 ≤ e.2.2 ∧ e.2.2 < n) : mayA n m St Fi Ed = true := by
  unfold mayA
  simp only [Bool.and_eq_true, List.all_eq_true, decide_eq_true_eq]
  refine ⟨⟨⟨⟨⟨inB_iff.2 (by omega), inB_iff.2 (by omega)⟩, h3⟩, fun x hx => inB_iff.2 (h4 x hx)⟩, fun x hx => inB_iff.2 (h5 x hx)⟩, fun e he => ?_⟩
  obtain ⟨q1, q2, q3⟩ := h6 e he
  unfold edOk
  rw [inB_iff.2 q1, inB_iff.2 q2, inB_iff.2 q3]
  rfl
theorem may_st {n m : Int} {St Fi : List Int} {Ed : List EdT} (h : mayA n m St Fi Ed = true) : (∀ x ∈ St, 0 ≤ x ∧ x < n) ∧ (∀ x ∈ Fi, 0 ≤ x ∧ x < n) := by
  obtain ⟨_, _, _, h4, h5, _⟩ := may_parts h
  exact ⟨fun x hx => inB_iff.1 (List.all_eq_true.1 h4 x hx), fun x hx => inB_iff.1 (List.all_eq_true.1 h5 x hx)⟩
open Classical in
open Classical in
/-- In order, each once: the same words. -/
theorem may_rise {n m : Int} {St Fi : List Int} {Ed : List EdT} (h : mayA n m St Fi Ed = true) : mayA n m (riseL St) (riseL Fi) (riseE Ed) = true := by
  obtain ⟨h1, h2, h3, _, _, h6⟩ := may_parts h
  obtain ⟨h4, h5⟩ := may_st h
  exact may_of h1 h2 (Nat.le_trans (riseE_len Ed) h3) (fun x hx => h4 x ((riseL_iff St x).1 hx)) (fun x hx => h5 x ((riseL_iff Fi x).1 hx)) (fun e he => h6 e ((riseE_iff Ed e).1 he))
/-- Two beside each other. -/
def shL (k : Int) (L : List Int) : List Int := L.map (· + k)
def shE (k : Int) (e : EdT) : EdT := (e.1 + k, e.2.1, e.2.2 + k)
def shEs (k : Int) (L : List EdT) : List EdT := L.map (shE k)
/-- Other symbols. -/
def toF (To : List Int) (x : Int) : Int := To[x.toNat]?.getD 0
def rlE (To : List Int) (e : EdT) : EdT := (e.1, toF To e.2.1, e.2.2)
def rlEs (To : List Int) (L : List EdT) : List EdT := L.map (rlE To)
theorem toF_at {To : List Int} {x : Int} (h0 : 0 ≤ x) (h : x < (To.length : Int)) : toF To x ∈ To ∧ ∃ hx : x.toNat < To.length, toF To x = To[x.toNat] := by
  have hx : x.toNat < To.length := by omega
  unfold toF
  rw [List.getElem?_eq_getElem hx]
  exact ⟨List.getElem_mem hx, hx, rfl⟩
/-- As many numbers as places: none twice. -/
theorem sub_len : ∀ (B A : List Nat), A.Nodup → (∀ x ∈ A, x ∈ B) → A.length ≤ B.length
  | [], A, _, h => by
    cases A with
    | nil => simp
    | cons a A => exact absurd (h a (by simp)) (by simp)
  | b :: B, A, hn, h => by
    have h1 : (A.erase b).length ≤ B.length := sub_len B (A.erase b) (hn.erase b) fun x hx => by
      have q := (List.Nodup.mem_erase_iff hn).1 hx
      rcases List.mem_cons.1 (h x q.2) with r | r
      · exact absurd r q.1
      · exact r
    have := List.length_erase (a := b) (l := A)
    simp only [List.length_cons]
    split at this <;> omega
theorem nodup_of_len : ∀ (B A : List Nat), A.Nodup → (∀ x ∈ A, x ∈ B) → B.length ≤ A.length → B.Nodup
  | [], _, _, _, _ => List.nodup_nil
  | b :: B, A, hn, h, hl => by
    have hb : b ∉ B := fun hb => by
      have := sub_len B A hn fun x hx => by
        rcases List.mem_cons.1 (h x hx) with r | r
        · rw [r]; exact hb
        · exact r
      simp only [List.length_cons] at hl
      omega
    refine List.nodup_cons.2 ⟨hb, nodup_of_len B (A.erase b) (hn.erase b) (fun x hx => ?_) ?_⟩
    · have q := (List.Nodup.mem_erase_iff hn).1 hx
      rcases List.mem_cons.1 (h x q.2) with r | r
      · exact absurd r q.1
      · exact r
    · have := List.length_erase (a := b) (l := A)
      simp only [List.length_cons] at hl
      split at this <;> omega
theorem elems_nodup (n X : Nat) : (elems n X).Nodup := (elems_sorted n X).imp fun h => Nat.ne_of_lt h
theorem to_nodup {k : Nat} {To : List Int} (hl : To.length ≤ (elems k (setI k To)).length) : To.Nodup := by
  have h := nodup_of_len (To.map Int.toNat) (elems k (setI k To)) (elems_nodup _ _) (fun x hx => by
    obtain ⟨_, h2⟩ := mem_elems.1 hx
    obtain ⟨i, hi, _, e⟩ := (setI_test k x To).1 h2
    exact List.mem_map.2 ⟨i, hi, e⟩) (by rw [List.length_map]; exact hl)
  have := List.pairwise_map.1 h
  exact this.imp fun {a b} hab e => hab (by rw [e])
theorem to_count {k : Nat} {To : List Int} (ht : ∀ x ∈ To, 0 ≤ x ∧ x < (k : Int)) (hd : To.Nodup) : To.length ≤ (elems k (setI k To)).length := by
  have hn : (To.map Int.toNat).Nodup := by
    refine List.pairwise_map.2 (List.Pairwise.imp_of_mem (fun {a b} ha hb hab e => hab ?_) hd)
    have := ht a ha
    have := ht b hb
    omega
  have := sub_len (elems k (setI k To)) (To.map Int.toNat) hn fun x hx => by
    obtain ⟨i, hi, rfl⟩ := List.mem_map.1 hx
    have := ht i hi
    exact mem_elems.2 ⟨by omega, (setI_test k _ To).2 ⟨i, hi, this, rfl⟩⟩
  rw [List.length_map] at this
  exact this
end Go.Proofs.YtfoahpideglghaaGreatDoor
