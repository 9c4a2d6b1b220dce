import Derived.Test.YtojnlpicgemlaaaDoorIN
import Derived.Test.YtojnlpicgemlaaaDoorIT
namespace Go.Proofs.YtojnlpicgemlaaaDoor
open Go.RowKit Go.Maps

/-! ### Edges in order, each once -/
def SsE (l : List EdT) : Prop := l.Pairwise fun a b => ltE a b = true
theorem ltE_ir (x : EdT) : ltE x x = false := swoE.irrefl x
theorem ltE_as {x y : EdT} (h : ltE x y = true) (k : ltE y x = true) : False := by rw [ltE_iff] at h k; omega
theorem ss_eq : ∀ (A B : List EdT), SsE A → SsE B → (∀ x, x ∈ A ↔ x ∈ B) → A = B
  | [], [], _, _, _ => rfl
  | [], b :: B, _, _, h => absurd ((h b).2 (by simp)) (by simp)
  | a :: A, [], _, _, h => absurd ((h a).1 (by simp)) (by simp)
  | a :: A, b :: B, hA, hB, h => by
    unfold SsE at hA hB
    rw [List.pairwise_cons] at hA hB
    have e : a = b := by
      rcases List.mem_cons.1 ((h a).1 (by simp)) with q | q
      · exact q
      · rcases List.mem_cons.1 ((h b).2 (by simp)) with r | r
        · exact r.symm
        · exact (ltE_as (hB.1 a q) (hA.1 b r)).elim
    subst e
    congr 1
    refine ss_eq A B hA.2 hB.2 fun x => ⟨fun q => ?_, fun q => ?_⟩
    · rcases List.mem_cons.1 ((h x).1 (by simp [q])) with r | r
      · subst r; have := hA.1 x q; rw [ltE_ir] at this; cases this
      · exact r
    · rcases List.mem_cons.1 ((h x).2 (by simp [q])) with r | r
      · subst r; have := hB.1 x q; rw [ltE_ir] at this; cases this
      · exact r
theorem cp_mem {α : Type} [Inhabited α] [DecidableEq α] {zs : List α} {x : α} (h : x ∈ Lib.compact zs) : x ∈ zs := by
  unfold Lib.compact Lib.compactUpTo at h
  obtain ⟨j, hj, rfl⟩ := List.mem_map.1 h
  have hj' := List.mem_range.1 (List.mem_filter.1 hj).1
  rw [getElem!_pos _ j (by simpa using hj')]
  simp
theorem cp_has {α : Type} [Inhabited α] [DecidableEq α] {zs : List α} : ∀ (j : Nat) (h : j < zs.length), zs[j] ∈ Lib.compact zs
  | 0, h => by
    unfold Lib.compact Lib.compactUpTo
    refine List.mem_map.2 ⟨0, List.mem_filter.2 ⟨List.mem_range.2 h, by simp [Lib.keeps]⟩, ?_⟩
    simp [h]
  | j + 1, h => by
    by_cases e : zs[j + 1] = zs[j]
    · rw [e]; exact cp_has j (by omega)
    · unfold Lib.compact Lib.compactUpTo
      refine List.mem_map.2 ⟨j + 1, List.mem_filter.2 ⟨List.mem_range.2 h, ?_⟩, ?_⟩
      · unfold Lib.keeps
        rw [decide_eq_true_eq]
        right
        rw [getElem!_pos _ (j + 1) (by simpa using h), getElem!_pos _ (j + 1 - 1) (by simp; omega)]
        simpa using e
      · simp [h]
theorem cpE_ss {zs : List EdT} (hs : zs.Pairwise fun a b => ltE b a = false) : SsE (Lib.compact zs) := by
  have key : ∀ m, m ≤ zs.length → (Lib.compactUpTo zs.toArray m).Pairwise (fun a b => ltE a b = true) ∧ (∀ x ∈ Lib.compactUpTo zs.toArray m, ∃ j, j < m ∧ ∃ h : j < zs.length, x = zs[j]) := by
    intro m
    induction m with
    | zero => intro _; exact ⟨by simp [Lib.compactUpTo], fun x hx => by simp [Lib.compactUpTo] at hx⟩
    | succ m ih =>
      intro hm
      obtain ⟨k1, k2⟩ := ih (by omega)
      rw [Lib.compactUpTo_succ]
      by_cases hk : Lib.keeps zs.toArray m = true
      · rw [if_pos hk]
        have hm' : m < zs.length := by omega
        have em : zs.toArray[m]! = zs[m] := by simp [hm']
        refine ⟨?_, fun x hx => ?_⟩
        · rw [List.pairwise_append]
          refine ⟨k1, by simp, fun x hx y hy => ?_⟩
          rw [List.mem_singleton.1 hy, em]
          obtain ⟨j, hj, hjl, rfl⟩ := k2 x hx
          unfold Lib.keeps at hk
          rw [decide_eq_true_eq] at hk
          have hm0 : m ≠ 0 := by omega
          have hk2 := hk.resolve_left hm0
          have e1 : zs.toArray[m - 1]! = zs[m - 1] := by simp [show m - 1 < zs.length by omega]
          rw [em, e1] at hk2
          have l1 : ltE zs[m] zs[m - 1] = false := (List.pairwise_iff_getElem.1 hs) (m - 1) m (by omega) hm' (by omega)
          have l3 : ltE zs[m - 1] zs[m] = true := by
            cases q : ltE zs[m - 1] zs[m]
            · exact absurd (totE _ _ l1 q) hk2
            · rfl
          rcases Nat.lt_or_ge j (m - 1) with q | q
          · have l2 : ltE zs[m - 1] zs[j] = false := (List.pairwise_iff_getElem.1 hs) j (m - 1) hjl (by omega) q
            rw [ltE_iff] at l3 ⊢
            rw [ltE_not] at l2
            omega
          · have : j = m - 1 := by omega
            subst this; exact l3
        · rcases List.mem_append.1 hx with hx | hx
          · obtain ⟨j, hj, q⟩ := k2 x hx
            exact ⟨j, by omega, q⟩
          · rw [List.mem_singleton.1 hx]; exact ⟨m, by omega, hm', em⟩
      · rw [if_neg hk, List.append_nil]
        exact ⟨k1, fun x hx => by obtain ⟨j, hj, q⟩ := k2 x hx; exact ⟨j, by omega, q⟩⟩
  exact (key zs.length (Nat.le_refl _)).1
theorem sortE_up (L : List EdT) : (sortE L).Pairwise fun a b => ltE b a = false := by
  have hp : (sortE L).Pairwise fun a b => (!ltE b a) = true := List.pairwise_mergeSort (le := fun x y => !ltE y x) (fun a b c h1 h2 => by
    simp only [Bool.not_eq_true', ltE_not] at *
    omega) (fun a b => by
    cases h1 : ltE b a
    · simp
    · cases h2 : ltE a b
      · simp
      · exact (ltE_as h1 h2).elim) L
  exact hp.imp fun q => by simpa using q
theorem riseE_ss (L : List EdT) : SsE (riseE L) := cpE_ss (sortE_up L)
theorem riseE_iff (L : List EdT) (x : EdT) : x ∈ riseE L ↔ x ∈ L := by
  constructor
  · intro h
    have := cp_mem h
    unfold sortE at this
    exact List.mem_mergeSort.1 this
  · intro h
    have h' : x ∈ sortE L := by unfold sortE; exact List.mem_mergeSort.2 h
    obtain ⟨j, hj, rfl⟩ := List.getElem_of_mem h'
    exact cp_has j hj
theorem riseE_len (L : List EdT) : (riseE L).length ≤ L.length := Nat.le_trans (compact_len _) (Nat.le_of_eq (sortE_len L))
theorem riseL_iff (L : List Int) (x : Int) : x ∈ riseL L ↔ x ∈ L := by
  constructor
  · intro h
    have := cp_mem h
    unfold sortI at this
    exact List.mem_mergeSort.1 this
  · intro h
    have h' : x ∈ sortI L := by unfold sortI; exact List.mem_mergeSort.2 h
    obtain ⟨j, hj, rfl⟩ := List.getElem_of_mem h'
    exact cp_has j hj
theorem riseL_len (L : List Int) : (riseL L).length ≤ L.length := Nat.le_trans (compact_len _) (Nat.le_of_eq (sortI_len L))

/-! ### The edges from a state by a symbol -/
end Go.Proofs.YtojnlpicgemlaaaDoor
namespace Go.Proofs.YtojnlpicgemlaaaDoor
open Go.RowKit Go.Maps Go.Shelf

/-! ### Images and the other way round -/
end Go.Proofs.YtojnlpicgemlaaaDoor
