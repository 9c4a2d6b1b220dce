import Derived.Test.YtojnlpicgemlaabGreatDoorIN
import Derived.Test.YtojnlpicgemlaabGreatDoorIT
namespace Go.Proofs.YtojnlpicgemlaabGreatDoor
open Go.RowKit Go.Maps

/-! ### Edges in order, each once -/
theorem cp_mem {α : Type} [Inhabited α] [DecidableEq α] {zs : List α} {x : α} (h : x ∈ Lib.compact zs) : x ∈ zs := by
  unfold Lib.compact Lib.compactUpTo at h
  obtain ⟨j, hj, rfl⟩ := List.mem_map.1 h
  have hj' := List.mem_range.1 (List.mem_filter.1 hj).1
  rw [getElem!_pos _ j (by simpa using hj')]
  simp
theorem cp_has {α : Type} [Inhabited α] [DecidableEq α] {zs : List α} : ∀ (j : Nat) (h : j < zs.length), zs[j] ∈ Lib.compact zs
  | 0, h => by
    unfold Lib.compact Lib.compactUpTo
    refine List.mem_map.2 ⟨0, List.mem_filter.2 ⟨List.mem_range.2 h, by simp [Lib.keeps]⟩, ?_⟩
    simp [h]
  | j + 1, h => by
    by_cases e : zs[j + 1] = zs[j]
    · rw [e]; exact cp_has j (by omega)
    · unfold Lib.compact Lib.compactUpTo
      refine List.mem_map.2 ⟨j + 1, List.mem_filter.2 ⟨List.mem_range.2 h, ?_⟩, ?_⟩
      · unfold Lib.keeps
        rw [decide_eq_true_eq]
        right
        rw [getElem!_pos _ (j + 1) (by simpa using h), getElem!_pos _ (j + 1 - 1) (by simp; omega)]
        simpa using e
      · simp [h]
theorem riseE_iff (L : List EdT) (x : EdT) : x ∈ riseE L ↔ x ∈ L := by
  constructor
  · intro h
    have := cp_mem h
    unfold sortE at this
    exact List.mem_mergeSort.1 this
  · intro h
    have h' : x ∈ sortE L := by unfold sortE; exact List.mem_mergeSort.2 h
    obtain ⟨j, hj, rfl⟩ := List.getElem_of_mem h'
    exact cp_has j hj
theorem riseE_len (L : List EdT) : (riseE L).length ≤ L.length := Nat.le_trans (compact_len _) (Nat.le_of_eq (sortE_len L))
theorem riseL_iff (L : List Int) (x : Int) : x ∈ riseL L ↔ x ∈ L := by
  constructor
  · intro h
    have := cp_mem h
    unfold sortI at this
    exact List.mem_mergeSort.1 this
  · intro h
    have h' : x ∈ sortI L := by unfold sortI; exact List.mem_mergeSort.2 h
    obtain ⟨j, hj, rfl⟩ := List.getElem_of_mem h'
    exact cp_has j hj
theorem riseL_len (L : List Int) : (riseL L).length ≤ L.length := Nat.le_trans (compact_len _) (Nat.le_of_eq (sortI_len L))

/-! ### The edges from a state by a symbol -/
end Go.Proofs.YtojnlpicgemlaabGreatDoor
namespace Go.Proofs.YtojnlpicgemlaabGreatDoor
open Go.RowKit Go.Maps Go.Shelf

/-! ### Images and the other way round -/
theorem setI_test (n : Nat) (q : Nat) (L : List Int) : (setI n L).testBit q = true ↔ ∃ i ∈ L, (0 ≤ i ∧ i < (n : Int)) ∧ i.toNat = q := by
  have key : ∀ (L : List Int) (X : Nat), (L.foldl (fun X i => if 0 ≤ i ∧ i < (n : Int) then X ||| 2 ^ i.toNat else X) X).testBit q = true ↔ X.testBit q = true ∨ ∃ i ∈ L, (0 ≤ i ∧ i < (n : Int)) ∧ i.toNat = q := by
    intro L
    induction L with
    | nil => intro X; simp
    | cons a L ih =>
      intro X
      rw [List.foldl_cons, ih]
      simp only [List.mem_cons, exists_eq_or_imp]
      by_cases h : 0 ≤ a ∧ a < (n : Int)
      · rw [if_pos h, Nat.testBit_or, Bool.or_eq_true, Nat.testBit_two_pow, decide_eq_true_eq]
        simp only [h, true_and, and_self]
        exact or_assoc
      · rw [if_neg h]
        simp only [h, false_and, false_or]
  unfold setI
  rw [key]
  simp
end Go.Proofs.YtojnlpicgemlaabGreatDoor
