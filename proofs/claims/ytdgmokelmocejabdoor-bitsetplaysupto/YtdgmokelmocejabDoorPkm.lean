import Derived.Test.YtdgmokelmocejabDoorRfrom2
namespace Go.Proofs.YtdgmokelmocejabDoor
open Go.RowKit

theorem range_split (n m : Nat) (h : m < n) : List.range n = List.range m ++ m :: List.range' (m + 1) (n - m - 1) := by
  have e : n = m + ((n - m - 1) + 1) := by omega
  have e2 : List.range' m ((n - m - 1) + 1) = m :: List.range' (m + 1) (n - m - 1) := by simp [List.range'_succ]
  rw [← e2, List.range_eq_range', List.range_eq_range']
  have := List.range'_append_1 (s := 0) (m := m) (n := (n - m - 1) + 1)
  rw [Nat.zero_add] at this
  rw [this, ← e]
theorem elems_split (n X m : Nat) (h : m < n) : elems n X = elems m X ++ ((if X.testBit m then [m] else []) ++ (List.range' (m + 1) (n - m - 1)).filter (fun i => X.testBit i)) := by
  unfold elems
  rw [range_split n m h, List.filter_append, List.filter_cons]
  by_cases hb : X.testBit m = true
  · simp [hb]
  · simp [hb]
/-- The place of m in the list of X: it stands there, or another does, or the list is at its end. -/
theorem pk_case (n X m : Nat) (h : m < n) :
    (X.testBit m = true ∧ (elems m X).length < (elems n X).length ∧ (elems n X).getD (elems m X).length 0 = m) ∨
    (X.testBit m = false ∧ (elems m X).length < (elems n X).length ∧ (elems n X).getD (elems m X).length 0 ≠ m) ∨
    (X.testBit m = false ∧ ¬ (elems m X).length < (elems n X).length) := by
  have e := elems_split n X m h
  by_cases hb : X.testBit m = true
  · left
    rw [if_pos hb] at e
    refine ⟨hb, by rw [e]; simp, ?_⟩
    rw [e, List.getD_eq_getElem?_getD, List.getElem?_append_right (Nat.le_refl _)]
    simp
  · right
    have hb2 : X.testBit m = false := by simpa using hb
    rw [if_neg hb, List.nil_append] at e
    by_cases hl : (elems m X).length < (elems n X).length
    · left
      refine ⟨hb2, hl, ?_⟩
      have hl2 : 0 < ((List.range' (m + 1) (n - m - 1)).filter (fun i => X.testBit i)).length := by rw [e, List.length_append] at hl; omega
      rw [e, List.getD_eq_getElem?_getD, List.getElem?_append_right (Nat.le_refl _), Nat.sub_self, List.getElem?_eq_getElem hl2, Option.getD_some]
      have hm := List.getElem_mem hl2
      rw [List.mem_filter, List.mem_range'_1] at hm
      omega
    · exact .inr ⟨hb2, hl⟩
/-- The numbers below m of which the table says yes. -/
def pickL (f : Bool → Bool → Bool) (X Y m : Nat) : List Nat := (List.range m).filter (fun i => f (X.testBit i) (Y.testBit i))
theorem pickL_one (f : Bool → Bool → Bool) (X Y m : Nat) : pickL f X Y (m + 1) = pickL f X Y m ++ if f (X.testBit m) (Y.testBit m) = true then [m] else [] := by
  unfold pickL
  rw [List.range_succ, List.filter_append]
  congr 1
  by_cases h : f (X.testBit m) (Y.testBit m) = true <;> simp [h]
theorem pickL_len (f : Bool → Bool → Bool) (X Y m : Nat) : (pickL f X Y m).length ≤ m := by
  unfold pickL
  have := List.length_filter_le (fun i => f (X.testBit i) (Y.testBit i)) (List.range m)
  rwa [List.length_range] at this
def tabF (y0 y1 y2 y3 : Bool) (p q : Bool) : Bool := if q then (if p then y3 else y2) else (if p then y1 else y0)
theorem pick_or (X Y n : Nat) : pickL (tabF false true true true) X Y n = elems n (X ||| Y) := by
  unfold pickL elems
  congr 1
  funext i
  rw [Nat.testBit_or]
  cases X.testBit i <;> cases Y.testBit i <;> rfl
theorem pick_and (X Y n : Nat) : pickL (tabF false false false true) X Y n = elems n (X &&& Y) := by
  unfold pickL elems
  congr 1
  funext i
  rw [Nat.testBit_and]
  cases X.testBit i <;> cases Y.testBit i <;> rfl
end Go.Proofs.YtdgmokelmocejabDoor
