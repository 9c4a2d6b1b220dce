import Derived.Test.YtojnlpicgemlaaaGreatDoorWA
namespace Go.Proofs.YtojnlpicgemlaaaGreatDoor
open Go.RowKit Go.Maps Go.Shelf
attribute [local go_sem] Oper.semAt_some

/-! ### The document's Trim -/
/-- The useful numbers below i; a number's new name. -/
def uL (U : Nat → Bool) (i : Nat) : List Nat := (List.range i).filter U
def uN (U : Nat → Bool) (q : Nat) : Int := if U q = true then ((uL U q).length : Int) else -1
theorem uL_yes {U : Nat → Bool} {i : Nat} (h : U i = true) : uL U (i + 1) = uL U i ++ [i] := by
  unfold uL
  rw [List.range_succ, List.filter_append, List.filter_cons_of_pos h]
  rfl
theorem uL_no {U : Nat → Bool} {i : Nat} (h : U i = false) : uL U (i + 1) = uL U i := by
  unfold uL
  rw [List.range_succ, List.filter_append, List.filter_cons_of_neg (by rw [h]; decide)]
  simp
/-- States renamed, edges renamed. -/
def dL (U : Nat → Bool) (Fr : List Int) : List Int := (Fr.filter fun x => U x.toNat).map fun x => uN U x.toNat
def dE (U : Nat → Bool) (Ed : List EdT) : List EdT := (Ed.filter fun e => U e.1.toNat && U e.2.2.toNat).map fun e => (uN U e.1.toNat, e.2.1, uN U e.2.2.toNat)
theorem dE_len (U : Nat → Bool) (Ed : List EdT) : (dE U Ed).length ≤ Ed.length := by
  unfold dE
  rw [List.length_map]
  exact List.length_filter_le _ _
structure PrS (wz wr : World) (bq k : Nat) (mv : Int) (v : Value) (L : List Int) : Prop where
  box : wr.heap[bq]? = some (.cells #[.int .i64 (k : Int), .int .i64 mv, v, .slice none 0 0, .slice none 0 0] 25 (0, 0))
  row : wr.ownsRow wz.heap.size 3 1 v L.length (L.map (Value.int .i64))
  only : Only wz wr (fun x => x = bq)
structure PrF (wz wr : World) (bq k : Nat) (mv : Int) (v1 v : Value) (L : List Int) : Prop where
  box : wr.heap[bq]? = some (.cells #[.int .i64 (k : Int), .int .i64 mv, v1, v, .slice none 0 0] 25 (0, 0))
  row : wr.ownsRow wz.heap.size 3 1 v L.length (L.map (Value.int .i64))
  only : Only wz wr (fun x => x = bq)
theorem uL_mono (U : Nat → Bool) {i : Nat} : ∀ {j : Nat}, i ≤ j → (uL U i).length ≤ (uL U j).length
  | 0, h => by
    obtain rfl : i = 0 := by omega
    exact Nat.le_refl _
  | j + 1, h => by
    by_cases e : i = j + 1
    · subst e; exact Nat.le_refl _
    · have := uL_mono U (i := i) (j := j) (by omega)
      cases hu : U j
      · rw [uL_no hu]; exact this
      · rw [uL_yes hu, List.length_append]; omega
theorem uN_lt {U : Nat → Bool} {q N : Nat} (hu : U q = true) (hq : q < N) : 0 ≤ uN U q ∧ uN U q < ((uL U N).length : Int) := by
  unfold uN
  rw [if_pos hu]
  have h1 := uL_mono U (i := q + 1) (j := N) (by omega)
  rw [uL_yes hu, List.length_append, List.length_singleton] at h1
  omega
end Go.Proofs.YtojnlpicgemlaaaGreatDoor
