import Derived.Test.YtdgmokelmocejaaDoorIt
namespace Go.Proofs.YtdgmokelmocejaaDoor
open Go.RowKit

theorem elems_bit (i X : Nat) : elems (i + 1) X = elems i X ++ if X.testBit i then [i] else [] := by
  unfold elems
  rw [List.range_succ, List.filter_append]
  cases h : X.testBit i <;> simp [h]
theorem elems_le (X n : Nat) : ∀ i, i ≤ n → elems i X <+: elems n X := by
  intro k hk
  induction n with
  | zero => obtain rfl : k = 0 := by omega
            exact List.prefix_refl _
  | succ m ih =>
    by_cases h : k = m + 1
    · subst h; exact List.prefix_refl _
    · rw [elems_bit]; exact (ih (by omega)).trans (List.prefix_append _ _)
theorem elems_miss {i X : Nat} (h : X.testBit i = false) : (elems (i + 1) X).length = (elems i X).length := by rw [elems_bit, h]; simp
theorem elems_hit {i X : Nat} (h : X.testBit i = true) : (elems (i + 1) X).length = (elems i X).length + 1 := by rw [elems_bit, h]; simp
theorem elems_at {i n X : Nat} (h : X.testBit i = true) (hi : i < n) : (elems i X).length < (elems n X).length ∧ (elems n X).getD (elems i X).length 0 = i := by
  have hp := elems_le X n (i + 1) (by omega)
  rw [elems_bit, h] at hp
  obtain ⟨t, ht⟩ := hp
  rw [← ht]
  simp

theorem next_miss (i : Nat) : ∀ l : List Nat, i ∉ l → nextL l (i : Int) = nextL l ((i : Int) + 1)
  | [], _ => rfl
  | e :: l, h => by
    have h1 : e ≠ i := fun k => h (by simp [k])
    have h2 : i ∉ l := fun k => h (by simp [k])
    unfold nextL
    by_cases hc : (i : Int) ≤ (e : Int)
    · rw [if_pos hc, if_pos (by omega)]
    · rw [if_neg hc, if_neg (by omega), next_miss i l h2]
theorem next_neg : ∀ l : List Nat, nextL l (-5) = nextL l 0
  | [] => rfl
  | e :: l => by unfold nextL; rw [if_pos (by omega), if_pos (by omega)]
theorem next_hit (i : Nat) : ∀ l : List Nat, l.Pairwise (· < ·) → i ∈ l → nextL l (i : Int) = i
  | [], _, h => by cases h
  | e :: l, hs, h => by
    unfold nextL
    rcases List.mem_cons.1 h with rfl | h2
    · rw [if_pos (Int.le_refl _)]
    · have := (List.pairwise_cons.1 hs).1 i h2
      rw [if_neg (by omega)]
      exact next_hit i l (List.pairwise_cons.1 hs).2 h2
theorem next_end (n X : Nat) (i : Int) (h : (n : Int) ≤ i) : nextL (elems n X) i = -1 := nextL_none _ _ fun e he hc => by
  have := (mem_elems.1 he).1
  omega
theorem has_nat (X i : Nat) : hasB X (i : Int) = X.testBit i := by unfold hasB; simp
end Go.Proofs.YtdgmokelmocejaaDoor
