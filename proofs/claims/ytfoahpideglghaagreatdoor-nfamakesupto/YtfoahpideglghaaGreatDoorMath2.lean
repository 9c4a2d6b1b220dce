import Derived.Test.YtfoahpideglghaaGreatDoorMath
namespace Go.Proofs.YtfoahpideglghaaGreatDoor

def nextL : List Nat → Int → Int
  | [], _ => -1
  | e :: l, i => if i ≤ (e : Int) then e else nextL l i

theorem nextL_none (l : List Nat) (i : Int) (h : ∀ e ∈ l, ¬ i ≤ (e : Int)) : nextL l i = -1 := by
  induction l with
  | nil => rfl
  | cons a l ih =>
    unfold nextL
    rw [if_neg (h a (by simp))]
    exact ih fun e he => h e (by simp [he])

theorem nextL_some (l : List Nat) (i : Int) (e : Nat) (hs : l.Pairwise (· < ·)) (he : e ∈ l) (hi : i ≤ (e : Int)) (hm : ∀ e' ∈ l, i ≤ (e' : Int) → e ≤ e') : nextL l i = e := by
  induction l with
  | nil => cases he
  | cons a l ih =>
    unfold nextL
    by_cases h : i ≤ (a : Int)
    · rw [if_pos h]
      have h1 := hm a (by simp) h
      rcases List.mem_cons.1 he with rfl | h2
      · rfl
      · have := (List.pairwise_cons.1 hs).1 e h2
        omega
    · rw [if_neg h]
      rcases List.mem_cons.1 he with rfl | h2
      · exact absurd hi h
      · exact ih (List.pairwise_cons.1 hs).2 h2 fun e' he' => hm e' (by simp [he'])

theorem elems_sorted (n X : Nat) : (elems n X).Pairwise (· < ·) := List.Pairwise.filter _ List.pairwise_lt_range

/-- What Next's loop knows: y holds the bits of word k from j on; below word k nothing from j on. -/
def NInv (X j k y : Nat) : Prop := (∀ t, y.testBit t = (decide (t < 64) && (X.testBit (64 * k + t) && decide (j ≤ 64 * k + t)))) ∧ ∀ e, j ≤ e → e < 64 * k → X.testBit e = false

theorem wordAt_testBit (X k t : Nat) : (wordAt X k).testBit t = (decide (t < 64) && X.testBit (64 * k + t)) := by
  have e : wordAt X k = X / 2 ^ (64 * k) % 2 ^ 64 := rfl
  rw [e, Nat.testBit_mod_two_pow, Nat.testBit_div_two_pow, Nat.add_comm]

theorem ninv_next (X j k y : Nat) (h : NInv X j k y) (hy : y = 0) (hj : j < 64 * (k + 1)) : NInv X j (k + 1) (wordAt X (k + 1)) := by
  subst hy
  refine ⟨fun t => ?_, fun e h1 h2 => ?_⟩
  · rw [wordAt_testBit]
    have : j ≤ 64 * (k + 1) + t := by omega
    simp [this]
  · by_cases h3 : e < 64 * k
    · exact h.2 e h1 h3
    · have := h.1 (e - 64 * k)
      have e1 : 64 * k + (e - 64 * k) = e := by omega
      have e2 : e - 64 * k < 64 := by omega
      rw [e1] at this
      simpa [h1, e2] using this.symm

theorem ninv_end (n X j k y : Nat) (_hX : X < 2 ^ n) (h : NInv X j k y) (hy : y = 0) (hk : n ≤ 64 * (k + 1)) (i : Int) (hi : (j : Int) = max i 0) : nextL (elems n X) i = -1 := by
  subst hy
  apply nextL_none
  intro e he hc
  obtain ⟨h1, h2⟩ := mem_elems.1 he
  have hj : j ≤ e := by omega
  by_cases h3 : e < 64 * k
  · rw [h.2 e hj h3] at h2; cases h2
  · have := h.1 (e - 64 * k)
    have e1 : 64 * k + (e - 64 * k) = e := by omega
    have e2 : e - 64 * k < 64 := by omega
    rw [e1] at this
    simp [hj, e2, h2] at this

theorem ninv_found (n X j k y : Nat) (hX : X < 2 ^ n) (h : NInv X j k y) (hy : y ≠ 0) (hlt : y < 18446744073709551616) (i : Int) (hi : (j : Int) = max i 0) : nextL (elems n X) i = ((64 * k + Lib.ctz 64 y : Nat) : Int) := by
  obtain ⟨m, hm, hc⟩ := ctz_spec y hy hlt
  have ht := h.1 (Lib.ctz 64 y)
  have hb : y.testBit (Lib.ctz 64 y) = true := by
    generalize Lib.ctz 64 y = c at *
    rw [hm, testBit_odd]; simp
  have hlow : ∀ t, t < Lib.ctz 64 y → y.testBit t = false := by
    intro t htc
    generalize Lib.ctz 64 y = c at *
    rw [hm, testBit_odd]
    have h1 : ¬ t = c := by omega
    have h2 : ¬ c < t := by omega
    simp [h1, h2]
  generalize Lib.ctz 64 y = c at *
  rw [hb] at ht
  simp [hc] at ht
  apply nextL_some _ _ _ (elems_sorted n X) (mem_elems.2 ⟨testBit_lt hX ht.1, ht.1⟩) (by omega)
  intro e he hie
  obtain ⟨h1, h2⟩ := mem_elems.1 he
  have hj : j ≤ e := by omega
  apply Nat.le_of_not_lt
  intro hlt2
  by_cases h3 : e < 64 * k
  · rw [h.2 e hj h3] at h2; cases h2
  · have q := h.1 (e - 64 * k)
    have e1 : 64 * k + (e - 64 * k) = e := by omega
    have e2 : e - 64 * k < 64 := by omega
    rw [e1, hlow _ (by omega)] at q
    simp [hj, e2, h2] at q

def lowCut (x r : Nat) : Nat := x / 2 ^ r * 2 ^ r
theorem lowCut_testBit (x r t : Nat) : (lowCut x r).testBit t = (decide (r ≤ t) && x.testBit t) := by
  unfold lowCut
  rw [Nat.testBit_mul_two_pow, Nat.testBit_div_two_pow]
  by_cases h : r ≤ t
  · rw [show t - r + r = t by omega]
  · simp [h]
theorem lowCut_le (x r : Nat) : lowCut x r ≤ x := Nat.div_mul_le_self x _

theorem ninv_start (X j : Nat) : NInv X j (j / 64) (lowCut (wordAt X (j / 64)) (j % 64)) := by
  refine ⟨fun t => ?_, fun e h1 h2 => by omega⟩
  rw [lowCut_testBit, wordAt_testBit]
  by_cases h : t < 64
  · by_cases h2 : j % 64 ≤ t
    · have : j ≤ 64 * (j / 64) + t := by omega
      simp [h2, this]
    · have : ¬ j ≤ 64 * (j / 64) + t := by omega
      simp [h2, this]
  · simp [h]
end Go.Proofs.YtfoahpideglghaaGreatDoor
