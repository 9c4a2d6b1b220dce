import Derived.Test.YtfoahpideglghaaGreatDoorPL
import Derived.Lib.TrailingZeros
namespace Go.Proofs.YtfoahpideglghaaGreatDoor

def nw (n : Nat) : Nat := (n + 63) / 64
def wordAt (X k : Nat) : Nat := X / 2 ^ (64 * k) % 18446744073709551616

theorem wordAt_lt (X k : Nat) : wordAt X k < 18446744073709551616 := Nat.mod_lt _ (by decide)

theorem elems_mod (a X : Nat) : elems a (X % 2 ^ a) = elems a X := by
  unfold elems
  apply List.filter_congr
  intro i hi
  rw [testBit_mod_lt _ _ _ (List.mem_range.1 hi)]

theorem elems_word (X k : Nat) : elems 64 (wordAt X k) = elems 64 (X / 2 ^ (64 * k)) := by
  have := elems_mod 64 (X / 2 ^ (64 * k))
  exact this

theorem elems_succ (X k : Nat) : elems (64 * (k + 1)) X = elems (64 * k) X ++ (elems 64 (wordAt X k)).map (64 * k + ·) := by
  rw [show 64 * (k + 1) = 64 * k + 64 by omega, elems_add, elems_mod, elems_word]

theorem cnt_succ (X k : Nat) : cnt (64 * (k + 1)) X = cnt (64 * k) X + cnt 64 (wordAt X k) := by
  simp [cnt, elems_succ]

theorem elems_zero (n : Nat) : elems n 0 = [] := by simp [elems]

theorem elems_full (n m X : Nat) (hX : X < 2 ^ n) (h : n ≤ m) : elems m X = elems n X := by
  obtain ⟨d, rfl⟩ : ∃ d, m = n + d := ⟨m - n, by omega⟩
  rw [elems_add, elems_mod, Nat.div_eq_of_lt hX, elems_zero]
  simp

theorem cnt_full (n X : Nat) (hX : X < 2 ^ n) : cnt (64 * nw n) X = cnt n X := by
  unfold cnt
  rw [elems_full n _ X hX (by unfold nw; omega)]

theorem mem_elems {n X i : Nat} : i ∈ elems n X ↔ i < n ∧ X.testBit i = true := by
  simp [elems]

theorem testBit_lt {n X i : Nat} (hX : X < 2 ^ n) (h : X.testBit i = true) : i < n := by
  apply Nat.lt_of_not_le
  intro hle
  have : X < 2 ^ i := Nat.lt_of_lt_of_le hX (Nat.pow_le_pow_right (by decide) hle)
  rw [Nat.testBit_lt_two_pow this] at h
  cases h

theorem testBit_word (X i : Nat) : (wordAt X (i / 64)).testBit (i % 64) = X.testBit i := by
  have e : wordAt X (i / 64) = X / 2 ^ (64 * (i / 64)) % 2 ^ 64 := rfl
  rw [e, Nat.testBit_mod_two_pow, Nat.testBit_div_two_pow]
  have : i % 64 + 64 * (i / 64) = i := by omega
  rw [this]
  simp [show i % 64 < 64 from Nat.mod_lt _ (by decide)]

theorem and_bit (x j : Nat) : (x &&& 2 ^ j = 0) ↔ x.testBit j = false := by
  constructor
  · intro h
    have e : (x &&& 2 ^ j).testBit j = false := by rw [h]; simp
    rw [Nat.testBit_and, Nat.testBit_two_pow] at e
    simpa using e
  · intro h
    apply Nat.eq_of_testBit_eq
    intro i
    rw [Nat.testBit_and, Nat.testBit_two_pow]
    by_cases hi : j = i
    · subst hi; simp [h]
    · simp [hi]

/-- The least set bit. -/
theorem ctz_spec (x : Nat) (h0 : x ≠ 0) (hx : x < 18446744073709551616) : ∃ m, x = 2 ^ Lib.ctz 64 x * (2 * m + 1) ∧ Lib.ctz 64 x < 64 := by
  unfold Lib.ctz
  rw [if_neg h0]
  exact Lib.ctzFrom_spec 64 x (by omega) hx

theorem testBit_odd (c m i : Nat) : (2 ^ c * (2 * m + 1)).testBit i = (decide (i = c) || (decide (c < i) && m.testBit (i - c - 1))) := by
  rw [Nat.mul_comm, Nat.testBit_mul_two_pow]
  by_cases h : i = c
  · subst h; simp [Nat.testBit_zero]
  · by_cases h2 : c < i
    · obtain ⟨j, rfl⟩ : ∃ j, i = c + (j + 1) := ⟨i - c - 1, by omega⟩
      have e1 : c + (j + 1) - c = j + 1 := by omega
      have e2 : c + (j + 1) - c - 1 = j := by omega
      rw [e2, e1, Nat.testBit_succ, show (2 * m + 1) / 2 = m by omega]
      simp
    · have : ¬ c ≤ i := by omega
      simp [h, h2, this]

theorem and_pred (c m : Nat) : (2 ^ c * (2 * m + 1)) &&& (2 ^ c * (2 * m + 1) - 1) = 2 ^ (c + 1) * m := by
  apply Nat.eq_of_testBit_eq
  intro i
  have hp : 0 < 2 ^ c := Nat.two_pow_pos c
  have e : 2 ^ c * (2 * m + 1) - 1 = 2 ^ c * (2 * m) + (2 ^ c - 1) := by
    rw [Nat.mul_add]; omega
  rw [Nat.testBit_and, testBit_odd, e, Nat.testBit_two_pow_mul_add _ (by omega), Nat.mul_comm (2 ^ (c + 1)), Nat.testBit_mul_two_pow]
  by_cases h : i < c
  · have h1 : ¬ i = c := by omega
    have h2 : ¬ c < i := by omega
    have h3 : ¬ c + 1 ≤ i := by omega
    simp [h1, h2, h3]
  · rw [if_neg h]
    by_cases h1 : i = c
    · subst h1
      have : ¬ (i + 1 ≤ i) := by omega
      simp [Nat.testBit_zero, this]
    · obtain ⟨j, rfl⟩ : ∃ j, i = c + (j + 1) := ⟨i - c - 1, by omega⟩
      have e1 : c + (j + 1) - c = j + 1 := by omega
      have e2 : c + (j + 1) - c - 1 = j := by omega
      have e3 : c + (j + 1) - (c + 1) = j := by omega
      have e4 : c + 1 ≤ c + (j + 1) := by omega
      rw [e2, e1, e3, Nat.testBit_succ, show (2 * m) / 2 = m by omega]
      simp [e4]

theorem elems_step (x : Nat) (h0 : x ≠ 0) (hx : x < 18446744073709551616) : elems 64 x = Lib.ctz 64 x :: elems 64 (x &&& (x - 1)) := by
  obtain ⟨m, hm, hc⟩ := ctz_spec x h0 hx
  generalize Lib.ctz 64 x = c at *
  subst hm
  rw [and_pred]
  have hr : List.range 64 = List.range c ++ (c :: (List.range (63 - c)).map (c + 1 + ·)) := by
    rw [show (64 : Nat) = c + (1 + (63 - c)) by omega, List.range_add]
    congr 1
    rw [List.range_add]
    have e : c + (1 + (63 - c)) - (1 + (63 - c)) = c := by omega
    simp [Function.comp_def, Nat.add_assoc]
  have p1 : (List.range c).filter (fun i => (2 ^ c * (2 * m + 1)).testBit i) = [] := by
    rw [List.filter_eq_nil_iff]
    intro i hi
    have := List.mem_range.1 hi
    rw [testBit_odd]
    simp; omega
  have p2 : (List.range c).filter (fun i => (2 ^ (c + 1) * m).testBit i) = [] := by
    rw [List.filter_eq_nil_iff]
    intro i hi
    have := List.mem_range.1 hi
    rw [Nat.mul_comm, Nat.testBit_mul_two_pow]
    simp; omega
  unfold elems
  rw [hr, List.filter_append, List.filter_append, p1, p2, List.filter_cons, List.filter_cons]
  have b1 : (2 ^ c * (2 * m + 1)).testBit c = true := by rw [testBit_odd]; simp
  have b2 : (2 ^ (c + 1) * m).testBit c = false := by rw [Nat.mul_comm, Nat.testBit_mul_two_pow]; simp; omega
  rw [b1, b2]
  simp only [List.nil_append, if_true, Bool.false_eq_true, if_false]
  congr 1
  apply List.filter_congr
  intro i hi
  obtain ⟨j, _, rfl⟩ := List.mem_map.1 hi
  rw [testBit_odd, Nat.mul_comm, Nat.testBit_mul_two_pow]
  have e3 : c + 1 + j - c - 1 = j := by omega
  have e4 : c + 1 + j - (c + 1) = j := by omega
  rw [e3, e4]
  have h5 : ¬ (c + 1 + j = c) := by omega
  have h6 : c < c + 1 + j := by omega
  have h7 : c + 1 ≤ c + 1 + j := by omega
  simp [h5, h6, h7]

theorem and_pred_lt (x : Nat) (h0 : x ≠ 0) : x &&& (x - 1) < x := Nat.lt_of_le_of_lt Nat.and_le_right (by omega)
end Go.Proofs.YtfoahpideglghaaGreatDoor
