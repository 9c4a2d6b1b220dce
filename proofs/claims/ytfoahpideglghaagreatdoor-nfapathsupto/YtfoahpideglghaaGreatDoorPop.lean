namespace Go.Proofs.YtfoahpideglghaaGreatDoor

/-- The numbers below n whose bit is set in X, rising. -/
def elems (n X : Nat) : List Nat := (List.range n).filter (fun i => X.testBit i)
def cnt (n X : Nat) : Nat := (elems n X).length

theorem testBit_mod_lt (X a i : Nat) (h : i < a) : (X % 2 ^ a).testBit i = X.testBit i := by
  rw [Nat.testBit_mod_two_pow]; simp [h]

theorem elems_add (a m X : Nat) : elems (a + m) X = elems a (X % 2 ^ a) ++ (elems m (X / 2 ^ a)).map (a + ·) := by
  unfold elems
  rw [List.range_add, List.filter_append, List.filter_map]
  congr 1
  · apply List.filter_congr
    intro i hi
    rw [testBit_mod_lt _ _ _ (List.mem_range.1 hi)]
  · congr 1
    apply List.filter_congr
    intro i _
    simp [Nat.testBit_div_two_pow, Nat.add_comm]

theorem cnt_add (a m X : Nat) : cnt (a + m) X = cnt a (X % 2 ^ a) + cnt m (X / 2 ^ a) := by
  simp [cnt, elems_add]

theorem cnt_le (n X : Nat) : cnt n X ≤ n := by
  unfold cnt elems
  have := List.length_filter_le (fun i => X.testBit i) (List.range n)
  simpa using this

theorem and_split (h l mh ml : Nat) (hl : l < 256) (hml : ml < 256) : (h * 256 + l) &&& (mh * 256 + ml) = (h &&& mh) * 256 + (l &&& ml) := by
  have hlt : l &&& ml < 256 := Nat.lt_of_le_of_lt Nat.and_le_left hl
  have e1 : ((h * 256 + l) &&& (mh * 256 + ml)) / 256 = h &&& mh := by
    have := Nat.and_div_two_pow (a := h * 256 + l) (b := mh * 256 + ml) (n := 8)
    simp only [show (2:Nat)^8 = 256 from rfl] at this
    rw [this, show (h * 256 + l) / 256 = h by omega, show (mh * 256 + ml) / 256 = mh by omega]
  have e2 : ((h * 256 + l) &&& (mh * 256 + ml)) % 256 = l &&& ml := by
    have := Nat.and_mod_two_pow (a := h * 256 + l) (b := mh * 256 + ml) (n := 8)
    simp only [show (2:Nat)^8 = 256 from rfl] at this
    rw [this, show (h * 256 + l) % 256 = l by omega, show (mh * 256 + ml) % 256 = ml by omega]
  omega

def M (c : Nat) : Nat → Nat
  | 0 => 0
  | k + 1 => M c k * 256 + c

def pA (k x : Nat) : Nat := (x / 2 &&& M 85 k) + (x &&& M 85 k)
def pB (k x : Nat) : Nat := (pA k x / 4 &&& M 51 k) + (pA k x &&& M 51 k)
def pC (k x : Nat) : Nat := (pB k x / 16 + pB k x) &&& M 15 k
def a1 (l : Nat) : Nat := (l / 2 &&& 85) + (l &&& 85)
def b1 (l : Nat) : Nat := (a1 l / 4 &&& 51) + (a1 l &&& 51)
def c1 (l : Nat) : Nat := (b1 l / 16 + b1 l) &&& 15

theorem a_fin : ∀ l < 256, (a1 l < 256 ∧ (128 + l / 2) &&& 85 = l / 2 &&& 85) := by decide +kernel
theorem b_fin : ∀ r < 4, ∀ l < 256, (b1 l ≤ 68 ∧ b1 l % 16 ≤ 4 ∧ (r * 64 + a1 l / 4) &&& 51 = a1 l / 4 &&& 51) := by decide +kernel
theorem c_fin : ∀ r < 5, ∀ l < 256, ((r * 16 + b1 l / 16 + b1 l) &&& 15 = c1 l ∧ c1 l = cnt 8 l) := by decide +kernel

theorem pA_step (k h l : Nat) (hl : l < 256) : pA (k + 1) (h * 256 + l) = pA k h * 256 + a1 l := by
  have f := (a_fin l hl)
  have hd : (h * 256 + l) / 2 = (h / 2) * 256 + (h % 2 * 128 + l / 2) := by omega
  unfold pA
  rw [M, hd, and_split _ _ _ _ (by omega) (by omega), and_split _ _ _ _ hl (by omega)]
  have e : (h % 2 * 128 + l / 2) &&& 85 = l / 2 &&& 85 := by
    rcases Nat.mod_two_eq_zero_or_one h with hh | hh <;> rw [hh]
    · simp
    · simpa using f.2
  rw [e]; unfold a1; omega

theorem pB_step (k h l : Nat) (hl : l < 256) : pB (k + 1) (h * 256 + l) = pB k h * 256 + b1 l := by
  have f := (a_fin l hl).1
  unfold pB
  rw [pA_step k h l hl, M]
  have hd : (pA k h * 256 + a1 l) / 4 = (pA k h / 4) * 256 + (pA k h % 4 * 64 + a1 l / 4) := by omega
  rw [hd, and_split _ _ _ _ (by omega) (by omega), and_split _ _ _ _ f (by omega), (b_fin (pA k h % 4) (by omega) l hl).2.2]
  unfold b1; omega

theorem pB_mod (k h : Nat) : pB k h % 16 ≤ 4 := by
  cases k with
  | zero => simp [pB, pA, M]
  | succ k =>
    have e : h = (h / 256) * 256 + h % 256 := by omega
    rw [e, pB_step k _ _ (by omega)]
    have := (b_fin 0 (by omega) (h % 256) (by omega)).2.1
    omega

theorem pC_step (k h l : Nat) (hl : l < 256) : pC (k + 1) (h * 256 + l) = pC k h * 256 + c1 l := by
  have f := (b_fin 0 (by omega) l hl).1
  have g := pB_mod k h
  unfold pC
  rw [pB_step k h l hl, M]
  have hd : (pB k h * 256 + b1 l) / 16 + (pB k h * 256 + b1 l) = (pB k h / 16 + pB k h) * 256 + (pB k h % 16 * 16 + b1 l / 16 + b1 l) := by omega
  rw [hd, and_split _ _ _ _ (by omega) (by omega), (c_fin (pB k h % 16) (by omega) l hl).1]

theorem pC_eq (k x : Nat) : pC (k + 1) x = pC k (x / 256) * 256 + cnt 8 (x % 256) := by
  have e : x = (x / 256) * 256 + x % 256 := by omega
  have h := pC_step k (x / 256) (x % 256) (by omega)
  rw [← e] at h
  rw [h, (c_fin 0 (by omega) (x % 256) (by omega)).2]

theorem pA_le (k x : Nat) : pA k x ≤ 2 * M 85 k := by
  unfold pA
  have := @Nat.and_le_right (x / 2) (M 85 k)
  have := @Nat.and_le_right x (M 85 k)
  omega
theorem pB_le (k x : Nat) : pB k x ≤ 2 * M 51 k := by
  unfold pB
  have := @Nat.and_le_right (pA k x / 4) (M 51 k)
  have := @Nat.and_le_right (pA k x) (M 51 k)
  omega
theorem pC_le (k x : Nat) : pC k x ≤ M 15 k := by
  unfold pC
  exact Nat.and_le_right
theorem M85 : M 85 8 = 6148914691236517205 := by decide +kernel
theorem M51 : M 51 8 = 3689348814741910323 := by decide +kernel
theorem M15 : M 15 8 = 1085102592571150095 := by decide +kernel

theorem pop_fin (e0 e1 e2 e3 e4 e5 e6 e7 x3 x4 x5 x6 : Nat) (h0 : e0 ≤ 8) (h1 : e1 ≤ 8) (h2 : e2 ≤ 8) (h3 : e3 ≤ 8) (h4 : e4 ≤ 8) (h5 : e5 ≤ 8) (h6 : e6 ≤ 8) (h7 : e7 ≤ 8)
    (k3 : x3 = (((((((e7 * 256 + e6) * 256 + e5) * 256 + e4) * 256 + e3) * 256 + e2) * 256 + e1) * 256 + e0)) (k4 : x4 = x3 + x3 / 256) (k5 : x5 = x4 + x4 / 65536) (k6 : x6 = x5 + x5 / 4294967296) :
    x6 % 128 = e0 + e1 + e2 + e3 + e4 + e5 + e6 + e7 := by
  have d3 : x3 / 256 = ((((((e7 * 256 + e6) * 256 + e5) * 256 + e4) * 256 + e3) * 256 + e2) * 256 + e1) := by omega
  have f4 : x4 = (((((((e7 * 256 + (e6 + e7)) * 256 + (e5 + e6)) * 256 + (e4 + e5)) * 256 + (e3 + e4)) * 256 + (e2 + e3)) * 256 + (e1 + e2)) * 256 + (e0 + e1)) := by omega
  have d4 : x4 / 65536 = (((((e7 * 256 + (e6 + e7)) * 256 + (e5 + e6)) * 256 + (e4 + e5)) * 256 + (e3 + e4)) * 256 + (e2 + e3)) := by clear k4 d3 k3; omega
  have f5 : ∃ m, x5 = m * 4294967296 + ((((e3 + e4 + e5 + e6) * 256 + (e2 + e3 + e4 + e5)) * 256 + (e1 + e2 + e3 + e4)) * 256 + (e0 + e1 + e2 + e3)) ∧ ∃ j, m = j * 256 + (e4 + e5 + e6 + e7) := by
    refine ⟨((e7 * 256 + (e6 + e7)) * 256 + (e5 + e6 + e7)) * 256 + (e4 + e5 + e6 + e7), ?_, ((e7 * 256 + (e6 + e7)) * 256 + (e5 + e6 + e7)), rfl⟩
    rw [k5, d4, f4]; clear k4 d3 k3 k5 f4 d4 k6; omega
  obtain ⟨m, hm, j, hj⟩ := f5
  have d5 : x5 / 4294967296 = m := by clear k4 d3 k3 k5 f4 d4 k6; omega
  rw [k6, d5, hm, hj]; clear k4 d3 k3 k5 f4 d4 k6 hm hj d5; omega

theorem pop_eq (x x4 x5 x6 : Nat) (hx : x < 18446744073709551616) (k4 : x4 = pC 8 x + pC 8 x / 256) (k5 : x5 = x4 + x4 / 65536) (k6 : x6 = x5 + x5 / 4294967296) : x6 % 128 = cnt 64 x := by
  have e := pop_fin (cnt 8 (x % 256)) (cnt 8 (x / 256 % 256)) (cnt 8 (x / 256 / 256 % 256)) (cnt 8 (x / 256 / 256 / 256 % 256)) (cnt 8 (x / 256 / 256 / 256 / 256 % 256)) (cnt 8 (x / 256 / 256 / 256 / 256 / 256 % 256)) (cnt 8 (x / 256 / 256 / 256 / 256 / 256 / 256 % 256)) (cnt 8 (x / 256 / 256 / 256 / 256 / 256 / 256 / 256 % 256)) (pC 8 x) x4 x5 x6
    (cnt_le _ _) (cnt_le _ _) (cnt_le _ _) (cnt_le _ _) (cnt_le _ _) (cnt_le _ _) (cnt_le _ _) (cnt_le _ _)
    (by rw [pC_eq 7, pC_eq 6, pC_eq 5, pC_eq 4, pC_eq 3, pC_eq 2, pC_eq 1, pC_eq 0]; simp [pC, M]) k4 k5 k6
  rw [e]
  have p8 : (2 : Nat) ^ 8 = 256 := rfl
  rw [show (64 : Nat) = 8 + 56 from rfl, cnt_add, show (56 : Nat) = 8 + 48 from rfl, cnt_add, show (48 : Nat) = 8 + 40 from rfl, cnt_add, show (40 : Nat) = 8 + 32 from rfl, cnt_add, show (32 : Nat) = 8 + 24 from rfl, cnt_add, show (24 : Nat) = 8 + 16 from rfl, cnt_add, show (16 : Nat) = 8 + 8 from rfl, cnt_add, p8]
  have : x / 256 / 256 / 256 / 256 / 256 / 256 / 256 % 256 = x / 256 / 256 / 256 / 256 / 256 / 256 / 256 := by omega
  rw [this]; omega
end Go.Proofs.YtfoahpideglghaaGreatDoor
