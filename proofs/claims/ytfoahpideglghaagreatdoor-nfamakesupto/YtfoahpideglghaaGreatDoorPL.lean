import Derived.Test.YtfoahpideglghaaGreatDoorProg
import Derived.WalkKit
import Derived.WalkSpells
import Derived.WalkLawsBesides
import Derived.Lib.TrailingZeros
namespace Go.Proofs.YtfoahpideglghaaGreatDoor

/-- The numbers below n whose bit is set in X, rising. -/
def elems (n X : Nat) : List Nat := (List.range n).filter (fun i => X.testBit i)
def cnt (n X : Nat) : Nat := (elems n X).length

theorem testBit_mod_lt (X a i : Nat) (h : i < a) : (X % 2 ^ a).testBit i = X.testBit i := by
  rw [Nat.testBit_mod_two_pow]; simp [h]

theorem elems_add (a m X : Nat) : elems (a + m) X = elems a (X % 2 ^ a) ++ (elems m (X / 2 ^ a)).map (a + ·) := by
  unfold elems
  rw [List.range_add, List.filter_append, List.filter_map]
  congr 1
  · apply List.filter_congr
    intro i hi
    rw [testBit_mod_lt _ _ _ (List.mem_range.1 hi)]
  · congr 1
    apply List.filter_congr
    intro i _
    simp [Nat.testBit_div_two_pow, Nat.add_comm]

theorem cnt_add (a m X : Nat) : cnt (a + m) X = cnt a (X % 2 ^ a) + cnt m (X / 2 ^ a) := by
  simp [cnt, elems_add]

theorem cnt_le (n X : Nat) : cnt n X ≤ n := by
  unfold cnt elems
  have := List.length_filter_le (fun i => X.testBit i) (List.range n)
  simpa using this

theorem and_split (h l mh ml : Nat) (hl : l < 256) (hml : ml < 256) : (h * 256 + l) &&& (mh * 256 + ml) = (h &&& mh) * 256 + (l &&& ml) := by
  have hlt : l &&& ml < 256 := Nat.lt_of_le_of_lt Nat.and_le_left hl
  have e1 : ((h * 256 + l) &&& (mh * 256 + ml)) / 256 = h &&& mh := by
    have := Nat.and_div_two_pow (a := h * 256 + l) (b := mh * 256 + ml) (n := 8)
    simp only [show (2:Nat)^8 = 256 from rfl] at this
    rw [this, show (h * 256 + l) / 256 = h by omega, show (mh * 256 + ml) / 256 = mh by omega]
  have e2 : ((h * 256 + l) &&& (mh * 256 + ml)) % 256 = l &&& ml := by
    have := Nat.and_mod_two_pow (a := h * 256 + l) (b := mh * 256 + ml) (n := 8)
    simp only [show (2:Nat)^8 = 256 from rfl] at this
    rw [this, show (h * 256 + l) % 256 = l by omega, show (mh * 256 + ml) % 256 = ml by omega]
  omega

def M (c : Nat) : Nat → Nat
  | 0 => 0
  | k + 1 => M c k * 256 + c

def pA (k x : Nat) : Nat := (x / 2 &&& M 85 k) + (x &&& M 85 k)
def pB (k x : Nat) : Nat := (pA k x / 4 &&& M 51 k) + (pA k x &&& M 51 k)
def pC (k x : Nat) : Nat := (pB k x / 16 + pB k x) &&& M 15 k
def a1 (l : Nat) : Nat := (l / 2 &&& 85) + (l &&& 85)
def b1 (l : Nat) : Nat := (a1 l / 4 &&& 51) + (a1 l &&& 51)
def c1 (l : Nat) : Nat := (b1 l / 16 + b1 l) &&& 15

theorem a_fin : ∀ l < 256, (a1 l < 256 ∧ (128 + l / 2) &&& 85 = l / 2 &&& 85) := by decide +kernel
theorem b_fin : ∀ r < 4, ∀ l < 256, (b1 l ≤ 68 ∧ b1 l % 16 ≤ 4 ∧ (r * 64 + a1 l / 4) &&& 51 = a1 l / 4 &&& 51) := by decide +kernel
theorem c_fin : ∀ r < 5, ∀ l < 256, ((r * 16 + b1 l / 16 + b1 l) &&& 15 = c1 l ∧ c1 l = cnt 8 l) := by decide +kernel

theorem pA_step (k h l : Nat) (hl : l < 256) : pA (k + 1) (h * 256 + l) = pA k h * 256 + a1 l := by
  have f := (a_fin l hl)
  have hd : (h * 256 + l) / 2 = (h / 2) * 256 + (h % 2 * 128 + l / 2) := by omega
  unfold pA
  rw [M, hd, and_split _ _ _ _ (by omega) (by omega), and_split _ _ _ _ hl (by omega)]
  have e : (h % 2 * 128 + l / 2) &&& 85 = l / 2 &&& 85 := by
    rcases Nat.mod_two_eq_zero_or_one h with hh | hh <;> rw [hh]
    · simp
    · simpa using f.2
  rw [e]; unfold a1; omega

theorem pB_step (k h l : Nat) (hl : l < 256) : pB (k + 1) (h * 256 + l) = pB k h * 256 + b1 l := by
  have f := (a_fin l hl).1
  unfold pB
  rw [pA_step k h l hl, M]
  have hd : (pA k h * 256 + a1 l) / 4 = (pA k h / 4) * 256 + (pA k h % 4 * 64 + a1 l / 4) := by omega
  rw [hd, and_split _ _ _ _ (by omega) (by omega), and_split _ _ _ _ f (by omega), (b_fin (pA k h % 4) (by omega) l hl).2.2]
  unfold b1; omega

theorem pB_mod (k h : Nat) : pB k h % 16 ≤ 4 := by
  cases k with
  | zero => simp [pB, pA, M]
  | succ k =>
    have e : h = (h / 256) * 256 + h % 256 := by omega
    rw [e, pB_step k _ _ (by omega)]
    have := (b_fin 0 (by omega) (h % 256) (by omega)).2.1
    omega

theorem pC_step (k h l : Nat) (hl : l < 256) : pC (k + 1) (h * 256 + l) = pC k h * 256 + c1 l := by
  have f := (b_fin 0 (by omega) l hl).1
  have g := pB_mod k h
  unfold pC
  rw [pB_step k h l hl, M]
  have hd : (pB k h * 256 + b1 l) / 16 + (pB k h * 256 + b1 l) = (pB k h / 16 + pB k h) * 256 + (pB k h % 16 * 16 + b1 l / 16 + b1 l) := by omega
  rw [hd, and_split _ _ _ _ (by omega) (by omega), (c_fin (pB k h % 16) (by omega) l hl).1]

theorem pC_eq (k x : Nat) : pC (k + 1) x = pC k (x / 256) * 256 + cnt 8 (x % 256) := by
  have e : x = (x / 256) * 256 + x % 256 := by omega
  have h := pC_step k (x / 256) (x % 256) (by omega)
  rw [← e] at h
  rw [h, (c_fin 0 (by omega) (x % 256) (by omega)).2]

theorem pA_le (k x : Nat) : pA k x ≤ 2 * M 85 k := by
  unfold pA
  have := @Nat.and_le_right (x / 2) (M 85 k)
  have := @Nat.and_le_right x (M 85 k)
  omega
theorem pB_le (k x : Nat) : pB k x ≤ 2 * M 51 k := by
  unfold pB
  have := @Nat.and_le_right (pA k x / 4) (M 51 k)
  have := @Nat.and_le_right (pA k x) (M 51 k)
  omega
theorem pC_le (k x : Nat) : pC k x ≤ M 15 k := by
  unfold pC
  exact Nat.and_le_right
theorem M85 : M 85 8 = 6148914691236517205 := by decide +kernel
theorem M51 : M 51 8 = 3689348814741910323 := by decide +kernel
theorem M15 : M 15 8 = 1085102592571150095 := by decide +kernel

theorem pop_fin (e0 e1 e2 e3 e4 e5 e6 e7 x3 x4 x5 x6 : Nat) (h0 : e0 ≤ 8) (h1 : e1 ≤ 8) (h2 : e2 ≤ 8) (h3 : e3 ≤ 8) (h4 : e4 ≤ 8) (h5 : e5 ≤ 8) (h6 : e6 ≤ 8) (h7 : e7 ≤ 8)
    (k3 : x3 = (((((((e7 * 256 + e6) * 256 + e5) * 256 + e4) * 256 + e3) * 256 + e2) * 256 + e1) * 256 + e0)) (k4 : x4 = x3 + x3 / 256) (k5 : x5 = x4 + x4 / 65536) (k6 : x6 = x5 + x5 / 4294967296) :
    x6 % 128 = e0 + e1 + e2 + e3 + e4 + e5 + e6 + e7 := by
  have d3 : x3 / 256 = ((((((e7 * 256 + e6) * 256 + e5) * 256 + e4) * 256 + e3) * 256 + e2) * 256 + e1) := by omega
  have f4 : x4 = (((((((e7 * 256 + (e6 + e7)) * 256 + (e5 + e6)) * 256 + (e4 + e5)) * 256 + (e3 + e4)) * 256 + (e2 + e3)) * 256 + (e1 + e2)) * 256 + (e0 + e1)) := by omega
  have d4 : x4 / 65536 = (((((e7 * 256 + (e6 + e7)) * 256 + (e5 + e6)) * 256 + (e4 + e5)) * 256 + (e3 + e4)) * 256 + (e2 + e3)) := by clear k4 d3 k3; omega
  have f5 : ∃ m, x5 = m * 4294967296 + ((((e3 + e4 + e5 + e6) * 256 + (e2 + e3 + e4 + e5)) * 256 + (e1 + e2 + e3 + e4)) * 256 + (e0 + e1 + e2 + e3)) ∧ ∃ j, m = j * 256 + (e4 + e5 + e6 + e7) := by
    refine ⟨((e7 * 256 + (e6 + e7)) * 256 + (e5 + e6 + e7)) * 256 + (e4 + e5 + e6 + e7), ?_, ((e7 * 256 + (e6 + e7)) * 256 + (e5 + e6 + e7)), rfl⟩
    rw [k5, d4, f4]; clear k4 d3 k3 k5 f4 d4 k6; omega
  obtain ⟨m, hm, j, hj⟩ := f5
  have d5 : x5 / 4294967296 = m := by clear k4 d3 k3 k5 f4 d4 k6; omega
  rw [k6, d5, hm, hj]; clear k4 d3 k3 k5 f4 d4 k6 hm hj d5; omega

theorem pop_eq (x x4 x5 x6 : Nat) (hx : x < 18446744073709551616) (k4 : x4 = pC 8 x + pC 8 x / 256) (k5 : x5 = x4 + x4 / 65536) (k6 : x6 = x5 + x5 / 4294967296) : x6 % 128 = cnt 64 x := by
  have e := pop_fin (cnt 8 (x % 256)) (cnt 8 (x / 256 % 256)) (cnt 8 (x / 256 / 256 % 256)) (cnt 8 (x / 256 / 256 / 256 % 256)) (cnt 8 (x / 256 / 256 / 256 / 256 % 256)) (cnt 8 (x / 256 / 256 / 256 / 256 / 256 % 256)) (cnt 8 (x / 256 / 256 / 256 / 256 / 256 / 256 % 256)) (cnt 8 (x / 256 / 256 / 256 / 256 / 256 / 256 / 256 % 256)) (pC 8 x) x4 x5 x6
    (cnt_le _ _) (cnt_le _ _) (cnt_le _ _) (cnt_le _ _) (cnt_le _ _) (cnt_le _ _) (cnt_le _ _) (cnt_le _ _)
    (by rw [pC_eq 7, pC_eq 6, pC_eq 5, pC_eq 4, pC_eq 3, pC_eq 2, pC_eq 1, pC_eq 0]; simp [pC, M]) k4 k5 k6
  rw [e]
  have p8 : (2 : Nat) ^ 8 = 256 := rfl
  rw [show (64 : Nat) = 8 + 56 from rfl, cnt_add, show (56 : Nat) = 8 + 48 from rfl, cnt_add, show (48 : Nat) = 8 + 40 from rfl, cnt_add, show (40 : Nat) = 8 + 32 from rfl, cnt_add, show (32 : Nat) = 8 + 24 from rfl, cnt_add, show (24 : Nat) = 8 + 16 from rfl, cnt_add, show (16 : Nat) = 8 + 8 from rfl, cnt_add, p8]
  have : x / 256 / 256 / 256 / 256 / 256 / 256 / 256 % 256 = x / 256 / 256 / 256 / 256 / 256 / 256 / 256 := by omega
  rw [this]; omega
end Go.Proofs.YtfoahpideglghaaGreatDoor
namespace Go.Proofs.YtfoahpideglghaaGreatDoor
open Go.RowKit

theorem ret_int {k : IntKind} {a b : Int} (h : a = b) : Ending.returned (.int k a) = .returned (.int k b) := by rw [h]
theorem bit_wrap (k : Nat) (h : k < 64) : IntKind.u64.wrap (2 ^ k) = (2 ^ k : Nat) := by
  rw [IntKind.wrap_u64]
  have hl : (2:Nat)^k < 18446744073709551616 := by
    have : (2:Nat)^k < 2^64 := Nat.pow_lt_pow_right (by decide) h
    exact this
  have e : ((2:Int)^k) = ((2^k : Nat) : Int) := by simp
  rw [e]
  generalize (2:Nat)^k = z at hl
  omega
set_option maxHeartbeats 400000 in
theorem bit_any (i : Int) (w : World) (h0 : 0 ≤ i) (h1 : i ≤ 65535) :
    Calls Tryz.prog 108 #[.int .i64 i] w fun e w' => e = .returned (.int .u64 ((2 ^ (i % 64).toNat : Nat) : Int)) ∧ w' = w := by
  go_enter Tryz.func108, Tryz.ntmps108
  go_wp2
  go_ret
  exact ⟨ret_int (bit_wrap _ (by omega)), rfl⟩
set_option maxHeartbeats 400000 in
theorem inRange_any (b : Nat) (i n : Int) (w : World) (hc : w.cell? ⟨b, 0, none⟩ = some (.int .i64 n)) :
    Calls Tryz.prog 117 #[.pointer (some ⟨b, 0, none⟩), .int .i64 i] w fun e w' => e = .returned (.bool (decide (0 ≤ i ∧ i < n))) ∧ w' = w := by
  by_cases h : 0 ≤ i
  all_goals
    go_enter Tryz.func117, Tryz.ntmps117
    go_wp2
    go_ret
    exact ⟨by simp; omega, rfl⟩
/-- The table of math/bits in its variable. -/
def TabAt (w : World) : Prop := ∀ j, j < 64 → w.cell? ⟨0, j, none⟩ = some (.int .u8 (Lib.deBruijn64tab.getD j 0))
set_option maxHeartbeats 1000000 in
theorem tz_core (x k idx : Nat) (w : World) (hx0 : ((x : Int) == 0) = false)
    (key : IntKind.u64.wrap (bits BinOp.and IntKind.u64 (x : Int) (IntKind.u64.wrap (-(x : Int))) * 285870213051353865) / 288230376151711744 = (idx : Int))
    (hi : idx < 64) (hk : k < 64) (hcell : w.cell? ⟨0, idx, none⟩ = some (.int .u8 k)) :
    Calls Tryz.prog 109 #[.int .u64 x] w fun e w' => e = .returned (.int .i64 k) ∧ w' = w := by
  go_enter Tryz.func109, Tryz.ntmps109
  go_wp2_with (simp only [key])
  go_ret
  exact ⟨rfl, rfl⟩
theorem tz_key (x a : Nat) (hx : x < 18446744073709551616) (hx0 : x ≠ 0) (hlow : x &&& (18446744073709551616 - x) = a) :
    IntKind.u64.wrap (bits BinOp.and IntKind.u64 (x : Int) (IntKind.u64.wrap (-(x : Int))) * 285870213051353865) / 288230376151711744 = ((a * 285870213051353865 % 18446744073709551616 / 288230376151711744 : Nat) : Int) := by
  have e1 : IntKind.u64.wrap (-(x : Int)) = ((18446744073709551616 - x : Nat) : Int) := by rw [IntKind.wrap_u64]; omega
  rw [e1, bits_and_u64_nat x _ hx (by omega), hlow, IntKind.wrap_u64]
  omega
theorem tz_any (x : Nat) (hx : x < 18446744073709551616) (hx0 : x ≠ 0) (w : World) (hT : TabAt w) :
    Calls Tryz.prog 109 #[.int .u64 x] w fun e w' => e = .returned (.int .i64 (Lib.ctz 64 x)) ∧ w' = w := by
  obtain ⟨hlow, hk⟩ := Lib.lowest_bit 64 x hx0 hx
  obtain ⟨hi, htab⟩ := Lib.deBruijn64_at _ hk
  have hcell := hT _ hi
  rw [htab] at hcell
  exact tz_core x _ _ w (by simp; omega) (tz_key x _ hx hx0 hlow) hi hk hcell
set_option maxHeartbeats 400000 in
theorem ones_core (x x1 x2 x3 x4 x5 x6 r : Nat) (w : World)
    (k1 : IntKind.u64.wrap (bits BinOp.and IntKind.u64 ((x : Int) / 2) 6148914691236517205 + bits BinOp.and IntKind.u64 (x : Int) 6148914691236517205) = (x1 : Int))
    (k2 : IntKind.u64.wrap (bits BinOp.and IntKind.u64 ((x1 : Int) / 4) 3689348814741910323 + bits BinOp.and IntKind.u64 (x1 : Int) 3689348814741910323) = (x2 : Int))
    (k3 : bits BinOp.and IntKind.u64 (IntKind.u64.wrap ((x2 : Int) / 16 + (x2 : Int))) 1085102592571150095 = (x3 : Int))
    (k4 : IntKind.u64.wrap ((x3 : Int) + (x3 : Int) / 256) = (x4 : Int))
    (k5 : IntKind.u64.wrap ((x4 : Int) + (x4 : Int) / 65536) = (x5 : Int))
    (k6 : IntKind.u64.wrap ((x5 : Int) + (x5 : Int) / 4294967296) = (x6 : Int))
    (k7 : bits BinOp.and IntKind.i64 (wrap64 (x6 : Int)) 127 = (r : Int)) :
    Calls Tryz.prog 102 #[.int .u64 x] w fun e w' => e = .returned (.int .i64 r) ∧ w' = w := by
  go_enter Tryz.func102, Tryz.ntmps102
  go_wp2
  go_ret
  exact ⟨rfl, rfl⟩
theorem wrap64_small (x : Nat) (h : x < 9223372036854775808) : wrap64 (x : Int) = x := by
  unfold wrap64; omega
theorem and127 (x : Nat) (h : x < 9223372036854775808) : bits BinOp.and IntKind.i64 (x : Int) 127 = ((x % 128 : Nat) : Int) := by
  have h1 : (BitVec.ofInt 64 (x : Int)).toNat = x := by
    rw [BitVec.ofInt_natCast, BitVec.toNat_ofNat]; exact Nat.mod_eq_of_lt (by omega)
  have h2 : (BitVec.ofInt 64 (127 : Int)).toNat = 127 := by decide
  have h3 : x &&& 127 = x % 128 := Nat.and_two_pow_sub_one_eq_mod x 7
  show IntKind.i64.wrap ((BitVec.ofInt 64 (x : Int) &&& BitVec.ofInt 64 (127 : Int)).toNat : Int) = _
  rw [BitVec.toNat_and, h1, h2, h3]
  simp [IntKind.wrap, IntKind.bits, IntKind.signed]
  omega
theorem wrap_add_div (a d : Nat) (h : a + a / d < 18446744073709551616) : IntKind.u64.wrap ((a : Int) + (a : Int) / (d : Int)) = ((a + a / d : Nat) : Int) := by
  rw [IntKind.wrap_u64, ← Int.natCast_ediv, ← Int.natCast_add]
  generalize a + a / d = z at *
  omega
theorem ones_any (x : Nat) (w : World) (hx : x < 18446744073709551616) :
    Calls Tryz.prog 102 #[.int .u64 x] w fun e w' => e = .returned (.int .i64 (cnt 64 x)) ∧ w' = w := by
  have hA := pA_le 8 x
  have hB := pB_le 8 x
  have hC := pC_le 8 x
  rw [M85] at hA; rw [M51] at hB; rw [M15] at hC
  have hp := pop_eq x _ _ _ hx rfl rfl rfl
  have q1 : ((6148914691236517205 : Nat) : Int) = 6148914691236517205 := rfl
  have q2 : ((3689348814741910323 : Nat) : Int) = 3689348814741910323 := rfl
  have q3 : ((1085102592571150095 : Nat) : Int) = 1085102592571150095 := rfl
  have hBd : pB 8 x = (pA 8 x / 4 &&& 3689348814741910323) + (pA 8 x &&& 3689348814741910323) := by unfold pB; rw [M51]
  have hAd : pA 8 x = (x / 2 &&& 6148914691236517205) + (x &&& 6148914691236517205) := by unfold pA; rw [M85]
  have hCd : pC 8 x = (pB 8 x / 16 + pB 8 x) &&& 1085102592571150095 := by unfold pC; rw [M15]
  rw [← hp]
  generalize pA 8 x = A at *
  generalize pB 8 x = B at *
  generalize pC 8 x = C at *
  refine ones_core x A B C (C + C / 256) (C + C / 256 + (C + C / 256) / 65536) (C + C / 256 + (C + C / 256) / 65536 + (C + C / 256 + (C + C / 256) / 65536) / 4294967296) _ w ?_ ?_ ?_ ?_ ?_ ?_ ?_
  · rw [← q1, show ((x : Int) / 2) = ((x / 2 : Nat) : Int) by omega, bits_and_u64_nat _ _ (by omega) (by omega), bits_and_u64_nat _ _ hx (by omega), IntKind.wrap_u64]
    omega
  · rw [← q2, show ((A : Int) / 4) = ((A / 4 : Nat) : Int) by omega, bits_and_u64_nat _ _ (by omega) (by omega), bits_and_u64_nat _ _ (by omega) (by omega), IntKind.wrap_u64]
    omega
  · rw [IntKind.wrap_u64, ← q3, show ((B : Int) / 16 + B) % 18446744073709551616 = ((B / 16 + B : Nat) : Int) by omega, bits_and_u64_nat _ _ (by omega) (by omega)]
    omega
  · exact wrap_add_div C 256 (by clear hp hAd hBd hCd; omega)
  · exact wrap_add_div _ 65536 (by clear hp hAd hBd hCd; omega)
  · exact wrap_add_div _ 4294967296 (by clear hp hAd hBd hCd; omega)
  · rw [wrap64_small _ (by clear hp hAd hBd hCd; omega), and127 _ (by clear hp hAd hBd hCd; omega)]
end Go.Proofs.YtfoahpideglghaaGreatDoor
