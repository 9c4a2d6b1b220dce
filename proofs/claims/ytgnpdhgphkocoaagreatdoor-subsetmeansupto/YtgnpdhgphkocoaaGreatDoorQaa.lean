import Derived.Test.YtgnpdhgphkocoaaGreatDoorProg
import Derived.WalkKit
import Derived.WalkSpells
import Derived.WalkLawsBesides
import Derived.Lib.TrailingZeros
import Derived.BigQuiet
import Derived.Deep.QuietTactic
import Derived.Deep.AppendLies
import Derived.Deep.RegionWith
import Derived.BigRegion
import Derived.Deep.RegionHeld3
import Derived.Lib.SliceRun
import Derived.LaidEqlPtr
import Derived.Lib.BufferMore
import Derived.Laws.DeepNot64
import Derived.Below
import Derived.Deep.RegionHeld
namespace Go.Proofs.YtgnpdhgphkocoaaGreatDoor
/-- The numbers below n whose bit is set in X, rising. -/
def elems (n X : Nat) : List Nat := (List.range n).filter (fun i => X.testBit i)
def cnt (n X : Nat) : Nat := (elems n X).length
theorem testBit_mod_lt (X a i : Nat) (h : i < a) : (X % 2 ^ a).testBit i = X.testBit i := by
  rw [Nat.testBit_mod_two_pow]; simp [h]
theorem elems_add (a m X : Nat) : elems (a + m) X = elems a (X % 2 ^ a) ++ (elems m (X / 2 ^ a)).map (a + ·) := by
  unfold elems
  rw [List.range_add, List.filter_append, List.filter_map]
  congr 1
  · apply List.filter_congr
    intro i hi
    rw [testBit_mod_lt _ _ _ (List.mem_range.1 hi)]
  · congr 1
    apply List.filter_congr
    intro i _
    simp [Nat.testBit_div_two_pow, Nat.add_comm]
theorem cnt_add (a m X : Nat) : cnt (a + m) X = cnt a (X % 2 ^ a) + cnt m (X / 2 ^ a) := by
  simp [cnt, elems_add]
theorem cnt_le (n X : Nat) : cnt n X ≤ n := by
  unfold cnt elems
  have := List.length_filter_le (fun i => X.testBit i) (List.range n)
  simpa using this
theorem and_split (h l mh ml : Nat) (hl : l < 256) (hml : ml < 256) : (h * 256 + l) &&& (mh * 256 + ml) = (h &&& mh) * 256 + (l &&& ml) := by
  have hlt : l &&& ml < 256 := Nat.lt_of_le_of_lt Nat.and_le_left hl
  have e1 : ((h * 256 + l) &&& (mh * 256 + ml)) / 256 = h &&& mh := by
    have := Nat.and_div_two_pow (a := h * 256 + l) (b := mh * 256 + ml) (n := 8)
    simp only [show (2:Nat)^8 = 256 from rfl] at this
    rw [this, show (h * 256 + l) / 256 = h by omega, show (mh * 256 + ml) / 256 = mh by omega]
  have e2 : ((h * 256 + l) &&& (mh * 256 + ml)) % 256 = l &&& ml := by
    have := Nat.and_mod_two_pow (a := h * 256 + l) (b := mh * 256 + ml) (n := 8)
    simp only [show (2:Nat)^8 = 256 from rfl] at this
    rw [this, show (h * 256 + l) % 256 = l by omega, show (mh * 256 + ml) % 256 = ml by omega]
  omega
def M (c : Nat) : Nat → Nat
  | 0 => 0
  | k + 1 => M c k * 256 + c
def pA (k x : Nat) : Nat := (x / 2 &&& M 85 k) + (x &&& M 85 k)
def pB (k x : Nat) : Nat := (pA k x / 4 &&& M 51 k) + (pA k x &&& M 51 k)
def pC (k x : Nat) : Nat := (pB k x / 16 + pB k x) &&& M 15 k
def a1 (l : Nat) : Nat := (l / 2 &&& 85) + (l &&& 85)
def b1 (l : Nat) : Nat := (a1 l / 4 &&& 51) + (a1 l &&& 51)
def c1 (l : Nat) : Nat := (b1 l / 16 + b1 l) &&& 15
theorem a_fin : ∀ l < 256, (a1 l < 256 ∧ (128 + l / 2) &&& 85 = l / 2 &&& 85) := by decide +kernel
theorem b_fin : ∀ r < 4, ∀ l < 256, (b1 l ≤ 68 ∧ b1 l % 16 ≤ 4 ∧ (r * 64 + a1 l / 4) &&& 51 = a1 l / 4 &&& 51) := by decide +kernel
theorem c_fin : ∀ r < 5, ∀ l < 256, ((r * 16 + b1 l / 16 + b1 l) &&& 15 = c1 l ∧ c1 l = cnt 8 l) := by decide +kernel
theorem pA_step (k h l : Nat) (hl : l < 256) : pA (k + 1) (h * 256 + l) = pA k h * 256 + a1 l := by
  have f := (a_fin l hl)
  have hd : (h * 256 + l) / 2 = (h / 2) * 256 + (h % 2 * 128 + l / 2) := by omega
  unfold pA
  rw [M, hd, and_split _ _ _ _ (by omega) (by omega), and_split _ _ _ _ hl (by omega)]
  have e : (h % 2 * 128 + l / 2) &&& 85 = l / 2 &&& 85 := by
    rcases Nat.mod_two_eq_zero_or_one h with hh | hh <;> rw [hh]
    · simp
    · simpa using f.2
  rw [e]; unfold a1; omega
theorem pB_step (k h l : Nat) (hl : l < 256) : pB (k + 1) (h * 256 + l) = pB k h * 256 + b1 l := by
  have f := (a_fin l hl).1
  unfold pB
  rw [pA_step k h l hl, M]
  have hd : (pA k h * 256 + a1 l) / 4 = (pA k h / 4) * 256 + (pA k h % 4 * 64 + a1 l / 4) := by omega
  rw [hd, and_split _ _ _ _ (by omega) (by omega), and_split _ _ _ _ f (by omega), (b_fin (pA k h % 4) (by omega) l hl).2.2]
  unfold b1; omega
theorem pB_mod (k h : Nat) : pB k h % 16 ≤ 4 := by
  cases k with
  | zero => simp [pB, pA, M]
  | succ k =>
    have e : h = (h / 256) * 256 + h % 256 := by omega
    rw [e, pB_step k _ _ (by omega)]
    have := (b_fin 0 (by omega) (h % 256) (by omega)).2.1
    omega
theorem pC_step (k h l : Nat) (hl : l < 256) : pC (k + 1) (h * 256 + l) = pC k h * 256 + c1 l := by
  have f := (b_fin 0 (by omega) l hl).1
  have g := pB_mod k h
  unfold pC
  rw [pB_step k h l hl, M]
  have hd : (pB k h * 256 + b1 l) / 16 + (pB k h * 256 + b1 l) = (pB k h / 16 + pB k h) * 256 + (pB k h % 16 * 16 + b1 l / 16 + b1 l) := by omega
  rw [hd, and_split _ _ _ _ (by omega) (by omega), (c_fin (pB k h % 16) (by omega) l hl).1]
theorem pC_eq (k x : Nat) : pC (k + 1) x = pC k (x / 256) * 256 + cnt 8 (x % 256) := by
  have e : x = (x / 256) * 256 + x % 256 := by omega
  have h := pC_step k (x / 256) (x % 256) (by omega)
  rw [← e] at h
  rw [h, (c_fin 0 (by omega) (x % 256) (by omega)).2]
theorem pA_le (k x : Nat) : pA k x ≤ 2 * M 85 k := by
  unfold pA
  have := @Nat.and_le_right (x / 2) (M 85 k)
  have := @Nat.and_le_right x (M 85 k)
  omega
theorem pB_le (k x : Nat) : pB k x ≤ 2 * M 51 k := by
  unfold pB
  have := @Nat.and_le_right (pA k x / 4) (M 51 k)
  have := @Nat.and_le_right (pA k x) (M 51 k)
  omega
theorem pC_le (k x : Nat) : pC k x ≤ M 15 k := by
  unfold pC
  exact Nat.and_le_right
theorem M85 : M 85 8 = 6148914691236517205 := by decide +kernel
theorem M51 : M 51 8 = 3689348814741910323 := by decide +kernel
theorem M15 : M 15 8 = 1085102592571150095 := by decide +kernel
theorem pop_fin (e0 e1 e2 e3 e4 e5 e6 e7 x3 x4 x5 x6 : Nat) (h0 : e0 ≤ 8) (h1 : e1 ≤ 8) (h2 : e2 ≤ 8) (h3 : e3 ≤ 8) (h4 : e4 ≤ 8) (h5 : e5 ≤ 8) (h6 : e6 ≤ 8) (h7 : e7 ≤ 8)
    (k3 : x3 = (((((((e7 * 256 + e6) * 256 + e5) * 256 + e4) * 256 + e3) * 256 + e2) * 256 + e1) * 256 + e0)) (k4 : x4 = x3 + x3 / 256) (k5 : x5 = x4 + x4 / 65536) (k6 : x6 = x5 + x5 / 4294967296) :
    x6 % 128 = e0 + e1 + e2 + e3 + e4 + e5 + e6 + e7 := by
  have d3 : x3 / 256 = ((((((e7 * 256 + e6) * 256 + e5) * 256 + e4) * 256 + e3) * 256 + e2) * 256 + e1) := by omega
  have f4 : x4 = (((((((e7 * 256 + (e6 + e7)) * 256 + (e5 + e6)) * 256 + (e4 + e5)) * 256 + (e3 + e4)) * 256 + (e2 + e3)) * 256 + (e1 + e2)) * 256 + (e0 + e1)) := by omega
  have d4 : x4 / 65536 = (((((e7 * 256 + (e6 + e7)) * 256 + (e5 + e6)) * 256 + (e4 + e5)) * 256 + (e3 + e4)) * 256 + (e2 + e3)) := by clear k4 d3 k3; omega
  have f5 : ∃ m, x5 = m * 4294967296 + ((((e3 + e4 + e5 + e6) * 256 + (e2 + e3 + e4 + e5)) * 256 + (e1 + e2 + e3 + e4)) * 256 + (e0 + e1 + e2 + e3)) ∧ ∃ j, m = j * 256 + (e4 + e5 + e6 + e7) := by
    refine ⟨((e7 * 256 + (e6 + e7)) * 256 + (e5 + e6 + e7)) * 256 + (e4 + e5 + e6 + e7), ?_, ((e7 * 256 + (e6 + e7)) * 256 + (e5 + e6 + e7)), rfl⟩
    rw [k5, d4, f4]; clear k4 d3 k3 k5 f4 d4 k6; omega
  obtain ⟨m, hm, j, hj⟩ := f5
  have d5 : x5 / 4294967296 = m := by clear k4 d3 k3 k5 f4 d4 k6; omega
  rw [k6, d5, hm, hj]; clear k4 d3 k3 k5 f4 d4 k6 hm hj d5; omega
theorem pop_eq (x x4 x5 x6 : Nat) (hx : x < 18446744073709551616) (k4 : x4 = pC 8 x + pC 8 x / 256) (k5 : x5 = x4 + x4 / 65536) (k6 : x6 = x5 + x5 / 4294967296) : x6 % 128 = cnt 64 x := by
  have e := pop_fin (cnt 8 (x % 256)) (cnt 8 (x / 256 % 256)) (cnt 8 (x / 256 / 256 % 256)) (cnt 8 (x / 256 / 256 / 256 % 256)) (cnt 8 (x / 256 / 256 / 256 / 256 % 256)) (cnt 8 (x / 256 / 256 / 256 / 256 / 256 % 256)) (cnt 8 (x / 256 / 256 / 256 / 256 / 256 / 256 % 256)) (cnt 8 (x / 256 / 256 / 256 / 256 / 256 / 256 / 256 % 256)) (pC 8 x) x4 x5 x6
    (cnt_le _ _) (cnt_le _ _) (cnt_le _ _) (cnt_le _ _) (cnt_le _ _) (cnt_le _ _) (cnt_le _ _) (cnt_le _ _)
    (by rw [pC_eq 7, pC_eq 6, pC_eq 5, pC_eq 4, pC_eq 3, pC_eq 2, pC_eq 1, pC_eq 0]; simp [pC, M]) k4 k5 k6
  rw [e]
  have p8 : (2 : Nat) ^ 8 = 256 := rfl
  rw [show (64 : Nat) = 8 + 56 from rfl, cnt_add, show (56 : Nat) = 8 + 48 from rfl, cnt_add, show (48 : Nat) = 8 + 40 from rfl, cnt_add, show (40 : Nat) = 8 + 32 from rfl, cnt_add, show (32 : Nat) = 8 + 24 from rfl, cnt_add, show (24 : Nat) = 8 + 16 from rfl, cnt_add, show (16 : Nat) = 8 + 8 from rfl, cnt_add, p8]
  have : x / 256 / 256 / 256 / 256 / 256 / 256 / 256 % 256 = x / 256 / 256 / 256 / 256 / 256 / 256 / 256 := by omega
  rw [this]; omega
open Go.RowKit
theorem ret_int {k : IntKind} {a b : Int} (h : a = b) : Ending.returned (.int k a) = .returned (.int k b) := by rw [h]
theorem bit_wrap (k : Nat) (h : k < 64) : IntKind.u64.wrap (2 ^ k) = (2 ^ k : Nat) := by
  rw [IntKind.wrap_u64]
  have hl : (2:Nat)^k < 18446744073709551616 := by
    have : (2:Nat)^k < 2^64 := Nat.pow_lt_pow_right (by decide) h
    exact this
  have e : ((2:Int)^k) = ((2^k : Nat) : Int) := by simp
  rw [e]
  generalize (2:Nat)^k = z at hl
  omega
set_option maxHeartbeats 400000 in
theorem bit_any (i : Int) (w : World) (h0 : 0 ≤ i) (h1 : i ≤ 65535) :
    Calls Tryz.prog 116 #[.int .i64 i] w fun e w' => e = .returned (.int .u64 ((2 ^ (i % 64).toNat : Nat) : Int)) ∧ w' = w := by
  go_enter Tryz.func116, Tryz.ntmps116
  go_wp2
  go_ret
  exact ⟨ret_int (bit_wrap _ (by omega)), rfl⟩
set_option maxHeartbeats 400000 in
theorem inRange_any (b : Nat) (i n : Int) (w : World) (hc : w.cell? ⟨b, 0, none⟩ = some (.int .i64 n)) :
    Calls Tryz.prog 115 #[.pointer (some ⟨b, 0, none⟩), .int .i64 i] w fun e w' => e = .returned (.bool (decide (0 ≤ i ∧ i < n))) ∧ w' = w := by
  by_cases h : 0 ≤ i
  all_goals
    go_enter Tryz.func115, Tryz.ntmps115
    go_wp2
    go_ret
    exact ⟨by simp; omega, rfl⟩
/-- The table of math/bits in its variable. -/
def TabAt (w : World) : Prop := ∀ j, j < 64 → w.cell? ⟨0, j, none⟩ = some (.int .u8 (Lib.deBruijn64tab.getD j 0))
set_option maxHeartbeats 1000000 in
theorem tz_core (x k idx : Nat) (w : World) (hx0 : ((x : Int) == 0) = false)
    (key : IntKind.u64.wrap (bits BinOp.and IntKind.u64 (x : Int) (IntKind.u64.wrap (-(x : Int))) * 285870213051353865) / 288230376151711744 = (idx : Int))
    (hi : idx < 64) (hk : k < 64) (hcell : w.cell? ⟨0, idx, none⟩ = some (.int .u8 k)) :
    Calls Tryz.prog 118 #[.int .u64 x] w fun e w' => e = .returned (.int .i64 k) ∧ w' = w := by
  go_enter Tryz.func118, Tryz.ntmps118
  go_wp2_with (simp only [key])
  go_ret
  exact ⟨rfl, rfl⟩
theorem tz_key (x a : Nat) (hx : x < 18446744073709551616) (hx0 : x ≠ 0) (hlow : x &&& (18446744073709551616 - x) = a) :
    IntKind.u64.wrap (bits BinOp.and IntKind.u64 (x : Int) (IntKind.u64.wrap (-(x : Int))) * 285870213051353865) / 288230376151711744 = ((a * 285870213051353865 % 18446744073709551616 / 288230376151711744 : Nat) : Int) := by
  have e1 : IntKind.u64.wrap (-(x : Int)) = ((18446744073709551616 - x : Nat) : Int) := by rw [IntKind.wrap_u64]; omega
  rw [e1, bits_and_u64_nat x _ hx (by omega), hlow, IntKind.wrap_u64]
  omega
theorem tz_any (x : Nat) (hx : x < 18446744073709551616) (hx0 : x ≠ 0) (w : World) (hT : TabAt w) :
    Calls Tryz.prog 118 #[.int .u64 x] w fun e w' => e = .returned (.int .i64 (Lib.ctz 64 x)) ∧ w' = w := by
  obtain ⟨hlow, hk⟩ := Lib.lowest_bit 64 x hx0 hx
  obtain ⟨hi, htab⟩ := Lib.deBruijn64_at _ hk
  have hcell := hT _ hi
  rw [htab] at hcell
  exact tz_core x _ _ w (by simp; omega) (tz_key x _ hx hx0 hlow) hi hk hcell
set_option maxHeartbeats 400000 in
theorem ones_core (x x1 x2 x3 x4 x5 x6 r : Nat) (w : World)
    (k1 : IntKind.u64.wrap (bits BinOp.and IntKind.u64 ((x : Int) / 2) 6148914691236517205 + bits BinOp.and IntKind.u64 (x : Int) 6148914691236517205) = (x1 : Int))
    (k2 : IntKind.u64.wrap (bits BinOp.and IntKind.u64 ((x1 : Int) / 4) 3689348814741910323 + bits BinOp.and IntKind.u64 (x1 : Int) 3689348814741910323) = (x2 : Int))
    (k3 : bits BinOp.and IntKind.u64 (IntKind.u64.wrap ((x2 : Int) / 16 + (x2 : Int))) 1085102592571150095 = (x3 : Int))
    (k4 : IntKind.u64.wrap ((x3 : Int) + (x3 : Int) / 256) = (x4 : Int))
    (k5 : IntKind.u64.wrap ((x4 : Int) + (x4 : Int) / 65536) = (x5 : Int))
    (k6 : IntKind.u64.wrap ((x5 : Int) + (x5 : Int) / 4294967296) = (x6 : Int))
    (k7 : bits BinOp.and IntKind.i64 (wrap64 (x6 : Int)) 127 = (r : Int)) :
    Calls Tryz.prog 119 #[.int .u64 x] w fun e w' => e = .returned (.int .i64 r) ∧ w' = w := by
  go_enter Tryz.func119, Tryz.ntmps119
  go_wp2
  go_ret
  exact ⟨rfl, rfl⟩
theorem wrap64_small (x : Nat) (h : x < 9223372036854775808) : wrap64 (x : Int) = x := by
  unfold wrap64; omega
theorem and127 (x : Nat) (h : x < 9223372036854775808) : bits BinOp.and IntKind.i64 (x : Int) 127 = ((x % 128 : Nat) : Int) := by
  have h1 : (BitVec.ofInt 64 (x : Int)).toNat = x := by
    rw [BitVec.ofInt_natCast, BitVec.toNat_ofNat]; exact Nat.mod_eq_of_lt (by omega)
  have h2 : (BitVec.ofInt 64 (127 : Int)).toNat = 127 := by decide
  have h3 : x &&& 127 = x % 128 := Nat.and_two_pow_sub_one_eq_mod x 7
  show IntKind.i64.wrap ((BitVec.ofInt 64 (x : Int) &&& BitVec.ofInt 64 (127 : Int)).toNat : Int) = _
  rw [BitVec.toNat_and, h1, h2, h3]
  simp [IntKind.wrap, IntKind.bits, IntKind.signed]
  omega
theorem wrap_add_div (a d : Nat) (h : a + a / d < 18446744073709551616) : IntKind.u64.wrap ((a : Int) + (a : Int) / (d : Int)) = ((a + a / d : Nat) : Int) := by
  rw [IntKind.wrap_u64, ← Int.natCast_ediv, ← Int.natCast_add]
  generalize a + a / d = z at *
  omega
theorem ones_any (x : Nat) (w : World) (hx : x < 18446744073709551616) :
    Calls Tryz.prog 119 #[.int .u64 x] w fun e w' => e = .returned (.int .i64 (cnt 64 x)) ∧ w' = w := by
  have hA := pA_le 8 x
  have hB := pB_le 8 x
  have hC := pC_le 8 x
  rw [M85] at hA; rw [M51] at hB; rw [M15] at hC
  have hp := pop_eq x _ _ _ hx rfl rfl rfl
  have q1 : ((6148914691236517205 : Nat) : Int) = 6148914691236517205 := rfl
  have q2 : ((3689348814741910323 : Nat) : Int) = 3689348814741910323 := rfl
  have q3 : ((1085102592571150095 : Nat) : Int) = 1085102592571150095 := rfl
  have hBd : pB 8 x = (pA 8 x / 4 &&& 3689348814741910323) + (pA 8 x &&& 3689348814741910323) := by unfold pB; rw [M51]
  have hAd : pA 8 x = (x / 2 &&& 6148914691236517205) + (x &&& 6148914691236517205) := by unfold pA; rw [M85]
  have hCd : pC 8 x = (pB 8 x / 16 + pB 8 x) &&& 1085102592571150095 := by unfold pC; rw [M15]
  rw [← hp]
  generalize pA 8 x = A at *
  generalize pB 8 x = B at *
  generalize pC 8 x = C at *
  refine ones_core x A B C (C + C / 256) (C + C / 256 + (C + C / 256) / 65536) (C + C / 256 + (C + C / 256) / 65536 + (C + C / 256 + (C + C / 256) / 65536) / 4294967296) _ w ?_ ?_ ?_ ?_ ?_ ?_ ?_
  · rw [← q1, show ((x : Int) / 2) = ((x / 2 : Nat) : Int) by omega, bits_and_u64_nat _ _ (by omega) (by omega), bits_and_u64_nat _ _ hx (by omega), IntKind.wrap_u64]
    omega
  · rw [← q2, show ((A : Int) / 4) = ((A / 4 : Nat) : Int) by omega, bits_and_u64_nat _ _ (by omega) (by omega), bits_and_u64_nat _ _ (by omega) (by omega), IntKind.wrap_u64]
    omega
  · rw [IntKind.wrap_u64, ← q3, show ((B : Int) / 16 + B) % 18446744073709551616 = ((B / 16 + B : Nat) : Int) by omega, bits_and_u64_nat _ _ (by omega) (by omega)]
    omega
  · exact wrap_add_div C 256 (by clear hp hAd hBd hCd; omega)
  · exact wrap_add_div _ 65536 (by clear hp hAd hBd hCd; omega)
  · exact wrap_add_div _ 4294967296 (by clear hp hAd hBd hCd; omega)
  · rw [wrap64_small _ (by clear hp hAd hBd hCd; omega), and127 _ (by clear hp hAd hBd hCd; omega)]
def nw (n : Nat) : Nat := (n + 63) / 64
def wordAt (X k : Nat) : Nat := X / 2 ^ (64 * k) % 18446744073709551616
theorem wordAt_lt (X k : Nat) : wordAt X k < 18446744073709551616 := Nat.mod_lt _ (by decide)
theorem elems_mod (a X : Nat) : elems a (X % 2 ^ a) = elems a X := by
  unfold elems
  apply List.filter_congr
  intro i hi
  rw [testBit_mod_lt _ _ _ (List.mem_range.1 hi)]
theorem elems_word (X k : Nat) : elems 64 (wordAt X k) = elems 64 (X / 2 ^ (64 * k)) := by
  have := elems_mod 64 (X / 2 ^ (64 * k))
  exact this
theorem elems_succ (X k : Nat) : elems (64 * (k + 1)) X = elems (64 * k) X ++ (elems 64 (wordAt X k)).map (64 * k + ·) := by
  rw [show 64 * (k + 1) = 64 * k + 64 by omega, elems_add, elems_mod, elems_word]
theorem cnt_succ (X k : Nat) : cnt (64 * (k + 1)) X = cnt (64 * k) X + cnt 64 (wordAt X k) := by
  simp [cnt, elems_succ]
theorem elems_zero (n : Nat) : elems n 0 = [] := by simp [elems]
theorem elems_full (n m X : Nat) (hX : X < 2 ^ n) (h : n ≤ m) : elems m X = elems n X := by
  obtain ⟨d, rfl⟩ : ∃ d, m = n + d := ⟨m - n, by omega⟩
  rw [elems_add, elems_mod, Nat.div_eq_of_lt hX, elems_zero]
  simp
theorem cnt_full (n X : Nat) (hX : X < 2 ^ n) : cnt (64 * nw n) X = cnt n X := by
  unfold cnt
  rw [elems_full n _ X hX (by unfold nw; omega)]
theorem mem_elems {n X i : Nat} : i ∈ elems n X ↔ i < n ∧ X.testBit i = true := by
  simp [elems]
/-- The least set bit. -/
theorem ctz_spec (x : Nat) (h0 : x ≠ 0) (hx : x < 18446744073709551616) : ∃ m, x = 2 ^ Lib.ctz 64 x * (2 * m + 1) ∧ Lib.ctz 64 x < 64 := by
  unfold Lib.ctz
  rw [if_neg h0]
  exact Lib.ctzFrom_spec 64 x (by omega) hx
theorem testBit_odd (c m i : Nat) : (2 ^ c * (2 * m + 1)).testBit i = (decide (i = c) || (decide (c < i) && m.testBit (i - c - 1))) := by
  rw [Nat.mul_comm, Nat.testBit_mul_two_pow]
  by_cases h : i = c
  · subst h; simp [Nat.testBit_zero]
  · by_cases h2 : c < i
    · obtain ⟨j, rfl⟩ : ∃ j, i = c + (j + 1) := ⟨i - c - 1, by omega⟩
      have e1 : c + (j + 1) - c = j + 1 := by omega
      have e2 : c + (j + 1) - c - 1 = j := by omega
      rw [e2, e1, Nat.testBit_succ, show (2 * m + 1) / 2 = m by omega]
      simp
    · have : ¬ c ≤ i := by omega
      simp [h, h2, this]
theorem and_pred (c m : Nat) : (2 ^ c * (2 * m + 1)) &&& (2 ^ c * (2 * m + 1) - 1) = 2 ^ (c + 1) * m := by
  apply Nat.eq_of_testBit_eq
  intro i
  have hp : 0 < 2 ^ c := Nat.two_pow_pos c
  have e : 2 ^ c * (2 * m + 1) - 1 = 2 ^ c * (2 * m) + (2 ^ c - 1) := by
    rw [Nat.mul_add]; omega
  rw [Nat.testBit_and, testBit_odd, e, Nat.testBit_two_pow_mul_add _ (by omega), Nat.mul_comm (2 ^ (c + 1)), Nat.testBit_mul_two_pow]
  by_cases h : i < c
  · have h1 : ¬ i = c := by omega
    have h2 : ¬ c < i := by omega
    have h3 : ¬ c + 1 ≤ i := by omega
    simp [h1, h2, h3]
  · rw [if_neg h]
    by_cases h1 : i = c
    · subst h1
      have : ¬ (i + 1 ≤ i) := by omega
      simp [Nat.testBit_zero, this]
    · obtain ⟨j, rfl⟩ : ∃ j, i = c + (j + 1) := ⟨i - c - 1, by omega⟩
      have e1 : c + (j + 1) - c = j + 1 := by omega
      have e2 : c + (j + 1) - c - 1 = j := by omega
      have e3 : c + (j + 1) - (c + 1) = j := by omega
      have e4 : c + 1 ≤ c + (j + 1) := by omega
      rw [e2, e1, e3, Nat.testBit_succ, show (2 * m) / 2 = m by omega]
      simp [e4]
theorem elems_step (x : Nat) (h0 : x ≠ 0) (hx : x < 18446744073709551616) : elems 64 x = Lib.ctz 64 x :: elems 64 (x &&& (x - 1)) := by
  obtain ⟨m, hm, hc⟩ := ctz_spec x h0 hx
  generalize Lib.ctz 64 x = c at *
  subst hm
  rw [and_pred]
  have hr : List.range 64 = List.range c ++ (c :: (List.range (63 - c)).map (c + 1 + ·)) := by
    rw [show (64 : Nat) = c + (1 + (63 - c)) by omega, List.range_add]
    congr 1
    rw [List.range_add]
    have e : c + (1 + (63 - c)) - (1 + (63 - c)) = c := by omega
    simp [Function.comp_def, Nat.add_assoc]
  have p1 : (List.range c).filter (fun i => (2 ^ c * (2 * m + 1)).testBit i) = [] := by
    rw [List.filter_eq_nil_iff]
    intro i hi
    have := List.mem_range.1 hi
    rw [testBit_odd]
    simp; omega
  have p2 : (List.range c).filter (fun i => (2 ^ (c + 1) * m).testBit i) = [] := by
    rw [List.filter_eq_nil_iff]
    intro i hi
    have := List.mem_range.1 hi
    rw [Nat.mul_comm, Nat.testBit_mul_two_pow]
    simp; omega
  unfold elems
  rw [hr, List.filter_append, List.filter_append, p1, p2, List.filter_cons, List.filter_cons]
  have b1 : (2 ^ c * (2 * m + 1)).testBit c = true := by rw [testBit_odd]; simp
  have b2 : (2 ^ (c + 1) * m).testBit c = false := by rw [Nat.mul_comm, Nat.testBit_mul_two_pow]; simp; omega
  rw [b1, b2]
  simp only [List.nil_append, if_true, Bool.false_eq_true, if_false]
  congr 1
  apply List.filter_congr
  intro i hi
  obtain ⟨j, _, rfl⟩ := List.mem_map.1 hi
  rw [testBit_odd, Nat.mul_comm, Nat.testBit_mul_two_pow]
  have e3 : c + 1 + j - c - 1 = j := by omega
  have e4 : c + 1 + j - (c + 1) = j := by omega
  rw [e3, e4]
  have h5 : ¬ (c + 1 + j = c) := by omega
  have h6 : c < c + 1 + j := by omega
  have h7 : c + 1 ≤ c + 1 + j := by omega
  simp [h5, h6, h7]
theorem and_pred_lt (x : Nat) (h0 : x ≠ 0) : x &&& (x - 1) < x := Nat.lt_of_le_of_lt Nat.and_le_right (by omega)
def wordVals (n X : Nat) : List Value := (List.range (nw n)).map fun k => .int .u64 (wordAt X k)
theorem wordVals_length (n X : Nat) : (wordVals n X).length = nw n := by simp [wordVals]
theorem wordVals_get (n X k : Nat) (h : k < nw n) : (wordVals n X)[k]? = some (.int .u64 (wordAt X k)) := by
  simp [wordVals, h]
/-- A set of the program: its struct is block b, its words begin block g. -/
structure IsSet (w : World) (b g cap n X : Nat) : Prop where
  hn : n ≤ 8192
  hX : X < 2 ^ n
  blk : w.heap[b]? = some (.cells #[.int .i64 n, .slice (some ⟨g, 0, none⟩) (nw n) cap] 123 (0, 0))
  own : w.ownsRow 0 126 1 (.slice (some ⟨g, 0, none⟩) (nw n) cap) (nw n) (wordVals n X)
theorem IsSet.c0 {w : World} {b g cap n X : Nat} (h : IsSet w b g cap n X) : w.cell? ⟨b, 0, none⟩ = some (.int .i64 n) := by
  rw [cell_of_row w b 0 _ 123 (0, 0) h.blk]; rfl
theorem IsSet.c1 {w : World} {b g cap n X : Nat} (h : IsSet w b g cap n X) : w.cell? ⟨b, 1, none⟩ = some (.slice (some ⟨g, 0, none⟩) (nw n) cap) := by
  rw [cell_of_row w b 1 _ 123 (0, 0) h.blk]; rfl
theorem IsSet.word {w : World} {b g cap n X : Nat} (h : IsSet w b g cap n X) (k : Nat) (hk : k < nw n) : w.cell? ⟨g, k, none⟩ = some (.int .u64 (wordAt X k)) := by
  have := h.own.cells (g := g) rfl k _ (wordVals_get n X k hk)
  rw [Addr.add_lit] at this
  simpa using this
theorem nw_le {n : Nat} (h : n ≤ 8192) : nw n ≤ 128 := by unfold nw; omega
theorem cell_lt {w : World} {k : Nat} {o : Obj} (h : w.heap[k]? = some o) : k < w.heap.size := (Array.getElem?_eq_some_iff.1 h).1
theorem IsSet.blt {w : World} {b g cap n X : Nat} (h : IsSet w b g cap n X) : b < w.heap.size := cell_lt h.blk
theorem IsSet.glt {w : World} {b g cap n X : Nat} (h : IsSet w b g cap n X) : g < w.heap.size := (h.own.lt g rfl).2
theorem IsSet.below {w w' : World} {b g cap n X : Nat} (h : IsSet w b g cap n X) (hb : Below w.heap.size w w') : IsSet w' b g cap n X := by
  refine ⟨h.hn, h.hX, ?_, ?_⟩
  · rw [hb.block b h.blt]; exact h.blk
  · exact h.own.kept (row := none) ⟨hb.os, hb.tape, hb.output, hb.size, fun k hk _ => hb.block k hk⟩ (.inr (by simp [Value.ownBlock]))
set_option maxHeartbeats 400000 in
theorem count_any (b g cap n X : Nat) (w : World) (hs : IsSet w b g cap n X) :
    Calls Tryz.prog 102 #[.pointer (some ⟨b, 0, none⟩)] w fun e w' => e = .returned (.int .i64 (cnt n X)) ∧ w' = w := by
  have h1 := hs.c1
  have hnw := nw_le hs.hn
  have hfull := cnt_full n X hs.hX
  have HF : Hid (cnt (64 * nw n) X = cnt n X) := hfull
  have hword := hs.word
  clear hfull hs
  generalize nw n = m at *
  go_enter Tryz.func102, Tryz.ntmps102
  go_wp2
  go_loop [3, 11] (fun c i => ∃ k : Nat, k ≤ m ∧ i = .int .i64 k ∧ c = .int .i64 (cnt (64 * k) X)) (fun _ i => m - (intOf i).toNat)
  case atStart => exact ⟨0, Nat.zero_le _, rfl, rfl⟩
  case round =>
    obtain ⟨k, hk, rfl, rfl⟩ := hrel
    by_cases hlt : k < m
    · have hw := hword k hlt
      have hc1 := cnt_le (64 * k) X
      have hc2 := cnt_le 64 (wordAt X k)
      have HS : Hid (cnt (64 * (k + 1)) X = cnt (64 * k) X + cnt 64 (wordAt X k)) := cnt_succ X k
      have hlw := wordAt_lt X k
      clear hword
      go_wp2_with (go_at_call 119; refine (ones_any _ _ hlw).mono ?_; rintro e w' ⟨rfl, rfl⟩)
      go_round
      case rel => exact ⟨k + 1, by omega, by go_num, by rw [HS.out]; go_num⟩
      case measure => simp [intOf]; omega
    · clear hword
      go_wp2
      go_ret
      have : k = m := by omega
      subst this
      exact ⟨ret_int (by rw [← HF.out]), rfl⟩
theorem inRange_no (b : Nat) (i n : Int) (w : World) (hc : w.cell? ⟨b, 0, none⟩ = some (.int .i64 n)) (hi : ¬ (0 ≤ i ∧ i < n)) :
    Calls Tryz.prog 115 #[.pointer (some ⟨b, 0, none⟩), .int .i64 i] w fun e w' => e = .returned (.bool false) ∧ w' = w := by
  have := inRange_any b i n w hc
  rwa [decide_eq_false hi] at this
set_option maxRecDepth 100000 in
theorem inRange_yes (b : Nat) (i n : Int) (w : World) (hc : w.cell? ⟨b, 0, none⟩ = some (.int .i64 n)) (hi : 0 ≤ i ∧ i < n) :
    Calls Tryz.prog 115 #[.pointer (some ⟨b, 0, none⟩), .int .i64 i] w fun e w' => e = .returned (.bool true) ∧ w' = w := by
  have := inRange_any b i n w hc
  rwa [decide_eq_true hi] at this
/-- Has of whatever number. -/
def hasB (X : Nat) (i : Int) : Bool := decide (0 ≤ i) && X.testBit i.toNat
theorem ownsRow_base {w : World} {base base' : Nat} {e : TypeId} {size : Nat} {v : Value} {n : Nat} {xs : List Value} (h : w.ownsRow base e size v n xs) (hb : base' ≤ base) : w.ownsRow base' e size v n xs := by
  refine ⟨h.1, ?_⟩
  rcases h.2 with h2 | ⟨g, cap, cur, hv, hg, r⟩
  · exact .inl h2
  · exact .inr ⟨g, cap, cur, hv, by omega, r⟩
theorem wordVals_zero (n : Nat) : wordVals n 0 = List.replicate (nw n) (.int .u64 0) := by
  unfold wordVals wordAt
  apply List.ext_getElem?
  intro i
  by_cases h : i < nw n <;> simp [h]
set_option maxRecDepth 100000 in
theorem info67 : (Tryz.prog.info? 126).map (fun i => (i.zero, i.size, i.bytes)) = some (some (.int .u64 0), 1, 8) := by kernel_rfl
set_option maxRecDepth 100000 in
set_option maxHeartbeats 400000 in
theorem new_bad (n : Int) (w : World) (h : n < 0 ∨ 8192 < n) :
    Calls Tryz.prog 114 #[.int .i64 n] w fun e w' => e = .returned (.tuple #[.pointer none, .int .i64 1]) ∧ w' = w := by
  by_cases h0 : n < 0
  · go_enter Tryz.func114, Tryz.ntmps114
    go_wp2
    go_ret2
    exact ⟨rfl, rfl⟩
  · have h1 : 8192 < n := by omega
    go_enter Tryz.func114, Tryz.ntmps114
    go_wp2
    go_ret2
    exact ⟨rfl, rfl⟩
set_option maxRecDepth 100000 in
set_option maxHeartbeats 400000 in
theorem new_ok (n : Nat) (w : World) (h : n ≤ 8192) :
    Calls Tryz.prog 114 #[.int .i64 n] w fun e w' => ∃ b g cap, e = .returned (.tuple #[.pointer (some ⟨b, 0, none⟩), .int .i64 0]) ∧ IsSet w' b g cap n 0 ∧ w.heap.size ≤ b ∧ w.heap.size ≤ g ∧ b ≠ g ∧ Below w.heap.size w w' := by
  obtain ⟨i0, hi, hz0, hz1, hz2⟩ := info_parts info67
  go_enter Tryz.func114, Tryz.ntmps114
  go_wp2_with (at_make; refine wpList_make_full _ rfl _ _ 121 rfl w.heap.size 126 i0 (.int .u64 0) 1 Tryz.underlying121 hi hz0 hz1 _ _ _ _ (nw n) rfl rfl ?_ ?_ ?_ ?_ ?_ ?_)
  · unfold nw; omega
  · unfold nw; omega
  · rw [hz2]; unfold nw; omega
  · unfold nw maxLen; omega
  · exact Nat.le_refl _
  · intro w1 hown hgrow
    go_wp2
    go_ret2
    have hg : w.heap.size < w1.heap.size := (hown.lt _ rfl).2
    rw [toList_madeCells_one, ← wordVals_zero] at hown
    have hA := hown.alloc (.cells #[.int .i64 n, .slice (some ⟨w.heap.size, 0, none⟩) (nw n) (nw n)] 123)
    refine ⟨w1.heap.size, w.heap.size, nw n, rfl, ⟨h, Nat.two_pow_pos n, heap_alloc_new _ _, ownsRow_base hA (Nat.zero_le _)⟩, by omega, Nat.le_refl _, by omega, ?_⟩
    exact ((Below.refl _ _).grown hgrow (Nat.le_refl _) (by intro k hk; cases hk)).alloc (by omega) _
theorem wordAt_testBit (X k t : Nat) : (wordAt X k).testBit t = (decide (t < 64) && X.testBit (64 * k + t)) := by
  have e : wordAt X k = X / 2 ^ (64 * k) % 2 ^ 64 := rfl
  rw [e, Nat.testBit_mod_two_pow, Nat.testBit_div_two_pow, Nat.add_comm]
theorem drewN_cell (w : World) (q : Nat) (a : Addr) : (w.drewN q).cell? a = w.cell? a := rfl
theorem TabAt.drewN {w : World} (h : TabAt w) (q : Nat) : TabAt (w.drewN q) := fun j hj => (drewN_cell w q _).trans (h j hj)
theorem hide {p : Prop} (h : p) : Hid p := h
theorem IsSet.drew {w : World} {b g cap n X : Nat} (h : IsSet w b g cap n X) : IsSet w.drew b g cap n X := ⟨h.hn, h.hX, h.blk, h.own.drew⟩
theorem IsSet.store {w : World} {b g cap n X X' j : Nat} {v : Int} (h : IsSet w b g cap n X) (hbg : b ≠ g) (hj : j < nw n) (hX' : X' < 2 ^ n)
    (ho : ∀ i, i < nw n → i ≠ j → wordAt X' i = wordAt X i) (hv : v = (wordAt X' j : Int)) : IsSet (w.setCell ⟨g, j, none⟩ (.int .u64 v)) b g cap n X' := by
  refine ⟨h.hn, hX', ?_, ?_⟩
  · rw [heap_setCell_other w ⟨g, j, none⟩ b _ hbg]; exact h.blk
  · have := (h.own.stored j (.int .u64 v)).1
    have e : (wordVals n X).set j (.int .u64 v) = wordVals n X' := by
      apply List.ext_getElem?
      intro i
      rw [List.getElem?_set]
      by_cases hij : j = i
      · subst hij
        rw [if_pos rfl, if_pos (by rw [wordVals_length]; exact hj), wordVals_get n X' j hj, hv]
      · rw [if_neg hij]
        by_cases hi : i < nw n
        · rw [wordVals_get n X i hi, wordVals_get n X' i hi, ho i hi (fun h => hij h.symm)]
        · rw [List.getElem?_eq_none (by rw [wordVals_length]; omega), List.getElem?_eq_none (by rw [wordVals_length]; omega)]
    rwa [e] at this
theorem info_parts {P : Program} {t : TypeId} {z : Option Value} {s b : Nat} (h : (P.info? t).map (fun i => (i.zero, i.size, i.bytes)) = some (z, s, b)) : ∃ i, P.info? t = some i ∧ i.zero = z ∧ i.size = s ∧ i.bytes = b := by
  cases hi : P.info? t with
  | none => simp [hi] at h
  | some i =>
    rw [hi] at h
    simp only [Option.map_some, Option.some.injEq, Prod.mk.injEq] at h
    exact ⟨i, rfl, h.1, h.2.1, h.2.2⟩
theorem info3 : (Tryz.prog.info? 3).map (fun i => (i.zero, i.size, i.bytes)) = some (some (.int .i64 0), 1, 8) := by kernel_rfl
/-- The numbers as the program holds them. -/
def intV (l : List Nat) : List Value := l.map fun (i : Nat) => .int .i64 (i : Int)
/-- A variable (block c) that holds a slice of the call's own with these numbers; below B nothing has turned since w. -/
structure LSt (w : World) (B base c : Nat) (l : List Nat) (wr : World) : Prop where
  ex : ∃ g cap, wr.heap[c]? = some (.cells #[.slice (some ⟨g, 0, none⟩) l.length cap] 22 (0, 0)) ∧ wr.ownsRow base 3 1 (.slice (some ⟨g, 0, none⟩) l.length cap) l.length (intV l) ∧ g ≠ c
  below : Below B w wr
  base_le : base ≤ wr.heap.size
set_option maxRecDepth 100000 in
set_option maxHeartbeats 400000 in
theorem put_any (w0 : World) (c base B j : Nat) (i : Int) (hij : i = (j : Int)) (l : List Nat) (w : World) (hst : LSt w0 B base c l w) (hBc : B ≤ c) (hBb : B ≤ base) (hn : l.length ≤ 100000) :
    Calls Tryz.prog 104 #[.int .i64 i, .pointer (some ⟨c, 0, none⟩)] w fun e w' => e = .returned (.bool true) ∧ LSt w0 B base c (l ++ [j]) w' := by
  obtain ⟨⟨gv, capv, hc, hown, hne⟩, hbw, hbase⟩ := hst
  obtain ⟨i0, hi, hz0, hz1, hz2⟩ := info_parts info3
  have hcell := cell_of_one hc
  have hclt := cell_lt hc
  have HIJ := hide hij
  clear hij
  go_enter Tryz.func104, Tryz.ntmps104
  go_wp2_with (at_builtin; refine wpList_append_lies _ rfl _ _ _ rfl base 3 i0 _ 1 8 Tryz.underlying22 hi hz0 hz1 hz2 rfl (by omega) _ l.length (intV l) rfl (hown.alloc _) ⟨w.heap.size, 0, none⟩ 1 1 [.int .i64 i] rfl rfl (World.news_of_block (cs := #[.int .i64 i]) (t := 3) (fr := (0, 0)) (heap_alloc_new w _)) (by simp [Value.oneCell']) (by omega) (by unfold maxLen; omega) (by omega) (by simp; omega) (w.heap.size + 1) (by simp) ?_)
  intro g cap w1 hown1 hgr hat hlt
  have hc1 : w1.heap[c]? = some (.cells #[.slice (some ⟨gv, 0, none⟩) l.length capv] 22 (0, 0)) := by
    rw [hgr.block c (by simp; omega) (by simp [Value.ownBlock]; omega), heap_alloc_old _ _ hclt]; exact hc
  have hgc : g ≠ c := by
    rcases hat with h | h
    · simp [Value.ownBlock] at h; omega
    · omega
  have hcell1 := cell_of_one hc1
  have hfree1 := free_of_one hc1
  have hgv := (hown.lt gv rfl).1
  have hb1 : Below B w0 w1 := (hbw.alloc (by omega) _).grown hgr (by simp; omega) (by intro k hk; simp [Value.ownBlock] at hk; omega)
  have hsz := hgr.size
  clear hat hgr hcell hc hown
  go_wp2
  go_ret
  have hV : intV l ++ [.int .i64 i] = intV (l ++ [j]) := by simp [intV, HIJ.out]
  have hL : (l ++ [j]).length = l.length + 1 := by simp
  rw [hV] at hown1
  refine ⟨rfl, ⟨g, cap, ?_, ?_, hgc⟩, hb1.setCell hBc _, ?_⟩
  · rw [hL]; exact one_setCell hc1
  · rw [hL]; exact ownsRow_setCell_other hown1 (by simp [Value.ownBlock]; omega) _
  · simp at hsz ⊢; omega
set_option maxRecDepth 100000 in
theorem TabAt.below {w w' : World} {B : Nat} (h : TabAt w) (hb : Below B w w') (h0 : 0 < B) : TabAt w' := fun j hj => (hb.cell (p := ⟨0, j, none⟩) h0).trans (h j hj)
set_option maxRecDepth 100000 in
theorem and_pred_u64 (y : Nat) (h0 : y ≠ 0) (hy : y < 18446744073709551616) : bits BinOp.and IntKind.u64 (y : Int) ((y : Int) - 1) = ((y &&& (y - 1) : Nat) : Int) := by
  rw [show ((y : Int) - 1) = ((y - 1 : Nat) : Int) by omega, bits_and_u64_nat _ _ hy (by omega)]
set_option maxRecDepth 100000 in
set_option maxHeartbeats 1000000 in
theorem walk_list (w : World) (g cap m X c base B : Nat) (hword : ∀ k, k < m → w.cell? ⟨g, k, none⟩ = some (.int .u64 (wordAt X k))) (hm : m ≤ 128) (hT : TabAt w) (hgB : g < B) (hB0 : 0 < B)
    (hst : LSt w B base c [] w) (hBc : B ≤ c) (hBb : B ≤ base) :
    Calls Tryz.prog 103 #[.slice (some ⟨g, 0, none⟩) m cap, .func (.func 104) #[] #[.pointer (some ⟨c, 0, none⟩)]] w fun e w' => e = .returned (.tuple #[]) ∧ LSt w B base c (elems (64 * m) X) w' := by
  go_enter Tryz.func103, Tryz.ntmps103
  go_wp2
  go_loopw [8] (fun i wr => ∃ k : Nat, k ≤ m ∧ i = .int .i64 k ∧ LSt w B base c (elems (64 * k) X) wr) (fun i _ => m - (intOf i).toNat)
  case atStart => exact ⟨0, Nat.zero_le _, rfl, by simpa [elems] using hst⟩
  case round =>
    obtain ⟨k, hk, rfl, hsr⟩ := hrel
    clear hst
    by_cases hlt : k < m
    · have hcw : wr.cell? ⟨g, k, none⟩ = some (.int .u64 (wordAt X k)) := (hsr.below.cell hgB).trans (hword k hlt)
      have hwl := wordAt_lt X k
      clear hword
      go_wp2
      go_loopw [5] (fun yy wi => ∃ (y : Nat) (acc : List Nat), yy = .int .u64 y ∧ y < 18446744073709551616 ∧ LSt w B base c acc wi ∧ acc ++ (elems 64 y).map (64 * k + ·) = elems (64 * (k + 1)) X) (fun yy _ => (intOf yy).toNat)
      case atStart => exact ⟨_, _, rfl, hwl, hsr, (elems_succ X k).symm⟩
      case round =>
        obtain ⟨y, acc, rfl, hy, hsi, hacc⟩ := hrel
        have HA := hide hacc
        clear hacc hcw hsr
        by_cases h0 : y = 0
        · have hyb : ((y : Int) != 0) = false := by simp [h0]
          have HY := hide h0
          clear h0
          go_wp2
          go_roundw
          case rel =>
            have e := HA.out
            rw [HY.out, elems_zero] at e
            simp at e
            subst e
            exact ⟨k + 1, by omega, by go_num, hsi⟩
          case measure => simp [intOf]; omega
        · have hyb : ((y : Int) != 0) = true := by simp [h0]
          have hT2 : TabAt wr := hT.below hsi.below hB0
          have hc64 : Lib.ctz 64 y < 64 := by obtain ⟨_, _, h⟩ := ctz_spec y h0 hy; exact h
          have hstep : Hid (acc ++ [64 * k + Lib.ctz 64 y] ++ (elems 64 (y &&& (y - 1))).map (64 * k + ·) = elems (64 * (k + 1)) X) := by
            rw [← HA.out, elems_step y h0 hy]
            show _ = _
            simp
          have hacl : acc.length ≤ 100000 := by
            have h1 := congrArg List.length HA.out
            have h2 := cnt_le (64 * (k + 1)) X
            unfold cnt at h2
            simp at h1
            omega
          have hyp := and_pred_u64 y h0 hy
          have hlt2 := and_pred_lt y h0
          go_wp2_with (first | (go_at_call 118; refine (tz_any y hy h0 _ hT2).mono ?_; rintro e w' ⟨rfl, hw⟩; obtain rfl := hw.symm; clear hw) | (go_at_call 104; refine (put_any w c base B (64 * k + Lib.ctz 64 y) _ (by omega) acc _ hsi hBc hBb hacl).mono ?_; rintro e w2 ⟨rfl, hsi2⟩))
          go_roundw
          case rel => exact ⟨y &&& (y - 1), _, rfl, by omega, hsi2, hstep.out⟩
          case measure => simp [intOf]; omega
    · clear hword
      go_wp2
      go_end0
      have hke : k = m := by omega
      subst hke
      exact ⟨rfl, hsr⟩
set_option maxRecDepth 100000 in
set_option maxHeartbeats 400000 in
theorem list_any (b g cap n X : Nat) (w : World) (hs : IsSet w b g cap n X) (hT : TabAt w) :
    Calls Tryz.prog 59 #[.pointer (some ⟨b, 0, none⟩)] w fun e w' => ∃ gl capl, e = .returned (.slice (some ⟨gl, 0, none⟩) (elems n X).length capl) ∧ w'.ownsRow w.heap.size 3 1 (.slice (some ⟨gl, 0, none⟩) (elems n X).length capl) (elems n X).length (intV (elems n X)) ∧ Below w.heap.size w w' := by
  have h1 := hs.c1
  have hblt := hs.blt
  have hglt := hs.glt
  have hcl := cnt_le n X
  have hn := hs.hn
  have hw0 : 0 < w.heap.size := by omega
  obtain ⟨i0, hi, hz0, hz1, hz2⟩ := info_parts info3
  go_enter Tryz.func59, Tryz.ntmps59
  go_wp2_with (first | (go_at_call 102; refine (count_any b g cap n X _ hs).mono ?_; rintro e w' ⟨rfl, hw⟩; obtain rfl := hw.symm; clear hw) | (at_make; refine wpList_make_own _ rfl _ _ 22 rfl w.heap.size 3 i0 (.int .i64 0) 1 Tryz.underlying22 hi hz0 hz1 _ _ _ (cnt n X) rfl rfl rfl ?_ ?_ ?_ ?_))
  · rw [hz2]; omega
  · unfold maxLen; omega
  · exact Nat.le_refl _
  · intro w1 hown hgrow
    have hb1 : Below w.heap.size w w1 := (Below.refl _ _).grown hgrow (Nat.le_refl _) (by intro k hk; cases hk)
    have hs1 := hs.below hb1
    have h11 := hs1.c1
    have hlt1 : w.heap.size < w1.heap.size := (hown.lt _ rfl).2
    have hT1 := hT.below hb1 hw0
    have hblt1 : b < w1.heap.size := hs1.blt
    clear hs h1
    go_wp2_with fail
    have hA := fun o => (Below.refl w.heap.size w1).alloc (by omega) o
    refine (walk_list _ g cap (nw n) X w1.heap.size w.heap.size w.heap.size (fun k hk => by rw [(hA _).cell (p := ⟨g, k, none⟩) hglt]; exact hs1.word k hk) (nw_le hn) (hT1.below (hA _) hw0) hglt hw0 ⟨⟨w.heap.size, cnt n X, heap_alloc_new _ _, hown.alloc _, by omega⟩, Below.refl _ _, by simp; omega⟩ (by omega) (Nat.le_refl _)).mono ?_
    rintro e w2 ⟨rfl, hst⟩
    obtain ⟨⟨gl, capl, hc, hownl, hne⟩, hbl, hbase⟩ := hst
    have hfull := elems_full n (64 * nw n) X hs1.hX (by unfold nw; omega)
    rw [hfull] at hc hownl
    have hcell := cell_of_one hc
    have hb2 : Below w.heap.size w w2 := (hb1.alloc (by omega) _).trans hbl
    clear hc hbl hs1 hA hfull hown hgrow
    go_wp2
    go_ret
    exact ⟨gl, capl, rfl, hownl, hb2⟩
theorem or_bit (X j : Nat) : bits BinOp.or IntKind.u64 (wordAt X (j / 64) : Int) ((2 ^ (j % 64) : Nat) : Int) = (wordAt (X ||| 2 ^ j) (j / 64) : Int) := by
  have hl : (2:Nat) ^ (j % 64) < 18446744073709551616 := Nat.lt_of_lt_of_le (Nat.pow_lt_pow_right (by decide) (Nat.mod_lt j (by decide))) (Nat.le_refl (2 ^ 64))
  rw [bits_or_u64_nat _ _ (wordAt_lt _ _) hl]
  congr 1
  apply Nat.eq_of_testBit_eq
  intro t
  rw [Nat.testBit_or, wordAt_testBit, wordAt_testBit, Nat.testBit_or, Nat.testBit_two_pow, Nat.testBit_two_pow]
  by_cases ht : t < 64
  · have : (j % 64 = t) ↔ (j = 64 * (j / 64) + t) := by omega
    simp [ht, this]
  · have : ¬ (j % 64 = t) := by omega
    simp [ht, this]
theorem or_other (X j i : Nat) (hne : i ≠ j / 64) : wordAt (X ||| 2 ^ j) i = wordAt X i := by
  apply Nat.eq_of_testBit_eq
  intro t
  rw [wordAt_testBit, wordAt_testBit, Nat.testBit_or, Nat.testBit_two_pow]
  by_cases ht : t < 64
  · have : ¬ (j = 64 * i + t) := by omega
    simp [this]
  · simp [ht]
set_option maxRecDepth 100000 in
theorem or_lt (n X j : Nat) (hX : X < 2 ^ n) (hj : j < n) : X ||| 2 ^ j < 2 ^ n := Nat.or_lt_two_pow hX (Nat.pow_lt_pow_right (by decide) hj)
set_option maxRecDepth 100000 in
set_option maxHeartbeats 400000 in
theorem add_out (b g cap n X : Nat) (i : Int) (w : World) (hs : IsSet w b g cap n X) (hi : ¬ (0 ≤ i ∧ i < (n : Int))) :
    Calls Tryz.prog 93 #[.pointer (some ⟨b, 0, none⟩), .int .i64 i] w fun e w' => e = .returned (.int .i64 10) ∧ w' = w := by
  have h0 := hs.c0
  have HI := hide hi
  clear hs hi
  go_enter Tryz.func93, Tryz.ntmps93
  go_wp2_with (go_at_call 115; refine (inRange_no b i n _ h0 HI.out).mono ?_; rintro e w' ⟨rfl, hw⟩; obtain rfl := hw.symm; clear hw)
  go_ret
  exact ⟨rfl, rfl⟩
set_option maxRecDepth 100000 in
set_option maxHeartbeats 1000000 in
theorem add_in (b g cap n X j B : Nat) (w : World) (hs : IsSet w b g cap n X) (hbg : b ≠ g) (hj : j < n) (hB : B ≤ g) :
    Calls Tryz.prog 93 #[.pointer (some ⟨b, 0, none⟩), .int .i64 j] w fun e w' => e = .returned (.int .i64 0) ∧ IsSet w' b g cap n (X ||| 2 ^ j) ∧ Below B w w' := by
  have h0 := hs.c0
  have h1 := hs.c1
  have hn := hs.hn
  have hix : j / 64 < nw n := by unfold nw; omega
  have hw := hs.word (j / 64) hix
  have hfz : w.frozen? ⟨g, j / 64, none⟩ = false := hs.own.frozenAt _
  have HS := hide hs
  obtain ⟨q, hq⟩ : ∃ q, j / 64 = q := ⟨_, rfl⟩
  have hi2 : IntKind.i64.wrap ((j : Int) / 64) = (q : Int) := by rw [IntKind.wrap_i64]; omega
  rw [hq] at hix hw hfz
  have hi0 : (0 : Int) ≤ (q : Int) := by omega
  have hi1 : (q : Int) < (nw n : Int) := by omega
  have HQ := hide hq
  clear hs hq
  go_enter Tryz.func93, Tryz.ntmps93
  go_wp2_with (go_at_call 115; refine (inRange_yes b j n _ h0 (by omega)).mono ?_; rintro e w' ⟨rfl, hw⟩; obtain rfl := hw.symm; clear hw)
  go_region_with (go_at_call 116; refine (bit_any j _ (by omega) (by omega)).mono ?_; rintro e w' ⟨rfl, rfl⟩)
  all_goals go_wp2
  all_goals go_ret
  all_goals
    refine ⟨rfl, IsSet.drew (HS.out.store hbg hix (or_lt n X j HS.out.hX hj) (fun i _ hne => or_other X j i (by rw [HQ.out]; exact hne)) ?_), (Below.setCell (Below.refl _ _) hB _).drew⟩
    rw [← HQ.out]
    have hm : (((j : Int) % 64).toNat) = j % 64 := by omega
    have := or_bit X j
    first
      | exact this
      | (simp only [hm]; exact this)
      | (simp only [hm]; simpa using this)
/-- The set that 'filled' makes: the list's numbers that fit. -/
def setI (n : Nat) (l : List Int) : Nat := l.foldl (fun X i => if 0 ≤ i ∧ i < (n : Int) then X ||| 2 ^ i.toNat else X) 0
theorem setI_snoc (n : Nat) (l : List Int) (i : Int) : setI n (l ++ [i]) = if 0 ≤ i ∧ i < (n : Int) then setI n l ||| 2 ^ i.toNat else setI n l := by
  simp [setI]
/-- A slice of numbers that can be read. -/
def ReadsI (w : World) (ao : Option Addr) (l : List Int) : Prop := ∀ k, k < l.length → ∃ g o, ao = some ⟨g, o, none⟩ ∧ w.cell? ⟨g, o + k, none⟩ = some (.int .i64 (l.getD k 0))
theorem ReadsI.below {w w' : World} {ao : Option Addr} {l : List Int} (h : ReadsI w ao l) (hb : Below w.heap.size w w') : ReadsI w' ao l := fun k hk => by
  obtain ⟨g, o, rfl, hc⟩ := h k hk
  exact ⟨g, o, rfl, (hb.cell (p := ⟨g, o + k, none⟩) (World.block_lt_of_cell? w _ hc)).trans hc⟩
theorem take_one (l : List Int) (k : Nat) (h : k < l.length) : l.take (k + 1) = l.take k ++ [l.getD k 0] := by
  rw [List.take_succ_eq_append_getElem h]; simp [List.getD, h]
/-- All numbers of a list are below the bound. -/
def okI (n : Nat) (l : List Int) : Bool := l.all fun i => decide (0 ≤ i ∧ i < (n : Int))
theorem okI_false {n : Nat} {l : List Int} {k : Nat} {x : Int} (hlt : k < l.length) (hx : l.getD k 0 = x) (hin : ¬ (0 ≤ x ∧ x < (n : Int))) : okI n l = false := by
  unfold okI
  rw [List.all_eq_false]
  refine ⟨x, ?_, by simpa using hin⟩
  rw [← hx, List.getD_eq_getElem?_getD, List.getElem?_eq_getElem hlt]
  exact List.getElem_mem hlt
set_option maxRecDepth 100000 in
theorem okI_take_one {n : Nat} {l : List Int} {k : Nat} {x : Int} (ht : l.take (k + 1) = l.take k ++ [x]) (h : okI n (l.take k) = true) (hin : 0 ≤ x ∧ x < (n : Int)) : okI n (l.take (k + 1)) = true := by
  unfold okI at h ⊢
  rw [ht, List.all_append, h]
  simpa using hin
set_option maxRecDepth 100000 in
set_option maxHeartbeats 1000000 in
theorem of81_any (ao : Option Addr) (cp n : Nat) (l : List Int) (w : World) (hn : n ≤ 8192) (hr : ReadsI w ao l) (hlen : l.length ≤ 9223372036854775807) :
    Calls Tryz.prog 91 #[.int .i64 n, .slice ao l.length cp] w fun e w' => (okI n l = true ∧ ∃ b g cap, e = .returned (.tuple #[.pointer (some ⟨b, 0, none⟩), .int .i64 0]) ∧ IsSet w' b g cap n (setI n l) ∧ w.heap.size ≤ b ∧ w.heap.size ≤ g ∧ b ≠ g ∧ Below w.heap.size w w') ∨ (okI n l = false ∧ e = .returned (.tuple #[.pointer none, .int .i64 10]) ∧ Below w.heap.size w w') := by
  go_enter Tryz.func91, Tryz.ntmps91
  go_wp2_with fail
  refine (new_ok n _ hn).mono ?_
  rintro e w1 ⟨b, g, cap, rfl, hs1, hb, hg, hbg, hb1⟩
  go_wp2
  go_loopw [21] (fun i wr => ∃ k : Nat, k ≤ l.length ∧ i = .int .i64 k ∧ IsSet wr b g cap n (setI n (l.take k)) ∧ Hid (okI n (l.take k) = true) ∧ Below w.heap.size w wr) (fun i _ => l.length - (intOf i).toNat)
  case atStart => exact ⟨0, Nat.zero_le _, rfl, hs1, rfl, hb1⟩
  case round =>
    obtain ⟨k, hk, rfl, hsr, HO, hbr⟩ := hrel
    clear hs1 hb1
    by_cases hlt : k < l.length
    · obtain ⟨ga, oa, rfl, hc⟩ := hr k hlt
      have hgl : ga < w.heap.size := World.block_lt_of_cell? w ⟨ga, oa + k, none⟩ hc
      have hc2 := (hbr.cell (p := ⟨ga, oa + k, none⟩) hgl).trans hc
      have ht := take_one l k hlt
      obtain ⟨x, hx⟩ : ∃ x, l.getD k 0 = x := ⟨_, rfl⟩
      rw [hx] at hc2 ht
      have HT := hide ht
      have HW := hide hr
      have HX := hide hx
      clear ht hx hr hc
      by_cases hin : 0 ≤ x ∧ x < (n : Int)
      · obtain ⟨j, rfl⟩ := Int.eq_ofNat_of_zero_le hin.1
        have hj : j < n := by omega
        go_wp2_with fail
        refine (add_in b g cap n _ j w.heap.size _ hsr hbg hj hg).mono ?_
        rintro e w2 ⟨rfl, hs2, hb2⟩
        have hc3 := (hb2.cell (p := ⟨ga, oa + k, none⟩) hgl).trans hc2
        have hb3 := hbr.trans hb2
        have HO2 := hide (okI_take_one HT.out HO.out hin)
        clear hsr hbr hb2 hc2
        go_wp2
        go_roundw
        case rel => exact ⟨k + 1, by omega, by go_num, by rw [HT.out, setI_snoc, if_pos hin]; exact hs2, HO2, hb3⟩
        case measure => simp [intOf]; omega
      · have HF := hide (okI_false hlt HX.out hin)
        have HB := hide hbr
        go_wp2_with fail
        refine (add_out b g cap n _ x _ hsr hin).mono ?_
        rintro e w2 ⟨rfl, rfl⟩
        clear hin hbr hsr
        go_wp2
        go_ret2
        exact .inr ⟨HF.out, rfl, HB.out⟩
    · obtain rfl : k = l.length := by omega
      have HS := hide hsr
      have HB := hide hbr
      have HN := hide (And.intro hb (And.intro hg hbg))
      rw [List.take_length] at HO HS
      clear hsr hbr hr hb hg hbg
      go_wp2
      go_ret2
      exact .inl ⟨HO.out, _, _, _, rfl, HS.out, HN.out.1, HN.out.2.1, HN.out.2.2, HB.out⟩
/-- An operation on sets that goes bit by bit. -/
structure BitOp (F : Nat → Nat → Nat) : Prop where
  ex : ∃ φ : Bool → Bool → Bool, φ false false = false ∧ ∀ x y i, (F x y).testBit i = φ (x.testBit i) (y.testBit i)
theorem lt_of_bits {x n : Nat} (h : ∀ i, n ≤ i → x.testBit i = false) : x < 2 ^ n := Nat.lt_pow_two_of_testBit x h
theorem BitOp.lt {F : Nat → Nat → Nat} (h : BitOp F) {x y n : Nat} (hx : x < 2 ^ n) (hy : y < 2 ^ n) : F x y < 2 ^ n := by
  obtain ⟨φ, h0, hb⟩ := h.ex
  apply lt_of_bits
  intro i hi
  rw [hb, Nat.testBit_lt_two_pow (Nat.lt_of_lt_of_le hx (Nat.pow_le_pow_right (by decide) hi)), Nat.testBit_lt_two_pow (Nat.lt_of_lt_of_le hy (Nat.pow_le_pow_right (by decide) hi)), h0]
theorem BitOp.word {F : Nat → Nat → Nat} (h : BitOp F) (X Y k : Nat) : wordAt (F X Y) k = F (wordAt X k) (wordAt Y k) := by
  obtain ⟨φ, h0, hb⟩ := h.ex
  apply Nat.eq_of_testBit_eq
  intro t
  rw [wordAt_testBit, hb, hb, wordAt_testBit, wordAt_testBit]
  by_cases ht : t < 64 <;> simp [ht, h0]
theorem IsSet.other {w w' : World} {b g cap n X r : Nat} (h : IsSet w b g cap n X) (hg : w.grownBy w' (some r)) (h1 : b ≠ r) (h2 : g ≠ r) : IsSet w' b g cap n X := by
  refine ⟨h.hn, h.hX, ?_, h.own.kept hg (.inr (by simp [Value.ownBlock]; exact h2))⟩
  rw [hg.block b h.blt (by simp; exact h1)]; exact h.blk
set_option maxHeartbeats 400000 in
theorem keyBytes_any (n : Int) (w : World) (h0 : 0 ≤ n) (h1 : n ≤ 65535) :
    Calls Tryz.prog 92 #[.int .i64 n] w fun e w' => e = .returned (.int .i64 ((n + 7) / 8)) ∧ w' = w := by
  go_enter Tryz.func92, Tryz.ntmps92
  go_wp2
  go_ret
  exact ⟨ret_int (by omega), rfl⟩
theorem testBit_word (X i : Nat) : (wordAt X (i / 64)).testBit (i % 64) = X.testBit i := by
  have e : wordAt X (i / 64) = X / 2 ^ (64 * (i / 64)) % 2 ^ 64 := rfl
  rw [e, Nat.testBit_mod_two_pow, Nat.testBit_div_two_pow]
  have : i % 64 + 64 * (i / 64) = i := by omega
  rw [this]
  simp [show i % 64 < 64 from Nat.mod_lt _ (by decide)]
theorem ret_bool {a b : Bool} (h : a = b) : Ending.returned (.bool a) = .returned (.bool b) := by rw [h]
/-- A slice value that can be read as these numbers. -/
def Reads (w : World) (ao : Option Addr) (l : List Nat) : Prop := ∀ k, k < l.length → ∃ g, ao = some ⟨g, 0, none⟩ ∧ w.cell? ⟨g, k, none⟩ = some (.int .i64 ((l.getD k 0 : Nat) : Int))
theorem Reads.drewN {w : World} {ao : Option Addr} {l : List Nat} (h : Reads w ao l) (q : Nat) : Reads (w.drewN q) ao l := h
theorem Reads.below {w w' : World} {ao : Option Addr} {l : List Nat} (h : Reads w ao l) (hb : Below w.heap.size w w') : Reads w' ao l := fun k hk => by
  obtain ⟨g, rfl, hc⟩ := h k hk
  exact ⟨g, rfl, (hb.cell (p := ⟨g, k, none⟩) (World.block_lt_of_cell? w _ hc)).trans hc⟩
/-- What 'shows' has at hand: its copy of the document's set (block R), the program's set, the table of math/bits. -/
structure Ctx (wq : World) (R b g cs n X : Nat) (ao : Option Addr) (cap : Nat) : Prop where
  box : wq.heap[R]? = some (.cells #[.int .i64 n, .slice ao (elems n X).length cap] 43 (0, 0))
  set : IsSet wq b g cs n X
  tab : TabAt wq
  reads : Reads wq ao (elems n X)
theorem Ctx.below {w w' : World} {R b g cs n X : Nat} {ao : Option Addr} {cap : Nat} (h : Ctx w R b g cs n X ao cap) (hb : Below w.heap.size w w') : Ctx w' R b g cs n X ao cap :=
  ⟨by rw [hb.block _ (cell_lt h.box)]; exact h.box, h.set.below hb, h.tab.below hb (Nat.lt_of_le_of_lt (Nat.zero_le _) h.set.blt), h.reads.below hb⟩
theorem Ctx.r1 {w : World} {R b g cs n X : Nat} {ao : Option Addr} {cap : Nat} (h : Ctx w R b g cs n X ao cap) : w.cell? ⟨R, 1, none⟩ = some (.slice ao (elems n X).length cap) := by rw [cell_of_row w _ 1 _ 43 (0, 0) h.box]; rfl
theorem below_drewN' {B : Nat} {w w' : World} (h : Below B w w') (q : Nat) : Below B w (w'.drewN q) := ⟨h.os, h.tape, h.output, h.size, h.block⟩
theorem info5 : (Tryz.prog.info? 5).map (fun i => (i.zero, i.size, i.bytes)) = some (some (.int .u8 0), 1, 1) := by kernel_rfl
/-- The first bytes of a set's key: n in two bytes, then k bytes of X. -/
def keyPre (n X k : Nat) : List UInt8 := UInt8.ofNat (n / 256) :: UInt8.ofNat n :: (List.range k).map fun i => UInt8.ofNat (X / 2 ^ (8 * i))
def u8V (l : List UInt8) : List Value := l.map fun c => .int .u8 c.toNat
theorem keyPre_length (n X k : Nat) : (keyPre n X k).length = 2 + k := by simp [keyPre]; omega
theorem keyPre_succ (n X k : Nat) : u8V (keyPre n X (k + 1)) = u8V (keyPre n X k) ++ [.int .u8 (UInt8.ofNat (X / 2 ^ (8 * k))).toNat] := by
  simp [keyPre, u8V, List.range_succ]
theorem key_byte (X k : Nat) : (wordAt X (k * 8 / 64) : Int) / 2 ^ (k * 8 % 64) % 256 = ((UInt8.ofNat (X / 2 ^ (8 * k))).toNat : Int) := by
  have e1 : (wordAt X (k * 8 / 64) : Int) / 2 ^ (k * 8 % 64) % 256 = ((wordAt X (k * 8 / 64) / 2 ^ (k * 8 % 64) % 256 : Nat) : Int) := by
    simp
  rw [e1, UInt8.toNat_ofNat']
  congr 1
  show X / 2 ^ (64 * (k * 8 / 64)) % 2 ^ 64 / 2 ^ (k * 8 % 64) % 2 ^ 8 = X / 2 ^ (8 * k) % 2 ^ 8
  apply Nat.eq_of_testBit_eq
  intro i
  simp only [Nat.testBit_mod_two_pow, Nat.testBit_div_two_pow]
  by_cases h : i < 8
  · have h2 : i + k * 8 % 64 < 64 := by omega
    have h3 : i + k * 8 % 64 + 64 * (k * 8 / 64) = i + 8 * k := by omega
    simp [h2, h3]
  · simp [h]
theorem conv_key (w : World) (gk ck k n X base : Nat) (h : w.ownsRow base 5 1 (.slice (some ⟨gk, 0, none⟩) (2 + k) ck) (2 + k) (u8V (keyPre n X k))) :
    (convert 124 9 (.slice (some ⟨gk, 0, none⟩) (2 + k) ck)).run Tryz.prog w = .ok (.string ⟨(keyPre n X k).toArray⟩) w := by
  have := run_convert_bytes_back (P := Tryz.prog) w 124 9 5 ⟨gk, 0, none⟩ ck (keyPre n X k) Tryz.underlying124 Tryz.underlying5 Tryz.underlying9 (fun j hj => h.cells (g := gk) rfl j _ (by simp [u8V, hj]))
  rwa [keyPre_length] at this
set_option maxRecDepth 100000 in
set_option maxHeartbeats 1000000 in
theorem key_any (b g cap n X : Nat) (w : World) (hs : IsSet w b g cap n X) :
    Calls Tryz.prog 48 #[.pointer (some ⟨b, 0, none⟩)] w fun e w' => e = .returned (.string ⟨(keyPre n X ((n + 7) / 8)).toArray⟩) ∧ Below w.heap.size w w' := by
  have h0 := hs.c0
  have h1 := hs.c1
  have hn := hs.hn
  have hblt := hs.blt
  have hglt := hs.glt
  have hword := hs.word
  clear hs
  obtain ⟨i0, hi, hz0, hz1, hz2⟩ := info_parts info5
  go_enter Tryz.func48, Tryz.ntmps48
  go_wp2_with (first | (go_at_call 92; refine (keyBytes_any n _ (by omega) (by omega)).mono ?_; rintro e w' ⟨rfl, hw⟩; obtain rfl := hw.symm; clear hw) | (at_make; refine wpList_make_own _ rfl _ _ 124 rfl w.heap.size 5 i0 (.int .u8 0) 1 Tryz.underlying124 hi hz0 hz1 _ _ _ (2 + (n + 7) / 8) rfl rfl (by omega) ?_ ?_ ?_ ?_))
  · rw [hz2]; omega
  · unfold maxLen; omega
  · exact Nat.le_refl _
  · intro w1 hown hgrow
    have hb1 : Below w.heap.size w w1 := (Below.refl _ _).grown hgrow (Nat.le_refl _) (by intro k hk; cases hk)
    have hs1 : w.heap.size < w1.heap.size := (hown.lt _ rfl).2
    have h01 : w1.cell? ⟨b, 0, none⟩ = some (.int .i64 n) := (hb1.cell hblt).trans h0
    go_wp2_with fail
    go_region_held3 (fun w' => w'.cell? ⟨b, 0, none⟩ = some (.int .i64 n)) (first | go_keep | (rw [hgr2.cell_far _ (by simp; omega) (by simp [Value.ownBlock]; omega)]; assumption))
      ((refine step_append_lies _ (by rfl) _ _ _ (by rfl) w.heap.size 5 i0 _ 1 1 Tryz.underlying124 hi hz0 hz1 hz2 rfl (by omega) _ 0 [] (by rfl) ((hown.alloc _).drew) ⟨w1.heap.size, 0, none⟩ 2 2 [.int .u8 (UInt8.ofNat (n / 256)).toNat, .int .u8 (UInt8.ofNat n).toNat] (by rfl) (by rfl) (World.news_of_block (cs := #[.int .u8 (UInt8.ofNat (n / 256)).toNat, .int .u8 (UInt8.ofNat n).toNat]) (t := 5) (fr := (0, 0)) (heap_alloc_new w1 _)) (by simp [Value.oneCell']) (by omega) (by unfold maxLen; omega) (by omega) (by simp; omega) (w1.heap.size + 1) (by simp) ?_; intro gg cap2 w2 hown2 hgr2 hat hlt))
    have hs2 := hgr2.size
    have hb2 : Below w.heap.size w w2 := (((hb1.alloc (by omega) _).drew).grown hgr2 (by simp; omega) (by intro k hk; simp [Value.ownBlock] at hk; omega))
    clear hgr2 hown hgrow hb1 h01
    simp only [List.nil_append, Nat.zero_add] at hown2
    go_wp2
    go_loopw [4, 29] (fun v i wr => ∃ (k gk ck : Nat), k ≤ (n + 7) / 8 ∧ i = .int .i64 k ∧ v = .slice (some ⟨gk, 0, none⟩) (2 + k) ck ∧ wr.ownsRow w.heap.size 5 1 (.slice (some ⟨gk, 0, none⟩) (2 + k) ck) (2 + k) (u8V (keyPre n X k)) ∧ Below w.heap.size w wr) (fun _ i _ => (n + 7) / 8 - (intOf i).toNat)
    case atStart => exact ⟨0, gg, cap2, Nat.zero_le _, rfl, rfl, hown2, hb2⟩
    case round =>
      obtain ⟨k, gk, ck, hk, rfl, rfl, hownr, hbr⟩ := hrel
      clear hown2 hb2 hs2 hat hlt
      by_cases hlt : k < (n + 7) / 8
      · have hsr := hbr.size
        have hgk := hownr.lt gk rfl
        have hc1 : wr.cell? ⟨b, 1, none⟩ = some (.slice (some ⟨g, 0, none⟩) (nw n) cap) := (hbr.cell hblt).trans h1
        have hcw : wr.cell? ⟨g, k * 8 / 64, none⟩ = some (.int .u64 (wordAt X (k * 8 / 64))) := (hbr.cell hglt).trans (hword _ (by unfold nw; omega))
        have hix : k * 8 / 64 < nw n := by unfold nw; omega
        clear hword h0 h1
        obtain ⟨c, hc⟩ : ∃ c : Nat, c = (UInt8.ofNat (X / 2 ^ (8 * k))).toNat := ⟨_, rfl⟩
        have hV : (wordAt X (k * 8 / 64) : Int) / 2 ^ (k * 8 % 64) % 256 = (c : Int) := by rw [hc]; exact key_byte X k
        have HC : Hid (c = (UInt8.ofNat (X / 2 ^ (8 * k))).toNat) := hc
        clear hc
        go_wp2_with (at_builtin; refine wpList_append_lies _ rfl _ _ _ rfl w.heap.size 5 i0 _ 1 1 Tryz.underlying124 hi hz0 hz1 hz2 rfl (by omega) _ (2 + k) (u8V (keyPre n X k)) rfl (hownr.alloc _) ⟨wr.heap.size, 0, none⟩ 1 1 [.int .u8 c] rfl rfl (World.news_of_block (cs := #[.int .u8 c]) (t := 5) (fr := (0, 0)) (heap_alloc_new wr _)) (by simp [Value.oneCell']) (by omega) (by unfold maxLen; omega) (by omega) (by simp; omega) (wr.heap.size + 1) (by simp) ?_)
        intro g3 cap3 w3 hown3 hgr3 hat3 hlt3
        have hb3 : Below w.heap.size w w3 := (hbr.alloc (by omega) _).grown hgr3 (by simp; omega) (by intro q hq; simp [Value.ownBlock] at hq; omega)
        have hown4 : w3.ownsRow w.heap.size 5 1 (.slice (some ⟨g3, 0, none⟩) (2 + (k + 1)) cap3) (2 + (k + 1)) (u8V (keyPre n X (k + 1))) := by
          rw [HC.out] at hown3
          rw [keyPre_succ]
          exact hown3
        clear hgr3 hown3 hownr hbr hat3 hc1 hcw
        go_wp2
        go_roundw
        case rel => exact ⟨_, _, _, _, _, _, _, _, _, _, _, _, _, _, _, _, _, _, _, _, _, _, _, ⟨k + 1, g3, cap3, by omega, by go_num, rfl, hown4, hb3⟩, rfl⟩
        case measure => simp [intOf]; omega
      · have hke : k = (n + 7) / 8 := by omega
        have HK : Hid (k = (n + 7) / 8) := hke
        clear hke hword h0 h1
        have hcv := conv_key wr gk ck k n X w.heap.size hownr
        go_wp2
        go_ret
        have := HK.out
        subst this
        exact ⟨rfl, hbr⟩
theorem words_eq (n X Y : Nat) (hX : X < 2 ^ n) (hY : Y < 2 ^ n) (hw : ∀ i, i < nw n → wordAt X i = wordAt Y i) : X = Y := by
  apply Nat.eq_of_testBit_eq
  intro i
  by_cases hi : i / 64 < nw n
  · rw [← testBit_word X i, ← testBit_word Y i, hw _ hi]
  · have hn : n ≤ i := by unfold nw at hi; omega
    rw [Nat.testBit_lt_two_pow (Nat.lt_of_lt_of_le hX (Nat.pow_le_pow_right (by decide) hn)), Nat.testBit_lt_two_pow (Nat.lt_of_lt_of_le hY (Nat.pow_le_pow_right (by decide) hn))]
set_option maxHeartbeats 400000 in
theorem alike_any (b1 b2 n n2 : Nat) (w : World) (p0 : w.cell? ⟨b1, 0, none⟩ = some (.int .i64 n)) (q0 : w.cell? ⟨b2, 0, none⟩ = some (.int .i64 n2)) :
    Calls Tryz.prog 96 #[.pointer (some ⟨b1, 0, none⟩), .pointer (some ⟨b2, 0, none⟩)] w fun e w' => e = .returned (.bool (decide (n = n2))) ∧ ∃ q, w' = w.drewN q := by
  go_enter Tryz.func96, Tryz.ntmps96
  go_wp2_with fail
  go_quiet (fail)
  go_wp2
  go_ret
  refine ⟨ret_bool ?_, _, rfl⟩
  rw [Bool.eq_iff_iff]
  simp only [beq_iff_eq, decide_eq_true_eq]
  omega
theorem alike_yes (b1 b2 n : Nat) (w : World) (p0 : w.cell? ⟨b1, 0, none⟩ = some (.int .i64 n)) (q0 : w.cell? ⟨b2, 0, none⟩ = some (.int .i64 n)) :
    Calls Tryz.prog 96 #[.pointer (some ⟨b1, 0, none⟩), .pointer (some ⟨b2, 0, none⟩)] w fun e w' => e = .returned (.bool true) ∧ ∃ q, w' = w.drewN q := by
  have := alike_any b1 b2 n n w p0 q0
  rwa [decide_eq_true rfl] at this
set_option maxHeartbeats 400000 in
theorem both_any (x y : Nat) (w : World) (hx : x < 18446744073709551616) (hy : y < 18446744073709551616) :
    Calls Tryz.prog 98 #[.int .u64 x, .int .u64 y] w fun e w' => e = .returned (.int .u64 ((x &&& y : Nat) : Int)) ∧ w' = w := by
  have h := bits_and_u64_nat x y hx hy
  go_enter Tryz.func98, Tryz.ntmps98
  go_wp2
  go_ret
  exact ⟨rfl, rfl⟩
theorem op_and : BitOp (· &&& ·) := ⟨⟨(· && ·), rfl, fun x y i => by simp⟩⟩
/-- Z in the words below k, X from there on. -/
def mixTo (Z X k : Nat) : Nat := 2 ^ (64 * k) * (X / 2 ^ (64 * k)) + Z % 2 ^ (64 * k)
theorem mixTo_testBit (Z X k i : Nat) : (mixTo Z X k).testBit i = if i < 64 * k then Z.testBit i else X.testBit i := by
  unfold mixTo
  rw [Nat.testBit_two_pow_mul_add _ (Nat.mod_lt _ (Nat.two_pow_pos _)), Nat.testBit_mod_two_pow, Nat.testBit_div_two_pow]
  by_cases h : i < 64 * k
  · simp [h]
  · rw [if_neg h, if_neg h]; congr 1; omega
theorem mixTo_word (Z X k j : Nat) : wordAt (mixTo Z X k) j = if j < k then wordAt Z j else wordAt X j := by
  apply Nat.eq_of_testBit_eq
  intro t
  by_cases hj : j < k
  · rw [if_pos hj, wordAt_testBit, wordAt_testBit, mixTo_testBit]
    by_cases ht : t < 64
    · rw [if_pos (by omega)]
    · simp [ht]
  · rw [if_neg hj, wordAt_testBit, wordAt_testBit, mixTo_testBit]
    by_cases ht : t < 64
    · rw [if_neg (by omega)]
    · simp [ht]
theorem mixTo_zero (Z X : Nat) : mixTo Z X 0 = X := by simp [mixTo, Nat.mod_one]
theorem mixTo_lt {Z X k n : Nat} (hZ : Z < 2 ^ n) (hX : X < 2 ^ n) : mixTo Z X k < 2 ^ n := by
  apply lt_of_bits
  intro i hi
  rw [mixTo_testBit, Nat.testBit_lt_two_pow (Nat.lt_of_lt_of_le hZ (Nat.pow_le_pow_right (by decide) hi)), Nat.testBit_lt_two_pow (Nat.lt_of_lt_of_le hX (Nat.pow_le_pow_right (by decide) hi))]
  simp
theorem mixTo_full {Z X n : Nat} (hZ : Z < 2 ^ n) (hX : X < 2 ^ n) : mixTo Z X (nw n) = Z := by
  apply words_eq n _ _ (mixTo_lt hZ hX) hZ
  intro i hi
  rw [mixTo_word, if_pos hi]
theorem keep3 {w : World} {b1 g1 b2 g2 k q : Nat} {u v1 v2 v3 : Value} (n1 : b1 ≠ g1) (n2 : b2 ≠ g1) (n3 : g2 ≠ g1)
    (h : w.cell? ⟨b1, 1, none⟩ = some v1 ∧ w.cell? ⟨b2, 1, none⟩ = some v2 ∧ w.cell? ⟨g2, k, none⟩ = some v3) :
    (w.setCell ⟨g1, q, none⟩ u).drew.cell? ⟨b1, 1, none⟩ = some v1 ∧ (w.setCell ⟨g1, q, none⟩ u).drew.cell? ⟨b2, 1, none⟩ = some v2 ∧ (w.setCell ⟨g1, q, none⟩ u).drew.cell? ⟨g2, k, none⟩ = some v3 :=
  ⟨(World.cell?_of_block (Below.heap_setCell w ⟨g1, q, none⟩ u b1 n1)).trans h.1, (World.cell?_of_block (Below.heap_setCell w ⟨g1, q, none⟩ u b2 n2)).trans h.2.1, (World.cell?_of_block (Below.heap_setCell w ⟨g1, q, none⟩ u g2 n3)).trans h.2.2⟩
set_option maxRecDepth 100000 in
set_option maxHeartbeats 1000000 in
theorem mix_and (b1 g1 c1 n X b2 g2 c2 Y B : Nat) (w : World) (h1 : IsSet w b1 g1 c1 n X) (h2 : IsSet w b2 g2 c2 n Y) (n1 : b1 ≠ g1) (n2 : b2 ≠ g1) (n3 : g2 ≠ g1) (hB : B ≤ g1) :
    Calls Tryz.prog 126 #[.pointer (some ⟨b1, 0, none⟩), .pointer (some ⟨b2, 0, none⟩), .func (.func 98) #[] #[]] w fun e w' => e = .returned (.int .i64 0) ∧ IsSet w' b1 g1 c1 n (X &&& Y) ∧ Below B w w' := by
  have hn := h1.hn
  have hnw := nw_le hn
  have HX := hide (And.intro h1.hX h2.hX)
  have HO := hide op_and
  go_enter Tryz.func126, Tryz.ntmps126
  go_wp2_with fail
  refine (alike_yes b1 b2 n _ h1.c0 h2.c0).mono ?_
  rintro e w1 ⟨rfl, q, rfl⟩
  have s1 := h1.below (below_drewN' (Below.refl _ _) q)
  have s2 := h2.below (below_drewN' (Below.refl _ _) q)
  have d1 : Below B w (w.drewN q) := below_drewN' (Below.refl _ _) q
  have a1 := s1.c1
  clear h1 h2
  go_wp2
  go_loopw [18] (fun i wr => ∃ k : Nat, k ≤ nw n ∧ i = .int .i64 k ∧ IsSet wr b1 g1 c1 n (mixTo (X &&& Y) X k) ∧ IsSet wr b2 g2 c2 n Y ∧ Below B w wr) (fun i _ => nw n - (intOf i).toNat)
  case atStart => exact ⟨0, Nat.zero_le _, rfl, by rw [mixTo_zero]; exact s1, s2, d1⟩
  case round =>
    obtain ⟨k, hk, rfl, t1, t2, dr⟩ := hrel
    clear s1 s2 d1 a1
    by_cases hlt : k < nw n
    · have x0 := t1.word k hlt
      rw [mixTo_word, if_neg (by omega)] at x0
      have y0 := t2.word k hlt
      have u1 := t1.c1
      have u2 := t2.c1
      have lx := wordAt_lt X k
      have ly := wordAt_lt Y k
      have hf : wr.frozen? ⟨g1, k, none⟩ = false := t1.own.frozenAt _
      have i0 : (0 : Int) ≤ (k : Int) := by omega
      have i1 : (k : Int) < (nw n : Int) := by omega
      have HT := hide (And.intro t1 (And.intro t2 dr))
      clear t1 t2 dr
      go_wp2_with fail
      go_region_held3 (fun w' => w'.cell? ⟨b1, 1, none⟩ = some (.slice (some ⟨g1, 0, none⟩) (nw n) c1) ∧ w'.cell? ⟨b2, 1, none⟩ = some (.slice (some ⟨g2, 0, none⟩) (nw n) c2) ∧ w'.cell? ⟨g2, k, none⟩ = some (.int .u64 (wordAt Y k)))
        (first | exact keep3 n1 n2 n3 ⟨u1, u2, y0⟩ | go_keep)
        ((go_at_call 98; refine (both_any (wordAt X k) (wordAt Y k) _ lx ly).mono ?_; rintro e w' ⟨rfl, rfl⟩))
      go_wp2
      go_roundw
      case rel =>
        have g := (HT.out.1.own.stored k (.int .u64 ((wordAt X k &&& wordAt Y k : Nat) : Int))).2
        refine ⟨k + 1, by omega, by go_num, ?_, ?_, ?_⟩
        · exact IsSet.drew (HT.out.1.store n1 hlt (mixTo_lt (HO.out.lt HX.out.1 HX.out.2) HX.out.1) (fun i _ hne => by rw [mixTo_word, mixTo_word]; by_cases h : i < k <;> by_cases h' : i < k + 1 <;> simp [h, h'] <;> omega) (by rw [mixTo_word, if_pos (by omega), HO.out.word]))
        · exact IsSet.drew (HT.out.2.1.other g n2 n3)
        · exact (HT.out.2.2.setCell hB _).drew
      case measure => simp [intOf]; omega
    · go_wp2
      go_ret
      have hke : k = nw n := by omega
      subst hke
      rw [mixTo_full (HO.out.lt HX.out.1 HX.out.2) HX.out.1] at t1
      exact ⟨rfl, t1, dr⟩
theorem words_one (n X : Nat) : ∀ u ∈ wordVals n X, u.oneCell' = true := by
  intro u hu
  obtain ⟨k, _, rfl⟩ := List.mem_map.1 hu
  rfl
theorem new_cells {w : World} {g : Nat} {vs : List Value} (hg : g < w.heap.size) (h : ∀ (j : Nat) (u : Value), vs[j]? = some u → w.cell? ((⟨g, 0, none⟩ : Addr).add j) = some u) (o : Obj) :
    ∀ (j : Nat) (u : Value), vs[j]? = some u → (w.alloc o).cell? ((⟨g, 0, none⟩ : Addr).add j) = some u := fun j u hu => by
  have := h j u hu
  rw [Addr.add_lit] at this ⊢
  rw [World.cell?_of_block (w := w) (Below.heap_alloc w o g hg)]
  exact this
theorem keep2 {w w1 : World} {b : Nat} {v0 v1 : Value} (hb : b < w.heap.size) (h0 : w.cell? ⟨b, 0, none⟩ = some v0) (h1 : w.cell? ⟨b, 1, none⟩ = some v1) (d : Below w.drew.heap.size w.drew w1) :
    w1.cell? ⟨b, 0, none⟩ = some v0 ∧ w1.cell? ⟨b, 1, none⟩ = some v1 :=
  ⟨(d.cell (p := ⟨b, 0, none⟩) hb).trans h0, (d.cell (p := ⟨b, 1, none⟩) hb).trans h1⟩
theorem keep2a {w w1 : World} {b : Nat} {v0 v1 : Value} {o : Obj} (hb : b < w.heap.size) (h0 : w.cell? ⟨b, 0, none⟩ = some v0) (h1 : w.cell? ⟨b, 1, none⟩ = some v1) (d : Below w.drew.heap.size w.drew w1) :
    (w1.alloc o).cell? ⟨b, 0, none⟩ = some v0 ∧ (w1.alloc o).cell? ⟨b, 1, none⟩ = some v1 := by
  have hlt : b < w1.heap.size := Nat.lt_of_lt_of_le hb d.size
  obtain ⟨k0, k1⟩ := keep2 hb h0 h1 d
  exact ⟨(World.cell?_of_block (w := w1) (a := ⟨b, 0, none⟩) (Below.heap_alloc w1 o b hlt)).trans k0, (World.cell?_of_block (w := w1) (a := ⟨b, 1, none⟩) (Below.heap_alloc w1 o b hlt)).trans k1⟩
set_option maxRecDepth 100000 in
set_option maxHeartbeats 1000000 in
theorem clone_any (g cap n X : Nat) (w : World) (hn : n ≤ 8192) (hown : w.ownsRow 0 126 1 (.slice (some ⟨g, 0, none⟩) (nw n) cap) (nw n) (wordVals n X)) :
    Calls Tryz.prog 120 #[.slice (some ⟨g, 0, none⟩) (nw n) cap] w fun e w' => ∃ g' cap', e = .returned (.slice (some ⟨g', 0, none⟩) (nw n) cap') ∧ w'.ownsRow w.heap.size 126 1 (.slice (some ⟨g', 0, none⟩) (nw n) cap') (nw n) (wordVals n X) ∧ Below w.heap.size w w' := by
  obtain ⟨i0, hi, hz0, hz1, hz2⟩ := info_parts info67
  have hnw := nw_le hn
  have hglt := (hown.lt g rfl).2
  have hcells := hown.cells (g := g) rfl
  have heq : ∀ W : World, (binOp .eql 121 (.slice (some ⟨g, 0, none⟩) (nw n) cap) (.slice none 0 0)).run Tryz.prog W = .ok (.bool false) W := fun W => by
    have := Lib.run_eql_slice_nil (P := Tryz.prog) W 121 126 (some ⟨g, 0, none⟩) (nw n) cap 0 0 Tryz.underlying121
    simpa using this
  have hlen := wordVals_length n X
  have HL := hide hlen
  have HC := hide hcells
  clear hlen hcells
  go_enter Tryz.func120, Tryz.ntmps120
  go_wp2_with (at_builtin; refine wpList_append_own _ rfl _ _ _ rfl w.heap.size 126 i0 _ 1 8 Tryz.underlying121 hi hz0 hz1 hz2 rfl (by omega) (.slice (some ⟨w.heap.size, 0, none⟩) 0 0) 0 [] rfl (World.ownsRow_made w #[] 0 (Nat.le_refl _) (Nat.zero_le _) rfl) ⟨g, 0, none⟩ (nw n) cap (wordVals n X) rfl (by rw [HL.out, Nat.mul_one]) (new_cells hglt HC.out _) (words_one n X) (by unfold maxLen; omega) (by omega) (by simp) ?_)
  intro v' w1 ho hgr hnil
  have hv : ∃ g' cap', v' = .slice (some ⟨g', 0, none⟩) (nw n) cap' := by
    rcases ho.2 with ⟨hv, _⟩ | ⟨g', cap', cur, hv, _⟩
    · exact absurd hv hnil
    · exact ⟨g', cap', hv⟩
  obtain ⟨g', cap', rfl⟩ := hv
  have hb : Below w.heap.size w w1 := ((Below.refl _ _).alloc (Nat.le_refl _) _).grown hgr (by simp) (by intro k hk; simp [Value.ownBlock] at hk; omega)
  clear hgr hnil HC hown heq
  go_wp2
  go_ret
  exact ⟨g', cap', rfl, ho, hb⟩
set_option maxRecDepth 100000 in
set_option maxHeartbeats 1000000 in
theorem copy_any (b g cap n X : Nat) (w : World) (hs : IsSet w b g cap n X) :
    Calls Tryz.prog 105 #[.pointer (some ⟨b, 0, none⟩)] w fun e w' => ∃ b' g' cap', e = .returned (.pointer (some ⟨b', 0, none⟩)) ∧ IsSet w' b' g' cap' n X ∧ w.heap.size ≤ b' ∧ w.heap.size ≤ g' ∧ b' ≠ g' ∧ Below w.heap.size w w' := by
  have h0 := hs.c0
  have h1 := hs.c1
  have hn := hs.hn
  have hblt := hs.blt
  have HS := hide hs
  clear hs
  go_enter Tryz.func105, Tryz.ntmps105
  go_wp2_with fail
  go_region_held3 (fun w' => w'.cell? ⟨b, 0, none⟩ = some (.int .i64 n) ∧ w'.cell? ⟨b, 1, none⟩ = some (.slice (some ⟨g, 0, none⟩) (nw n) cap))
    (first | exact keep2 hblt h0 h1 hb1 | exact keep2a hblt h0 h1 hb1 | go_keep)
    ((go_at_call 120; refine (clone_any g cap n X _ hn (by exact HS.out.own)).mono ?_; rintro e w1 ⟨g', cap', rfl, ho, hb1⟩))
  go_wp2
  go_ret
  have hg := ho.lt g' rfl
  have hsz := hb1.size
  have hbw : Below w.heap.size w w1 := ⟨hb1.os, hb1.tape, hb1.output, hb1.size, hb1.block⟩
  have hg1 : w.heap.size ≤ g' := hg.1
  have hsz1 : w.heap.size ≤ w1.heap.size := hsz
  refine ⟨w1.heap.size, g', cap', rfl, ⟨hn, HS.out.hX, heap_alloc_new _ _, ownsRow_base (ho.alloc _) (Nat.zero_le _)⟩, hsz1, hg1, by omega, hbw.alloc hsz1 _⟩
set_option maxHeartbeats 1000000 in
theorem mixed_and (b1 g1 c1 n X b2 g2 c2 Y : Nat) (w : World) (h1 : IsSet w b1 g1 c1 n X) (h2 : IsSet w b2 g2 c2 n Y) :
    Calls Tryz.prog 117 #[.pointer (some ⟨b1, 0, none⟩), .pointer (some ⟨b2, 0, none⟩), .func (.func 98) #[] #[]] w fun e w' => ∃ b g c, e = .returned (.tuple #[.pointer (some ⟨b, 0, none⟩), .int .i64 0]) ∧ IsSet w' b g c n (X &&& Y) ∧ w.heap.size ≤ b ∧ w.heap.size ≤ g ∧ b ≠ g ∧ Below w.heap.size w w' := by
  go_enter Tryz.func117, Tryz.ntmps117
  go_wp2_with fail
  refine (alike_yes b1 b2 n _ h1.c0 h2.c0).mono ?_
  rintro e w1 ⟨rfl, q, rfl⟩
  have d1 : Below w.heap.size w (w.drewN q) := below_drewN' (Below.refl _ _) q
  have s1 := h1.below d1
  have s2 := h2.below d1
  clear h1 h2
  go_wp2_with fail
  refine (copy_any b1 g1 c1 n X _ s1).mono ?_
  rintro e w2 ⟨b, g, c, rfl, s3, m1, m2, m3, d2⟩
  have m1 : w.heap.size ≤ b := m1
  have m2 : w.heap.size ≤ g := m2
  have l1 : b2 < w.heap.size := s2.blt
  have l2 : g2 < w.heap.size := s2.glt
  have s2 := s2.below d2
  have d3 : Below w.heap.size w w2 := d1.trans (d2.mono (Nat.le_refl _))
  clear d1 d2 s1
  go_wp2_with fail
  refine (mix_and b g c n X b2 g2 c2 Y w.heap.size _ s3 s2 m3 (by omega) (by omega) m2).mono ?_
  rintro e w3 ⟨rfl, s4, d4⟩
  clear s3 s2
  go_wp2
  go_ret2
  exact ⟨b, g, c, rfl, s4, m1, m2, m3, d3.trans d4⟩
set_option maxHeartbeats 1000000 in
theorem meet_any (b1 g1 c1 n X b2 g2 c2 Y : Nat) (w : World) (h1 : IsSet w b1 g1 c1 n X) (h2 : IsSet w b2 g2 c2 n Y) :
    Calls Tryz.prog 94 #[.pointer (some ⟨b1, 0, none⟩), .pointer (some ⟨b2, 0, none⟩)] w fun e w' => ∃ b g c, e = .returned (.tuple #[.pointer (some ⟨b, 0, none⟩), .int .i64 0]) ∧ IsSet w' b g c n (X &&& Y) ∧ w.heap.size ≤ b ∧ w.heap.size ≤ g ∧ b ≠ g ∧ Below w.heap.size w w' := by
  go_enter Tryz.func94, Tryz.ntmps94
  go_wp2_with fail
  refine (mixed_and b1 g1 c1 n X b2 g2 c2 Y _ h1 h2).mono ?_
  rintro e w1 ⟨b, g, c, rfl, s, m1, m2, m3, d⟩
  clear h1 h2
  go_wp2
  go_ret2
  exact ⟨b, g, c, rfl, s, m1, m2, m3, d⟩
theorem wordAt_zero (k : Nat) : wordAt 0 k = 0 := by simp [wordAt]
set_option maxHeartbeats 1000000 in
theorem leaves_and (b1 g1 c1 n X b2 g2 c2 Y : Nat) (w : World) (h1 : IsSet w b1 g1 c1 n X) (h2 : IsSet w b2 g2 c2 n Y) :
    Calls Tryz.prog 97 #[.pointer (some ⟨b1, 0, none⟩), .pointer (some ⟨b2, 0, none⟩), .func (.func 98) #[] #[]] w fun e w' => e = .returned (.bool (!decide (X &&& Y = 0))) ∧ w' = w := by
  have hn := h1.hn
  have hnw := nw_le hn
  have p1 := h1.c1
  have q1 := h2.c1
  have W1 := hide h1.word
  have W2 := hide h2.word
  have HX := hide (And.intro h1.hX h2.hX)
  clear h1 h2
  go_enter Tryz.func97, Tryz.ntmps97
  go_wp2
  go_loop [14] (fun i => ∃ k : Nat, k ≤ nw n ∧ i = .int .i64 k ∧ ∀ j, j < k → wordAt (X &&& Y) j = 0) (fun i => nw n - (intOf i).toNat)
  case atStart => exact ⟨0, Nat.zero_le _, rfl, fun j hj => by omega⟩
  case round =>
    obtain ⟨k, hk, rfl, hj⟩ := hrel
    have HJ := hide hj
    clear hj
    by_cases hlt : k < nw n
    · have x1 := W1.out k hlt
      have x2 := W2.out k hlt
      have l1 := wordAt_lt X k
      have l2 := wordAt_lt Y k
      have hw := op_and.word X Y k
      by_cases hz : (wordAt X k &&& wordAt Y k) = 0
      · have hb : ((((wordAt X k &&& wordAt Y k) : Nat) : Int) != 0) = false := by rw [hz]; rfl
        have HZ := hide (hw.trans hz)
        clear hz hw
        go_wp2_with (go_at_call 98; refine (both_any (wordAt X k) (wordAt Y k) _ l1 l2).mono ?_; rintro e w' ⟨rfl, hw⟩; obtain rfl := hw.symm; clear hw)
        go_round
        case rel =>
          refine ⟨k + 1, by omega, by go_num, fun j hj => ?_⟩
          by_cases hjk : j = k
          · subst hjk; exact HZ.out
          · exact HJ.out j (by omega)
        case measure => simp [intOf]; omega
      · have hb : ((((wordAt X k &&& wordAt Y k) : Nat) : Int) != 0) = true := by rw [bne_iff_ne]; omega
        have HZ := hide (And.intro hw hz)
        clear hz hw
        go_wp2_with (go_at_call 98; refine (both_any (wordAt X k) (wordAt Y k) _ l1 l2).mono ?_; rintro e w' ⟨rfl, hw⟩; obtain rfl := hw.symm; clear hw)
        go_ret
        refine ⟨ret_bool ?_, rfl⟩
        rw [decide_eq_false (fun h0 => HZ.out.2 (by rw [← HZ.out.1, h0, wordAt_zero]))]
        rfl
    · go_wp2
      go_ret
      refine ⟨ret_bool ?_, rfl⟩
      rw [decide_eq_true (words_eq n _ 0 (op_and.lt HX.out.1 HX.out.2) (Nat.two_pow_pos n) (fun i hi => by rw [HJ.out i (by omega), wordAt_zero]))]
      rfl
set_option maxHeartbeats 400000 in
theorem meets_any (b1 g1 c1 n X b2 g2 c2 Y : Nat) (w : World) (h1 : IsSet w b1 g1 c1 n X) (h2 : IsSet w b2 g2 c2 n Y) :
    Calls Tryz.prog 53 #[.pointer (some ⟨b1, 0, none⟩), .pointer (some ⟨b2, 0, none⟩)] w fun e w' => e = .returned (.bool (!decide (X &&& Y = 0))) ∧ Below w.heap.size w w' := by
  go_enter Tryz.func53, Tryz.ntmps53
  go_wp2_with fail
  refine (alike_yes b1 b2 n _ h1.c0 h2.c0).mono ?_
  rintro e w1 ⟨rfl, q, rfl⟩
  have d1 : Below w.heap.size w (w.drewN q) := below_drewN' (Below.refl _ _) q
  have s1 := h1.below d1
  have s2 := h2.below d1
  clear h1 h2
  go_wp2_with fail
  refine (leaves_and b1 g1 c1 n X b2 g2 c2 Y _ s1 s2).mono ?_
  rintro e w2 ⟨rfl, rfl⟩
  clear s1 s2
  go_wp2
  go_ret
  exact ⟨by simp, d1⟩
/-- The numbers below n that are not in X. -/
def notN (n X : Nat) : Nat := (2 ^ n - 1) ^^^ X
theorem notN_testBit (n X i : Nat) (hX : X < 2 ^ n) : (notN n X).testBit i = (decide (i < n) && !X.testBit i) := by
  unfold notN
  rw [Nat.testBit_xor, Nat.testBit_two_pow_sub_one]
  by_cases h : i < n
  · simp [h]
  · rw [Nat.testBit_lt_two_pow (Nat.lt_of_lt_of_le hX (Nat.pow_le_pow_right (by decide) (by omega)))]; simp [h]
theorem notN_lt (n X : Nat) (hX : X < 2 ^ n) : notN n X < 2 ^ n := by
  apply lt_of_bits
  intro i hi
  rw [notN_testBit n X i hX]
  simp; omega
/-- A set's memory, whatever its words are. -/
structure Raw (w : World) (b g cap n : Nat) (f : Nat → Nat) : Prop where
  blk : w.heap[b]? = some (.cells #[.int .i64 n, .slice (some ⟨g, 0, none⟩) (nw n) cap] 123 (0, 0))
  own : w.ownsRow 0 126 1 (.slice (some ⟨g, 0, none⟩) (nw n) cap) (nw n) ((List.range (nw n)).map fun k => .int .u64 (f k : Int))
theorem IsSet.raw {w : World} {b g cap n X : Nat} (h : IsSet w b g cap n X) : Raw w b g cap n (wordAt X) := ⟨h.blk, h.own⟩
theorem Raw.c0 {w : World} {b g cap n : Nat} {f : Nat → Nat} (h : Raw w b g cap n f) : w.cell? ⟨b, 0, none⟩ = some (.int .i64 n) := by
  rw [cell_of_row w b 0 _ 123 (0, 0) h.blk]; rfl
theorem Raw.c1 {w : World} {b g cap n : Nat} {f : Nat → Nat} (h : Raw w b g cap n f) : w.cell? ⟨b, 1, none⟩ = some (.slice (some ⟨g, 0, none⟩) (nw n) cap) := by
  rw [cell_of_row w b 1 _ 123 (0, 0) h.blk]; rfl
theorem Raw.word {w : World} {b g cap n : Nat} {f : Nat → Nat} (h : Raw w b g cap n f) (k : Nat) (hk : k < nw n) : w.cell? ⟨g, k, none⟩ = some (.int .u64 (f k : Int)) := by
  have := h.own.cells (g := g) rfl k (.int .u64 (f k : Int)) (by simp [hk])
  rw [Addr.add_lit] at this
  simpa using this
theorem Raw.drew {w : World} {b g cap n : Nat} {f : Nat → Nat} (h : Raw w b g cap n f) : Raw w.drew b g cap n f := ⟨h.blk, h.own.drew⟩
theorem Raw.drewN {w : World} {b g cap n : Nat} {f : Nat → Nat} (h : Raw w b g cap n f) (q : Nat) : Raw (w.drewN q) b g cap n f := ⟨h.blk, h.own⟩
theorem Raw.store {w : World} {b g cap n j v : Nat} {f f' : Nat → Nat} (h : Raw w b g cap n f) (hbg : b ≠ g) (ho : ∀ i, i < nw n → i ≠ j → f' i = f i) (hv : f' j = v) : Raw (w.setCell ⟨g, j, none⟩ (.int .u64 (v : Int))) b g cap n f' := by
  refine ⟨?_, ?_⟩
  · rw [heap_setCell_other w ⟨g, j, none⟩ b _ hbg]; exact h.blk
  · have := (h.own.stored j (.int .u64 (v : Int))).1
    have e : ((List.range (nw n)).map fun k => Value.int .u64 (f k : Int)).set j (.int .u64 (v : Int)) = (List.range (nw n)).map fun k => .int .u64 (f' k : Int) := by
      apply List.ext_getElem?
      intro i
      rw [List.getElem?_set]
      by_cases hi : i < nw n
      · by_cases hij : j = i
        · subst hij; simp [hi, hv]
        · simp [hij, hi, ho i hi (fun h => hij h.symm)]
      · by_cases hij : j = i
        · subst hij; simp [hi]
        · simp [hij, hi]
    rwa [e] at this
theorem Raw.isSet {w : World} {b g cap n X : Nat} {f : Nat → Nat} (h : Raw w b g cap n f) (hn : n ≤ 8192) (hX : X < 2 ^ n) (hf : ∀ i, i < nw n → f i = wordAt X i) : IsSet w b g cap n X := by
  refine ⟨hn, hX, h.blk, ?_⟩
  have e : (List.range (nw n)).map (fun k => Value.int .u64 (f k : Int)) = wordVals n X := by
    unfold wordVals
    apply List.map_congr_left
    intro i hi
    rw [hf i (List.mem_range.1 hi)]
  rw [← e]
  exact h.own
theorem compl_testBit (x i : Nat) (hx : x < 18446744073709551616) : (18446744073709551615 - x).testBit i = (decide (i < 64) && !x.testBit i) := by
  have := Nat.testBit_two_pow_sub_succ (n := 64) (x := x) hx i
  rw [← this]
  congr 1
  omega
theorem not_word (x : Nat) (hx : x < 18446744073709551616) : bits BinOp.xor IntKind.u64 (if IntKind.u64.signed = true then -1 else IntKind.u64.max) (x : Int) = ((18446744073709551615 - x : Nat) : Int) := by
  have e : (if IntKind.u64.signed = true then (-1 : Int) else IntKind.u64.max) = ((18446744073709551615 : Nat) : Int) := by decide
  rw [e, bits_xor_u64_nat _ _ (by decide) hx]
  congr 1
  apply Nat.eq_of_testBit_eq
  intro i
  rw [compl_testBit x i hx, Nat.testBit_xor, show (18446744073709551615 : Nat) = 2 ^ 64 - 1 from rfl, Nat.testBit_two_pow_sub_one]
  by_cases h : i < 64
  · simp [h]
  · rw [Nat.testBit_lt_two_pow (Nat.lt_of_lt_of_le hx (show 2 ^ 64 ≤ 2 ^ i from Nat.pow_le_pow_right (by decide) (by omega)))]; simp [h]
theorem mask_word (x sp : Nat) (hx : x < 18446744073709551616) : bits BinOp.and IntKind.u64 (x : Int) (18446744073709551615 / 2 ^ sp) = ((x &&& (18446744073709551615 / 2 ^ sp) : Nat) : Int) := by
  have e : (18446744073709551615 : Int) / 2 ^ sp = ((18446744073709551615 / 2 ^ sp : Nat) : Int) := by simp
  have hl : 18446744073709551615 / 2 ^ sp < 18446744073709551616 := Nat.lt_of_le_of_lt (Nat.div_le_self _ _) (by decide)
  rw [e, bits_and_u64_nat _ _ hx hl]
theorem not_words (n X j : Nat) (hX : X < 2 ^ n) (h : 64 * (j + 1) ≤ n) : 18446744073709551615 - wordAt X j = wordAt (notN n X) j := by
  apply Nat.eq_of_testBit_eq
  intro t
  rw [compl_testBit _ _ (wordAt_lt _ _), wordAt_testBit, wordAt_testBit, notN_testBit n X _ hX]
  by_cases ht : t < 64
  · have : 64 * j + t < n := by omega
    simp [ht, this]
  · simp [ht]
theorem not_last (n X j sp : Nat) (hX : X < 2 ^ n) (hj : 64 * (j + 1) = n + sp) (_hsp : sp < 64) : (18446744073709551615 - wordAt X j) &&& (18446744073709551615 / 2 ^ sp) = wordAt (notN n X) j := by
  apply Nat.eq_of_testBit_eq
  intro t
  rw [Nat.testBit_and, compl_testBit _ _ (wordAt_lt _ _), wordAt_testBit, wordAt_testBit, notN_testBit n X _ hX, Nat.testBit_div_two_pow, show (18446744073709551615 : Nat) = 2 ^ 64 - 1 from rfl, Nat.testBit_two_pow_sub_one]
  by_cases ht : t < 64
  · have : (t + sp < 64) ↔ (64 * j + t < n) := by omega
    simp only [ht, this, decide_true, Bool.true_and]
    cases X.testBit (64 * j + t) <;> simp
  · simp [ht]
set_option maxRecDepth 100000 in
set_option maxHeartbeats 1000000 in
theorem not_any (b g cap n X : Nat) (w : World) (hs : IsSet w b g cap n X) :
    Calls Tryz.prog 63 #[.pointer (some ⟨b, 0, none⟩)] w fun e w' => ∃ b' g' cap', e = .returned (.pointer (some ⟨b', 0, none⟩)) ∧ IsSet w' b' g' cap' n (notN n X) ∧ w.heap.size ≤ b' ∧ w.heap.size ≤ g' ∧ b' ≠ g' ∧ Below w.heap.size w w' := by
  have hn := hs.hn
  have hnw := nw_le hn
  have HX := hide hs.hX
  go_enter Tryz.func63, Tryz.ntmps63
  go_wp2_with fail
  refine (copy_any b g cap n X _ hs).mono ?_
  rintro e w1 ⟨b', g', cap', rfl, s1, m1, m2, m3, d1⟩
  have r1 := s1.raw
  have u1 := r1.c1
  clear hs s1
  go_wp2
  go_loopw [16] (fun i wr => ∃ k : Nat, k ≤ nw n ∧ i = .int .i64 k ∧ Raw wr b' g' cap' n (fun j => if j < k then 18446744073709551615 - wordAt X j else wordAt X j) ∧ Below w.heap.size w wr) (fun i _ => nw n - (intOf i).toNat)
  case atStart => exact ⟨0, Nat.zero_le _, rfl, by simpa using r1, d1⟩
  case round =>
    obtain ⟨k, hk, rfl, rr, dr⟩ := hrel
    clear r1 u1 d1
    have y1 := rr.c1
    by_cases hlt : k < nw n
    · have x0 := rr.word k hlt
      rw [if_neg (by omega)] at x0
      have hf : wr.frozen? ⟨g', k, none⟩ = false := rr.own.frozenAt _
      have lx := wordAt_lt X k
      have HR := hide rr
      clear rr
      go_wp2
      go_roundw
      case rel =>
        refine ⟨k + 1, by omega, by go_num, ?_, dr.setCell m2 _⟩
        rw [not_word _ lx]
        refine HR.out.store m3 (fun i _ hne => ?_) ?_
        · by_cases h : i < k <;> by_cases h' : i < k + 1 <;> simp [h, h'] <;> omega
        · simp
      case measure => simp [intOf]; omega
    · have hke : k = nw n := by omega
      subst hke
      have z0 := rr.c0
      have hw0 : (nw n : Int) * 64 ≤ 8255 := by unfold nw; omega
      have HR := hide rr
      clear rr
      obtain ⟨sp, hsp⟩ : ∃ sp : Nat, (nw n : Int) * 64 - (n : Int) = (sp : Int) := ⟨nw n * 64 - n, by unfold nw; omega⟩
      have hspl : sp < 64 := by unfold nw at hsp; omega
      have HSP := hide hsp
      by_cases hs0 : sp = 0
      · subst hs0
        go_wp2_with fail
        go_quiet (fail)
        go_wp2
        go_ret
        refine ⟨b', g', cap', rfl, ?_, m1, m2, m3, below_drewN' dr _⟩
        have := HSP.out
        refine (HR.out.drewN _).isSet hn (notN_lt n X HX.out) (fun i hi => ?_)
        simp only [hi, if_true]
        exact not_words n X i HX.out (by omega)
      · have hpos : 0 < sp := by omega
        obtain ⟨q, hq⟩ : ∃ q, nw n = q + 1 := ⟨nw n - 1, by unfold nw; omega⟩
        have hql : q < nw n := by omega
        have x0 := HR.out.word q hql
        rw [if_pos hql] at x0
        have hf : wr.frozen? ⟨g', q, none⟩ = false := HR.out.own.frozenAt _
        have i2 : IntKind.i64.wrap ((nw n : Int) - 1) = (q : Int) := by rw [IntKind.wrap_i64]; omega
        have i0 : (0 : Int) ≤ (q : Int) := by omega
        have i1 : (q : Int) < (nw n : Int) := by omega
        have HQ := hide hq
        clear hq hs0
        go_wp2_with fail
        go_quiet (fail)
        go_wp2_with fail
        go_region
        all_goals go_wp2
        all_goals go_ret
        refine ⟨b', g', cap', rfl, ?_, m1, m2, m3, ?_⟩
        · have hsp2 := HSP.out
          have hq2 := HQ.out
          rw [mask_word (18446744073709551615 - wordAt X q) sp (by omega), not_last n X q sp HX.out (by omega) hspl]
          refine Raw.isSet (f := wordAt (notN n X)) ?_ hn (notN_lt n X HX.out) (fun _ _ => rfl)
          refine (HR.out.drewN _).store m3 (fun i hi hne => ?_) rfl
          simp only [hi, if_true]
          exact (not_words n X i HX.out (by omega)).symm
        · exact (below_drewN' dr _).setCell m2 _
/-! ### A region in two phases: the first operations only read, and all the others wait for them -/
section
variable {P : Program} {md : Region.Mode} {ops : Array Oper} {C : World → Prop}
/-- What has come up has come up behind all that it waits for. -/
def ClosedL (md : Region.Mode) (ops : Array Oper) (listed : Array Bool) : Prop :=
  ∀ (j : Nat) (oj : Oper), ops[j]? = some oj → listed.getD j true = true → ∀ e ∈ oj.after, Region.binds md e = true → listed.getD e.on false = true
/-- Does one wait for another, over some others? -/
def waitsL (md : Region.Mode) (ops : Array Oper) : Nat → Nat → Nat → Bool
  | 0, _, _ => false
  | f + 1, j, i => match ops[j]? with
    | none => false
    | some o => o.after.any fun e => Region.binds md e && (e.on == i || waitsL md ops f e.on i)
theorem getD_of (l : Array Bool) (i : Nat) (h : l.getD i true = false) : l.getD i false = false := by
  rcases Nat.lt_or_ge i l.size with h' | h'
  · simpa [h'] using h
  · simp [Array.getElem?_eq_none h']
theorem getD_to (l : Array Bool) (i : Nat) (h : l.getD i false = true) : l.getD i true = true := by
  rcases Nat.lt_or_ge i l.size with h' | h'
  · simpa [h'] using h
  · simp [Array.getElem?_eq_none h'] at h
theorem waits_un {listed : Array Bool} (hc : ClosedL md ops listed) {i : Nat} (hi : listed.getD i true = false) : ∀ (f j : Nat), waitsL md ops f j i = true → ∃ e oj, ops[j]? = some oj ∧ e ∈ oj.after ∧ Region.binds md e = true ∧ listed.getD e.on false = false
  | 0, _, h => by simp [waitsL] at h
  | f + 1, j, h => by
    unfold waitsL at h
    cases ho : ops[j]? with
    | none => simp [ho] at h
    | some oj =>
      simp only [ho] at h
      obtain ⟨e, he, h2⟩ : ∃ e ∈ oj.after, (Region.binds md e && (e.on == i || waitsL md ops f e.on i)) = true := by
        obtain ⟨i1, hi1, h2⟩ := Array.any_eq_true.1 h
        exact ⟨_, Array.getElem_mem hi1, h2⟩
      simp only [Bool.and_eq_true, Bool.or_eq_true, beq_iff_eq] at h2
      obtain ⟨hb, h3⟩ := h2
      refine ⟨e, oj, rfl, he, hb, ?_⟩
      rcases h3 with rfl | h3
      · exact getD_of _ _ hi
      · cases hx : listed.getD e.on false with
        | false => rfl
        | true =>
          obtain ⟨e', oj', h4, h5, h6, h7⟩ := waits_un hc hi f e.on h3
          have := hc _ _ h4 (getD_to _ _ hx) e' h5 h6
          rw [h7] at this; cases this
/-- The others wait for each of the first n. -/
def phasedB (md : Region.Mode) (ops : Array Oper) (n : Nat) : Bool :=
  (List.range ops.size).all fun j => decide (j < n) || (List.range n).all fun i => waitsL md ops ops.size j i
theorem phased_lt {n : Nat} {listed : Array Bool} (hp : phasedB md ops n = true) (hc : ClosedL md ops listed) {i j : Nat} (hin : i < n) (hi : listed.getD i true = false) (hj : j ∈ Region.ready md ops listed) : j < n := by
  obtain ⟨h0, oj, ho, hall⟩ := mem_ready.1 hj
  rcases Nat.lt_or_ge j n with h | h
  · exact h
  · unfold phasedB at hp
    rw [List.all_eq_true] at hp
    have h1 := hp j (List.mem_range.2 (Array.getElem?_eq_some_iff.1 ho).1)
    simp only [Bool.or_eq_true, decide_eq_true_eq, List.all_eq_true, List.mem_range] at h1
    rcases h1 with h1 | h1
    · exact h1
    · obtain ⟨e, oj', h4, h5, h6, h7⟩ := waits_un hc hi _ _ (h1 i hin)
      rw [ho] at h4
      cases h4
      rw [hall e h5 h6] at h7
      cases h7
theorem ClosedL.set {listed : Array Bool} (hc : ClosedL md ops listed) {j : Nat} (hj : j ∈ Region.ready md ops listed) : ClosedL md ops (listed.setIfInBounds j true) := by
  intro k ok hk hl e he hb
  by_cases hjk : j = k
  · subst hjk
    obtain ⟨h0, oj, ho, hall⟩ := mem_ready.1 hj
    rw [ho] at hk
    cases hk
    exact getD_set_true (hall e he hb)
  · rw [getD_set_ne true hjk] at hl
    exact getD_set_true (hc k ok hk hl e he hb)
/-- Whatever order is picked until the first n have all come up. -/
def wpFirst (P : Program) (md : Region.Mode) (ops : Array Oper) (C : World → Prop) (n : Nat) (T : Array Bool → Act → Prop) : Nat → Array Bool → Act → Prop
  | 0, listed, a => (∀ j, j < n → listed.getD j true = true) ∧ T listed a
  | m + 1, listed, a => Region.ready md ops listed ≠ [] ∧ ∀ i ∈ Region.ready md ops listed, qOp P ops C i (wpFirst P md ops C n T m (listed.setIfInBounds i true)) a
theorem wpAny_of_first {n : Nat} {T : Array Bool → Act → Prop} {Q : Exit → Act → World → Prop} {k : Nat} (hT : ∀ listed a w, C w → T listed a → wpAny P md ops Q k listed a w) :
    ∀ (m : Nat) (listed : Array Bool) (a : Act) (w : World), C w → wpFirst P md ops C n T m listed a → wpAny P md ops Q (k + m) listed a w
  | 0, _, _, _, hw, h => hT _ _ _ hw h.2
  | m + 1, _, _, _, hw, h => ⟨fun h0 => absurd h0 h.1, fun i hi => wpOp_of_qOp hw (fun a' w' hw' => wpAny_of_first hT m _ a' w' hw') (h.2 i hi)⟩
theorem wpFirst_first {n : Nat} {T : Array Bool → Act → Prop} {i : Nat} {oi : Oper} {v : Value} (hi : ops[i]? = some oi) (hin : i < n) (hp : phasedB md ops n = true)
    (hsel : ∀ (j : Nat) (o : Oper) cs b, ops[j]? = some o → o.op ≠ .select cs b) :
    ∀ (fuel : Nat) (listed : Array Bool) (a : Act), ClosedL md ops listed →
      (∀ j oj, ops[j]? = some oj → j ≠ i → listed.getD j true = false → (∀ e ∈ oj.after, Region.binds md e = true → e.on ≠ i) → oi.apart ops oj = true) →
      i ∈ Region.ready md ops listed → YieldsIn P ops C oi v a →
      wpFirst P md ops C n T fuel (listed.setIfInBounds i true) (a.put oi.dst v) → wpFirst P md ops C n T (fuel + 1) listed a := by
  intro fuel
  induction fuel with
  | zero =>
    intro listed a hc _ hr hy H
    refine ⟨fun h => (by rw [h] at hr; cases hr), fun j hj => ?_⟩
    by_cases hji : j = i
    · subst hji; exact hy.qOp hi H
    · have hjn := phased_lt hp hc hin (mem_ready.1 hr).1 hj
      have h1 := H.1 j hjn
      rw [getD_set_ne true (Ne.symm hji), (mem_ready.1 hj).1] at h1
      cases h1
  | succ fuel ih =>
    intro listed a hc hfree hr hy H
    refine ⟨fun h => (by rw [h] at hr; cases hr), fun j hj => ?_⟩
    by_cases hji : j = i
    · subst hji; exact hy.qOp hi H
    · have h1 := H.2 j (ready_mono hj hji)
      obtain ⟨hjun, oj, hoj, hall⟩ := mem_ready.1 hj
      have hnot : ∀ e ∈ oj.after, Region.binds md e = true → e.on ≠ i := fun e he hb heq => by
        have h1 := hall e he hb
        rw [heq, getD_of _ _ (mem_ready.1 hr).1] at h1
        cases h1
      have h2 := qOp_put hoj (hfree j oj hoj hji hjun hnot) (fun cs b => hsel i oi cs b hi) (fun cs b => hsel j oj cs b hoj) hy h1
      have hfree' : ∀ k ok, ops[k]? = some ok → k ≠ i → (listed.setIfInBounds j true).getD k true = false →
          (∀ e ∈ ok.after, Region.binds md e = true → e.on ≠ i) → oi.apart ops ok = true := fun k ok hk hki hun hno => by
        refine hfree k ok hk hki ?_ hno
        by_cases hjk : j = k
        · subst hjk; exact hjun
        · rw [getD_set_ne true hjk] at hun; exact hun
      refine qOp_mono (fun a' h3 => ih (listed.setIfInBounds j true) a' (hc.set hj) hfree' (ready_mono hr (Ne.symm hji)) h3.1 ?_) h2
      rw [Array.setIfInBounds_comm _ _ hji]
      exact h3.2
/-- The first ones, in their order; L: what has come up then. -/
def firstB (md : Region.Mode) (ops : Array Oper) (n : Nat) : Nat → Nat → Array Bool → Array Bool → Bool
  | 0, _, listed, L => (List.range n).all (fun j => listed.getD j true) && decide (listed = L)
  | fuel + 1, k, listed, L => (Region.ready md ops listed).contains k && Region.free md ops listed k && decide (k < n) && firstB md ops n fuel (k + 1) (listed.setIfInBounds k true) L
theorem wpFirst_lex {n : Nat} {L : Array Bool} {Q : Act → Prop} (hs : Region.noSelect ops = true) (hp : phasedB md ops n = true) : ∀ (l : List Oper) (k : Nat) (listed : Array Bool) (a : Act), ClosedL md ops listed → (∀ j o, l[j]? = some o → ops[k + j]? = some o) →
    firstB md ops n l.length k listed L = true → wpQuiet P ops C Q l a → wpFirst P md ops C n (fun listed' a' => listed' = L ∧ Q a') l.length listed a
  | [], _, _, _, _, _, hB, h => by
    simp only [List.length_nil, firstB, Bool.and_eq_true, List.all_eq_true, List.mem_range, decide_eq_true_eq] at hB
    exact ⟨hB.1, hB.2, h⟩
  | o :: l, k, listed, a, hc, hl, hB, h => by
    have h0 : ops[k]? = some o := hl 0 o rfl
    simp only [List.length_cons, firstB, Bool.and_eq_true, decide_eq_true_eq] at hB
    obtain ⟨⟨⟨hr, hf⟩, hk⟩, hB'⟩ := hB
    have hr' : k ∈ Region.ready md ops listed := by simpa using hr
    have hst : qOp P ops C k (wpQuiet P ops C Q l) a := by unfold qOp; simp only [h0]; exact h
    obtain ⟨v, hy, hK⟩ := yieldsIn_of_qOp h0 hst
    exact wpFirst_first h0 hk hp (Region.noSelect_spec hs) l.length listed a hc (Region.free_spec h0 hf) hr' hy
      (wpFirst_lex hs hp l (k + 1) _ _ (hc.set hr') (fun j o' ho => by have := hl (j + 1) o' (by simpa using ho); simpa [Nat.add_assoc, Nat.add_comm 1 j] using this) hB' hK)
/-- The others, one at a time. -/
def lineB (md : Region.Mode) (ops : Array Oper) : Nat → Nat → Array Bool → Bool
  | 0, _, listed => (Region.ready md ops listed).isEmpty
  | fuel + 1, k, listed => decide (Region.ready md ops listed = [k]) && lineB md ops fuel (k + 1) (listed.setIfInBounds k true)
theorem wpAny_line {Q : Exit → Act → World → Prop} : ∀ (l : List Oper) (k : Nat) (listed : Array Bool) (a : Act) (w : World), (∀ j o, l[j]? = some o → ops[k + j]? = some o) →
    lineB md ops l.length k listed = true → wpList P ops Q l a w → wpAny P md ops Q l.length listed a w
  | [], _, _, _, _, _, hB, h => ⟨by simpa [lineB] using hB, h⟩
  | o :: l, k, listed, a, w, hl, hB, h => by
    have h0 : ops[k]? = some o := hl 0 o rfl
    simp only [List.length_cons, lineB, Bool.and_eq_true, decide_eq_true_eq] at hB
    obtain ⟨hr, hB'⟩ := hB
    refine ⟨fun h1 => (by rw [hr] at h1; cases h1), fun j hj => ?_⟩
    rw [hr] at hj
    obtain rfl := List.mem_singleton.1 hj
    have NX : ∀ a' w', wpList P ops Q l a' w' → wpAny P md ops Q l.length (listed.setIfInBounds j true) a' w' := fun a' w' =>
      wpAny_line l (j + 1) _ a' w' (fun i o' ho => by have := hl (i + 1) o' (by simpa using ho); simpa [Nat.add_assoc, Nat.add_comm 1 i] using this) hB'
    unfold wpOp
    simp only [h0]
    unfold wpList at h
    split
    · rename_i hw
      rw [if_pos hw] at h
      exact h.imp (Oper.wp_mono NX) id
    · rename_i hw
      rw [if_neg hw] at h
      exact NX _ _ h
theorem closed_none (md : Region.Mode) (ops : Array Oper) : ClosedL md ops (Array.replicate ops.size false) := by
  intro j oj ho hl
  have := (Array.getElem?_eq_some_iff.1 ho).1
  simp [this] at hl
/-- Both phases, asked of a region's text. -/
def phaseB (ops : Array Oper) (n : Nat) (L : Array Bool) : Bool :=
  Nat.ble n ops.size && Region.noSelect ops && phasedB .any ops n && firstB .any ops n n 0 (Array.replicate ops.size false) L && lineB .any ops (ops.size - n) n L
/-- A region of two phases. -/
theorem wp_region_phase {id : Nat} {Q : Exit → Act → World → Prop} {a : Act} {w : World} {l : List Oper} (n : Nat) (L : Array Bool) (hm : P.follows .mixedOrders = true) (hB : phaseB l.toArray n L = true)
    (h : wpQuiet P l.toArray (fun w' => ∃ n, w' = w.drewN n) (fun a' => ∀ w', (∃ n, w' = w.drewN n) → wpList P l.toArray Q (l.drop n) a' w') (l.take n) a) : (Code.region id l.toArray true).wp P Q a w := by
  unfold phaseB at hB
  simp only [Bool.and_eq_true] at hB
  obtain ⟨⟨⟨⟨h0, h1⟩, h2⟩, h3⟩, h4⟩ := hB
  have hn : n ≤ l.length := by simpa using Nat.le_of_ble_eq_true h0
  refine wp_region_any hm ?_
  have hl1 : (l.take n).length = n := by simp [hn]
  have hl2 : (l.drop n).length = l.toArray.size - n := by simp
  have F := wpFirst_lex (P := P) (C := fun w' => ∃ n, w' = w.drewN n) (L := L) h1 h2 (l.take n) 0 (Array.replicate l.toArray.size false) a (closed_none _ _)
    (fun j o ho => by
      rw [List.getElem?_take] at ho
      split at ho
      · simpa using ho
      · cases ho) (by rw [hl1]; exact h3) h
  have A := wpAny_of_first (Q := Q) (k := l.toArray.size - n) (fun listed a' w' hw' hT => by
    obtain ⟨e, hT⟩ := hT
    subst e
    have := wpAny_line (P := P) (md := .any) (Q := Q) (l.drop n) n _ a' w' (fun j o ho => by rw [List.getElem?_drop] at ho; simpa using ho) (by rw [hl2]; exact h4) (hT w' hw')
    rwa [hl2] at this) _ _ _ (w.drewN 1) ⟨1, rfl⟩ F
  rw [hl1, show l.toArray.size - n + n = l.toArray.size by simp only [List.size_toArray]; omega] at A
  exact A
end
/-! ### A region whose first operations make things, in whatever order, and whose others wait for all of them -/
def cntM (f : Nat → Bool) : Nat → Nat
  | 0 => 0
  | n + 1 => cntM f n + (if f n then 1 else 0)
theorem cntM_same {f g : Nat → Bool} {n : Nat} (h : ∀ i, i < n → g i = f i) : cntM g n = cntM f n := by
  induction n with
  | zero => rfl
  | succ n ih => simp only [cntM]; rw [ih (fun i hi => h i (by omega)), h n (by omega)]
theorem cntM_drop {f g : Nat → Bool} {j : Nat} (hj : f j = true) (gj : g j = false) (h : ∀ i, i ≠ j → g i = f i) : ∀ n, j < n → cntM g n + 1 = cntM f n
  | 0, hn => by omega
  | n + 1, hn => by
    simp only [cntM]
    rcases Nat.lt_or_ge j n with h1 | h1
    · have := cntM_drop hj gj h n h1
      rw [h n (by omega)]
      omega
    · have e : j = n := by omega
      subst e
      rw [cntM_same (f := f) (g := g) (fun i hi => h i (by omega)), hj, gj]
      simp
theorem cntM_least {f : Nat → Bool} : ∀ n, 0 < cntM f n → ∃ i, i < n ∧ f i = true ∧ ∀ j, j < i → f j = false
  | 0, h => by simp [cntM] at h
  | n + 1, h => by
    rcases Nat.eq_zero_or_pos (cntM f n) with h0 | h0
    · refine ⟨n, by omega, ?_, ?_⟩
      · simp only [cntM, h0] at h
        cases hf : f n with
        | true => rfl
        | false => rw [hf] at h; simp at h
      · intro j hj
        cases hf : f j with
        | false => rfl
        | true =>
          exfalso
          have : ∀ n, j < n → 0 < cntM f n := by
            intro n
            induction n with
            | zero => intro h; omega
            | succ n ih =>
              intro h
              simp only [cntM]
              rcases Nat.lt_or_ge j n with h1 | h1
              · have := ih h1; omega
              · have e : j = n := by omega
                subst e; rw [hf]; simp
          have := this n hj
          omega
    · obtain ⟨i, h1, h2, h3⟩ := cntM_least n h0
      exact ⟨i, by omega, h2, h3⟩
theorem cntM_zero {f : Nat → Bool} : ∀ n, cntM f n = 0 → ∀ i, i < n → f i = false
  | 0, _, i, h => by omega
  | n + 1, h, i, hi => by
    simp only [cntM] at h
    rcases Nat.lt_or_ge i n with h1 | h1
    · exact cntM_zero n (by omega) i h1
    · have e : i = n := by omega
      subst e
      cases hf : f i with
      | false => rfl
      | true => rw [hf] at h; simp at h
section
variable {P : Program} {ops : Array Oper} {Q : Exit → Act → World → Prop}
def updV (y : Nat → Value) (i : Nat) (x : Value) : Nat → Value := fun j => if j = i then x else y j
/-- What is asked of one of the first operations. -/
def Hop (P : Program) (ops : Array Oper) (Q : Exit → Act → World → Prop) (w : World) (fill : (Nat → Value) → Act) (Φ : Nat → Value → Nat → Nat → World → Prop) (i : Nat) (o : Oper) : Prop :=
  ∀ (y : Nat → Value) (W : World), Below w.heap.size w W → (∀ e ∈ o.after, Region.binds .any e = true → ∃ lo hi, hi ≤ W.heap.size ∧ Φ e.on (y e.on) lo hi W) →
    ∀ K : Act → World → Prop, Shut (∀ x a' W', Below W.heap.size W W' → Φ i x W.heap.size W'.heap.size W' → a' = fill (updV y i x) → K a' W') → if Region.wanted o (yielded ops (fill y).tmps) = true then Oper.wp P o (fill y) W K Q else K ((fill y).put o.dst undef) W
def Hops (P : Program) (ops : Array Oper) (Q : Exit → Act → World → Prop) (w : World) (fill : (Nat → Value) → Act) (Φ : Nat → Value → Nat → Nat → World → Prop) : Nat → List Oper → Prop
  | _, [] => True
  | k, o :: r => Hop P ops Q w fill Φ k o ∧ Hops P ops Q w fill Φ (k + 1) r
theorem Hops.at {w : World} {fill : (Nat → Value) → Act} {Φ : Nat → Value → Nat → Nat → World → Prop} : ∀ (l : List Oper) (k i : Nat) (o : Oper), Hops P ops Q w fill Φ k l → l[i]? = some o → Hop P ops Q w fill Φ (k + i) o
  | [], _, _, _, _, h => by simp at h
  | o' :: r, k, 0, o, H, h => by simp at h; subst h; exact H.1
  | o' :: r, k, i + 1, o, H, h => by
    have := Hops.at r (k + 1) i o H.2 (by simpa using h)
    rwa [show k + 1 + i = k + (i + 1) by omega] at this
/-- What has been made, one thing after the other. -/
structure Made (w : World) (Φ : Nat → Value → Nat → Nat → World → Prop) (ops : Array Oper) (n : Nat) (is : Nat → Bool) (y : Nat → Value) (lo hi : Nat → Nat) (W : World) : Prop where
  d : Below w.heap.size w W
  fact : ∀ i, i < n → is i = true → Φ i (y i) (lo i) (hi i) W
  at' : ∀ i, i < n → is i = true → w.heap.size ≤ lo i ∧ lo i ≤ hi i ∧ hi i ≤ W.heap.size
  apart : ∀ i j, i < n → j < n → is i = true → is j = true → i ≠ j → hi i ≤ lo j ∨ hi j ≤ lo i
  order : ∀ j o e, j < n → is j = true → ops[j]? = some o → e ∈ o.after → Region.binds .any e = true → hi e.on ≤ lo j
def depsB (ops : Array Oper) (n : Nat) : Bool := (List.range n).all fun i => match ops[i]? with
  | none => false
  | some o => o.after.all fun e => !Region.binds .any e || decide (e.on < i)
theorem depsB_at {n : Nat} (h : depsB ops n = true) {i : Nat} (hi : i < n) : ∃ o, ops[i]? = some o ∧ ∀ e ∈ o.after, Region.binds .any e = true → e.on < i := by
  unfold depsB at h
  rw [List.all_eq_true] at h
  have := h i (List.mem_range.2 hi)
  split at this
  · cases this
  · rename_i o ho
    refine ⟨o, ho, fun e he hb => ?_⟩
    rw [Array.all_eq_true_iff_forall_mem] at this
    have := this e he
    rw [hb] at this
    simpa using this
theorem line_more {L : List Oper} : ∀ (x k : Nat) (listed : Array Bool) (a : Act) (w : World), (∀ j o, L[j]? = some o → ops[k + j]? = some o) →
    lineB .any ops L.length k listed = true → wpList P ops Q L a w → wpAny P .any ops Q (L.length + x) listed a w := by
  induction L with
  | nil =>
    intro x k listed a w _ hB h
    have hr : Region.ready .any ops listed = [] := by simpa [lineB] using hB
    cases x with
    | zero => exact ⟨hr, h⟩
    | succ x => exact ⟨fun _ => h, fun i hi => by rw [hr] at hi; cases hi⟩
  | cons o L ih =>
    intro x k listed a w hl hB h
    have h0 : ops[k]? = some o := hl 0 o rfl
    simp only [List.length_cons, lineB, Bool.and_eq_true, decide_eq_true_eq] at hB
    obtain ⟨hr, hB'⟩ := hB
    rw [List.length_cons, show L.length + 1 + x = (L.length + x) + 1 by omega]
    refine ⟨fun h1 => (by rw [hr] at h1; cases h1), fun j hj => ?_⟩
    rw [hr] at hj
    obtain rfl := List.mem_singleton.1 hj
    have NX : ∀ a' w', wpList P ops Q L a' w' → wpAny P .any ops Q (L.length + x) (listed.setIfInBounds j true) a' w' := fun a' w' =>
      ih x (j + 1) _ a' w' (fun i o' ho => by have := hl (i + 1) o' (by simpa using ho); simpa [Nat.add_assoc, Nat.add_comm 1 i] using this) hB'
    unfold wpOp
    simp only [h0]
    unfold wpList at h
    split
    · rename_i hw
      rw [if_pos hw] at h
      exact h.imp (Oper.wp_mono NX) id
    · rename_i hw
      rw [if_neg hw] at h
      exact NX _ _ h
/-- Asked of a region's text. -/
def makeB (ops : Array Oper) (n : Nat) : Bool := Nat.ble n ops.size && phasedB .any ops n && depsB ops n && lineB .any ops (ops.size - n) n (Array.ofFn (n := ops.size) fun i => decide (i.1 < n))
def fills : Nat → List Oper → (Nat → Value) → Act → Act
  | _, [], _, a => a
  | k, o :: r, y, a => fills (k + 1) r y (a.put o.dst (y k))
def firstY (l : List Oper) (a : Act) (i : Nat) : Value := match l[i]? with
  | none => undef
  | some o => match o.dst with
    | none => undef
    | some d => a.tmps.getD d undef
theorem put_self (a : Act) (d : Nat) : a.put (some d) (a.tmps.getD d undef) = a := by
  unfold Act.put
  have : a.tmps.setIfInBounds d (a.tmps.getD d undef) = a.tmps := by
    refine Array.ext (by simp) (fun i h1 h2 => ?_)
    by_cases e : d = i
    · subst e
      simp [h2]
    · rw [Array.getElem_setIfInBounds_ne (by simpa using h1) e]
  simp only [this]
theorem fills_self (l : List Oper) (a : Act) : ∀ (r : List Oper) (k : Nat), (∀ j o, r[j]? = some o → l[k + j]? = some o) → fills k r (firstY l a) a = a
  | [], _, _ => rfl
  | o :: r, k, h => by
    have h0 : l[k]? = some o := h 0 o rfl
    have e : a.put o.dst (firstY l a k) = a := by
      unfold firstY
      rw [h0]
      show a.put o.dst (match o.dst with
        | none => undef
        | some d => a.tmps.getD d undef) = a
      cases o.dst with
      | none => rfl
      | some d => exact put_self a d
    unfold fills
    rw [e]
    exact fills_self l a r (k + 1) (fun j o' ho => by have := h (j + 1) o' (by simpa using ho); rwa [show k + 1 + j = k + (j + 1) by omega])
abbrev MkP := Value → Nat → Nat → World → Prop
def MonoP (p : MkP) : Prop := ∀ x lo hi W W', hi ≤ W.heap.size → Below W.heap.size W W' → p x lo hi W → p x lo hi W'
def MonoL : List MkP → Prop
  | [] => True
  | p :: r => MonoP p ∧ MonoL r
def phiL (L : List MkP) (i : Nat) : MkP := L.getD i (fun _ _ _ _ => True)
theorem MonoL.at : ∀ (L : List MkP) (i : Nat), MonoL L → MonoP (phiL L i)
  | [], _, _ => fun _ _ _ _ _ _ _ h => h
  | _ :: _, 0, h => h.1
  | _ :: r, i + 1, h => MonoL.at r i h.2
end
end Go.Proofs.YtgnpdhgphkocoaaGreatDoor
