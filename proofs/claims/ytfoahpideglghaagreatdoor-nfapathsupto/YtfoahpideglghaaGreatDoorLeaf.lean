import Derived.Test.YtfoahpideglghaaGreatDoorProg
import Derived.WalkKit
import Derived.WalkSpells
import Derived.WalkLawsBesides
import Derived.Lib.TrailingZeros
import Derived.Test.YtfoahpideglghaaGreatDoorPop
namespace Go.Proofs.YtfoahpideglghaaGreatDoor
open Go.RowKit

theorem ret_int {k : IntKind} {a b : Int} (h : a = b) : Ending.returned (.int k a) = .returned (.int k b) := by rw [h]
theorem bit_wrap (k : Nat) (h : k < 64) : IntKind.u64.wrap (2 ^ k) = (2 ^ k : Nat) := by
  rw [IntKind.wrap_u64]
  have hl : (2:Nat)^k < 18446744073709551616 := by
    have : (2:Nat)^k < 2^64 := Nat.pow_lt_pow_right (by decide) h
    exact this
  have e : ((2:Int)^k) = ((2^k : Nat) : Int) := by simp
  rw [e]
  generalize (2:Nat)^k = z at hl
  omega
set_option maxHeartbeats 400000 in
theorem bit_any (i : Int) (w : World) (h0 : 0 ≤ i) (h1 : i ≤ 65535) :
    Calls Tryz.prog 108 #[.int .i64 i] w fun e w' => e = .returned (.int .u64 ((2 ^ (i % 64).toNat : Nat) : Int)) ∧ w' = w := by
  go_enter Tryz.func108, Tryz.ntmps108
  go_wp2
  go_ret
  exact ⟨ret_int (bit_wrap _ (by omega)), rfl⟩
set_option maxHeartbeats 400000 in
theorem inRange_any (b : Nat) (i n : Int) (w : World) (hc : w.cell? ⟨b, 0, none⟩ = some (.int .i64 n)) :
    Calls Tryz.prog 117 #[.pointer (some ⟨b, 0, none⟩), .int .i64 i] w fun e w' => e = .returned (.bool (decide (0 ≤ i ∧ i < n))) ∧ w' = w := by
  by_cases h : 0 ≤ i
  all_goals
    go_enter Tryz.func117, Tryz.ntmps117
    go_wp2
    go_ret
    exact ⟨by simp; omega, rfl⟩
/-- The table of math/bits in its variable. -/
def TabAt (w : World) : Prop := ∀ j, j < 64 → w.cell? ⟨0, j, none⟩ = some (.int .u8 (Lib.deBruijn64tab.getD j 0))
set_option maxHeartbeats 1000000 in
theorem tz_core (x k idx : Nat) (w : World) (hx0 : ((x : Int) == 0) = false)
    (key : IntKind.u64.wrap (bits BinOp.and IntKind.u64 (x : Int) (IntKind.u64.wrap (-(x : Int))) * 285870213051353865) / 288230376151711744 = (idx : Int))
    (hi : idx < 64) (hk : k < 64) (hcell : w.cell? ⟨0, idx, none⟩ = some (.int .u8 k)) :
    Calls Tryz.prog 109 #[.int .u64 x] w fun e w' => e = .returned (.int .i64 k) ∧ w' = w := by
  go_enter Tryz.func109, Tryz.ntmps109
  go_wp2_with (simp only [key])
  go_ret
  exact ⟨rfl, rfl⟩
theorem tz_key (x a : Nat) (hx : x < 18446744073709551616) (hx0 : x ≠ 0) (hlow : x &&& (18446744073709551616 - x) = a) :
    IntKind.u64.wrap (bits BinOp.and IntKind.u64 (x : Int) (IntKind.u64.wrap (-(x : Int))) * 285870213051353865) / 288230376151711744 = ((a * 285870213051353865 % 18446744073709551616 / 288230376151711744 : Nat) : Int) := by
  have e1 : IntKind.u64.wrap (-(x : Int)) = ((18446744073709551616 - x : Nat) : Int) := by rw [IntKind.wrap_u64]; omega
  rw [e1, bits_and_u64_nat x _ hx (by omega), hlow, IntKind.wrap_u64]
  omega
theorem tz_any (x : Nat) (hx : x < 18446744073709551616) (hx0 : x ≠ 0) (w : World) (hT : TabAt w) :
    Calls Tryz.prog 109 #[.int .u64 x] w fun e w' => e = .returned (.int .i64 (Lib.ctz 64 x)) ∧ w' = w := by
  obtain ⟨hlow, hk⟩ := Lib.lowest_bit 64 x hx0 hx
  obtain ⟨hi, htab⟩ := Lib.deBruijn64_at _ hk
  have hcell := hT _ hi
  rw [htab] at hcell
  exact tz_core x _ _ w (by simp; omega) (tz_key x _ hx hx0 hlow) hi hk hcell
set_option maxHeartbeats 400000 in
theorem ones_core (x x1 x2 x3 x4 x5 x6 r : Nat) (w : World)
    (k1 : IntKind.u64.wrap (bits BinOp.and IntKind.u64 ((x : Int) / 2) 6148914691236517205 + bits BinOp.and IntKind.u64 (x : Int) 6148914691236517205) = (x1 : Int))
    (k2 : IntKind.u64.wrap (bits BinOp.and IntKind.u64 ((x1 : Int) / 4) 3689348814741910323 + bits BinOp.and IntKind.u64 (x1 : Int) 3689348814741910323) = (x2 : Int))
    (k3 : bits BinOp.and IntKind.u64 (IntKind.u64.wrap ((x2 : Int) / 16 + (x2 : Int))) 1085102592571150095 = (x3 : Int))
    (k4 : IntKind.u64.wrap ((x3 : Int) + (x3 : Int) / 256) = (x4 : Int))
    (k5 : IntKind.u64.wrap ((x4 : Int) + (x4 : Int) / 65536) = (x5 : Int))
    (k6 : IntKind.u64.wrap ((x5 : Int) + (x5 : Int) / 4294967296) = (x6 : Int))
    (k7 : bits BinOp.and IntKind.i64 (wrap64 (x6 : Int)) 127 = (r : Int)) :
    Calls Tryz.prog 102 #[.int .u64 x] w fun e w' => e = .returned (.int .i64 r) ∧ w' = w := by
  go_enter Tryz.func102, Tryz.ntmps102
  go_wp2
  go_ret
  exact ⟨rfl, rfl⟩
theorem wrap64_small (x : Nat) (h : x < 9223372036854775808) : wrap64 (x : Int) = x := by
  unfold wrap64; omega
theorem and127 (x : Nat) (h : x < 9223372036854775808) : bits BinOp.and IntKind.i64 (x : Int) 127 = ((x % 128 : Nat) : Int) := by
  have h1 : (BitVec.ofInt 64 (x : Int)).toNat = x := by
    rw [BitVec.ofInt_natCast, BitVec.toNat_ofNat]; exact Nat.mod_eq_of_lt (by omega)
  have h2 : (BitVec.ofInt 64 (127 : Int)).toNat = 127 := by decide
  have h3 : x &&& 127 = x % 128 := Nat.and_two_pow_sub_one_eq_mod x 7
  show IntKind.i64.wrap ((BitVec.ofInt 64 (x : Int) &&& BitVec.ofInt 64 (127 : Int)).toNat : Int) = _
  rw [BitVec.toNat_and, h1, h2, h3]
  simp [IntKind.wrap, IntKind.bits, IntKind.signed]
  omega
theorem wrap_add_div (a d : Nat) (h : a + a / d < 18446744073709551616) : IntKind.u64.wrap ((a : Int) + (a : Int) / (d : Int)) = ((a + a / d : Nat) : Int) := by
  rw [IntKind.wrap_u64, ← Int.natCast_ediv, ← Int.natCast_add]
  generalize a + a / d = z at *
  omega
theorem ones_any (x : Nat) (w : World) (hx : x < 18446744073709551616) :
    Calls Tryz.prog 102 #[.int .u64 x] w fun e w' => e = .returned (.int .i64 (cnt 64 x)) ∧ w' = w := by
  have hA := pA_le 8 x
  have hB := pB_le 8 x
  have hC := pC_le 8 x
  rw [M85] at hA; rw [M51] at hB; rw [M15] at hC
  have hp := pop_eq x _ _ _ hx rfl rfl rfl
  have q1 : ((6148914691236517205 : Nat) : Int) = 6148914691236517205 := rfl
  have q2 : ((3689348814741910323 : Nat) : Int) = 3689348814741910323 := rfl
  have q3 : ((1085102592571150095 : Nat) : Int) = 1085102592571150095 := rfl
  have hBd : pB 8 x = (pA 8 x / 4 &&& 3689348814741910323) + (pA 8 x &&& 3689348814741910323) := by unfold pB; rw [M51]
  have hAd : pA 8 x = (x / 2 &&& 6148914691236517205) + (x &&& 6148914691236517205) := by unfold pA; rw [M85]
  have hCd : pC 8 x = (pB 8 x / 16 + pB 8 x) &&& 1085102592571150095 := by unfold pC; rw [M15]
  rw [← hp]
  generalize pA 8 x = A at *
  generalize pB 8 x = B at *
  generalize pC 8 x = C at *
  refine ones_core x A B C (C + C / 256) (C + C / 256 + (C + C / 256) / 65536) (C + C / 256 + (C + C / 256) / 65536 + (C + C / 256 + (C + C / 256) / 65536) / 4294967296) _ w ?_ ?_ ?_ ?_ ?_ ?_ ?_
  · rw [← q1, show ((x : Int) / 2) = ((x / 2 : Nat) : Int) by omega, bits_and_u64_nat _ _ (by omega) (by omega), bits_and_u64_nat _ _ hx (by omega), IntKind.wrap_u64]
    omega
  · rw [← q2, show ((A : Int) / 4) = ((A / 4 : Nat) : Int) by omega, bits_and_u64_nat _ _ (by omega) (by omega), bits_and_u64_nat _ _ (by omega) (by omega), IntKind.wrap_u64]
    omega
  · rw [IntKind.wrap_u64, ← q3, show ((B : Int) / 16 + B) % 18446744073709551616 = ((B / 16 + B : Nat) : Int) by omega, bits_and_u64_nat _ _ (by omega) (by omega)]
    omega
  · exact wrap_add_div C 256 (by clear hp hAd hBd hCd; omega)
  · exact wrap_add_div _ 65536 (by clear hp hAd hBd hCd; omega)
  · exact wrap_add_div _ 4294967296 (by clear hp hAd hBd hCd; omega)
  · rw [wrap64_small _ (by clear hp hAd hBd hCd; omega), and127 _ (by clear hp hAd hBd hCd; omega)]
end Go.Proofs.YtfoahpideglghaaGreatDoor
