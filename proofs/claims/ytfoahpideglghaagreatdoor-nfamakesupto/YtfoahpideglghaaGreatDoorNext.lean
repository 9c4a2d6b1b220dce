import Derived.Test.YtfoahpideglghaaGreatDoorST
import Derived.Test.YtfoahpideglghaaGreatDoorMath2
namespace Go.Proofs.YtfoahpideglghaaGreatDoor
open Go.RowKit

set_option maxRecDepth 100000 in
set_option maxHeartbeats 400000 in
theorem next_out (b g cap n X : Nat) (i : Int) (w : World) (hs : IsSet w b g cap n X) (hi : (n : Int) ≤ i ∨ n = 0) :
    Calls Tryz.prog 90 #[.pointer (some ⟨b, 0, none⟩), .int .i64 i] w fun e w' => e = .returned (.int .i64 (-1)) ∧ w' = w := by
  have h0 := hs.c0
  clear hs
  by_cases hneg : i < 0
  · have hn : n = 0 := by omega
    subst hn
    clear hi
    go_enter Tryz.func90, Tryz.ntmps90
    go_wp2
    go_ret
    exact ⟨rfl, rfl⟩
  · have hle : (n : Int) ≤ i := by omega
    clear hi
    go_enter Tryz.func90, Tryz.ntmps90
    go_wp2
    go_ret
    exact ⟨rfl, rfl⟩

theorem drewN_cell (w : World) (q : Nat) (a : Addr) : (w.drewN q).cell? a = w.cell? a := rfl
theorem TabAt.drewN {w : World} (h : TabAt w) (q : Nat) : TabAt (w.drewN q) := fun j hj => (drewN_cell w q _).trans (h j hj)

theorem andNot_low (x r : Nat) (hx : x < 18446744073709551616) (hr : r < 64) : bits BinOp.andNot IntKind.u64 (x : Int) (IntKind.u64.wrap ((2 : Int) ^ r - 1)) = (lowCut x r : Int) := by
  have hp : (2:Nat) ^ r < 2 ^ 64 := Nat.pow_lt_pow_right (by decide) hr
  have hp0 : 0 < (2:Nat) ^ r := Nat.two_pow_pos r
  have e1 : IntKind.u64.wrap ((2 : Int) ^ r - 1) = ((2 ^ r - 1 : Nat) : Int) := by
    rw [IntKind.wrap_u64, show ((2 : Int) ^ r) = ((2 ^ r : Nat) : Int) by simp]
    generalize (2:Nat) ^ r = z at *
    omega
  have h1 : (BitVec.ofInt 64 (x : Int)).toNat = x := by
    rw [BitVec.ofInt_natCast, BitVec.toNat_ofNat]; exact Nat.mod_eq_of_lt hx
  have h2 : (BitVec.ofInt 64 ((2 ^ r - 1 : Nat) : Int)).toNat = 2 ^ r - 1 := by
    rw [BitVec.ofInt_natCast, BitVec.toNat_ofNat]; exact Nat.mod_eq_of_lt (by omega)
  have h3 : (BitVec.ofInt 64 (x : Int) &&& ~~~ BitVec.ofInt 64 ((2 ^ r - 1 : Nat) : Int)).toNat = lowCut x r := by
    apply Nat.eq_of_testBit_eq
    intro t
    rw [← BitVec.getLsbD, BitVec.getLsbD_and, BitVec.getLsbD_not, BitVec.getLsbD, BitVec.getLsbD, h1, h2, lowCut_testBit, Nat.testBit_two_pow_sub_one]
    by_cases ht : t < 64
    · by_cases h : r ≤ t
      · have : ¬ t < r := by omega
        simp [h, ht, this]
      · have : t < r := by omega
        simp [h, this]
    · have : x.testBit t = false := Nat.testBit_lt_two_pow (Nat.lt_of_lt_of_le hx (show 2 ^ 64 ≤ 2 ^ t from Nat.pow_le_pow_right (by decide) (by omega)))
      simp [this]
  rw [e1]
  show IntKind.u64.wrap ((BitVec.ofInt 64 (x : Int) &&& ~~~ BitVec.ofInt 64 ((2 ^ r - 1 : Nat) : Int)).toNat : Int) = _
  rw [h3, IntKind.wrap_u64]
  have := lowCut_le x r
  omega

set_option maxHeartbeats 400000 in
theorem next_in (b g cap n X j : Nat) (i : Int) (hij : Hid ((j : Int) = max i 0)) (hmax : (if i < 0 then 0 else i) = (j : Int)) (w : World) (hs : IsSet w b g cap n X) (hi : j < n) (hT : TabAt w) :
    Calls Tryz.prog 90 #[.pointer (some ⟨b, 0, none⟩), .int .i64 i] w fun e w' => e = .returned (.int .i64 (nextL (elems n X) i)) ∧ ∃ q, w' = w.drewN q := by
  have h0 := hs.c0
  have h1 := hs.c1
  have hn := hs.hn
  have hw := hs.word (j / 64) (by unfold nw; omega)
  have hnw : j / 64 < nw n := by unfold nw; omega
  have hnw2 := nw_le hs.hn
  have hnw3 : n ≤ 64 * nw n := by unfold nw; omega
  have hword := hs.word
  have hX : Hid (X < 2 ^ n) := hs.hX
  have hcut : bits BinOp.andNot IntKind.u64 (wordAt X (j / 64) : Int) (IntKind.u64.wrap ((2 : Int) ^ (j % 64) - 1)) = (lowCut (wordAt X (j / 64)) (j % 64) : Int) := andNot_low _ _ (wordAt_lt _ _) (Nat.mod_lt _ (by decide))
  have hl1 := lowCut_le (wordAt X (j / 64)) (j % 64)
  have hl2 := wordAt_lt X (j / 64)
  clear hs
  go_enter Tryz.func90, Tryz.ntmps90
  go_wp2_with fail
  go_quiet ((go_at_call 108; exact Calls.quiet_of_same (bit_any j _ (by omega) (by omega))))
  go_wp2
  go_loop [5, 6] (fun kk yy => ∃ k y : Nat, k < nw n ∧ y < 18446744073709551616 ∧ j < 64 * (k + 1) ∧ kk = .int .i64 k ∧ yy = .int .u64 y ∧ NInv X j k y) (fun kk _ => nw n - (intOf kk).toNat)
  case atStart => exact ⟨j / 64, _, hnw, by omega, by omega, by go_num, rfl, ninv_start X j⟩
  case round =>
    obtain ⟨k, y, hk, hy, hjk, rfl, rfl, hinv⟩ := hrel
    have HI : Hid (NInv X j k y) := hinv
    clear hinv hw hcut hl1 hl2
    by_cases h0y : y = 0
    · have hyb : ((y : Int) == 0) = true := by simp [h0y]
      have HY : Hid (y = 0) := h0y
      clear h0y
      by_cases hlast : k + 1 = nw n
      · have hlb : (((k : Int) + 1) == (nw n : Int)) = true := by simp; omega
        have HL : Hid (k + 1 = nw n) := hlast
        clear hlast hword
        go_wp2
        go_ret
        exact ⟨ret_int (ninv_end n X j k y hX.out HI.out HY.out (by have := HL.out; omega) i hij.out).symm, _, rfl⟩
      · have hlb : (((k : Int) + 1) == (nw n : Int)) = false := by simp; omega
        have hwk := hword (k + 1) (by omega)
        clear hword
        go_wp2
        go_round
        case rel => exact ⟨k + 1, _, by omega, wordAt_lt _ _, by omega, by go_num, rfl, ninv_next X j k y HI.out HY.out hjk⟩
        case measure => simp [intOf]; omega
    · have hyb : ((y : Int) == 0) = false := by simp [h0y]
      clear hword
      have hc : Lib.ctz 64 y < 64 := by obtain ⟨_, _, h⟩ := ctz_spec y h0y hy; exact h
      go_wp2_with (go_at_call 109; refine (tz_any y hy h0y _ (hT.drewN _)).mono ?_; rintro e w' ⟨rfl, rfl⟩)
      go_ret
      exact ⟨ret_int (by rw [ninv_found n X j k y hX.out HI.out h0y hy i hij.out]; omega), _, rfl⟩

theorem next_any (b g cap n X : Nat) (i : Int) (w : World) (hs : IsSet w b g cap n X) (hT : TabAt w) :
    Calls Tryz.prog 90 #[.pointer (some ⟨b, 0, none⟩), .int .i64 i] w fun e w' => e = .returned (.int .i64 (nextL (elems n X) i)) ∧ ∃ q, w' = w.drewN q := by
  by_cases h : (n : Int) ≤ i ∨ n = 0
  · have e : nextL (elems n X) i = -1 := nextL_none _ _ fun e he => by have := (mem_elems.1 he).1; omega
    rw [e]
    refine (next_out b g cap n X i w hs h).mono ?_
    rintro e w' ⟨rfl, rfl⟩
    exact ⟨rfl, 0, rfl⟩
  · exact next_in b g cap n X (max i 0).toNat i (show (((max i 0).toNat : Nat) : Int) = max i 0 by omega) (by split <;> omega) w hs (by omega) hT
end Go.Proofs.YtfoahpideglghaaGreatDoor
