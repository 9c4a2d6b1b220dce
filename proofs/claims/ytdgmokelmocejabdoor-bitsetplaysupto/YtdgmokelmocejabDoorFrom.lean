import Derived.Test.YtdgmokelmocejabDoorKey
import Derived.BigRegion
namespace Go.Proofs.YtdgmokelmocejabDoor
open Go.RowKit

set_option maxHeartbeats 400000 in
theorem from_short (s : ByteArray) (w : World) (h : s.size < 2) :
    Calls Tryd.prog 67 #[.string s] w fun e w' => e = .returned (.tuple #[.pointer none, .int .i64 11]) ∧ w' = w := by
  go_enter Tryd.func67, Tryd.ntmps67
  go_wp2
  go_ret2
  exact ⟨rfl, rfl⟩

theorem hide {p : Prop} (h : p) : Hid p := h

theorem below_of_drewN {w w' : World} {q : Nat} (h : Below (w.drewN q).heap.size (w.drewN q) w') : Below w.heap.size w w' := ⟨h.os, h.tape, h.output, h.size, h.block⟩

theorem bits_or_i64 (a b : Nat) (ha : a < 65536) (hb : b < 65536) : bits .or .i64 (a : Int) (b : Int) = ((a ||| b : Nat) : Int) := by
  have hx : a ||| b < 2 ^ 16 := Nat.or_lt_two_pow (by omega) (by omega)
  have h1 : (BitVec.ofInt 64 (a : Int)).toNat = a := by
    rw [BitVec.ofInt_natCast, BitVec.toNat_ofNat]; exact Nat.mod_eq_of_lt (by omega)
  have h2 : (BitVec.ofInt 64 (b : Int)).toNat = b := by
    rw [BitVec.ofInt_natCast, BitVec.toNat_ofNat]; exact Nat.mod_eq_of_lt (by omega)
  show IntKind.i64.wrap ((BitVec.ofInt 64 (a : Int) ||| BitVec.ofInt 64 (b : Int)).toNat : Int) = _
  rw [BitVec.toNat_or, h1, h2, IntKind.wrap_i64]
  omega

theorem head_num (x y : UInt8) : bits BinOp.or IntKind.i64 (wrap64 (wrap64 (x.toNat : Int) * 256)) (wrap64 (y.toNat : Int)) = ((x.toNat * 256 + y.toNat : Nat) : Int) := by
  have hx := x.toNat_lt
  have hy := y.toNat_lt
  unfold wrap64
  rw [show ((((x.toNat : Int) + 9223372036854775808) % 18446744073709551616 - 9223372036854775808) * 256 + 9223372036854775808) % 18446744073709551616 - 9223372036854775808 = ((x.toNat * 256 : Nat) : Int) by omega,
    show ((y.toNat : Int) + 9223372036854775808) % 18446744073709551616 - 9223372036854775808 = ((y.toNat : Nat) : Int) by omega,
    bits_or_i64 _ _ (by omega) (by omega)]
  congr 1
  have := Nat.two_pow_add_eq_or_of_lt (i := 8) (b := y.toNat) hy x.toNat
  rw [Nat.mul_comm, ← this, Nat.mul_comm]

set_option maxHeartbeats 400000 in
theorem from_big (s : ByteArray) (n : Nat) (w : World) (h : 2 ≤ s.size) (h0 : 0 < s.size) (h1 : 1 < s.size)
    (hN : bits BinOp.or IntKind.i64 (wrap64 (wrap64 (s[0].toNat : Int) * 256)) (wrap64 (s[1].toNat : Int)) = (n : Int)) (hn : 8192 < n) (hn2 : n ≤ 65535) :
    Calls Tryd.prog 67 #[.string s] w fun e w' => e = .returned (.tuple #[.pointer none, .int .i64 11]) ∧ ∃ q, w' = w.drewN q := by
  have h2 : (1 : Int) < s.size := by omega
  have HN := hide hN
  clear hN
  go_enter Tryd.func67, Tryd.ntmps67
  go_wp2_with fail
  go_quiet (fail)
  rw [HN.out]
  go_wp2_with (first | (go_at_call 28; refine (keyBytes_any n _ (by omega) (by omega)).mono ?_; rintro e w' ⟨rfl, hw⟩; obtain rfl := hw.symm; clear hw) | (go_at_call 18; refine (new_bad n _ (by omega)).mono ?_; rintro e w' ⟨rfl, hw⟩; obtain rfl := hw.symm; clear hw))
  go_ret2
  exact ⟨rfl, _, rfl⟩

set_option maxHeartbeats 400000 in
theorem from_len (s : ByteArray) (n : Nat) (w : World) (h : 2 ≤ s.size) (h0 : 0 < s.size) (h1 : 1 < s.size)
    (hN : bits BinOp.or IntKind.i64 (wrap64 (wrap64 (s[0].toNat : Int) * 256)) (wrap64 (s[1].toNat : Int)) = (n : Int)) (hn : n ≤ 8192) (hl : s.size ≠ 2 + (n + 7) / 8) :
    Calls Tryd.prog 67 #[.string s] w fun e w' => e = .returned (.tuple #[.pointer none, .int .i64 11]) ∧ Below w.heap.size w w' := by
  have h2 : (1 : Int) < s.size := by omega
  have HN := hide hN
  clear hN
  have hlb : ((s.size : Int) != 2 + ((n : Int) + 7) / 8) = true := by rw [bne_iff_ne]; omega
  go_enter Tryd.func67, Tryd.ntmps67
  go_wp2_with fail
  go_quiet (fail)
  rw [HN.out]
  go_wp2_with (first | (go_at_call 28; refine (keyBytes_any n _ (by omega) (by omega)).mono ?_; rintro e w' ⟨rfl, hw⟩; obtain rfl := hw.symm; clear hw) | (go_at_call 18; refine (new_ok n _ (by omega)).mono ?_; rintro e w' ⟨b, g, cap, rfl, hs, hb, hg, hbg, hbe⟩; clear hs hb hg hbg))
  go_ret2
  exact ⟨rfl, below_of_drewN hbe⟩

set_option maxHeartbeats 400000 in
theorem from_used (s : ByteArray) (n : Nat) (w : World) (h : 2 ≤ s.size) (h0 : 0 < s.size) (h1 : 1 < s.size)
    (hN : bits BinOp.or IntKind.i64 (wrap64 (wrap64 (s[0].toNat : Int) * 256)) (wrap64 (s[1].toNat : Int)) = (n : Int)) (hn : n ≤ 8192) (hl : s.size = 2 + (n + 7) / 8)
    (hu : n % 8 ≠ 0) (hlast : s.size - 1 < s.size) (hx : ((s[s.size - 1].toNat : Int) / 2 ^ (n % 8) != 0) = true) :
    Calls Tryd.prog 67 #[.string s] w fun e w' => e = .returned (.tuple #[.pointer none, .int .i64 11]) ∧ Below w.heap.size w w' := by
  have h2 : (1 : Int) < s.size := by omega
  have HN := hide hN
  clear hN
  have hlb : ((s.size : Int) != 2 + ((n : Int) + 7) / 8) = false := by rw [bne_eq_false_iff_eq]; omega
  have hub : ((n : Int) % 8 != 0) = true := by rw [bne_iff_ne]; omega
  have hsz : (s.size : Int) ≤ 2000 := by omega
  clear hl hu
  go_enter Tryd.func67, Tryd.ntmps67
  go_wp2_with fail
  go_quiet (fail)
  rw [HN.out]
  go_wp2_with (first | (go_at_call 28; refine (keyBytes_any n _ (by omega) (by omega)).mono ?_; rintro e w' ⟨rfl, hw⟩; obtain rfl := hw.symm; clear hw) | (go_at_call 18; refine (new_ok n _ (by omega)).mono ?_; rintro e w' ⟨b, g, cap, rfl, hs, hb, hg, hbg, hbe⟩; clear hs hb hg hbg))
  go_ret2
  exact ⟨rfl, below_of_drewN hbe⟩

theorem IsSet.drew {w : World} {b g cap n X : Nat} (h : IsSet w b g cap n X) : IsSet w.drew b g cap n X := ⟨h.hn, h.hX, h.blk, h.own.drew⟩

theorem IsSet.store {w : World} {b g cap n X X' j : Nat} {v : Int} (h : IsSet w b g cap n X) (hbg : b ≠ g) (hj : j < nw n) (hX' : X' < 2 ^ n)
    (ho : ∀ i, i < nw n → i ≠ j → wordAt X' i = wordAt X i) (hv : v = (wordAt X' j : Int)) : IsSet (w.setCell ⟨g, j, none⟩ (.int .u64 v)) b g cap n X' := by
  refine ⟨h.hn, hX', ?_, ?_⟩
  · rw [heap_setCell_other w ⟨g, j, none⟩ b _ hbg]; exact h.blk
  · have := (h.own.stored j (.int .u64 v)).1
    have e : (wordVals n X).set j (.int .u64 v) = wordVals n X' := by
      apply List.ext_getElem?
      intro i
      rw [List.getElem?_set]
      by_cases hij : j = i
      · subst hij
        rw [if_pos rfl, if_pos (by rw [wordVals_length]; exact hj), wordVals_get n X' j hj, hv]
      · rw [if_neg hij]
        by_cases hi : i < nw n
        · rw [wordVals_get n X i hi, wordVals_get n X' i hi, ho i hi (fun h => hij h.symm)]
        · rw [List.getElem?_eq_none (by rw [wordVals_length]; omega), List.getElem?_eq_none (by rw [wordVals_length]; omega)]
    rwa [e] at this

theorem from_other (X k i : Nat) (hne : i ≠ k * 8 / 64) : wordAt (X % 2 ^ (8 * (k + 1))) i = wordAt (X % 2 ^ (8 * k)) i := by
  apply Nat.eq_of_testBit_eq
  intro t
  rw [wordAt_testBit, wordAt_testBit, Nat.testBit_mod_two_pow, Nat.testBit_mod_two_pow]
  by_cases ht : t < 64
  · have : (64 * i + t < 8 * (k + 1)) ↔ (64 * i + t < 8 * k) := by omega
    simp [this]
  · simp [ht]

theorem from_word (X k c : Nat) (hc : c = X / 2 ^ (8 * k) % 256) : bits BinOp.or IntKind.u64 (wordAt (X % 2 ^ (8 * k)) (k * 8 / 64) : Int) (IntKind.u64.wrap ((c : Int) * 2 ^ (k * 8 % 64))) = (wordAt (X % 2 ^ (8 * (k + 1))) (k * 8 / 64) : Int) := by
  have hc8 : c < 256 := by rw [hc]; exact Nat.mod_lt _ (by decide)
  have hr : (2:Nat) ^ (k * 8 % 64) ≤ 2 ^ 56 := Nat.pow_le_pow_right (by decide) (by omega)
  have hlt : c * 2 ^ (k * 8 % 64) < 18446744073709551616 := by
    have : c * 2 ^ (k * 8 % 64) ≤ 255 * 2 ^ 56 := Nat.mul_le_mul (by omega) hr
    omega
  have e1 : IntKind.u64.wrap ((c : Int) * 2 ^ (k * 8 % 64)) = ((c * 2 ^ (k * 8 % 64) : Nat) : Int) := by
    rw [IntKind.wrap_u64, show ((c : Int) * 2 ^ (k * 8 % 64)) = ((c * 2 ^ (k * 8 % 64) : Nat) : Int) by simp]
    generalize c * 2 ^ (k * 8 % 64) = z at *
    omega
  rw [e1, bits_or_u64_nat _ _ (wordAt_lt _ _) hlt]
  congr 1
  apply Nat.eq_of_testBit_eq
  intro t
  rw [Nat.testBit_or, wordAt_testBit, wordAt_testBit, Nat.testBit_mod_two_pow, Nat.testBit_mod_two_pow, Nat.testBit_mul_two_pow, hc]
  have e2 : (X / 2 ^ (8 * k) % 256).testBit (t - k * 8 % 64) = (decide (t - k * 8 % 64 < 8) && X.testBit (8 * k + (t - k * 8 % 64))) := by
    rw [show (256 : Nat) = 2 ^ 8 from rfl, Nat.testBit_mod_two_pow, Nat.testBit_div_two_pow, Nat.add_comm]
  rw [e2]
  by_cases ht : t < 64
  · by_cases h1 : k * 8 % 64 ≤ t
    · have e3 : 8 * k + (t - k * 8 % 64) = 64 * (k * 8 / 64) + t := by omega
      have h2 : ¬ (64 * (k * 8 / 64) + t < 8 * k) := by omega
      have h3 : (64 * (k * 8 / 64) + t < 8 * (k + 1)) ↔ (t - k * 8 % 64 < 8) := by omega
      rw [e3]
      simp [ht, h1, h2, h3]
    · have h2 : (64 * (k * 8 / 64) + t < 8 * k) := by omega
      have h3 : (64 * (k * 8 / 64) + t < 8 * (k + 1)) := by omega
      simp [ht, h1, h2, h3]
  · have h4 : ¬ (t - k * 8 % 64 < 8) := by omega
    simp [ht, h4]

theorem idx_str (s : ByteArray) (k : Nat) (W : World) (h : 2 + k < s.size) : (Instr.index 9 (.string s) (.int .i64 (2 + (k : Int)))).run Tryd.prog W = .ok (.int .u8 (s[2 + k].toNat : Int)) W := by
  rw [run_index_string W 9 s .i64 _ Tryd.underlying9, dif_pos (by omega)]
  have e : (2 + (k : Int)).toNat = 2 + k := by omega
  simp only [e]

set_option maxRecDepth 100000 in
set_option maxHeartbeats 1000000 in
theorem from_ok1 (s : ByteArray) (n X : Nat) (w : World) (h : 2 ≤ s.size) (h0 : 0 < s.size) (h1 : 1 < s.size)
    (hN : bits BinOp.or IntKind.i64 (wrap64 (wrap64 (s[0].toNat : Int) * 256)) (wrap64 (s[1].toNat : Int)) = (n : Int)) (hn : n ≤ 8192) (hl : s.size = 2 + (n + 7) / 8)
    (hlast : s.size - 1 < s.size) (hx : ((n : Int) % 8 != 0) = false ∨ ((n : Int) % 8 != 0) = true ∧ ((s[s.size - 1].toNat : Int) / 2 ^ (n % 8) != 0) = false) (hX : X < 2 ^ n) (hb : ∀ k (hk : 2 + k < s.size), s[2 + k].toNat = X / 2 ^ (8 * k) % 256) :
    Calls Tryd.prog 67 #[.string s] w fun e w' => ∃ b g cap, e = .returned (.tuple #[.pointer (some ⟨b, 0, none⟩), .int .i64 0]) ∧ IsSet w' b g cap n X ∧ w.heap.size ≤ b ∧ w.heap.size ≤ g ∧ b ≠ g ∧ Below w.heap.size w w' := by
  have h2 : (1 : Int) < s.size := by omega
  have HN := hide hN
  clear hN
  have hlb : ((s.size : Int) != 2 + ((n : Int) + 7) / 8) = false := by rw [bne_eq_false_iff_eq]; omega
  have hsz : (s.size : Int) ≤ 2000 := by omega
  have HL := hide hl
  clear hl
  rcases hx with hx | ⟨hx, hx2⟩
  all_goals
    go_enter Tryd.func67, Tryd.ntmps67
    go_wp2_with fail
    go_quiet (fail)
    rw [HN.out]
    go_wp2_with (first | (go_at_call 28; refine (keyBytes_any n _ (by omega) (by omega)).mono ?_; rintro e w' ⟨rfl, hw⟩; obtain rfl := hw.symm; clear hw) | (go_at_call 18; refine (new_ok n _ (by omega)).mono ?_; rintro e w1 ⟨b, g, cap, rfl, hs, hb1, hg1, hbg, hbe⟩))
    have hbe := below_of_drewN hbe
    have hb1 : w.heap.size ≤ b := hb1
    have hg1 : w.heap.size ≤ g := hg1
    go_loopw [52] (fun i wr => ∃ k : Nat, k ≤ (n + 7) / 8 ∧ i = .int .i64 k ∧ IsSet wr b g cap n (X % 2 ^ (8 * k)) ∧ Below w.heap.size w wr) (fun i _ => (n + 7) / 8 - (intOf i).toNat)
    case atStart => exact ⟨0, Nat.zero_le _, rfl, by simpa [Nat.mod_one] using hs, hbe⟩
    case round =>
      obtain ⟨k, hk, rfl, hsr, hbr⟩ := hrel
      clear hs hbe
      by_cases hlt : k < (n + 7) / 8
      · have hc1 := hsr.c1
        have hix : k * 8 / 64 < nw n := by unfold nw; omega
        have hcw := hsr.word (k * 8 / 64) hix
        have hfz : wr.frozen? ⟨g, k * 8 / 64, none⟩ = false := hsr.own.frozenAt _
        have hki : (2 + (k : Int)) < s.size := by have := HL.out; omega
        have hki2 : 2 + k < s.size := by omega
        obtain ⟨c, hc⟩ : ∃ c : Nat, c = s[2 + k].toNat := ⟨_, rfl⟩
        have hidx : ∀ W : World, (Instr.index 9 (.string s) (.int .i64 (2 + (k : Int)))).run Tryd.prog W = .ok (.int .u8 (c : Int)) W := fun W => by
          rw [hc]; exact idx_str s k W hki2
        have HC : Hid (c = X / 2 ^ (8 * k) % 256) := by rw [hc]; exact hb k hki2
        have hc8 : c < 256 := by rw [HC.out]; exact Nat.mod_lt _ (by decide)
        clear hc hb hki hki2
        go_wp2_with fail
        go_region
        go_wp2
        go_roundw
        case rel =>
          refine ⟨k + 1, by omega, by go_num, IsSet.drew (hsr.store hbg hix (Nat.lt_of_le_of_lt (Nat.mod_le _ _) hX) (fun i _ hne => from_other X k i hne) (from_word X k c HC.out)), (hbr.setCell hg1 _).drew⟩
        case measure => simp [intOf]; omega
      · clear hb
        go_wp2
        go_ret2
        have hke : k = (n + 7) / 8 := by omega
        subst hke
        rw [Nat.mod_eq_of_lt (Nat.lt_of_lt_of_le hX (Nat.pow_le_pow_right (by decide) (by omega)))] at hsr
        exact ⟨b, g, cap, rfl, hsr, hb1, hg1, hbg, hbr⟩
end Go.Proofs.YtdgmokelmocejabDoor
