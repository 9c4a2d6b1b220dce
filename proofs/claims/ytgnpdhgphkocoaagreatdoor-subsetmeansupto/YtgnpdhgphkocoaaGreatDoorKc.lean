import Derived.Test.YtgnpdhgphkocoaaGreatDoorQaa
namespace Go.Proofs.YtgnpdhgphkocoaaGreatDoor
open Go.RowKit
theorem testBit_lt {n X i : Nat} (hX : X < 2 ^ n) (h : X.testBit i = true) : i < n := by
  apply Nat.lt_of_not_le
  intro hle
  have : X < 2 ^ i := Nat.lt_of_lt_of_le hX (Nat.pow_le_pow_right (by decide) hle)
  rw [Nat.testBit_lt_two_pow this] at h
  cases h
def nextL : List Nat → Int → Int
  | [], _ => -1
  | e :: l, i => if i ≤ (e : Int) then e else nextL l i
theorem nextL_none (l : List Nat) (i : Int) (h : ∀ e ∈ l, ¬ i ≤ (e : Int)) : nextL l i = -1 := by
  induction l with
  | nil => rfl
  | cons a l ih =>
    unfold nextL
    rw [if_neg (h a (by simp))]
    exact ih fun e he => h e (by simp [he])
theorem nextL_some (l : List Nat) (i : Int) (e : Nat) (hs : l.Pairwise (· < ·)) (he : e ∈ l) (hi : i ≤ (e : Int)) (hm : ∀ e' ∈ l, i ≤ (e' : Int) → e ≤ e') : nextL l i = e := by
  induction l with
  | nil => cases he
  | cons a l ih =>
    unfold nextL
    by_cases h : i ≤ (a : Int)
    · rw [if_pos h]
      have h1 := hm a (by simp) h
      rcases List.mem_cons.1 he with rfl | h2
      · rfl
      · have := (List.pairwise_cons.1 hs).1 e h2
        omega
    · rw [if_neg h]
      rcases List.mem_cons.1 he with rfl | h2
      · exact absurd hi h
      · exact ih (List.pairwise_cons.1 hs).2 h2 fun e' he' => hm e' (by simp [he'])
theorem elems_sorted (n X : Nat) : (elems n X).Pairwise (· < ·) := List.Pairwise.filter _ List.pairwise_lt_range
/-- What Next's loop knows: y holds the bits of word k from j on; below word k nothing from j on. -/
def NInv (X j k y : Nat) : Prop := (∀ t, y.testBit t = (decide (t < 64) && (X.testBit (64 * k + t) && decide (j ≤ 64 * k + t)))) ∧ ∀ e, j ≤ e → e < 64 * k → X.testBit e = false
theorem ninv_next (X j k y : Nat) (h : NInv X j k y) (hy : y = 0) (hj : j < 64 * (k + 1)) : NInv X j (k + 1) (wordAt X (k + 1)) := by
  subst hy
  refine ⟨fun t => ?_, fun e h1 h2 => ?_⟩
  · rw [wordAt_testBit]
    have : j ≤ 64 * (k + 1) + t := by omega
    simp [this]
  · by_cases h3 : e < 64 * k
    · exact h.2 e h1 h3
    · have := h.1 (e - 64 * k)
      have e1 : 64 * k + (e - 64 * k) = e := by omega
      have e2 : e - 64 * k < 64 := by omega
      rw [e1] at this
      simpa [h1, e2] using this.symm
theorem ninv_end (n X j k y : Nat) (_hX : X < 2 ^ n) (h : NInv X j k y) (hy : y = 0) (hk : n ≤ 64 * (k + 1)) (i : Int) (hi : (j : Int) = max i 0) : nextL (elems n X) i = -1 := by
  subst hy
  apply nextL_none
  intro e he hc
  obtain ⟨h1, h2⟩ := mem_elems.1 he
  have hj : j ≤ e := by omega
  by_cases h3 : e < 64 * k
  · rw [h.2 e hj h3] at h2; cases h2
  · have := h.1 (e - 64 * k)
    have e1 : 64 * k + (e - 64 * k) = e := by omega
    have e2 : e - 64 * k < 64 := by omega
    rw [e1] at this
    simp [hj, e2, h2] at this
theorem ninv_found (n X j k y : Nat) (hX : X < 2 ^ n) (h : NInv X j k y) (hy : y ≠ 0) (hlt : y < 18446744073709551616) (i : Int) (hi : (j : Int) = max i 0) : nextL (elems n X) i = ((64 * k + Lib.ctz 64 y : Nat) : Int) := by
  obtain ⟨m, hm, hc⟩ := ctz_spec y hy hlt
  have ht := h.1 (Lib.ctz 64 y)
  have hb : y.testBit (Lib.ctz 64 y) = true := by
    generalize Lib.ctz 64 y = c at *
    rw [hm, testBit_odd]; simp
  have hlow : ∀ t, t < Lib.ctz 64 y → y.testBit t = false := by
    intro t htc
    generalize Lib.ctz 64 y = c at *
    rw [hm, testBit_odd]
    have h1 : ¬ t = c := by omega
    have h2 : ¬ c < t := by omega
    simp [h1, h2]
  generalize Lib.ctz 64 y = c at *
  rw [hb] at ht
  simp [hc] at ht
  apply nextL_some _ _ _ (elems_sorted n X) (mem_elems.2 ⟨testBit_lt hX ht.1, ht.1⟩) (by omega)
  intro e he hie
  obtain ⟨h1, h2⟩ := mem_elems.1 he
  have hj : j ≤ e := by omega
  apply Nat.le_of_not_lt
  intro hlt2
  by_cases h3 : e < 64 * k
  · rw [h.2 e hj h3] at h2; cases h2
  · have q := h.1 (e - 64 * k)
    have e1 : 64 * k + (e - 64 * k) = e := by omega
    have e2 : e - 64 * k < 64 := by omega
    rw [e1, hlow _ (by omega)] at q
    simp [hj, e2, h2] at q
def lowCut (x r : Nat) : Nat := x / 2 ^ r * 2 ^ r
theorem lowCut_testBit (x r t : Nat) : (lowCut x r).testBit t = (decide (r ≤ t) && x.testBit t) := by
  unfold lowCut
  rw [Nat.testBit_mul_two_pow, Nat.testBit_div_two_pow]
  by_cases h : r ≤ t
  · rw [show t - r + r = t by omega]
  · simp [h]
theorem lowCut_le (x r : Nat) : lowCut x r ≤ x := Nat.div_mul_le_self x _
theorem ninv_start (X j : Nat) : NInv X j (j / 64) (lowCut (wordAt X (j / 64)) (j % 64)) := by
  refine ⟨fun t => ?_, fun e h1 h2 => by omega⟩
  rw [lowCut_testBit, wordAt_testBit]
  by_cases h : t < 64
  · by_cases h2 : j % 64 ≤ t
    · have : j ≤ 64 * (j / 64) + t := by omega
      simp [h2, this]
    · have : ¬ j ≤ 64 * (j / 64) + t := by omega
      simp [h2, this]
  · simp [h]
set_option maxHeartbeats 400000 in
theorem next_out (b g cap n X : Nat) (i : Int) (w : World) (hs : IsSet w b g cap n X) (hi : (n : Int) ≤ i ∨ n = 0) :
    Calls Tryz.prog 95 #[.pointer (some ⟨b, 0, none⟩), .int .i64 i] w fun e w' => e = .returned (.int .i64 (-1)) ∧ w' = w := by
  have h0 := hs.c0
  clear hs
  by_cases hneg : i < 0
  · have hn : n = 0 := by omega
    subst hn
    clear hi
    go_enter Tryz.func95, Tryz.ntmps95
    go_wp2
    go_ret
    exact ⟨rfl, rfl⟩
  · have hle : (n : Int) ≤ i := by omega
    clear hi
    go_enter Tryz.func95, Tryz.ntmps95
    go_wp2
    go_ret
    exact ⟨rfl, rfl⟩
theorem andNot_low (x r : Nat) (hx : x < 18446744073709551616) (hr : r < 64) : bits BinOp.andNot IntKind.u64 (x : Int) (IntKind.u64.wrap ((2 : Int) ^ r - 1)) = (lowCut x r : Int) := by
  have hp : (2:Nat) ^ r < 2 ^ 64 := Nat.pow_lt_pow_right (by decide) hr
  have hp0 : 0 < (2:Nat) ^ r := Nat.two_pow_pos r
  have e1 : IntKind.u64.wrap ((2 : Int) ^ r - 1) = ((2 ^ r - 1 : Nat) : Int) := by
    rw [IntKind.wrap_u64, show ((2 : Int) ^ r) = ((2 ^ r : Nat) : Int) by simp]
    generalize (2:Nat) ^ r = z at *
    omega
  have h1 : (BitVec.ofInt 64 (x : Int)).toNat = x := by
    rw [BitVec.ofInt_natCast, BitVec.toNat_ofNat]; exact Nat.mod_eq_of_lt hx
  have h2 : (BitVec.ofInt 64 ((2 ^ r - 1 : Nat) : Int)).toNat = 2 ^ r - 1 := by
    rw [BitVec.ofInt_natCast, BitVec.toNat_ofNat]; exact Nat.mod_eq_of_lt (by omega)
  have h3 : (BitVec.ofInt 64 (x : Int) &&& ~~~ BitVec.ofInt 64 ((2 ^ r - 1 : Nat) : Int)).toNat = lowCut x r := by
    apply Nat.eq_of_testBit_eq
    intro t
    rw [← BitVec.getLsbD, BitVec.getLsbD_and, BitVec.getLsbD_not, BitVec.getLsbD, BitVec.getLsbD, h1, h2, lowCut_testBit, Nat.testBit_two_pow_sub_one]
    by_cases ht : t < 64
    · by_cases h : r ≤ t
      · have : ¬ t < r := by omega
        simp [h, ht, this]
      · have : t < r := by omega
        simp [h, this]
    · have : x.testBit t = false := Nat.testBit_lt_two_pow (Nat.lt_of_lt_of_le hx (show 2 ^ 64 ≤ 2 ^ t from Nat.pow_le_pow_right (by decide) (by omega)))
      simp [this]
  rw [e1]
  show IntKind.u64.wrap ((BitVec.ofInt 64 (x : Int) &&& ~~~ BitVec.ofInt 64 ((2 ^ r - 1 : Nat) : Int)).toNat : Int) = _
  rw [h3, IntKind.wrap_u64]
  have := lowCut_le x r
  omega
set_option maxHeartbeats 400000 in
theorem next_in (b g cap n X j : Nat) (i : Int) (hij : Hid ((j : Int) = max i 0)) (hmax : (if i < 0 then 0 else i) = (j : Int)) (w : World) (hs : IsSet w b g cap n X) (hi : j < n) (hT : TabAt w) :
    Calls Tryz.prog 95 #[.pointer (some ⟨b, 0, none⟩), .int .i64 i] w fun e w' => e = .returned (.int .i64 (nextL (elems n X) i)) ∧ ∃ q, w' = w.drewN q := by
  have h0 := hs.c0
  have h1 := hs.c1
  have hn := hs.hn
  have hw := hs.word (j / 64) (by unfold nw; omega)
  have hnw : j / 64 < nw n := by unfold nw; omega
  have hnw2 := nw_le hs.hn
  have hnw3 : n ≤ 64 * nw n := by unfold nw; omega
  have hword := hs.word
  have hX : Hid (X < 2 ^ n) := hs.hX
  have hcut : bits BinOp.andNot IntKind.u64 (wordAt X (j / 64) : Int) (IntKind.u64.wrap ((2 : Int) ^ (j % 64) - 1)) = (lowCut (wordAt X (j / 64)) (j % 64) : Int) := andNot_low _ _ (wordAt_lt _ _) (Nat.mod_lt _ (by decide))
  have hl1 := lowCut_le (wordAt X (j / 64)) (j % 64)
  have hl2 := wordAt_lt X (j / 64)
  clear hs
  go_enter Tryz.func95, Tryz.ntmps95
  go_wp2_with fail
  go_quiet ((go_at_call 116; exact Calls.quiet_of_same (bit_any j _ (by omega) (by omega))))
  go_wp2
  go_loop [5, 6] (fun kk yy => ∃ k y : Nat, k < nw n ∧ y < 18446744073709551616 ∧ j < 64 * (k + 1) ∧ kk = .int .i64 k ∧ yy = .int .u64 y ∧ NInv X j k y) (fun kk _ => nw n - (intOf kk).toNat)
  case atStart => exact ⟨j / 64, _, hnw, by omega, by omega, by go_num, rfl, ninv_start X j⟩
  case round =>
    obtain ⟨k, y, hk, hy, hjk, rfl, rfl, hinv⟩ := hrel
    have HI : Hid (NInv X j k y) := hinv
    clear hinv hw hcut hl1 hl2
    by_cases h0y : y = 0
    · have hyb : ((y : Int) == 0) = true := by simp [h0y]
      have HY : Hid (y = 0) := h0y
      clear h0y
      by_cases hlast : k + 1 = nw n
      · have hlb : (((k : Int) + 1) == (nw n : Int)) = true := by simp; omega
        have HL : Hid (k + 1 = nw n) := hlast
        clear hlast hword
        go_wp2
        go_ret
        exact ⟨ret_int (ninv_end n X j k y hX.out HI.out HY.out (by have := HL.out; omega) i hij.out).symm, _, rfl⟩
      · have hlb : (((k : Int) + 1) == (nw n : Int)) = false := by simp; omega
        have hwk := hword (k + 1) (by omega)
        clear hword
        go_wp2
        go_round
        case rel => exact ⟨k + 1, _, by omega, wordAt_lt _ _, by omega, by go_num, rfl, ninv_next X j k y HI.out HY.out hjk⟩
        case measure => simp [intOf]; omega
    · have hyb : ((y : Int) == 0) = false := by simp [h0y]
      clear hword
      have hc : Lib.ctz 64 y < 64 := by obtain ⟨_, _, h⟩ := ctz_spec y h0y hy; exact h
      go_wp2_with (go_at_call 118; refine (tz_any y hy h0y _ (hT.drewN _)).mono ?_; rintro e w' ⟨rfl, rfl⟩)
      go_ret
      exact ⟨ret_int (by rw [ninv_found n X j k y hX.out HI.out h0y hy i hij.out]; omega), _, rfl⟩
theorem next_any (b g cap n X : Nat) (i : Int) (w : World) (hs : IsSet w b g cap n X) (hT : TabAt w) :
    Calls Tryz.prog 95 #[.pointer (some ⟨b, 0, none⟩), .int .i64 i] w fun e w' => e = .returned (.int .i64 (nextL (elems n X) i)) ∧ ∃ q, w' = w.drewN q := by
  by_cases h : (n : Int) ≤ i ∨ n = 0
  · have e : nextL (elems n X) i = -1 := nextL_none _ _ fun e he => by have := (mem_elems.1 he).1; omega
    rw [e]
    refine (next_out b g cap n X i w hs h).mono ?_
    rintro e w' ⟨rfl, rfl⟩
    exact ⟨rfl, 0, rfl⟩
  · exact next_in b g cap n X (max i 0).toNat i (show (((max i 0).toNat : Nat) : Int) = max i 0 by omega) (by split <;> omega) w hs (by omega) hT
theorem next_miss (i : Nat) : ∀ l : List Nat, i ∉ l → nextL l (i : Int) = nextL l ((i : Int) + 1)
  | [], _ => rfl
  | e :: l, h => by
    have h1 : e ≠ i := fun k => h (by simp [k])
    have h2 : i ∉ l := fun k => h (by simp [k])
    unfold nextL
    by_cases hc : (i : Int) ≤ (e : Int)
    · rw [if_pos hc, if_pos (by omega)]
    · rw [if_neg hc, if_neg (by omega), next_miss i l h2]
theorem next_hit (i : Nat) : ∀ l : List Nat, l.Pairwise (· < ·) → i ∈ l → nextL l (i : Int) = i
  | [], _, h => by cases h
  | e :: l, hs, h => by
    unfold nextL
    rcases List.mem_cons.1 h with rfl | h2
    · rw [if_pos (Int.le_refl _)]
    · have := (List.pairwise_cons.1 hs).1 i h2
      rw [if_neg (by omega)]
      exact next_hit i l (List.pairwise_cons.1 hs).2 h2
end Go.Proofs.YtgnpdhgphkocoaaGreatDoor
