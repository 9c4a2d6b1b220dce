import Derived.Test.YtdgmokelmocejabDoorSets
namespace Go.Proofs.YtdgmokelmocejabDoor
open Go.RowKit

def cmpI (x y : Int) : Int := if x < y then -1 else if y < x then 1 else 0

set_option maxHeartbeats 400000 in
theorem cmp_any (x y : Int) (w : World) : Calls Tryd.prog 61 #[.int .i64 x, .int .i64 y] w fun e w' => e = .returned (.int .i64 (cmpI x y)) ∧ w' = w := by
  have hx : ((x : Int) != x) = false := by simp
  have hy : ((y : Int) != y) = false := by simp
  by_cases h1 : x < y
  · go_enter Tryd.func61, Tryd.ntmps61
    go_wp2
    go_ret
    exact ⟨ret_int (by unfold cmpI; rw [if_pos h1]), rfl⟩
  · by_cases h2 : y < x
    · go_enter Tryd.func61, Tryd.ntmps61
      go_wp2
      go_ret
      exact ⟨ret_int (by unfold cmpI; rw [if_neg (by omega), if_pos h2]), rfl⟩
    · go_enter Tryd.func61, Tryd.ntmps61
      go_wp2
      go_ret
      exact ⟨ret_int (by unfold cmpI; rw [if_neg (by omega), if_neg (by omega)]), rfl⟩

/-- The first number that just one of two sets has. -/
def Parts (X Y c : Nat) : Prop := X.testBit c ≠ Y.testBit c ∧ ∀ i, i < c → X.testBit i = Y.testBit i

theorem xor_low (x y : Nat) (hx : x < 18446744073709551616) (hy : y < 18446744073709551616) (hne : x ^^^ y ≠ 0) : Lib.ctz 64 (x ^^^ y) < 64 ∧ Parts x y (Lib.ctz 64 (x ^^^ y)) := by
  have hlt : x ^^^ y < 18446744073709551616 := Nat.xor_lt_two_pow (n := 64) hx hy
  obtain ⟨m, hm, hc⟩ := ctz_spec _ hne hlt
  generalize Lib.ctz 64 (x ^^^ y) = c at *
  refine ⟨hc, ?_, fun i hi => ?_⟩
  · have : (x ^^^ y).testBit c = true := by rw [hm, testBit_odd]; simp
    rw [Nat.testBit_xor] at this
    intro h
    rw [h] at this
    simp at this
  · have : (x ^^^ y).testBit i = false := by
      rw [hm, testBit_odd]
      have h1 : ¬ i = c := by omega
      have h2 : ¬ c < i := by omega
      simp [h1, h2]
    rw [Nat.testBit_xor] at this
    cases h1 : x.testBit i <;> cases h2 : y.testBit i <;> simp [h1, h2] at this ⊢

theorem bits_xor_nat (a b : Nat) (ha : a < 18446744073709551616) (hb : b < 18446744073709551616) : bits .xor .u64 (a : Int) (b : Int) = ((a ^^^ b : Nat) : Int) := bits_xor_u64_nat a b ha hb

set_option maxHeartbeats 400000 in
theorem owner_core (x d a r : Nat) (w : World) (k1 : bits BinOp.and IntKind.u64 (x : Int) (d : Int) = (a : Int)) (k2 : bits BinOp.and IntKind.u64 (a : Int) (IntKind.u64.wrap (-(d : Int))) = (r : Int)) :
    Calls Tryd.prog 63 #[.int .u64 x, .int .u64 d] w fun e w' => e = .returned (.int .i64 (if r = 0 then 1 else -1)) ∧ w' = w := by
  by_cases h : r = 0
  · have hb : ((r : Int) != 0) = false := by simp [h]
    have H := hide h
    clear h
    go_enter Tryd.func63, Tryd.ntmps63
    go_wp2
    go_ret
    exact ⟨ret_int (by first | rfl | rw [if_pos H.out]), rfl⟩
  · have hb : ((r : Int) != 0) = true := by simp [h]
    have H := hide h
    clear h
    go_enter Tryd.func63, Tryd.ntmps63
    go_wp2
    go_ret
    exact ⟨ret_int (by first | rfl | rw [if_neg H.out]), rfl⟩

theorem owner_any (x d : Nat) (w : World) (hx : x < 18446744073709551616) (hd : d < 18446744073709551616) (h0 : d ≠ 0) :
    Calls Tryd.prog 63 #[.int .u64 x, .int .u64 d] w fun e w' => e = .returned (.int .i64 (if x.testBit (Lib.ctz 64 d) then -1 else 1)) ∧ w' = w := by
  obtain ⟨hlow, hk⟩ := Lib.lowest_bit 64 d h0 hd
  have e1 : IntKind.u64.wrap (-(d : Int)) = ((18446744073709551616 - d : Nat) : Int) := by rw [IntKind.wrap_u64]; omega
  have ha : x &&& d < 18446744073709551616 := Nat.lt_of_le_of_lt Nat.and_le_left hx
  have hlow2 : d &&& (18446744073709551616 - d) = 2 ^ Lib.ctz 64 d := hlow
  have := owner_core x d (x &&& d) ((x &&& d) &&& (18446744073709551616 - d)) w (bits_and_u64_nat x d hx hd) (by rw [e1, bits_and_u64_nat _ _ ha (by omega)])
  refine this.mono ?_
  rintro e w' ⟨rfl, rfl⟩
  refine ⟨ret_int ?_, rfl⟩
  rw [Nat.and_assoc, hlow2]
  have hb := and_bit x (Lib.ctz 64 d)
  cases hx2 : x.testBit (Lib.ctz 64 d)
  · rw [if_pos (hb.2 hx2)]; rfl
  · rw [if_neg (fun h => by rw [hb.1 h] at hx2; cases hx2)]; rfl

theorem owner_b (x d : Nat) (r : Int) (w : World) (hx : x < 18446744073709551616) (hd : d < 18446744073709551616) (h0 : d ≠ 0) (HR : Hid ((if x.testBit (Lib.ctz 64 d) then (-1 : Int) else 1) = r)) :
    Calls Tryd.prog 63 #[.int .u64 x, .int .u64 d] w fun e w' => e = .returned (.int .i64 r) ∧ w' = w := by
  have := owner_any x d w hx hd h0
  rwa [HR.out] at this

/-- What Compare answers. -/
def CmpRel (n X n2 Y : Nat) (r : Int) : Prop :=
  (n < n2 → r = -1) ∧ (n2 < n → r = 1) ∧ (n = n2 → (cnt n X < cnt n Y → r = -1) ∧ (cnt n Y < cnt n X → r = 1) ∧
    (cnt n X = cnt n Y → (X = Y ∧ r = 0) ∨ ∃ c, Parts X Y c ∧ r = if X.testBit c then -1 else 1))

theorem parts_word (X Y k c : Nat) (hw : ∀ i, i < k → wordAt X i = wordAt Y i) (hc : c < 64) (h : Parts (wordAt X k) (wordAt Y k) c) : Parts X Y (64 * k + c) ∧ X.testBit (64 * k + c) = (wordAt X k).testBit c := by
  have e : ∀ Z t, t < 64 → Z.testBit (64 * k + t) = (wordAt Z k).testBit t := fun Z t ht => by rw [wordAt_testBit]; simp [ht]
  refine ⟨⟨by rw [e X c hc, e Y c hc]; exact h.1, fun i hi => ?_⟩, e X c hc⟩
  by_cases hik : i < 64 * k
  · have h1 := testBit_word X i
    have h2 := testBit_word Y i
    rw [← h1, ← h2, hw (i / 64) (by omega)]
  · obtain ⟨t, rfl⟩ : ∃ t, i = 64 * k + t := ⟨i - 64 * k, by omega⟩
    rw [e X t (by omega), e Y t (by omega)]
    exact h.2 t (by omega)

theorem words_eq (n X Y : Nat) (hX : X < 2 ^ n) (hY : Y < 2 ^ n) (hw : ∀ i, i < nw n → wordAt X i = wordAt Y i) : X = Y := by
  apply Nat.eq_of_testBit_eq
  intro i
  by_cases hi : i / 64 < nw n
  · rw [← testBit_word X i, ← testBit_word Y i, hw _ hi]
  · have hn : n ≤ i := by unfold nw at hi; omega
    rw [Nat.testBit_lt_two_pow (Nat.lt_of_lt_of_le hX (Nat.pow_le_pow_right (by decide) hn)), Nat.testBit_lt_two_pow (Nat.lt_of_lt_of_le hY (Nat.pow_le_pow_right (by decide) hn))]

set_option maxRecDepth 100000 in
set_option maxHeartbeats 1000000 in
theorem compare_any (b1 g1 c1 n X b2 g2 c2 n2 Y : Nat) (w : World) (h1 : IsSet w b1 g1 c1 n X) (h2 : IsSet w b2 g2 c2 n2 Y) :
    Calls Tryd.prog 35 #[.pointer (some ⟨b1, 0, none⟩), .pointer (some ⟨b2, 0, none⟩)] w fun e w' => ∃ r, e = .returned (.int .i64 r) ∧ CmpRel n X n2 Y r ∧ ∃ q, w' = w.drewN q := by
  have p0 := h1.c0
  have q0 := h2.c0
  have hn := h1.hn
  have hn2 := h2.hn
  have HS := hide (And.intro h1 h2)
  clear h1 h2
  by_cases hne : n = n2
  · subst hne
    have hc0 : cmpI (n : Int) n = 0 := by simp [cmpI]
    have HC := hide hc0
    clear hc0
    go_enter Tryd.func35, Tryd.ntmps35
    go_wp2_with fail
    go_quiet ((go_at_call 61; exact Calls.quiet_of_same (cmp_any _ _ _)))
    rw [HC.out]
    have s1 := HS.out.1.below (below_drewN' (Below.refl _ _) nq)
    have s2 := HS.out.2.below (below_drewN' (Below.refl _ _) nq)
    go_wp2_with fail
    refine (count_any b1 g1 c1 n X _ s1).mono ?_
    rintro e w1 ⟨rfl, hw⟩
    obtain rfl := hw
    go_wp2_with fail
    refine (count_any b2 g2 c2 n Y _ s2).mono ?_
    rintro e w1 ⟨rfl, hw⟩
    obtain rfl := hw
    go_wp2_with fail
    refine (cmp_any _ _ _).mono ?_
    rintro e w1 ⟨rfl, hw⟩
    obtain rfl := hw
    by_cases hcc : cnt n X = cnt n Y
    · have hc1 : cmpI (cnt n X) (cnt n Y) = 0 := by rw [hcc]; simp [cmpI]
      rw [hc1]
      have a1 := s1.c1
      have a2 := s2.c1
      have hnw := nw_le hn
      have W1 := hide s1.word
      have W2 := hide s2.word
      have HX := hide (And.intro s1.hX s2.hX)
      have HCC := hide hcc
      clear hcc hc1 s1 s2 HS
      generalize hm : nw n = m at *
      have HM := hide hm
      clear hm
      go_wp2
      go_loop [46] (fun i => ∃ k : Nat, k ≤ m ∧ i = .int .i64 k ∧ ∀ j, j < k → wordAt X j = wordAt Y j) (fun i => m - (intOf i).toNat)
      case atStart => exact ⟨0, Nat.zero_le _, rfl, fun j hj => by omega⟩
      case round =>
        obtain ⟨k, hk, rfl, hj⟩ := hrel
        have HJ := hide hj
        clear hj
        by_cases hlt : k < m
        · have x1 := W1.out k hlt
          have x2 := W2.out k hlt
          have l1 := wordAt_lt X k
          have l2 := wordAt_lt Y k
          have hx := bits_xor_nat _ _ l1 l2
          by_cases hd : wordAt X k ^^^ wordAt Y k = 0
          · have hdb : (((wordAt X k ^^^ wordAt Y k : Nat) : Int) != 0) = false := by rw [hd]; rfl
            have HD : Hid (wordAt X k = wordAt Y k) := by
              show _ = _
              apply Nat.eq_of_testBit_eq
              intro i
              have := congrArg (fun z => Nat.testBit z i) hd
              simp only [Nat.testBit_xor, Nat.zero_testBit] at this
              cases h1 : (wordAt X k).testBit i <;> cases h2 : (wordAt Y k).testBit i <;> simp [h1, h2] at this ⊢
            clear hd
            go_wp2
            go_round
            case rel =>
              refine ⟨k + 1, by omega, by go_num, fun j hj => ?_⟩
              by_cases hjk : j = k
              · subst hjk; exact HD.out
              · exact HJ.out j (by omega)
            case measure => simp [intOf]; omega
          · have hdb : (((wordAt X k ^^^ wordAt Y k : Nat) : Int) != 0) = true := by rw [bne_iff_ne]; omega
            have ld : wordAt X k ^^^ wordAt Y k < 18446744073709551616 := Nat.xor_lt_two_pow (n := 64) l1 l2
            obtain ⟨hc64, hP⟩ := xor_low _ _ l1 l2 hd
            have hPW := parts_word X Y k _ HJ.out hc64 hP
            have HP := hide hPW
            clear hP hPW
            obtain ⟨r, hr⟩ : ∃ r : Int, (if (wordAt X k).testBit (Lib.ctz 64 (wordAt X k ^^^ wordAt Y k)) then (-1 : Int) else 1) = r := ⟨_, rfl⟩
            have HR := hide hr
            clear hr
            go_wp2_with (go_at_call 63; refine (owner_b _ _ r _ l1 ld hd HR).mono ?_; rintro e w' ⟨rfl, hw⟩; obtain rfl := hw.symm; clear hw)
            go_ret
            refine ⟨r, rfl, ⟨fun h => by omega, fun h => by omega, fun _ => ⟨fun h => ?_, fun h => ?_, fun _ => Or.inr ⟨_, HP.out.1, by rw [HP.out.2, HR.out]⟩⟩⟩, _, rfl⟩
            · have := HCC.out; omega
            · have := HCC.out; omega
        · go_wp2
          go_ret
          have hke : k = m := by omega
          subst hke
          refine ⟨0, rfl, ⟨fun h => by omega, fun h => by omega, fun _ => ⟨fun h => ?_, fun h => ?_, fun _ => Or.inl ⟨words_eq n X Y HX.out.1 HX.out.2 (by rw [HM.out]; exact HJ.out), rfl⟩⟩⟩, _, rfl⟩
          · have := HCC.out; omega
          · have := HCC.out; omega
    · by_cases hlt : cnt n X < cnt n Y
      · have hc1 : cmpI (cnt n X) (cnt n Y) = -1 := by unfold cmpI; rw [if_pos (by omega)]
        rw [hc1]
        clear s1 s2 HS
        go_wp2
        go_ret
        exact ⟨-1, rfl, ⟨fun h => by omega, fun h => by omega, fun _ => ⟨fun _ => rfl, fun h => by omega, fun h => absurd h hcc⟩⟩, _, rfl⟩
      · have hc1 : cmpI (cnt n X) (cnt n Y) = 1 := by unfold cmpI; rw [if_neg (by omega), if_pos (by omega)]
        rw [hc1]
        clear s1 s2 HS
        go_wp2
        go_ret
        exact ⟨1, rfl, ⟨fun h => by omega, fun h => by omega, fun _ => ⟨fun h => by omega, fun _ => rfl, fun h => absurd h hcc⟩⟩, _, rfl⟩
  · by_cases hlt : n < n2
    · have hc0 : cmpI (n : Int) n2 = -1 := by unfold cmpI; rw [if_pos (by omega)]
      have HC := hide hc0
      clear hc0
      go_enter Tryd.func35, Tryd.ntmps35
      go_wp2_with fail
      go_quiet ((go_at_call 61; exact Calls.quiet_of_same (cmp_any _ _ _)))
      rw [HC.out]
      go_wp2
      go_ret
      exact ⟨-1, rfl, ⟨fun _ => rfl, fun h => by omega, fun h => absurd h hne⟩, _, rfl⟩
    · have hc0 : cmpI (n : Int) n2 = 1 := by unfold cmpI; rw [if_neg (by omega), if_pos (by omega)]
      have HC := hide hc0
      clear hc0
      go_enter Tryd.func35, Tryd.ntmps35
      go_wp2_with fail
      go_quiet ((go_at_call 61; exact Calls.quiet_of_same (cmp_any _ _ _)))
      rw [HC.out]
      go_wp2
      go_ret
      exact ⟨1, rfl, ⟨fun h => by omega, fun _ => rfl, fun h => absurd h hne⟩, _, rfl⟩
end Go.Proofs.YtdgmokelmocejabDoor
