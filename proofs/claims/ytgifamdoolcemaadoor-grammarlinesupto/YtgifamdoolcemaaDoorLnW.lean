import Derived.Test.YtgifamdoolcemaaDoorLnF
namespace Go.Proofs.YtgifamdoolcemaaDoor
open Go.RowKit Go.Maps

set_option maxRecDepth 100000 in
set_option maxHeartbeats 4000000 in
theorem lines_not (s0 : ByteArray) (at' : Int) (tab : Bool) (w : World) (hT : RowsAt w) (hw0 : 0 < w.heap.size) (hs0 : s0.size ≤ 1048576) (he : errF s0 = 30) :
    Calls Tryd.prog 4 #[.string s0, .int .i64 at', .bool tab] w fun e w' => e = .returned (.bool true) ∧ Below w.heap.size w w' := by
  have HT := hide hT
  have hwk := works_any w hT hw0
  have hc1 := fun W h1 h2 => check_any s0 W h1 h2 (by omega)
  rw [he] at hc1
  clear hT he
  generalize lenF s0 = n at hc1
  go_enter Tryd.func4, Tryd.ntmps4
  go_wp2_with fail
  refine hwk.mono ?_
  rintro e w1 ⟨rfl, d⟩
  go_wp2_with fail
  refine (hc1 _ (HT.out.below d hw0) (Nat.lt_of_lt_of_le hw0 d.size)).mono ?_
  rintro e w2 ⟨rfl, d2⟩
  have HD := hide (d.trans (d2.mono d.size))
  clear hwk hc1 d2 d
  go_wp2
  obtain ⟨s, hsm⟩ : ∃ s : ByteArray, s = ⟨#[79, 112, 115, 32, 97, 58, 49, 10, 65, 117, 116, 111, 109, 97, 116, 111, 110, 32, 120, 10, 83, 116, 97, 116, 101, 115, 10, 70, 105, 110, 97, 108, 32, 83, 116, 97, 116, 101, 115, 10, 84, 114, 97, 110, 115, 105, 116, 105, 111, 110, 115]⟩ := ⟨_, rfl⟩
  rw [← hsm]
  have hs : s.size ≤ 1048576 := by rw [hsm]; decide
  have HE : Hid (errF s = 0) := hide (by rw [hsm]; exact ev1.2.1)
  clear hsm
  go_loopw [9, 10] (fun f i wr => ∃ k c : Nat, k ≤ s.size ∧ c ≤ k ∧ i = .int .i64 k ∧ f = .int .i64 c ∧ wr = w2) (fun _ i _ => s.size - (intOf i).toNat)
  case atStart => exact ⟨0, 0, Nat.zero_le _, Nat.le_refl _, rfl, rfl, rfl⟩
  case round =>
    obtain ⟨k, c, hk, hck, rfl, rfl, hwr⟩ := hrel
    obtain rfl := hwr.symm
    by_cases hlt : k < s.size
    · have hix := idx_b s k hlt
      obtain ⟨b, hb⟩ : ∃ b, (bts s)[k]'(by rw [bts_len]; exact hlt) = b := ⟨_, rfl⟩
      rw [hb] at hix
      have i1 : (k : Int) < (s.size : Int) := by omega
      clear hb
      by_cases h10 : b = 10
      · have j1 : ((b : Int) == 10) = true := by rw [beq_iff_eq]; omega
        clear h10
        go_wp2
        go_roundw
        case rel => exact ⟨k + 1, c + 1, by omega, by omega, by go_num, by go_num, trivial⟩
        case measure => simp [intOf]; omega
      · have j1 : ((b : Int) == 10) = false := by rw [beq_eq_false_iff_ne]; omega
        clear h10
        go_wp2
        go_roundw
        case rel => exact ⟨k + 1, c, by omega, by omega, by go_num, rfl, trivial⟩
        case measure => simp [intOf]; omega
    · have i1 : ¬ (k : Int) < (s.size : Int) := by omega
      cases tab
      · by_cases hc0 : c = 0
        · have j0 : ¬ (c : Int) > 0 := by omega
          clear hc0
          go_wp2
          go_loopw [12, 13, 14] (fun kz pv i wr => ∃ (j pl : Nat) (z : Int), j ≤ s.size ∧ pl ≤ s.size ∧ Hid (EndAt (bts s) pl) ∧ i = .int .i64 j ∧ pv = .int .i64 pl ∧ kz = .int .i64 z ∧ wr = w2) (fun _ _ i _ => s.size - (intOf i).toNat)
          case atStart => exact ⟨0, s.size, _, Nat.zero_le _, Nat.le_refl _, hide (endAt_size s), rfl, rfl, rfl, rfl⟩
          case round =>
            obtain ⟨j, pl, z, hj, hpl, HP, rfl, rfl, rfl, hwr⟩ := hrel
            obtain rfl := hwr.symm
            by_cases hlt : j < s.size
            · have hix := idx_b s j hlt
              obtain ⟨b, hb⟩ : ∃ b, (bts s)[j]'(by rw [bts_len]; exact hlt) = b := ⟨_, rfl⟩
              rw [hb] at hix
              have j1 : (j : Int) < (s.size : Int) := by omega
              by_cases h10 : b = 10
              · have j2 : ((b : Int) == 10) = true := by rw [beq_iff_eq]; omega
                have HB := hide (endAt_here s j hlt (hb.trans h10))
                clear h10 hb
                by_cases hz : z = 0
                · have j3 : (z == 0) = true := by rw [beq_iff_eq]; exact hz
                  clear hz
                  go_wp2
                  go_roundw
                  case rel => exact ⟨j + 1, j, _, by omega, by omega, HB, by go_num, rfl, rfl, trivial⟩
                  case measure => simp [intOf]; omega
                · have j3 : (z == 0) = false := by rw [beq_eq_false_iff_ne]; exact hz
                  clear hz
                  go_wp2
                  go_roundw
                  case rel => exact ⟨j + 1, pl, _, by omega, hpl, HP, by go_num, rfl, rfl, trivial⟩
                  case measure => simp [intOf]; omega
              · have j2 : ((b : Int) == 10) = false := by rw [beq_eq_false_iff_ne]; omega
                clear h10 hb
                go_wp2
                go_roundw
                case rel => exact ⟨j + 1, pl, z, by omega, hpl, HP, by go_num, rfl, rfl, trivial⟩
                case measure => simp [intOf]; omega
            · have j1 : ¬ (j : Int) < (s.size : Int) := by omega
              obtain ⟨n1, n2, n3, hc1, hc2, hc3⟩ := lines_calls s pl ⟨#[32]⟩ HE.out hs HP.out hpl (.inl rfl)
              have HC := hide (And.intro hc1 (And.intro hc2 hc3))
              have p0 : (0 : Int) ≤ (pl : Int) := by omega
              have p1 : (pl : Int) ≤ (s.size : Int) := by omega
              have q1 : (s.extract 0 pl).size = pl := by rw [ByteArray.size_extract]; omega
              have q2 : (s.extract pl s.size).size = s.size - pl := by rw [ByteArray.size_extract]; omega
              clear hc1 hc2 hc3
              go_wp2_with fail
              go_quiet (fail)
              go_wp2_with fail
              go_quiet (fail)
              go_wp2_with fail
              refine (HC.out.1 _ (HT.out.below (below_drewN' HD.out _) hw0) (Nat.lt_of_lt_of_le hw0 HD.out.size)).mono ?_
              rintro e w3 ⟨rfl, d⟩
              have HD3 : Hid (Below w.heap.size w w3) := hide (Below.trans (below_drewN' HD.out _) (d.mono HD.out.size))
              clear d
              go_wp2_with fail
              refine (HC.out.2.1 _ (HT.out.below HD3.out hw0) (Nat.lt_of_lt_of_le hw0 HD3.out.size)).mono ?_
              rintro e w4 ⟨rfl, d⟩
              have HD4 := hide (HD3.out.trans (d.mono HD3.out.size))
              clear d
              go_wp2_with fail
              refine (HC.out.2.2 _ (HT.out.below HD4.out hw0) (Nat.lt_of_lt_of_le hw0 HD4.out.size)).mono ?_
              rintro e w5 ⟨rfl, d⟩
              have HD5 := hide (HD4.out.trans (d.mono HD4.out.size))
              clear d
              go_wp2
              go_ret
              exact ⟨by first | rfl | simp, HD5.out⟩
        · have j0 : (c : Int) > 0 := by omega
          have j00 : (c : Int) ≠ 0 := by omega
          clear hc0
          by_cases hm : at'.tmod (c : Int) < 0
          · skip
            go_wp2
            go_loopw [12, 13, 14] (fun kz pv i wr => ∃ (j pl : Nat) (z : Int), j ≤ s.size ∧ pl ≤ s.size ∧ Hid (EndAt (bts s) pl) ∧ i = .int .i64 j ∧ pv = .int .i64 pl ∧ kz = .int .i64 z ∧ wr = w2) (fun _ _ i _ => s.size - (intOf i).toNat)
            case atStart => exact ⟨0, s.size, _, Nat.zero_le _, Nat.le_refl _, hide (endAt_size s), rfl, rfl, rfl, rfl⟩
            case round =>
              obtain ⟨j, pl, z, hj, hpl, HP, rfl, rfl, rfl, hwr⟩ := hrel
              obtain rfl := hwr.symm
              by_cases hlt : j < s.size
              · have hix := idx_b s j hlt
                obtain ⟨b, hb⟩ : ∃ b, (bts s)[j]'(by rw [bts_len]; exact hlt) = b := ⟨_, rfl⟩
                rw [hb] at hix
                have j1 : (j : Int) < (s.size : Int) := by omega
                by_cases h10 : b = 10
                · have j2 : ((b : Int) == 10) = true := by rw [beq_iff_eq]; omega
                  have HB := hide (endAt_here s j hlt (hb.trans h10))
                  clear h10 hb
                  by_cases hz : z = 0
                  · have j3 : (z == 0) = true := by rw [beq_iff_eq]; exact hz
                    clear hz
                    go_wp2
                    go_roundw
                    case rel => exact ⟨j + 1, j, _, by omega, by omega, HB, by go_num, rfl, rfl, trivial⟩
                    case measure => simp [intOf]; omega
                  · have j3 : (z == 0) = false := by rw [beq_eq_false_iff_ne]; exact hz
                    clear hz
                    go_wp2
                    go_roundw
                    case rel => exact ⟨j + 1, pl, _, by omega, hpl, HP, by go_num, rfl, rfl, trivial⟩
                    case measure => simp [intOf]; omega
                · have j2 : ((b : Int) == 10) = false := by rw [beq_eq_false_iff_ne]; omega
                  clear h10 hb
                  go_wp2
                  go_roundw
                  case rel => exact ⟨j + 1, pl, z, by omega, hpl, HP, by go_num, rfl, rfl, trivial⟩
                  case measure => simp [intOf]; omega
              · have j1 : ¬ (j : Int) < (s.size : Int) := by omega
                obtain ⟨n1, n2, n3, hc1, hc2, hc3⟩ := lines_calls s pl ⟨#[32]⟩ HE.out hs HP.out hpl (.inl rfl)
                have HC := hide (And.intro hc1 (And.intro hc2 hc3))
                have p0 : (0 : Int) ≤ (pl : Int) := by omega
                have p1 : (pl : Int) ≤ (s.size : Int) := by omega
                have q1 : (s.extract 0 pl).size = pl := by rw [ByteArray.size_extract]; omega
                have q2 : (s.extract pl s.size).size = s.size - pl := by rw [ByteArray.size_extract]; omega
                clear hc1 hc2 hc3
                go_wp2_with fail
                go_quiet (fail)
                go_wp2_with fail
                go_quiet (fail)
                go_wp2_with fail
                refine (HC.out.1 _ (HT.out.below (below_drewN' HD.out _) hw0) (Nat.lt_of_lt_of_le hw0 HD.out.size)).mono ?_
                rintro e w3 ⟨rfl, d⟩
                have HD3 : Hid (Below w.heap.size w w3) := hide (Below.trans (below_drewN' HD.out _) (d.mono HD.out.size))
                clear d
                go_wp2_with fail
                refine (HC.out.2.1 _ (HT.out.below HD3.out hw0) (Nat.lt_of_lt_of_le hw0 HD3.out.size)).mono ?_
                rintro e w4 ⟨rfl, d⟩
                have HD4 := hide (HD3.out.trans (d.mono HD3.out.size))
                clear d
                go_wp2_with fail
                refine (HC.out.2.2 _ (HT.out.below HD4.out hw0) (Nat.lt_of_lt_of_le hw0 HD4.out.size)).mono ?_
                rintro e w5 ⟨rfl, d⟩
                have HD5 := hide (HD4.out.trans (d.mono HD4.out.size))
                clear d
                go_wp2
                go_ret
                exact ⟨by first | rfl | simp, HD5.out⟩
          · skip
            go_wp2
            go_loopw [12, 13, 14] (fun kz pv i wr => ∃ (j pl : Nat) (z : Int), j ≤ s.size ∧ pl ≤ s.size ∧ Hid (EndAt (bts s) pl) ∧ i = .int .i64 j ∧ pv = .int .i64 pl ∧ kz = .int .i64 z ∧ wr = w2) (fun _ _ i _ => s.size - (intOf i).toNat)
            case atStart => exact ⟨0, s.size, _, Nat.zero_le _, Nat.le_refl _, hide (endAt_size s), rfl, rfl, rfl, rfl⟩
            case round =>
              obtain ⟨j, pl, z, hj, hpl, HP, rfl, rfl, rfl, hwr⟩ := hrel
              obtain rfl := hwr.symm
              by_cases hlt : j < s.size
              · have hix := idx_b s j hlt
                obtain ⟨b, hb⟩ : ∃ b, (bts s)[j]'(by rw [bts_len]; exact hlt) = b := ⟨_, rfl⟩
                rw [hb] at hix
                have j1 : (j : Int) < (s.size : Int) := by omega
                by_cases h10 : b = 10
                · have j2 : ((b : Int) == 10) = true := by rw [beq_iff_eq]; omega
                  have HB := hide (endAt_here s j hlt (hb.trans h10))
                  clear h10 hb
                  by_cases hz : z = 0
                  · have j3 : (z == 0) = true := by rw [beq_iff_eq]; exact hz
                    clear hz
                    go_wp2
                    go_roundw
                    case rel => exact ⟨j + 1, j, _, by omega, by omega, HB, by go_num, rfl, rfl, trivial⟩
                    case measure => simp [intOf]; omega
                  · have j3 : (z == 0) = false := by rw [beq_eq_false_iff_ne]; exact hz
                    clear hz
                    go_wp2
                    go_roundw
                    case rel => exact ⟨j + 1, pl, _, by omega, hpl, HP, by go_num, rfl, rfl, trivial⟩
                    case measure => simp [intOf]; omega
                · have j2 : ((b : Int) == 10) = false := by rw [beq_eq_false_iff_ne]; omega
                  clear h10 hb
                  go_wp2
                  go_roundw
                  case rel => exact ⟨j + 1, pl, z, by omega, hpl, HP, by go_num, rfl, rfl, trivial⟩
                  case measure => simp [intOf]; omega
              · have j1 : ¬ (j : Int) < (s.size : Int) := by omega
                obtain ⟨n1, n2, n3, hc1, hc2, hc3⟩ := lines_calls s pl ⟨#[32]⟩ HE.out hs HP.out hpl (.inl rfl)
                have HC := hide (And.intro hc1 (And.intro hc2 hc3))
                have p0 : (0 : Int) ≤ (pl : Int) := by omega
                have p1 : (pl : Int) ≤ (s.size : Int) := by omega
                have q1 : (s.extract 0 pl).size = pl := by rw [ByteArray.size_extract]; omega
                have q2 : (s.extract pl s.size).size = s.size - pl := by rw [ByteArray.size_extract]; omega
                clear hc1 hc2 hc3
                go_wp2_with fail
                go_quiet (fail)
                go_wp2_with fail
                go_quiet (fail)
                go_wp2_with fail
                refine (HC.out.1 _ (HT.out.below (below_drewN' HD.out _) hw0) (Nat.lt_of_lt_of_le hw0 HD.out.size)).mono ?_
                rintro e w3 ⟨rfl, d⟩
                have HD3 : Hid (Below w.heap.size w w3) := hide (Below.trans (below_drewN' HD.out _) (d.mono HD.out.size))
                clear d
                go_wp2_with fail
                refine (HC.out.2.1 _ (HT.out.below HD3.out hw0) (Nat.lt_of_lt_of_le hw0 HD3.out.size)).mono ?_
                rintro e w4 ⟨rfl, d⟩
                have HD4 := hide (HD3.out.trans (d.mono HD3.out.size))
                clear d
                go_wp2_with fail
                refine (HC.out.2.2 _ (HT.out.below HD4.out hw0) (Nat.lt_of_lt_of_le hw0 HD4.out.size)).mono ?_
                rintro e w5 ⟨rfl, d⟩
                have HD5 := hide (HD4.out.trans (d.mono HD4.out.size))
                clear d
                go_wp2
                go_ret
                exact ⟨by first | rfl | simp, HD5.out⟩
      · by_cases hc0 : c = 0
        · have j0 : ¬ (c : Int) > 0 := by omega
          clear hc0
          go_wp2
          go_loopw [12, 13, 14] (fun kz pv i wr => ∃ (j pl : Nat) (z : Int), j ≤ s.size ∧ pl ≤ s.size ∧ Hid (EndAt (bts s) pl) ∧ i = .int .i64 j ∧ pv = .int .i64 pl ∧ kz = .int .i64 z ∧ wr = w2) (fun _ _ i _ => s.size - (intOf i).toNat)
          case atStart => exact ⟨0, s.size, _, Nat.zero_le _, Nat.le_refl _, hide (endAt_size s), rfl, rfl, rfl, rfl⟩
          case round =>
            obtain ⟨j, pl, z, hj, hpl, HP, rfl, rfl, rfl, hwr⟩ := hrel
            obtain rfl := hwr.symm
            by_cases hlt : j < s.size
            · have hix := idx_b s j hlt
              obtain ⟨b, hb⟩ : ∃ b, (bts s)[j]'(by rw [bts_len]; exact hlt) = b := ⟨_, rfl⟩
              rw [hb] at hix
              have j1 : (j : Int) < (s.size : Int) := by omega
              by_cases h10 : b = 10
              · have j2 : ((b : Int) == 10) = true := by rw [beq_iff_eq]; omega
                have HB := hide (endAt_here s j hlt (hb.trans h10))
                clear h10 hb
                by_cases hz : z = 0
                · have j3 : (z == 0) = true := by rw [beq_iff_eq]; exact hz
                  clear hz
                  go_wp2
                  go_roundw
                  case rel => exact ⟨j + 1, j, _, by omega, by omega, HB, by go_num, rfl, rfl, trivial⟩
                  case measure => simp [intOf]; omega
                · have j3 : (z == 0) = false := by rw [beq_eq_false_iff_ne]; exact hz
                  clear hz
                  go_wp2
                  go_roundw
                  case rel => exact ⟨j + 1, pl, _, by omega, hpl, HP, by go_num, rfl, rfl, trivial⟩
                  case measure => simp [intOf]; omega
              · have j2 : ((b : Int) == 10) = false := by rw [beq_eq_false_iff_ne]; omega
                clear h10 hb
                go_wp2
                go_roundw
                case rel => exact ⟨j + 1, pl, z, by omega, hpl, HP, by go_num, rfl, rfl, trivial⟩
                case measure => simp [intOf]; omega
            · have j1 : ¬ (j : Int) < (s.size : Int) := by omega
              obtain ⟨n1, n2, n3, hc1, hc2, hc3⟩ := lines_calls s pl ⟨#[9]⟩ HE.out hs HP.out hpl (.inr rfl)
              have HC := hide (And.intro hc1 (And.intro hc2 hc3))
              have p0 : (0 : Int) ≤ (pl : Int) := by omega
              have p1 : (pl : Int) ≤ (s.size : Int) := by omega
              have q1 : (s.extract 0 pl).size = pl := by rw [ByteArray.size_extract]; omega
              have q2 : (s.extract pl s.size).size = s.size - pl := by rw [ByteArray.size_extract]; omega
              clear hc1 hc2 hc3
              go_wp2_with fail
              go_quiet (fail)
              go_wp2_with fail
              go_quiet (fail)
              go_wp2_with fail
              refine (HC.out.1 _ (HT.out.below (below_drewN' HD.out _) hw0) (Nat.lt_of_lt_of_le hw0 HD.out.size)).mono ?_
              rintro e w3 ⟨rfl, d⟩
              have HD3 : Hid (Below w.heap.size w w3) := hide (Below.trans (below_drewN' HD.out _) (d.mono HD.out.size))
              clear d
              go_wp2_with fail
              refine (HC.out.2.1 _ (HT.out.below HD3.out hw0) (Nat.lt_of_lt_of_le hw0 HD3.out.size)).mono ?_
              rintro e w4 ⟨rfl, d⟩
              have HD4 := hide (HD3.out.trans (d.mono HD3.out.size))
              clear d
              go_wp2_with fail
              refine (HC.out.2.2 _ (HT.out.below HD4.out hw0) (Nat.lt_of_lt_of_le hw0 HD4.out.size)).mono ?_
              rintro e w5 ⟨rfl, d⟩
              have HD5 := hide (HD4.out.trans (d.mono HD4.out.size))
              clear d
              go_wp2
              go_ret
              exact ⟨by first | rfl | simp, HD5.out⟩
        · have j0 : (c : Int) > 0 := by omega
          have j00 : (c : Int) ≠ 0 := by omega
          clear hc0
          by_cases hm : at'.tmod (c : Int) < 0
          · skip
            go_wp2
            go_loopw [12, 13, 14] (fun kz pv i wr => ∃ (j pl : Nat) (z : Int), j ≤ s.size ∧ pl ≤ s.size ∧ Hid (EndAt (bts s) pl) ∧ i = .int .i64 j ∧ pv = .int .i64 pl ∧ kz = .int .i64 z ∧ wr = w2) (fun _ _ i _ => s.size - (intOf i).toNat)
            case atStart => exact ⟨0, s.size, _, Nat.zero_le _, Nat.le_refl _, hide (endAt_size s), rfl, rfl, rfl, rfl⟩
            case round =>
              obtain ⟨j, pl, z, hj, hpl, HP, rfl, rfl, rfl, hwr⟩ := hrel
              obtain rfl := hwr.symm
              by_cases hlt : j < s.size
              · have hix := idx_b s j hlt
                obtain ⟨b, hb⟩ : ∃ b, (bts s)[j]'(by rw [bts_len]; exact hlt) = b := ⟨_, rfl⟩
                rw [hb] at hix
                have j1 : (j : Int) < (s.size : Int) := by omega
                by_cases h10 : b = 10
                · have j2 : ((b : Int) == 10) = true := by rw [beq_iff_eq]; omega
                  have HB := hide (endAt_here s j hlt (hb.trans h10))
                  clear h10 hb
                  by_cases hz : z = 0
                  · have j3 : (z == 0) = true := by rw [beq_iff_eq]; exact hz
                    clear hz
                    go_wp2
                    go_roundw
                    case rel => exact ⟨j + 1, j, _, by omega, by omega, HB, by go_num, rfl, rfl, trivial⟩
                    case measure => simp [intOf]; omega
                  · have j3 : (z == 0) = false := by rw [beq_eq_false_iff_ne]; exact hz
                    clear hz
                    go_wp2
                    go_roundw
                    case rel => exact ⟨j + 1, pl, _, by omega, hpl, HP, by go_num, rfl, rfl, trivial⟩
                    case measure => simp [intOf]; omega
                · have j2 : ((b : Int) == 10) = false := by rw [beq_eq_false_iff_ne]; omega
                  clear h10 hb
                  go_wp2
                  go_roundw
                  case rel => exact ⟨j + 1, pl, z, by omega, hpl, HP, by go_num, rfl, rfl, trivial⟩
                  case measure => simp [intOf]; omega
              · have j1 : ¬ (j : Int) < (s.size : Int) := by omega
                obtain ⟨n1, n2, n3, hc1, hc2, hc3⟩ := lines_calls s pl ⟨#[9]⟩ HE.out hs HP.out hpl (.inr rfl)
                have HC := hide (And.intro hc1 (And.intro hc2 hc3))
                have p0 : (0 : Int) ≤ (pl : Int) := by omega
                have p1 : (pl : Int) ≤ (s.size : Int) := by omega
                have q1 : (s.extract 0 pl).size = pl := by rw [ByteArray.size_extract]; omega
                have q2 : (s.extract pl s.size).size = s.size - pl := by rw [ByteArray.size_extract]; omega
                clear hc1 hc2 hc3
                go_wp2_with fail
                go_quiet (fail)
                go_wp2_with fail
                go_quiet (fail)
                go_wp2_with fail
                refine (HC.out.1 _ (HT.out.below (below_drewN' HD.out _) hw0) (Nat.lt_of_lt_of_le hw0 HD.out.size)).mono ?_
                rintro e w3 ⟨rfl, d⟩
                have HD3 : Hid (Below w.heap.size w w3) := hide (Below.trans (below_drewN' HD.out _) (d.mono HD.out.size))
                clear d
                go_wp2_with fail
                refine (HC.out.2.1 _ (HT.out.below HD3.out hw0) (Nat.lt_of_lt_of_le hw0 HD3.out.size)).mono ?_
                rintro e w4 ⟨rfl, d⟩
                have HD4 := hide (HD3.out.trans (d.mono HD3.out.size))
                clear d
                go_wp2_with fail
                refine (HC.out.2.2 _ (HT.out.below HD4.out hw0) (Nat.lt_of_lt_of_le hw0 HD4.out.size)).mono ?_
                rintro e w5 ⟨rfl, d⟩
                have HD5 := hide (HD4.out.trans (d.mono HD4.out.size))
                clear d
                go_wp2
                go_ret
                exact ⟨by first | rfl | simp, HD5.out⟩
          · skip
            go_wp2
            go_loopw [12, 13, 14] (fun kz pv i wr => ∃ (j pl : Nat) (z : Int), j ≤ s.size ∧ pl ≤ s.size ∧ Hid (EndAt (bts s) pl) ∧ i = .int .i64 j ∧ pv = .int .i64 pl ∧ kz = .int .i64 z ∧ wr = w2) (fun _ _ i _ => s.size - (intOf i).toNat)
            case atStart => exact ⟨0, s.size, _, Nat.zero_le _, Nat.le_refl _, hide (endAt_size s), rfl, rfl, rfl, rfl⟩
            case round =>
              obtain ⟨j, pl, z, hj, hpl, HP, rfl, rfl, rfl, hwr⟩ := hrel
              obtain rfl := hwr.symm
              by_cases hlt : j < s.size
              · have hix := idx_b s j hlt
                obtain ⟨b, hb⟩ : ∃ b, (bts s)[j]'(by rw [bts_len]; exact hlt) = b := ⟨_, rfl⟩
                rw [hb] at hix
                have j1 : (j : Int) < (s.size : Int) := by omega
                by_cases h10 : b = 10
                · have j2 : ((b : Int) == 10) = true := by rw [beq_iff_eq]; omega
                  have HB := hide (endAt_here s j hlt (hb.trans h10))
                  clear h10 hb
                  by_cases hz : z = 0
                  · have j3 : (z == 0) = true := by rw [beq_iff_eq]; exact hz
                    clear hz
                    go_wp2
                    go_roundw
                    case rel => exact ⟨j + 1, j, _, by omega, by omega, HB, by go_num, rfl, rfl, trivial⟩
                    case measure => simp [intOf]; omega
                  · have j3 : (z == 0) = false := by rw [beq_eq_false_iff_ne]; exact hz
                    clear hz
                    go_wp2
                    go_roundw
                    case rel => exact ⟨j + 1, pl, _, by omega, hpl, HP, by go_num, rfl, rfl, trivial⟩
                    case measure => simp [intOf]; omega
                · have j2 : ((b : Int) == 10) = false := by rw [beq_eq_false_iff_ne]; omega
                  clear h10 hb
                  go_wp2
                  go_roundw
                  case rel => exact ⟨j + 1, pl, z, by omega, hpl, HP, by go_num, rfl, rfl, trivial⟩
                  case measure => simp [intOf]; omega
              · have j1 : ¬ (j : Int) < (s.size : Int) := by omega
                obtain ⟨n1, n2, n3, hc1, hc2, hc3⟩ := lines_calls s pl ⟨#[9]⟩ HE.out hs HP.out hpl (.inr rfl)
                have HC := hide (And.intro hc1 (And.intro hc2 hc3))
                have p0 : (0 : Int) ≤ (pl : Int) := by omega
                have p1 : (pl : Int) ≤ (s.size : Int) := by omega
                have q1 : (s.extract 0 pl).size = pl := by rw [ByteArray.size_extract]; omega
                have q2 : (s.extract pl s.size).size = s.size - pl := by rw [ByteArray.size_extract]; omega
                clear hc1 hc2 hc3
                go_wp2_with fail
                go_quiet (fail)
                go_wp2_with fail
                go_quiet (fail)
                go_wp2_with fail
                refine (HC.out.1 _ (HT.out.below (below_drewN' HD.out _) hw0) (Nat.lt_of_lt_of_le hw0 HD.out.size)).mono ?_
                rintro e w3 ⟨rfl, d⟩
                have HD3 : Hid (Below w.heap.size w w3) := hide (Below.trans (below_drewN' HD.out _) (d.mono HD.out.size))
                clear d
                go_wp2_with fail
                refine (HC.out.2.1 _ (HT.out.below HD3.out hw0) (Nat.lt_of_lt_of_le hw0 HD3.out.size)).mono ?_
                rintro e w4 ⟨rfl, d⟩
                have HD4 := hide (HD3.out.trans (d.mono HD3.out.size))
                clear d
                go_wp2_with fail
                refine (HC.out.2.2 _ (HT.out.below HD4.out hw0) (Nat.lt_of_lt_of_le hw0 HD4.out.size)).mono ?_
                rintro e w5 ⟨rfl, d⟩
                have HD5 := hide (HD4.out.trans (d.mono HD4.out.size))
                clear d
                go_wp2
                go_ret
                exact ⟨by first | rfl | simp, HD5.out⟩

theorem lines_any (s : ByteArray) (at' : Int) (tab : Bool) (w : World) (hT : RowsAt w) (hw0 : 0 < w.heap.size) (hs : s.size ≤ 1048576) :
    Calls Tryd.prog 4 #[.string s, .int .i64 at', .bool tab] w fun e w' => e = .returned (.bool true) ∧ Below w.heap.size w w' := by
  have hE : errF s = 0 ∨ errF s = 30 := by unfold errF; split <;> simp
  rcases hE with he | he
  · exact lines_file s at' tab w hT hw0 hs he
  · exact lines_not s at' tab w hT hw0 hs he
end Go.Proofs.YtgifamdoolcemaaDoor
