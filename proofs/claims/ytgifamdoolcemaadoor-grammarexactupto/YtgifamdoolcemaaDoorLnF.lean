import Derived.Test.YtgifamdoolcemaaDoorLm
namespace Go.Proofs.YtgifamdoolcemaaDoor
open Go.RowKit Go.Maps

theorem idx_b (s : ByteArray) (k : Nat) (h : k < s.size) (W : World) : (Instr.index 9 (.string s) (.int .i64 (k : Int))).run Tryd.prog W = .ok (.int .u8 ((bts s)[k]'(by rw [bts_len]; exact h) : Nat)) W :=
  idx_w s k _ h (bts_get s k h).symm W
theorem below_drewN' {B : Nat} {w w' : World} (h : Below B w w') (q : Nat) : Below B w (w'.drewN q) := ⟨h.os, h.tape, h.output, h.size, h.block⟩
theorem endAt_size (s : ByteArray) : EndAt (bts s) s.size := .inl (bts_len s).symm
theorem endAt_here (s : ByteArray) (k : Nat) (hk : k < s.size) (h : (bts s)[k]'(by rw [bts_len]; exact hk) = 10) : EndAt (bts s) k := .inr (by rw [List.getElem?_eq_getElem (by rw [bts_len]; exact hk), h])
/-- The three texts, with their sizes. -/
theorem lines_lit (s : ByteArray) (k : Nat) (b : ByteArray) (hs : errF s = 0) (hz : s.size ≤ 1048576) (hk : EndAt (bts s) k) (hkl : k ≤ s.size) (hb : b = ⟨#[32]⟩ ∨ b = ⟨#[9]⟩) :
    (errF (s.extract 0 k ++ b ++ s.extract k s.size) = 0 ∧ errF (s.extract 0 k ++ ⟨#[10]⟩ ++ b ++ s.extract k s.size) = 0 ∧ errF (s ++ ⟨#[10]⟩) = 0) ∧
    (s.extract 0 k ++ b ++ s.extract k s.size).size ≤ 4194304 ∧ (s.extract 0 k ++ ⟨#[10]⟩ ++ b ++ s.extract k s.size).size ≤ 4194304 ∧ (s ++ ⟨#[10]⟩).size ≤ 4194304 := by
  have e1 : (⟨#[10]⟩ : ByteArray).size = 1 := rfl
  have e2 : (⟨#[32]⟩ : ByteArray).size = 1 := rfl
  have e3 : (⟨#[9]⟩ : ByteArray).size = 1 := rfl
  rcases hb with rfl | rfl
  · refine ⟨lines_all s k 32 hs hk (.inl rfl), ?_, ?_, ?_⟩
    all_goals simp only [ByteArray.size_append, ByteArray.size_extract, e1, e2]
    all_goals omega
  · refine ⟨lines_all s k 9 hs hk (.inr rfl), ?_, ?_, ?_⟩
    all_goals simp only [ByteArray.size_append, ByteArray.size_extract, e1, e3]
    all_goals omega
theorem lines_calls (s : ByteArray) (k : Nat) (b : ByteArray) (hs : errF s = 0) (hz : s.size ≤ 1048576) (hk : EndAt (bts s) k) (hkl : k ≤ s.size) (hb : b = ⟨#[32]⟩ ∨ b = ⟨#[9]⟩) : ∃ n1 n2 n3 : Nat,
    (∀ W, RowsAt W → 0 < W.heap.size → Calls Tryd.prog 8 #[.string (s.extract 0 k ++ b ++ s.extract k s.size)] W fun e w' => e = .returned (.tuple #[.int .i64 (n1 : Nat), .int .i64 0]) ∧ Below W.heap.size W w') ∧
    (∀ W, RowsAt W → 0 < W.heap.size → Calls Tryd.prog 8 #[.string (s.extract 0 k ++ ⟨#[10]⟩ ++ b ++ s.extract k s.size)] W fun e w' => e = .returned (.tuple #[.int .i64 (n2 : Nat), .int .i64 0]) ∧ Below W.heap.size W w') ∧
    (∀ W, RowsAt W → 0 < W.heap.size → Calls Tryd.prog 8 #[.string (s ++ ⟨#[10]⟩)] W fun e w' => e = .returned (.tuple #[.int .i64 (n3 : Nat), .int .i64 0]) ∧ Below W.heap.size W w') := by
  obtain ⟨⟨l1, l2, l3⟩, z1, z2, z3⟩ := lines_lit s k b hs hz hk hkl hb
  refine ⟨lenF (s.extract 0 k ++ b ++ s.extract k s.size), lenF (s.extract 0 k ++ ⟨#[10]⟩ ++ b ++ s.extract k s.size), lenF (s ++ ⟨#[10]⟩), fun W h1 h2 => ?_, fun W h1 h2 => ?_, fun W h1 h2 => ?_⟩
  · have := check_any _ W h1 h2 z1
    rw [l1] at this
    exact this
  · have := check_any _ W h1 h2 z2
    rw [l2] at this
    exact this
  · have := check_any _ W h1 h2 z3
    rw [l3] at this
    exact this

set_option maxRecDepth 100000 in
set_option maxHeartbeats 4000000 in
theorem lines_file (s : ByteArray) (at' : Int) (tab : Bool) (w : World) (hT : RowsAt w) (hw0 : 0 < w.heap.size) (hs : s.size ≤ 1048576) (he : errF s = 0) :
    Calls Tryd.prog 4 #[.string s, .int .i64 at', .bool tab] w fun e w' => e = .returned (.bool true) ∧ Below w.heap.size w w' := by
  have HT := hide hT
  have hwk := works_any w hT hw0
  have hc1 := fun W h1 h2 => check_any s W h1 h2 (by omega)
  rw [he] at hc1
  have HE := hide he
  clear hT he
  generalize lenF s = n at hc1
  go_enter Tryd.func4, Tryd.ntmps4
  go_wp2_with fail
  refine hwk.mono ?_
  rintro e w1 ⟨rfl, d⟩
  go_wp2_with fail
  refine (hc1 _ (HT.out.below d hw0) (Nat.lt_of_lt_of_le hw0 d.size)).mono ?_
  rintro e w2 ⟨rfl, d2⟩
  have HD := hide (d.trans (d2.mono d.size))
  clear hwk hc1 d2 d
  go_wp2
  go_loopw [9, 10] (fun f i wr => ∃ k c : Nat, k ≤ s.size ∧ c ≤ k ∧ i = .int .i64 k ∧ f = .int .i64 c ∧ wr = w2) (fun _ i _ => s.size - (intOf i).toNat)
  case atStart => exact ⟨0, 0, Nat.zero_le _, Nat.le_refl _, rfl, rfl, rfl⟩
  case round =>
    obtain ⟨k, c, hk, hck, rfl, rfl, hwr⟩ := hrel
    obtain rfl := hwr.symm
    by_cases hlt : k < s.size
    · have hix := idx_b s k hlt
      obtain ⟨b, hb⟩ : ∃ b, (bts s)[k]'(by rw [bts_len]; exact hlt) = b := ⟨_, rfl⟩
      rw [hb] at hix
      have i1 : (k : Int) < (s.size : Int) := by omega
      clear hb
      by_cases h10 : b = 10
      · have j1 : ((b : Int) == 10) = true := by rw [beq_iff_eq]; omega
        clear h10
        go_wp2
        go_roundw
        case rel => exact ⟨k + 1, c + 1, by omega, by omega, by go_num, by go_num, trivial⟩
        case measure => simp [intOf]; omega
      · have j1 : ((b : Int) == 10) = false := by rw [beq_eq_false_iff_ne]; omega
        clear h10
        go_wp2
        go_roundw
        case rel => exact ⟨k + 1, c, by omega, by omega, by go_num, rfl, trivial⟩
        case measure => simp [intOf]; omega
    · have i1 : ¬ (k : Int) < (s.size : Int) := by omega
      cases tab
      · by_cases hc0 : c = 0
        · have j0 : ¬ (c : Int) > 0 := by omega
          clear hc0
          go_wp2
          go_loopw [12, 13, 14] (fun kz pv i wr => ∃ (j pl : Nat) (z : Int), j ≤ s.size ∧ pl ≤ s.size ∧ Hid (EndAt (bts s) pl) ∧ i = .int .i64 j ∧ pv = .int .i64 pl ∧ kz = .int .i64 z ∧ wr = w2) (fun _ _ i _ => s.size - (intOf i).toNat)
          case atStart => exact ⟨0, s.size, _, Nat.zero_le _, Nat.le_refl _, hide (endAt_size s), rfl, rfl, rfl, rfl⟩
          case round =>
            obtain ⟨j, pl, z, hj, hpl, HP, rfl, rfl, rfl, hwr⟩ := hrel
            obtain rfl := hwr.symm
            by_cases hlt : j < s.size
            · have hix := idx_b s j hlt
              obtain ⟨b, hb⟩ : ∃ b, (bts s)[j]'(by rw [bts_len]; exact hlt) = b := ⟨_, rfl⟩
              rw [hb] at hix
              have j1 : (j : Int) < (s.size : Int) := by omega
              by_cases h10 : b = 10
              · have j2 : ((b : Int) == 10) = true := by rw [beq_iff_eq]; omega
                have HB := hide (endAt_here s j hlt (hb.trans h10))
                clear h10 hb
                by_cases hz : z = 0
                · have j3 : (z == 0) = true := by rw [beq_iff_eq]; exact hz
                  clear hz
                  go_wp2
                  go_roundw
                  case rel => exact ⟨j + 1, j, _, by omega, by omega, HB, by go_num, rfl, rfl, trivial⟩
                  case measure => simp [intOf]; omega
                · have j3 : (z == 0) = false := by rw [beq_eq_false_iff_ne]; exact hz
                  clear hz
                  go_wp2
                  go_roundw
                  case rel => exact ⟨j + 1, pl, _, by omega, hpl, HP, by go_num, rfl, rfl, trivial⟩
                  case measure => simp [intOf]; omega
              · have j2 : ((b : Int) == 10) = false := by rw [beq_eq_false_iff_ne]; omega
                clear h10 hb
                go_wp2
                go_roundw
                case rel => exact ⟨j + 1, pl, z, by omega, hpl, HP, by go_num, rfl, rfl, trivial⟩
                case measure => simp [intOf]; omega
            · have j1 : ¬ (j : Int) < (s.size : Int) := by omega
              obtain ⟨n1, n2, n3, hc1, hc2, hc3⟩ := lines_calls s pl ⟨#[32]⟩ HE.out hs HP.out hpl (.inl rfl)
              have HC := hide (And.intro hc1 (And.intro hc2 hc3))
              have p0 : (0 : Int) ≤ (pl : Int) := by omega
              have p1 : (pl : Int) ≤ (s.size : Int) := by omega
              have q1 : (s.extract 0 pl).size = pl := by rw [ByteArray.size_extract]; omega
              have q2 : (s.extract pl s.size).size = s.size - pl := by rw [ByteArray.size_extract]; omega
              clear hc1 hc2 hc3
              go_wp2_with fail
              go_quiet (fail)
              go_wp2_with fail
              go_quiet (fail)
              go_wp2_with fail
              refine (HC.out.1 _ (HT.out.below (below_drewN' HD.out _) hw0) (Nat.lt_of_lt_of_le hw0 HD.out.size)).mono ?_
              rintro e w3 ⟨rfl, d⟩
              have HD3 : Hid (Below w.heap.size w w3) := hide (Below.trans (below_drewN' HD.out _) (d.mono HD.out.size))
              clear d
              go_wp2_with fail
              refine (HC.out.2.1 _ (HT.out.below HD3.out hw0) (Nat.lt_of_lt_of_le hw0 HD3.out.size)).mono ?_
              rintro e w4 ⟨rfl, d⟩
              have HD4 := hide (HD3.out.trans (d.mono HD3.out.size))
              clear d
              go_wp2_with fail
              refine (HC.out.2.2 _ (HT.out.below HD4.out hw0) (Nat.lt_of_lt_of_le hw0 HD4.out.size)).mono ?_
              rintro e w5 ⟨rfl, d⟩
              have HD5 := hide (HD4.out.trans (d.mono HD4.out.size))
              clear d
              go_wp2
              go_ret
              exact ⟨by first | rfl | simp, HD5.out⟩
        · have j0 : (c : Int) > 0 := by omega
          have j00 : (c : Int) ≠ 0 := by omega
          clear hc0
          by_cases hm : at'.tmod (c : Int) < 0
          · skip
            go_wp2
            go_loopw [12, 13, 14] (fun kz pv i wr => ∃ (j pl : Nat) (z : Int), j ≤ s.size ∧ pl ≤ s.size ∧ Hid (EndAt (bts s) pl) ∧ i = .int .i64 j ∧ pv = .int .i64 pl ∧ kz = .int .i64 z ∧ wr = w2) (fun _ _ i _ => s.size - (intOf i).toNat)
            case atStart => exact ⟨0, s.size, _, Nat.zero_le _, Nat.le_refl _, hide (endAt_size s), rfl, rfl, rfl, rfl⟩
            case round =>
              obtain ⟨j, pl, z, hj, hpl, HP, rfl, rfl, rfl, hwr⟩ := hrel
              obtain rfl := hwr.symm
              by_cases hlt : j < s.size
              · have hix := idx_b s j hlt
                obtain ⟨b, hb⟩ : ∃ b, (bts s)[j]'(by rw [bts_len]; exact hlt) = b := ⟨_, rfl⟩
                rw [hb] at hix
                have j1 : (j : Int) < (s.size : Int) := by omega
                by_cases h10 : b = 10
                · have j2 : ((b : Int) == 10) = true := by rw [beq_iff_eq]; omega
                  have HB := hide (endAt_here s j hlt (hb.trans h10))
                  clear h10 hb
                  by_cases hz : z = 0
                  · have j3 : (z == 0) = true := by rw [beq_iff_eq]; exact hz
                    clear hz
                    go_wp2
                    go_roundw
                    case rel => exact ⟨j + 1, j, _, by omega, by omega, HB, by go_num, rfl, rfl, trivial⟩
                    case measure => simp [intOf]; omega
                  · have j3 : (z == 0) = false := by rw [beq_eq_false_iff_ne]; exact hz
                    clear hz
                    go_wp2
                    go_roundw
                    case rel => exact ⟨j + 1, pl, _, by omega, hpl, HP, by go_num, rfl, rfl, trivial⟩
                    case measure => simp [intOf]; omega
                · have j2 : ((b : Int) == 10) = false := by rw [beq_eq_false_iff_ne]; omega
                  clear h10 hb
                  go_wp2
                  go_roundw
                  case rel => exact ⟨j + 1, pl, z, by omega, hpl, HP, by go_num, rfl, rfl, trivial⟩
                  case measure => simp [intOf]; omega
              · have j1 : ¬ (j : Int) < (s.size : Int) := by omega
                obtain ⟨n1, n2, n3, hc1, hc2, hc3⟩ := lines_calls s pl ⟨#[32]⟩ HE.out hs HP.out hpl (.inl rfl)
                have HC := hide (And.intro hc1 (And.intro hc2 hc3))
                have p0 : (0 : Int) ≤ (pl : Int) := by omega
                have p1 : (pl : Int) ≤ (s.size : Int) := by omega
                have q1 : (s.extract 0 pl).size = pl := by rw [ByteArray.size_extract]; omega
                have q2 : (s.extract pl s.size).size = s.size - pl := by rw [ByteArray.size_extract]; omega
                clear hc1 hc2 hc3
                go_wp2_with fail
                go_quiet (fail)
                go_wp2_with fail
                go_quiet (fail)
                go_wp2_with fail
                refine (HC.out.1 _ (HT.out.below (below_drewN' HD.out _) hw0) (Nat.lt_of_lt_of_le hw0 HD.out.size)).mono ?_
                rintro e w3 ⟨rfl, d⟩
                have HD3 : Hid (Below w.heap.size w w3) := hide (Below.trans (below_drewN' HD.out _) (d.mono HD.out.size))
                clear d
                go_wp2_with fail
                refine (HC.out.2.1 _ (HT.out.below HD3.out hw0) (Nat.lt_of_lt_of_le hw0 HD3.out.size)).mono ?_
                rintro e w4 ⟨rfl, d⟩
                have HD4 := hide (HD3.out.trans (d.mono HD3.out.size))
                clear d
                go_wp2_with fail
                refine (HC.out.2.2 _ (HT.out.below HD4.out hw0) (Nat.lt_of_lt_of_le hw0 HD4.out.size)).mono ?_
                rintro e w5 ⟨rfl, d⟩
                have HD5 := hide (HD4.out.trans (d.mono HD4.out.size))
                clear d
                go_wp2
                go_ret
                exact ⟨by first | rfl | simp, HD5.out⟩
          · skip
            go_wp2
            go_loopw [12, 13, 14] (fun kz pv i wr => ∃ (j pl : Nat) (z : Int), j ≤ s.size ∧ pl ≤ s.size ∧ Hid (EndAt (bts s) pl) ∧ i = .int .i64 j ∧ pv = .int .i64 pl ∧ kz = .int .i64 z ∧ wr = w2) (fun _ _ i _ => s.size - (intOf i).toNat)
            case atStart => exact ⟨0, s.size, _, Nat.zero_le _, Nat.le_refl _, hide (endAt_size s), rfl, rfl, rfl, rfl⟩
            case round =>
              obtain ⟨j, pl, z, hj, hpl, HP, rfl, rfl, rfl, hwr⟩ := hrel
              obtain rfl := hwr.symm
              by_cases hlt : j < s.size
              · have hix := idx_b s j hlt
                obtain ⟨b, hb⟩ : ∃ b, (bts s)[j]'(by rw [bts_len]; exact hlt) = b := ⟨_, rfl⟩
                rw [hb] at hix
                have j1 : (j : Int) < (s.size : Int) := by omega
                by_cases h10 : b = 10
                · have j2 : ((b : Int) == 10) = true := by rw [beq_iff_eq]; omega
                  have HB := hide (endAt_here s j hlt (hb.trans h10))
                  clear h10 hb
                  by_cases hz : z = 0
                  · have j3 : (z == 0) = true := by rw [beq_iff_eq]; exact hz
                    clear hz
                    go_wp2
                    go_roundw
                    case rel => exact ⟨j + 1, j, _, by omega, by omega, HB, by go_num, rfl, rfl, trivial⟩
                    case measure => simp [intOf]; omega
                  · have j3 : (z == 0) = false := by rw [beq_eq_false_iff_ne]; exact hz
                    clear hz
                    go_wp2
                    go_roundw
                    case rel => exact ⟨j + 1, pl, _, by omega, hpl, HP, by go_num, rfl, rfl, trivial⟩
                    case measure => simp [intOf]; omega
                · have j2 : ((b : Int) == 10) = false := by rw [beq_eq_false_iff_ne]; omega
                  clear h10 hb
                  go_wp2
                  go_roundw
                  case rel => exact ⟨j + 1, pl, z, by omega, hpl, HP, by go_num, rfl, rfl, trivial⟩
                  case measure => simp [intOf]; omega
              · have j1 : ¬ (j : Int) < (s.size : Int) := by omega
                obtain ⟨n1, n2, n3, hc1, hc2, hc3⟩ := lines_calls s pl ⟨#[32]⟩ HE.out hs HP.out hpl (.inl rfl)
                have HC := hide (And.intro hc1 (And.intro hc2 hc3))
                have p0 : (0 : Int) ≤ (pl : Int) := by omega
                have p1 : (pl : Int) ≤ (s.size : Int) := by omega
                have q1 : (s.extract 0 pl).size = pl := by rw [ByteArray.size_extract]; omega
                have q2 : (s.extract pl s.size).size = s.size - pl := by rw [ByteArray.size_extract]; omega
                clear hc1 hc2 hc3
                go_wp2_with fail
                go_quiet (fail)
                go_wp2_with fail
                go_quiet (fail)
                go_wp2_with fail
                refine (HC.out.1 _ (HT.out.below (below_drewN' HD.out _) hw0) (Nat.lt_of_lt_of_le hw0 HD.out.size)).mono ?_
                rintro e w3 ⟨rfl, d⟩
                have HD3 : Hid (Below w.heap.size w w3) := hide (Below.trans (below_drewN' HD.out _) (d.mono HD.out.size))
                clear d
                go_wp2_with fail
                refine (HC.out.2.1 _ (HT.out.below HD3.out hw0) (Nat.lt_of_lt_of_le hw0 HD3.out.size)).mono ?_
                rintro e w4 ⟨rfl, d⟩
                have HD4 := hide (HD3.out.trans (d.mono HD3.out.size))
                clear d
                go_wp2_with fail
                refine (HC.out.2.2 _ (HT.out.below HD4.out hw0) (Nat.lt_of_lt_of_le hw0 HD4.out.size)).mono ?_
                rintro e w5 ⟨rfl, d⟩
                have HD5 := hide (HD4.out.trans (d.mono HD4.out.size))
                clear d
                go_wp2
                go_ret
                exact ⟨by first | rfl | simp, HD5.out⟩
      · by_cases hc0 : c = 0
        · have j0 : ¬ (c : Int) > 0 := by omega
          clear hc0
          go_wp2
          go_loopw [12, 13, 14] (fun kz pv i wr => ∃ (j pl : Nat) (z : Int), j ≤ s.size ∧ pl ≤ s.size ∧ Hid (EndAt (bts s) pl) ∧ i = .int .i64 j ∧ pv = .int .i64 pl ∧ kz = .int .i64 z ∧ wr = w2) (fun _ _ i _ => s.size - (intOf i).toNat)
          case atStart => exact ⟨0, s.size, _, Nat.zero_le _, Nat.le_refl _, hide (endAt_size s), rfl, rfl, rfl, rfl⟩
          case round =>
            obtain ⟨j, pl, z, hj, hpl, HP, rfl, rfl, rfl, hwr⟩ := hrel
            obtain rfl := hwr.symm
            by_cases hlt : j < s.size
            · have hix := idx_b s j hlt
              obtain ⟨b, hb⟩ : ∃ b, (bts s)[j]'(by rw [bts_len]; exact hlt) = b := ⟨_, rfl⟩
              rw [hb] at hix
              have j1 : (j : Int) < (s.size : Int) := by omega
              by_cases h10 : b = 10
              · have j2 : ((b : Int) == 10) = true := by rw [beq_iff_eq]; omega
                have HB := hide (endAt_here s j hlt (hb.trans h10))
                clear h10 hb
                by_cases hz : z = 0
                · have j3 : (z == 0) = true := by rw [beq_iff_eq]; exact hz
                  clear hz
                  go_wp2
                  go_roundw
                  case rel => exact ⟨j + 1, j, _, by omega, by omega, HB, by go_num, rfl, rfl, trivial⟩
                  case measure => simp [intOf]; omega
                · have j3 : (z == 0) = false := by rw [beq_eq_false_iff_ne]; exact hz
                  clear hz
                  go_wp2
                  go_roundw
                  case rel => exact ⟨j + 1, pl, _, by omega, hpl, HP, by go_num, rfl, rfl, trivial⟩
                  case measure => simp [intOf]; omega
              · have j2 : ((b : Int) == 10) = false := by rw [beq_eq_false_iff_ne]; omega
                clear h10 hb
                go_wp2
                go_roundw
                case rel => exact ⟨j + 1, pl, z, by omega, hpl, HP, by go_num, rfl, rfl, trivial⟩
                case measure => simp [intOf]; omega
            · have j1 : ¬ (j : Int) < (s.size : Int) := by omega
              obtain ⟨n1, n2, n3, hc1, hc2, hc3⟩ := lines_calls s pl ⟨#[9]⟩ HE.out hs HP.out hpl (.inr rfl)
              have HC := hide (And.intro hc1 (And.intro hc2 hc3))
              have p0 : (0 : Int) ≤ (pl : Int) := by omega
              have p1 : (pl : Int) ≤ (s.size : Int) := by omega
              have q1 : (s.extract 0 pl).size = pl := by rw [ByteArray.size_extract]; omega
              have q2 : (s.extract pl s.size).size = s.size - pl := by rw [ByteArray.size_extract]; omega
              clear hc1 hc2 hc3
              go_wp2_with fail
              go_quiet (fail)
              go_wp2_with fail
              go_quiet (fail)
              go_wp2_with fail
              refine (HC.out.1 _ (HT.out.below (below_drewN' HD.out _) hw0) (Nat.lt_of_lt_of_le hw0 HD.out.size)).mono ?_
              rintro e w3 ⟨rfl, d⟩
              have HD3 : Hid (Below w.heap.size w w3) := hide (Below.trans (below_drewN' HD.out _) (d.mono HD.out.size))
              clear d
              go_wp2_with fail
              refine (HC.out.2.1 _ (HT.out.below HD3.out hw0) (Nat.lt_of_lt_of_le hw0 HD3.out.size)).mono ?_
              rintro e w4 ⟨rfl, d⟩
              have HD4 := hide (HD3.out.trans (d.mono HD3.out.size))
              clear d
              go_wp2_with fail
              refine (HC.out.2.2 _ (HT.out.below HD4.out hw0) (Nat.lt_of_lt_of_le hw0 HD4.out.size)).mono ?_
              rintro e w5 ⟨rfl, d⟩
              have HD5 := hide (HD4.out.trans (d.mono HD4.out.size))
              clear d
              go_wp2
              go_ret
              exact ⟨by first | rfl | simp, HD5.out⟩
        · have j0 : (c : Int) > 0 := by omega
          have j00 : (c : Int) ≠ 0 := by omega
          clear hc0
          by_cases hm : at'.tmod (c : Int) < 0
          · skip
            go_wp2
            go_loopw [12, 13, 14] (fun kz pv i wr => ∃ (j pl : Nat) (z : Int), j ≤ s.size ∧ pl ≤ s.size ∧ Hid (EndAt (bts s) pl) ∧ i = .int .i64 j ∧ pv = .int .i64 pl ∧ kz = .int .i64 z ∧ wr = w2) (fun _ _ i _ => s.size - (intOf i).toNat)
            case atStart => exact ⟨0, s.size, _, Nat.zero_le _, Nat.le_refl _, hide (endAt_size s), rfl, rfl, rfl, rfl⟩
            case round =>
              obtain ⟨j, pl, z, hj, hpl, HP, rfl, rfl, rfl, hwr⟩ := hrel
              obtain rfl := hwr.symm
              by_cases hlt : j < s.size
              · have hix := idx_b s j hlt
                obtain ⟨b, hb⟩ : ∃ b, (bts s)[j]'(by rw [bts_len]; exact hlt) = b := ⟨_, rfl⟩
                rw [hb] at hix
                have j1 : (j : Int) < (s.size : Int) := by omega
                by_cases h10 : b = 10
                · have j2 : ((b : Int) == 10) = true := by rw [beq_iff_eq]; omega
                  have HB := hide (endAt_here s j hlt (hb.trans h10))
                  clear h10 hb
                  by_cases hz : z = 0
                  · have j3 : (z == 0) = true := by rw [beq_iff_eq]; exact hz
                    clear hz
                    go_wp2
                    go_roundw
                    case rel => exact ⟨j + 1, j, _, by omega, by omega, HB, by go_num, rfl, rfl, trivial⟩
                    case measure => simp [intOf]; omega
                  · have j3 : (z == 0) = false := by rw [beq_eq_false_iff_ne]; exact hz
                    clear hz
                    go_wp2
                    go_roundw
                    case rel => exact ⟨j + 1, pl, _, by omega, hpl, HP, by go_num, rfl, rfl, trivial⟩
                    case measure => simp [intOf]; omega
                · have j2 : ((b : Int) == 10) = false := by rw [beq_eq_false_iff_ne]; omega
                  clear h10 hb
                  go_wp2
                  go_roundw
                  case rel => exact ⟨j + 1, pl, z, by omega, hpl, HP, by go_num, rfl, rfl, trivial⟩
                  case measure => simp [intOf]; omega
              · have j1 : ¬ (j : Int) < (s.size : Int) := by omega
                obtain ⟨n1, n2, n3, hc1, hc2, hc3⟩ := lines_calls s pl ⟨#[9]⟩ HE.out hs HP.out hpl (.inr rfl)
                have HC := hide (And.intro hc1 (And.intro hc2 hc3))
                have p0 : (0 : Int) ≤ (pl : Int) := by omega
                have p1 : (pl : Int) ≤ (s.size : Int) := by omega
                have q1 : (s.extract 0 pl).size = pl := by rw [ByteArray.size_extract]; omega
                have q2 : (s.extract pl s.size).size = s.size - pl := by rw [ByteArray.size_extract]; omega
                clear hc1 hc2 hc3
                go_wp2_with fail
                go_quiet (fail)
                go_wp2_with fail
                go_quiet (fail)
                go_wp2_with fail
                refine (HC.out.1 _ (HT.out.below (below_drewN' HD.out _) hw0) (Nat.lt_of_lt_of_le hw0 HD.out.size)).mono ?_
                rintro e w3 ⟨rfl, d⟩
                have HD3 : Hid (Below w.heap.size w w3) := hide (Below.trans (below_drewN' HD.out _) (d.mono HD.out.size))
                clear d
                go_wp2_with fail
                refine (HC.out.2.1 _ (HT.out.below HD3.out hw0) (Nat.lt_of_lt_of_le hw0 HD3.out.size)).mono ?_
                rintro e w4 ⟨rfl, d⟩
                have HD4 := hide (HD3.out.trans (d.mono HD3.out.size))
                clear d
                go_wp2_with fail
                refine (HC.out.2.2 _ (HT.out.below HD4.out hw0) (Nat.lt_of_lt_of_le hw0 HD4.out.size)).mono ?_
                rintro e w5 ⟨rfl, d⟩
                have HD5 := hide (HD4.out.trans (d.mono HD4.out.size))
                clear d
                go_wp2
                go_ret
                exact ⟨by first | rfl | simp, HD5.out⟩
          · skip
            go_wp2
            go_loopw [12, 13, 14] (fun kz pv i wr => ∃ (j pl : Nat) (z : Int), j ≤ s.size ∧ pl ≤ s.size ∧ Hid (EndAt (bts s) pl) ∧ i = .int .i64 j ∧ pv = .int .i64 pl ∧ kz = .int .i64 z ∧ wr = w2) (fun _ _ i _ => s.size - (intOf i).toNat)
            case atStart => exact ⟨0, s.size, _, Nat.zero_le _, Nat.le_refl _, hide (endAt_size s), rfl, rfl, rfl, rfl⟩
            case round =>
              obtain ⟨j, pl, z, hj, hpl, HP, rfl, rfl, rfl, hwr⟩ := hrel
              obtain rfl := hwr.symm
              by_cases hlt : j < s.size
              · have hix := idx_b s j hlt
                obtain ⟨b, hb⟩ : ∃ b, (bts s)[j]'(by rw [bts_len]; exact hlt) = b := ⟨_, rfl⟩
                rw [hb] at hix
                have j1 : (j : Int) < (s.size : Int) := by omega
                by_cases h10 : b = 10
                · have j2 : ((b : Int) == 10) = true := by rw [beq_iff_eq]; omega
                  have HB := hide (endAt_here s j hlt (hb.trans h10))
                  clear h10 hb
                  by_cases hz : z = 0
                  · have j3 : (z == 0) = true := by rw [beq_iff_eq]; exact hz
                    clear hz
                    go_wp2
                    go_roundw
                    case rel => exact ⟨j + 1, j, _, by omega, by omega, HB, by go_num, rfl, rfl, trivial⟩
                    case measure => simp [intOf]; omega
                  · have j3 : (z == 0) = false := by rw [beq_eq_false_iff_ne]; exact hz
                    clear hz
                    go_wp2
                    go_roundw
                    case rel => exact ⟨j + 1, pl, _, by omega, hpl, HP, by go_num, rfl, rfl, trivial⟩
                    case measure => simp [intOf]; omega
                · have j2 : ((b : Int) == 10) = false := by rw [beq_eq_false_iff_ne]; omega
                  clear h10 hb
                  go_wp2
                  go_roundw
                  case rel => exact ⟨j + 1, pl, z, by omega, hpl, HP, by go_num, rfl, rfl, trivial⟩
                  case measure => simp [intOf]; omega
              · have j1 : ¬ (j : Int) < (s.size : Int) := by omega
                obtain ⟨n1, n2, n3, hc1, hc2, hc3⟩ := lines_calls s pl ⟨#[9]⟩ HE.out hs HP.out hpl (.inr rfl)
                have HC := hide (And.intro hc1 (And.intro hc2 hc3))
                have p0 : (0 : Int) ≤ (pl : Int) := by omega
                have p1 : (pl : Int) ≤ (s.size : Int) := by omega
                have q1 : (s.extract 0 pl).size = pl := by rw [ByteArray.size_extract]; omega
                have q2 : (s.extract pl s.size).size = s.size - pl := by rw [ByteArray.size_extract]; omega
                clear hc1 hc2 hc3
                go_wp2_with fail
                go_quiet (fail)
                go_wp2_with fail
                go_quiet (fail)
                go_wp2_with fail
                refine (HC.out.1 _ (HT.out.below (below_drewN' HD.out _) hw0) (Nat.lt_of_lt_of_le hw0 HD.out.size)).mono ?_
                rintro e w3 ⟨rfl, d⟩
                have HD3 : Hid (Below w.heap.size w w3) := hide (Below.trans (below_drewN' HD.out _) (d.mono HD.out.size))
                clear d
                go_wp2_with fail
                refine (HC.out.2.1 _ (HT.out.below HD3.out hw0) (Nat.lt_of_lt_of_le hw0 HD3.out.size)).mono ?_
                rintro e w4 ⟨rfl, d⟩
                have HD4 := hide (HD3.out.trans (d.mono HD3.out.size))
                clear d
                go_wp2_with fail
                refine (HC.out.2.2 _ (HT.out.below HD4.out hw0) (Nat.lt_of_lt_of_le hw0 HD4.out.size)).mono ?_
                rintro e w5 ⟨rfl, d⟩
                have HD5 := hide (HD4.out.trans (d.mono HD4.out.size))
                clear d
                go_wp2
                go_ret
                exact ⟨by first | rfl | simp, HD5.out⟩
end Go.Proofs.YtgifamdoolcemaaDoor
