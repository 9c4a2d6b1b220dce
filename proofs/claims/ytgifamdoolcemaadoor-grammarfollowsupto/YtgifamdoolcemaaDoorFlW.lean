import Derived.Test.YtgifamdoolcemaaDoorFlT
namespace Go.Proofs.YtgifamdoolcemaaDoor
open Go.RowKit Go.Maps

set_option maxRecDepth 100000 in
set_option maxHeartbeats 4000000 in
theorem follows_false (s : ByteArray) (nx : Nat) (w : World) (hT : RowsAt w) (hw0 : 0 < w.heap.size) (hs : s.size ≤ 1048576) (hx : nx < 256) (hl : lenF s = s.size) (hf : isF (endF s) = false) :
    Calls Tryd.prog 5 #[.string s, .int .u8 nx] w fun e w' => e = .returned (.bool true) ∧ Below w.heap.size w w' := by
  have HT := hide hT
  have hwk := works_any w hT hw0
  have hc1 := fun W h1 h2 => follow_any s W h1 h2 (by omega)
  have hc2 := fun W h1 h2 => complete_any s W h1 h2 (by omega)
  have hc3 := fun W h1 h2 => check_any s W h1 h2 (by omega)
  have hln : ¬ lenF s < s.size := by omega
  have a1 : folB s = strB (folF (endF s)) := by unfold folB; rw [if_neg hln]
  have a2 : folI s = false := by unfold folI; rw [if_neg hln, hf]
  have a3 : cerF s = 0 := by unfold cerF; rw [if_neg hln]
  have a4 : cmpB s = strB (compF (endF s)) := by unfold cmpB; rw [if_neg hln]
  have a5 : errF s = 30 := by rw [err_full s hl, hf]; rfl
  rw [a1, a2, a3] at hc1
  rw [a3, a4] at hc2
  rw [hl, a5] at hc3
  have hbz := strB_size (folF (endF s))
  have hb256 := fol_len (endF s)
  have hci := fun W h1 h2 => check_any (s ++ strB [nx]) W h1 h2 (by rw [snoc_size]; omega)
  have HCI := hide hci
  have H0 := hide (And.intro hl (And.intro hf hx))
  have hem : decide (compF (endF s) = []) = false := by rw [← hf, Bool.eq_iff_iff, decide_eq_true_iff]; exact comp_nil (end_ok s)
  have hnl := strB_nil' (l := compF (endF s))
  rw [hem] at hnl
  clear hT a1 a2 a3 a4 a5 hln hci hem
  have HFI := hide (fun k h W => fol_idx (endF s) k h W)
  have HFP := hide (fun k h h0 => fol_prev (endF s) k h h0)
  have HFM : Hid (∀ x, x ∈ folF (endF s) ↔ (stepF (endF s) x).1 ≠ 0) := hide (fun x => mem_fol)
  have HFF := hide (fun h => fol_facts s hl hs h)
  clear hl hf
  generalize folF (endF s) = fl at *
  obtain ⟨t, htt⟩ : ∃ t, strB (compF (endF s)) = t := ⟨_, rfl⟩
  rw [htt] at hc2 hnl
  have HTT := hide htt
  clear htt
  generalize strB fl = bB at *
  go_enter Tryd.func5, Tryd.ntmps5
  go_wp2_with fail
  refine hwk.mono ?_
  rintro e w1 ⟨rfl, d⟩
  go_wp2_with fail
  refine (hc1 _ (HT.out.below d hw0) (Nat.lt_of_lt_of_le hw0 d.size)).mono ?_
  rintro e w2 ⟨rfl, d2⟩
  replace d := d.trans (d2.mono d.size)
  clear hwk hc1 d2
  go_wp2_with fail
  refine (hc2 _ (HT.out.below d hw0) (Nat.lt_of_lt_of_le hw0 d.size)).mono ?_
  rintro e w3 ⟨rfl, d2⟩
  replace d := d.trans (d2.mono d.size)
  clear hc2 d2
  go_wp2_with fail
  refine (hc3 _ (HT.out.below d hw0) (Nat.lt_of_lt_of_le hw0 d.size)).mono ?_
  rintro e w4 ⟨rfl, d2⟩
  have HD := hide (d.trans (d2.mono d.size))
  clear hc3 d2 d
  go_wp2
  go_loopw [12, 13] (fun av iv wr => ∃ (k : Nat) (z : Int), k ≤ fl.length ∧ av = .int .i64 z ∧ iv = .int .i64 k ∧ -1 ≤ z ∧ z ≤ 256 ∧ Hid ((0 ≤ z ↔ nx ∈ fl.take k) ∧ Below w.heap.size w wr)) (fun _ iv _ => fl.length - (intOf iv).toNat)
  case atStart => exact ⟨0, -1, Nat.zero_le _, rfl, rfl, by omega, by omega, hide ⟨by simp, HD.out⟩⟩
  case round =>
    obtain ⟨k, z, hk, rfl, rfl, hz1, hz2, HH⟩ := hrel
    by_cases hlt : k < fl.length
    · have hix := HFI.out k hlt
      obtain ⟨b, hb⟩ : ∃ b, fl[k] = b := ⟨_, rfl⟩
      rw [hb] at hix
      have HB := hide hb
      have i1 : (k : Int) < (bB.size : Int) := by omega
      have hst : ∀ z' : Int, (0 ≤ z' ↔ (0 ≤ z ∨ nx = b)) → (0 ≤ z' ↔ nx ∈ fl.take (k + 1)) := fun z' h => by
        rw [h, HH.out.1, take_mem hlt HB.out]
      have HST := hide hst
      by_cases h0 : 0 < k
      · obtain ⟨a, ha, hia⟩ := HFP.out k hlt h0
        rw [hb] at ha
        have g1 : decide ((k : Int) > 0) = true := decide_eq_true (by omega)
        have g2 : (k : Int) > 0 := by omega
        have g3 : ¬ (a : Int) ≥ (b : Int) := by omega
        have g4 : decide ((a : Int) ≥ (b : Int)) = false := decide_eq_false g3
        have g5 : decide (b ≤ a) = false := decide_eq_false (by omega)
        have g6 : decide (0 < k) = true := decide_eq_true h0
        clear hb hst ha
        go_wp2_with fail
        go_quiet (fail)
        by_cases hnb : b = nx
        · have g7 : ((b : Int) == (nx : Int)) = true := by rw [beq_iff_eq]; omega
          have HN := hide hnb
          clear hnb
          go_wp2
          go_roundw
          case rel => exact ⟨k + 1, (k : Int), by omega, rfl, by go_num, by omega, by omega, hide ⟨HST.out _ (by have := HN.out; omega), by first | exact below_drewN' HH.out.2 _ | exact HH.out.2.drew⟩⟩
          case measure => simp [intOf]; omega
        · have g7 : ((b : Int) == (nx : Int)) = false := by rw [beq_eq_false_iff_ne]; omega
          have HN := hide hnb
          clear hnb
          go_wp2
          go_roundw
          case rel => exact ⟨k + 1, z, by omega, rfl, by go_num, by omega, by omega, hide ⟨HST.out _ (by have := HN.out; omega), by first | exact below_drewN' HH.out.2 _ | exact HH.out.2.drew⟩⟩
          case measure => simp [intOf]; omega
      · have g1 : decide ((k : Int) > 0) = false := decide_eq_false (by omega)
        have g2 : ¬ (k : Int) > 0 := by omega
        have g6 : decide (0 < k) = false := decide_eq_false h0
        clear hb hst
        go_wp2_with fail
        go_quiet (fail)
        by_cases hnb : b = nx
        · have g7 : ((b : Int) == (nx : Int)) = true := by rw [beq_iff_eq]; omega
          have HN := hide hnb
          clear hnb
          go_wp2
          go_roundw
          case rel => exact ⟨k + 1, (k : Int), by omega, rfl, by go_num, by omega, by omega, hide ⟨HST.out _ (by have := HN.out; omega), by first | exact below_drewN' HH.out.2 _ | exact HH.out.2.drew⟩⟩
          case measure => simp [intOf]; omega
        · have g7 : ((b : Int) == (nx : Int)) = false := by rw [beq_eq_false_iff_ne]; omega
          have HN := hide hnb
          clear hnb
          go_wp2
          go_roundw
          case rel => exact ⟨k + 1, z, by omega, rfl, by go_num, by omega, by omega, hide ⟨HST.out _ (by have := HN.out; omega), by first | exact below_drewN' HH.out.2 _ | exact HH.out.2.drew⟩⟩
          case measure => simp [intOf]; omega
    · have i1 : ¬ (k : Int) < (bB.size : Int) := by omega
      have hke : k = fl.length := by omega
      obtain ⟨hzi, hb⟩ := HH.out
      rw [hke, List.take_length, HFM.out] at hzi
      have HDR := hide hb
      obtain ⟨hl, hf, _⟩ := H0.out
      clear hb hke HH
      by_cases hin : (stepF (endF s) nx).1 = 0
      · have z1 : ¬ z ≥ 0 := fun h => (hzi.1 h) hin
        have z2 : z < 0 := by omega
        have hci := HCI.out
        rw [snoc_out s nx hx hl hin] at hci
        generalize errF (s ++ strB [nx]) = er at hci
        have q1 : ((s.size : Int) == (s.size : Int) + 1) = false := by rw [beq_eq_false_iff_ne]; omega
        have q2 : decide (z ≥ 0) = false := decide_eq_false z1
        obtain ⟨nb, rest, t', ht', hnb, hnn, y1, y2, y3, y4, y5, y6, y7⟩ := HFF.out hf
        have hnt : t' = t := ht'.trans HTT.out
        subst hnt
        have y4b : (rest.toList == (t'.extract 1 t'.size).toList) = true := by rw [y4]; simp
        have y1i : (1 : Int) ≤ (t'.size : Int) := by omega
        have y2b : t'.size ≤ 49 := by omega
        clear y2
        have hne : ((nb : Int) == (nx : Int)) = false := by
          rw [beq_eq_false_iff_ne]
          intro e
          have : nb = nx := by omega
          rw [this] at hnn
          exact hnn hin
        have HNE := hide (show ¬ (nb : Int) = (nx : Int) from beq_eq_false_iff_ne.1 hne)
        clear hf hin y4 y7 ht' hnn HFF HTT
        have HY := hide y6
        clear y6
        clear hzi
        go_wp2_with fail
        refine (byteOf_any nx _ hx).mono ?_
        rintro e w5 ⟨rfl, d⟩
        have HD5 := hide (HDR.out.trans (d.mono HDR.out.size))
        clear d
        have hz1' := strB_size [nx]
        simp only [List.length_cons, List.length_nil] at hz1'
        generalize strB [nx] = xb at *
        go_wp2_with fail
        refine (hci _ (HT.out.below HD5.out hw0) (Nat.lt_of_lt_of_le hw0 HD5.out.size)).mono ?_
        rintro e w6 ⟨rfl, d⟩
        have HD6 := hide (HD5.out.trans (d.mono HD5.out.size))
        clear d hci
        go_wp2_with fail
        refine (HY.out _ (HT.out.below HD6.out hw0) (Nat.lt_of_lt_of_le hw0 HD6.out.size)).mono ?_
        rintro e w7 ⟨rfl, d⟩
        have HD7 := hide (HD6.out.trans (d.mono HD6.out.size))
        clear d
        go_wp2
        go_ret
        exact ⟨by first | rfl | (simp; exact HNE.out), HD7.out⟩
      · have z1 : z ≥ 0 := hzi.2 hin
        have z2 : ¬ z < 0 := by omega
        have hci := HCI.out
        rw [(snoc_in s nx hx hl hin).1] at hci
        generalize errF (s ++ strB [nx]) = er at hci
        have q1 : ((s.size : Int) + 1 == (s.size : Int) + 1) = true := by rw [beq_iff_eq]
        have q2 : decide (z ≥ 0) = true := decide_eq_true z1
        obtain ⟨nb, rest, t', ht', hnb, hnn, y1, y2, y3, y4, y5, y6, y7⟩ := HFF.out hf
        have hnt : t' = t := ht'.trans HTT.out
        subst hnt
        have y4b : (rest.toList == (t'.extract 1 t'.size).toList) = true := by rw [y4]; simp
        have y1i : (1 : Int) ≤ (t'.size : Int) := by omega
        have y2b : t'.size ≤ 49 := by omega
        clear y2
        obtain ⟨u, u1, u2, u3, u4⟩ := y7 nx hx hin
        clear hf y4 y7 ht' hnn HFF HTT
        have HY := hide y6
        have HU := hide u4
        have HI := hide hin
        clear y6 u4 hin
        clear hzi
        go_wp2_with fail
        refine (byteOf_any nx _ hx).mono ?_
        rintro e w5 ⟨rfl, d⟩
        have HD5 := hide (HDR.out.trans (d.mono HDR.out.size))
        clear d
        have hz1' := strB_size [nx]
        simp only [List.length_cons, List.length_nil] at hz1'
        go_wp2_with fail
        refine (hci _ (HT.out.below HD5.out hw0) (Nat.lt_of_lt_of_le hw0 HD5.out.size)).mono ?_
        rintro e w6 ⟨rfl, d⟩
        have HD6 := hide (HD5.out.trans (d.mono HD5.out.size))
        clear d hci
        go_wp2_with fail
        refine (HY.out _ (HT.out.below HD6.out hw0) (Nat.lt_of_lt_of_le hw0 HD6.out.size)).mono ?_
        rintro e w7 ⟨rfl, d⟩
        have HD7 := hide (HD6.out.trans (d.mono HD6.out.size))
        clear d
        go_wp2_with fail
        refine (byteOf_any nx _ hx).mono ?_
        rintro e w8 ⟨rfl, d⟩
        have HD8 := hide (HD7.out.trans (d.mono HD7.out.size))
        clear d
        go_wp2_with fail
        refine (HU.out _ (HT.out.below HD8.out hw0) (Nat.lt_of_lt_of_le hw0 HD8.out.size)).mono ?_
        rintro e w9 ⟨rfl, d⟩
        have HD9 := hide (HD8.out.trans (d.mono HD8.out.size))
        clear d
        by_cases hu : u.size = rest.size
        · have v1 : ¬ (u.size : Int) > (rest.size : Int) := by omega
          have v2 : ((u.size : Int) == (rest.size : Int)) = true := by rw [beq_iff_eq]; omega
          have v3 : (nx : Int) ≥ (nb : Int) := by have := u2 hu; omega
          have v4 : decide (rest.size < u.size) = false := decide_eq_false (by omega)
          have v5 : decide (nb ≤ nx) = true := decide_eq_true (by omega)
          clear hu
          go_wp2
          go_ret
          exact ⟨by first | rfl | simp, HD9.out⟩
        · have v1 : (u.size : Int) > (rest.size : Int) := by omega
          have v4 : decide (rest.size < u.size) = true := decide_eq_true (by omega)
          clear hu
          go_wp2
          go_ret
          exact ⟨by first | rfl | simp, HD9.out⟩

theorem follows_any (s : ByteArray) (nx : Nat) (w : World) (hT : RowsAt w) (hw0 : 0 < w.heap.size) (hs : s.size ≤ 1048576) (hx : nx < 256) :
    Calls Tryd.prog 5 #[.string s, .int .u8 nx] w fun e w' => e = .returned (.bool true) ∧ Below w.heap.size w w' := by
  by_cases hl : lenF s < s.size
  · exact follows_not s nx w hT hw0 hs hx hl
  · have hl' : lenF s = s.size := by have := len_le s; omega
    cases hf : isF (endF s)
    · exact follows_false s nx w hT hw0 hs hx hl' hf
    · exact follows_true s nx w hT hw0 hs hx hl' hf
end Go.Proofs.YtgifamdoolcemaaDoor
