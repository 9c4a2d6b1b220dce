import Derived.Test.YtgifamdoolcemaaDoorRe
namespace Go.Proofs.YtgifamdoolcemaaDoor
open Go.RowKit Go.Maps

def ruleF4 (r : List Nat) : Bool × Bool := if r = [] then (false, true) else (decide (0 < nmLen r) && (r.drop (nmLen r)).all blk, decide (0 < nmLen r) && (r.drop (nmLen r)).all blk)
def ruleF3 (r : List Nat) : Bool × Bool := if r = [] ∨ r = [45] then (false, true) else if r.take 2 ≠ [45, 62] then (false, false) else ruleF4 (skipF (r.drop 2))
def ruleF2 (r : List Nat) : Bool × Bool := if r = [] then (false, true) else if r.headD 0 ≠ 41 then (false, false) else ruleF3 (skipF (r.drop 1))
def ruleF1 (r : List Nat) : Bool × Bool := if r = [] then (false, true) else if r.headD 0 ≠ 40 then (false, false) else ruleF2 ((r.drop 1).drop (nmLen (r.drop 1)))
def ruleF (l : List Nat) : Bool × Bool := if nmLen l = 0 then (false, false) else ruleF1 (l.drop (nmLen l))

theorem bts_lit (s : ByteArray) (l : List UInt8) : (s.toList == l) = decide (bts s = l.map (·.toNat)) := by
  rw [Bool.eq_iff_iff, beq_iff_eq, decide_eq_true_iff, ByteArray.toList_eq]
  unfold bts
  constructor
  · intro h; rw [h]
  · intro h; exact List.map_inj_right (fun x y hxy => UInt8.toNat_inj.1 hxy) |>.1 h
theorem size_of_bts {r : ByteArray} {l : List Nat} (h : bts r = l) : r.size = l.length := by rw [← bts_len, h]

set_option maxRecDepth 100000 in
set_option maxHeartbeats 4000000 in
theorem rule_any (s : ByteArray) (w : World) (hs : s.size ≤ 4194304) : Calls Tryd.prog 39 #[.string s] w fun e w' => e = .returned (.tuple #[.bool (ruleF (bts s)).1, .bool (ruleF (bts s)).2]) ∧ w' = w := by
  have HR : Hid (ruleF (bts s) = if nmLen (bts s) = 0 then (false, false) else ruleF1 ((bts s).drop (nmLen (bts s)))) := hide rfl
  have hsz : ∀ {r : ByteArray} {k : Nat}, bts r = (bts s).drop k → r.size ≤ s.size := fun h => by rw [size_of_bts h, List.length_drop, bts_len]; omega
  go_enter Tryd.func39, Tryd.ntmps39
  go_wp2_with fail
  refine (named_any s _ hs).mono ?_
  rintro e w' ⟨r1, rfl, hr1, hw'⟩
  obtain rfl := hw'.symm
  have z1 := hsz hr1
  have HR1 := hide hr1
  by_cases h0 : nmLen (bts s) = 0
  · rw [decide_eq_false (show ¬ 0 < nmLen (bts s) by omega)]
    have HE : Hid (ruleF (bts s) = (false, false)) := hide (by rw [HR.out, if_pos h0])
    clear h0 hr1 hsz
    go_wp2
    go_ret2
    exact ⟨by rw [HE.out]; first | rfl | simp, rfl⟩
  · rw [decide_eq_true (show 0 < nmLen (bts s) by omega)]
    have HE : Hid (ruleF (bts s) = ruleF1 (bts r1)) := hide (by rw [HR.out, if_neg h0, hr1])
    clear h0 hr1 hsz HR1 HR
    have hem1 := bts_empty r1
    by_cases h0 : bts r1 = []
    · rw [decide_eq_true h0] at hem1
      have HF : Hid (ruleF (bts s) = (false, true)) := hide (by rw [HE.out]; unfold ruleF1; rw [if_pos h0])
      clear h0
      go_wp2
      go_ret2
      exact ⟨by rw [HF.out]; first | rfl | simp, rfl⟩
    · rw [decide_eq_false h0] at hem1
      have hp1 : 0 < r1.size := by rw [← bts_len]; exact List.length_pos_iff.2 h0
      have hix1 := idx_b r1 0 hp1
      obtain ⟨b1, hb1⟩ : ∃ b, (bts r1)[0]'(by rw [bts_len]; exact hp1) = b := ⟨_, rfl⟩
      rw [hb1] at hix1
      have hi1 : ∀ W : World, (Instr.index 9 (.string r1) (.int .i64 0)).run Tryd.prog W = .ok (.int .u8 (b1 : Nat)) W := hix1
      have hh1 : (bts r1).headD 0 = b1 := by rw [← hb1]; exact headD_get _ _
      have hs1 : (1 : Int) ≤ (r1.size : Int) := by omega
      clear hix1 hb1
      by_cases hc : b1 = 40
      · have hq1 : ((b1 : Int) != 40) = false := by rw [bne_eq_false_iff_eq]; omega
        have hE2 : ruleF (bts s) = ruleF2 ((bts (r1.extract 1 r1.size)).drop (nmLen (bts (r1.extract 1 r1.size)))) := by rw [HE.out, bts_tail]; unfold ruleF1; rw [if_neg h0, if_neg (fun h => h (by rw [hh1]; exact hc))]
        have HE2' := hide hE2
        clear h0 hc hh1 hE2
        go_wp2_with fail
        refine (named_any (r1.extract 1 r1.size) _ (by rw [ByteArray.size_extract]; omega)).mono ?_
        rintro e w' ⟨r2, rfl, hr2, hw'⟩
        obtain rfl := hw'.symm
        have z2 : r2.size ≤ r1.size := by
          rw [size_of_bts hr2, List.length_drop, bts_len, ByteArray.size_extract]
          omega
        have HE2 : Hid (ruleF (bts s) = ruleF2 (bts r2)) := hide (by rw [HE2'.out, hr2])
        clear hr2 HE2' HE
        generalize decide (0 < nmLen (bts (r1.extract 1 r1.size))) = okk
        have hem2 := bts_empty r2
        by_cases h0 : bts r2 = []
        · rw [decide_eq_true h0] at hem2
          have HF : Hid (ruleF (bts s) = (false, true)) := hide (by rw [HE2.out]; unfold ruleF2; rw [if_pos h0])
          clear h0
          go_wp2
          go_ret2
          exact ⟨by rw [HF.out]; first | rfl | simp, rfl⟩
        · rw [decide_eq_false h0] at hem2
          have hp2 : 0 < r2.size := by rw [← bts_len]; exact List.length_pos_iff.2 h0
          have hix2 := idx_b r2 0 hp2
          obtain ⟨b2, hb2⟩ : ∃ b, (bts r2)[0]'(by rw [bts_len]; exact hp2) = b := ⟨_, rfl⟩
          rw [hb2] at hix2
          have hi2 : ∀ W : World, (Instr.index 9 (.string r2) (.int .i64 0)).run Tryd.prog W = .ok (.int .u8 (b2 : Nat)) W := hix2
          have hh2 : (bts r2).headD 0 = b2 := by rw [← hb2]; exact headD_get _ _
          have hs2 : (1 : Int) ≤ (r2.size : Int) := by omega
          clear hix2 hb2
          by_cases hc : b2 = 41
          · have hq2 : ((b2 : Int) != 41) = false := by rw [bne_eq_false_iff_eq]; omega
            have hE3 : ruleF (bts s) = ruleF3 (skipF (bts (r2.extract 1 r2.size))) := by rw [HE2.out, bts_tail]; unfold ruleF2; rw [if_neg h0, if_neg (fun h => h (by rw [hh2]; exact hc))]
            have HE3' := hide hE3
            clear h0 hc hh2 hE3
            go_wp2_with fail
            refine (skip_any (r2.extract 1 r2.size) _ (by rw [ByteArray.size_extract]; omega)).mono ?_
            rintro e w' ⟨r3, rfl, hr3, hw'⟩
            obtain rfl := hw'.symm
            have z3 : r3.size ≤ r2.size := by
              rw [size_of_bts hr3]
              have := (List.dropWhile_sublist blk (l := bts (r2.extract 1 r2.size))).length_le
              rw [bts_len, ByteArray.size_extract] at this
              unfold skipF
              omega
            have HE3 : Hid (ruleF (bts s) = ruleF3 (bts r3)) := hide (by rw [HE3'.out, hr3])
            clear hr3 HE3' HE2
            have hem3 := bts_empty r3
            have hda3 := bts_lit r3 [45]
            have hda3' : (r3.toList == [45]) = decide (bts r3 = [45]) := hda3
            clear hda3
            by_cases h0 : bts r3 = []
            · rw [decide_eq_true h0] at hem3
              have HF : Hid (ruleF (bts s) = (false, true)) := hide (by rw [HE3.out]; unfold ruleF3; rw [if_pos (.inl h0)])
              clear h0 hda3'
              go_wp2
              go_ret2
              exact ⟨by rw [HF.out]; first | rfl | simp, rfl⟩
            · rw [decide_eq_false h0] at hem3
              by_cases h1 : bts r3 = [45]
              · rw [decide_eq_true h1] at hda3'
                have HF : Hid (ruleF (bts s) = (false, true)) := hide (by rw [HE3.out]; unfold ruleF3; rw [if_pos (.inr h1)])
                clear h0 h1
                go_wp2
                go_ret2
                exact ⟨by rw [HF.out]; first | rfl | simp, rfl⟩
              · rw [decide_eq_false h1] at hda3'
                have h01 : ¬ (bts r3 = [] ∨ bts r3 = [45]) := fun h => h.elim h0 h1
                by_cases h2 : r3.size < 2
                · have j2 : (r3.size : Int) < 2 := by omega
                  have j3 : decide (r3.size < 2) = true := decide_eq_true h2
                  have HF : Hid (ruleF (bts s) = (false, false)) := hide (by
                    rw [HE3.out]; unfold ruleF3
                    rw [if_neg h01, if_pos (fun e => by have := congrArg List.length e; rw [List.length_take, bts_len] at this; simp at this; omega)])
                  clear h0 h1 h01
                  go_wp2
                  go_ret2
                  exact ⟨by rw [HF.out]; first | rfl | simp, rfl⟩
                · have j2 : ¬ (r3.size : Int) < 2 := by omega
                  have j3 : decide (r3.size < 2) = false := decide_eq_false h2
                  have j4 : (2 : Int) ≤ (r3.size : Int) := by omega
                  have har := bts_lit (r3.extract 0 2) [45, 62]
                  rw [bts_take] at har
                  have har' : ((r3.extract 0 2).toList == [45, 62]) = decide ((bts r3).take 2 = [45, 62]) := har
                  clear har
                  by_cases h3 : (bts r3).take 2 = [45, 62]
                  · rw [decide_eq_true h3] at har'
                    have hE4 : ruleF (bts s) = ruleF4 (skipF (bts (r3.extract 2 r3.size))) := by rw [HE3.out, bts_tail]; unfold ruleF3; rw [if_neg h01, if_neg (fun h => h h3)]
                    have HE4' := hide hE4
                    clear h0 h1 h01 h3 hE4
                    go_wp2_with fail
                    refine (skip_any (r3.extract 2 r3.size) _ (by rw [ByteArray.size_extract]; omega)).mono ?_
                    rintro e w' ⟨r4, rfl, hr4, hw'⟩
                    obtain rfl := hw'.symm
                    have z4 : r4.size ≤ r3.size := by
                      rw [size_of_bts hr4]
                      have := (List.dropWhile_sublist blk (l := bts (r3.extract 2 r3.size))).length_le
                      rw [bts_len, ByteArray.size_extract] at this
                      unfold skipF
                      omega
                    have HE4 : Hid (ruleF (bts s) = ruleF4 (bts r4)) := hide (by rw [HE4'.out, hr4])
                    clear hr4 HE4' HE3
                    have hem4 := bts_empty r4
                    by_cases h0 : bts r4 = []
                    · rw [decide_eq_true h0] at hem4
                      have HF : Hid (ruleF (bts s) = (false, true)) := hide (by rw [HE4.out]; unfold ruleF4; rw [if_pos h0])
                      clear h0
                      go_wp2
                      go_ret2
                      exact ⟨by rw [HF.out]; first | rfl | simp, rfl⟩
                    · rw [decide_eq_false h0] at hem4
                      have hp4 : 0 < r4.size := by rw [← bts_len]; exact List.length_pos_iff.2 h0
                      have HF : Hid (ruleF (bts s) = (decide (0 < nmLen (bts r4)) && ((bts r4).drop (nmLen (bts r4))).all blk, decide (0 < nmLen (bts r4)) && ((bts r4).drop (nmLen (bts r4))).all blk)) := hide (by rw [HE4.out]; unfold ruleF4; rw [if_neg h0])
                      clear h0
                      go_wp2_with fail
                      refine (named_any r4 _ (by omega)).mono ?_
                      rintro e w' ⟨r5, rfl, hr5, hw'⟩
                      obtain rfl := hw'.symm
                      have z5 : r5.size ≤ r4.size := by rw [size_of_bts hr5, List.length_drop, bts_len]; omega
                      have hbk := fun W => blanks_any r5 W (by omega)
                      have HF2 := HF.out
                      rw [← hr5] at HF2
                      have HF3 := hide HF2
                      clear HF HF2 hr5
                      generalize (bts r5).all blk = bb at *
                      generalize decide (0 < nmLen (bts r4)) = ok at *
                      cases ok
                      · go_wp2
                        go_ret2
                        exact ⟨by rw [HF3.out]; first | rfl | simp, rfl⟩
                      · go_wp2_with (go_at_call 23; refine (hbk _).mono ?_; rintro e w' ⟨rfl, hw'⟩; obtain rfl := hw'.symm)
                        go_ret2
                        exact ⟨by rw [HF3.out]; first | rfl | simp, rfl⟩
                  · rw [decide_eq_false h3] at har'
                    have HF : Hid (ruleF (bts s) = (false, false)) := hide (by rw [HE3.out]; unfold ruleF3; rw [if_neg h01, if_pos h3])
                    clear h0 h1 h01 h3
                    go_wp2
                    go_ret2
                    exact ⟨by rw [HF.out]; first | rfl | simp, rfl⟩
          · have hq2 : ((b2 : Int) != 41) = true := by rw [bne_iff_ne]; omega
            have HF : Hid (ruleF (bts s) = (false, false)) := hide (by rw [HE2.out]; unfold ruleF2; rw [if_neg h0, if_pos (by rw [hh2]; exact hc)])
            clear h0 hc hh2
            go_wp2
            go_ret2
            exact ⟨by rw [HF.out]; first | rfl | simp, rfl⟩
      · have hq1 : ((b1 : Int) != 40) = true := by rw [bne_iff_ne]; omega
        have HF : Hid (ruleF (bts s) = (false, false)) := hide (by rw [HE.out]; unfold ruleF1; rw [if_neg h0, if_pos (by rw [hh1]; exact hc)])
        clear h0 hc hh1
        go_wp2
        go_ret2
        exact ⟨by rw [HF.out]; first | rfl | simp, rfl⟩
end Go.Proofs.YtgifamdoolcemaaDoor
