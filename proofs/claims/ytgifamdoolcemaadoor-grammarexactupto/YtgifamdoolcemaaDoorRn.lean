import Derived.Test.YtgifamdoolcemaaDoorRm
namespace Go.Proofs.YtgifamdoolcemaaDoor
open Go.RowKit Go.Maps

def end4 (r : List Nat) : List Nat := if r = [] then [39] else []
def end3 (r : List Nat) : List Nat := if r = [] then [45, 62, 39] else if r = [45] then [62, 39] else end4 (skipF (r.drop 2))
def end2 (r : List Nat) : List Nat := if r = [] then [41, 45, 62, 39] else end3 (skipF (r.drop 1))
def end1 (r : List Nat) : List Nat := if r = [] then [40, 41, 45, 62, 39] else end2 ((r.drop 1).drop (nmLen (r.drop 1)))
def endedF (l : List Nat) : List Nat := end1 (l.drop (nmLen l))
/-- What stands behind the arrow, or ahead of it. -/
def thrd (l : List Nat) : List Nat := skipF ((((l.drop (nmLen l)).drop 1).drop (nmLen ((l.drop (nmLen l)).drop 1))).drop 1)

set_option maxRecDepth 100000 in
set_option maxHeartbeats 4000000 in
theorem ended_any (s : ByteArray) (w : World) (hs : s.size ≤ 4194304) (h3 : thrd (bts s) = [] ∨ thrd (bts s) = [45] ∨ 2 ≤ (thrd (bts s)).length) : Calls Tryd.prog 21 #[.string s] w fun e w' => e = .returned (.string (strB (endedF (bts s)))) ∧ w' = w := by
  have HR : Hid (endedF (bts s) = end1 ((bts s).drop (nmLen (bts s)))) := hide rfl
  have H3 := hide h3
  have hT : thrd (bts s) = skipF ((((bts s).drop (nmLen (bts s))).drop 1).drop (nmLen (((bts s).drop (nmLen (bts s))).drop 1)) |>.drop 1) := rfl
  have HT := hide hT
  clear h3 hT
  go_enter Tryd.func21, Tryd.ntmps21
  go_wp2_with fail
  refine (named_any s _ hs).mono ?_
  rintro e w' ⟨r1, rfl, hr1, hw'⟩
  obtain rfl := hw'.symm
  have z1 : r1.size ≤ s.size := by rw [size_of_bts hr1, List.length_drop, bts_len]; omega
  have HE : Hid (endedF (bts s) = end1 (bts r1)) := hide (by rw [HR.out, hr1])
  have HT1 : Hid (thrd (bts s) = skipF (((bts r1).drop 1).drop (nmLen ((bts r1).drop 1)) |>.drop 1)) := hide (by rw [HT.out, hr1])
  clear hr1 HR HT
  generalize decide (0 < nmLen (bts s)) = okk
  have hem1 := bts_empty r1
  by_cases h0 : bts r1 = []
  · rw [decide_eq_true h0] at hem1
    have HF : Hid (endedF (bts s) = [40, 41, 45, 62, 39]) := hide (by rw [HE.out]; unfold end1; rw [if_pos h0])
    clear h0
    go_wp2
    go_ret
    exact ⟨by rw [HF.out]; rfl, rfl⟩
  · rw [decide_eq_false h0] at hem1
    have hp1 : 0 < r1.size := by rw [← bts_len]; exact List.length_pos_iff.2 h0
    have hs1 : (1 : Int) ≤ (r1.size : Int) := by omega
    have HE2' : Hid (endedF (bts s) = end2 ((bts (r1.extract 1 r1.size)).drop (nmLen (bts (r1.extract 1 r1.size))))) := hide (by rw [HE.out, bts_tail]; unfold end1; rw [if_neg h0])
    clear h0
    go_wp2_with fail
    refine (named_any (r1.extract 1 r1.size) _ (by rw [ByteArray.size_extract]; omega)).mono ?_
    rintro e w' ⟨r2, rfl, hr2, hw'⟩
    obtain rfl := hw'.symm
    have z2 : r2.size ≤ r1.size := by
      rw [size_of_bts hr2, List.length_drop, bts_len, ByteArray.size_extract]
      omega
    have HE2 : Hid (endedF (bts s) = end2 (bts r2)) := hide (by rw [HE2'.out, hr2])
    have HT2 : Hid (thrd (bts s) = skipF ((bts r2).drop 1)) := hide (by rw [HT1.out, hr2, bts_tail])
    clear hr2 HE2' HE HT1
    generalize decide (0 < nmLen (bts (r1.extract 1 r1.size))) = okk2
    have hem2 := bts_empty r2
    by_cases h0 : bts r2 = []
    · rw [decide_eq_true h0] at hem2
      have HF : Hid (endedF (bts s) = [41, 45, 62, 39]) := hide (by rw [HE2.out]; unfold end2; rw [if_pos h0])
      clear h0
      go_wp2
      go_ret
      exact ⟨by rw [HF.out]; rfl, rfl⟩
    · rw [decide_eq_false h0] at hem2
      have hp2 : 0 < r2.size := by rw [← bts_len]; exact List.length_pos_iff.2 h0
      have hs2 : (1 : Int) ≤ (r2.size : Int) := by omega
      have HE3' : Hid (endedF (bts s) = end3 (skipF (bts (r2.extract 1 r2.size)))) := hide (by rw [HE2.out, bts_tail]; unfold end2; rw [if_neg h0])
      clear h0
      go_wp2_with fail
      refine (skip_any (r2.extract 1 r2.size) _ (by rw [ByteArray.size_extract]; omega)).mono ?_
      rintro e w' ⟨r3, rfl, hr3, hw'⟩
      obtain rfl := hw'.symm
      have z3 : r3.size ≤ r2.size := by
        rw [size_of_bts hr3]
        have := (List.dropWhile_sublist blk (l := bts (r2.extract 1 r2.size))).length_le
        rw [bts_len, ByteArray.size_extract] at this
        unfold skipF
        omega
      have HE3 : Hid (endedF (bts s) = end3 (bts r3)) := hide (by rw [HE3'.out, hr3])
      have HT3 : Hid (bts r3 = [] ∨ bts r3 = [45] ∨ 2 ≤ (bts r3).length) := hide (by rw [hr3, bts_tail, ← HT2.out]; exact H3.out)
      clear hr3 HE3' HE2 HT2
      have hda' := bts_lit r3 [45]
      have hda : (r3.toList == [45]) = decide (bts r3 = [45]) := hda'
      clear hda'
      have hem3 := bts_empty r3
      by_cases h0 : bts r3 = []
      · rw [decide_eq_true h0] at hem3
        have HF : Hid (endedF (bts s) = [45, 62, 39]) := hide (by rw [HE3.out]; unfold end3; rw [if_pos h0])
        clear hda
        clear h0
        go_wp2
        go_ret
        exact ⟨by rw [HF.out]; rfl, rfl⟩
      · rw [decide_eq_false h0] at hem3
        have hp3 : 0 < r3.size := by rw [← bts_len]; exact List.length_pos_iff.2 h0
        have hs3 : (1 : Int) ≤ (r3.size : Int) := by omega
        by_cases h1 : bts r3 = [45]
        · rw [decide_eq_true h1] at hda
          have HF : Hid (endedF (bts s) = [62, 39]) := hide (by rw [HE3.out]; unfold end3; rw [if_neg h0, if_pos h1])
          clear h0 h1
          go_wp2
          go_ret
          exact ⟨by rw [HF.out]; rfl, rfl⟩
        · rw [decide_eq_false h1] at hda
          have hz2 : 2 ≤ r3.size := by
            rw [← bts_len]
            rcases HT3.out with h | h | h
            · exact absurd h h0
            · exact absurd h h1
            · exact h
          have hs2' : (2 : Int) ≤ (r3.size : Int) := by omega
          have HE4' : Hid (endedF (bts s) = end4 (skipF (bts (r3.extract 2 r3.size)))) := hide (by rw [HE3.out, bts_tail]; unfold end3; rw [if_neg h0, if_neg h1])
          clear h0 h1
          go_wp2_with fail
          refine (skip_any (r3.extract 2 r3.size) _ (by rw [ByteArray.size_extract]; omega)).mono ?_
          rintro e w' ⟨r4, rfl, hr4, hw'⟩
          obtain rfl := hw'.symm
          have HE4 : Hid (endedF (bts s) = end4 (bts r4)) := hide (by rw [HE4'.out, hr4])
          clear hr4 HE4' HE3
          have hem4 := bts_empty r4
          by_cases h0 : bts r4 = []
          · rw [decide_eq_true h0] at hem4
            have HF : Hid (endedF (bts s) = [39]) := hide (by rw [HE4.out]; unfold end4; rw [if_pos h0])
            clear h0
            go_wp2
            go_ret
            exact ⟨by rw [HF.out]; rfl, rfl⟩
          · rw [decide_eq_false h0] at hem4
            have hp4 : 0 < r4.size := by rw [← bts_len]; exact List.length_pos_iff.2 h0
            have hs4 : (1 : Int) ≤ (r4.size : Int) := by omega
            have HF : Hid (endedF (bts s) = []) := hide (by rw [HE4.out]; unfold end4; rw [if_neg h0])
            clear h0
            go_wp2
            go_ret
            exact ⟨by rw [HF.out]; rfl, rfl⟩

def filledF (sec : Nat) (x : List Nat) : List Nat :=
  if x.length < (wordL sec).length then (wordL sec).drop x.length ++ (if sec = 1 then [9, 39] else [])
  else if (restF sec (x.drop (wordL sec).length)).1 = true then []
  else if sec = 1 then (if x.drop (wordL sec).length = [] then [9, 39] else [39])
  else if (x.drop (wordL sec).length).getD ((x.drop (wordL sec).length).length - 1) 0 = 58 then [48] else [58, 48]

set_option maxRecDepth 100000 in
set_option maxHeartbeats 4000000 in
theorem filled_any (sec : Nat) (s : ByteArray) (w : World) (hs : s.size ≤ 1048640) (hsec : sec ≤ 4) : Calls Tryd.prog 24 #[.int .i64 sec, .string s] w fun e w' => e = .returned (.string (strB (filledF sec (bts s)))) ∧ Below w.heap.size w w' := by
  have hl := bts_len s
  have hwd := fun W => word_any sec W
  have hwb := bts_strB (wordL sec) (word_256 sec)
  have hwz := strB_size (wordL sec)
  have hw12 := word_len sec
  by_cases h6 : s.size < (wordL sec).length
  · have hF : filledF sec (bts s) = (wordL sec).drop s.size ++ (if sec = 1 then [9, 39] else []) := by unfold filledF; rw [hl, if_pos h6]
    have hcut : (strB (wordL sec)).extract s.size (strB (wordL sec)).size = strB ((wordL sec).drop s.size) := by
      apply bts_inj
      rw [bts_tail, hwb, bts_strB _ (fun b hb => word_256 sec b (List.mem_of_mem_drop hb))]
    have j1 : (s.size : Int) < ((strB (wordL sec)).size : Int) := by rw [hwz]; omega
    have j2 : (0 : Int) ≤ (s.size : Int) := by omega
    have j3 : (s.size : Int) ≤ ((strB (wordL sec)).size : Int) := by rw [hwz]; omega
    have z1 : ((strB (wordL sec)).extract s.size (strB (wordL sec)).size).size ≤ 12 := by rw [ByteArray.size_extract]; omega
    have z2 : (strB (wordL sec)).size ≤ 12 := by rw [hwz]; exact hw12
    by_cases h1 : sec = 1
    · have i1 : ((sec : Int) == 1) = true := by rw [beq_iff_eq]; omega
      have HE : Hid (strB (filledF sec (bts s)) = (strB (wordL sec)).extract s.size (strB (wordL sec)).size ++ ⟨#[9, 39]⟩) := hide (by
        rw [hF, if_pos h1, hcut, show (⟨#[9, 39]⟩ : ByteArray) = strB [9, 39] from rfl, strB_app])
      generalize strB (wordL sec) = wd at *
      clear hl h6 hF hcut hwb hwz h1
      go_enter Tryd.func24, Tryd.ntmps24
      go_wp2_with (go_at_call 31; refine (hwd _).mono ?_; rintro e w' ⟨rfl, hw'⟩; obtain rfl := hw'.symm)
      go_ret
      exact ⟨by rw [HE.out]; rfl, Below.refl _ _⟩
    · have i1 : ((sec : Int) == 1) = false := by rw [beq_eq_false_iff_ne]; omega
      have HE : Hid (strB (filledF sec (bts s)) = (strB (wordL sec)).extract s.size (strB (wordL sec)).size) := hide (by
        rw [hF, if_neg h1, hcut, List.append_nil])
      generalize strB (wordL sec) = wd at *
      clear hl h6 hF hcut hwb hwz h1
      go_enter Tryd.func24, Tryd.ntmps24
      go_wp2_with (go_at_call 31; refine (hwd _).mono ?_; rintro e w' ⟨rfl, hw'⟩; obtain rfl := hw'.symm)
      go_ret
      exact ⟨by rw [HE.out]; rfl, Below.refl _ _⟩
  · have hF : filledF sec (bts s) = if (restF sec ((bts s).drop (wordL sec).length)).1 = true then [] else if sec = 1 then (if (bts s).drop (wordL sec).length = [] then [9, 39] else [39]) else if ((bts s).drop (wordL sec).length).getD (((bts s).drop (wordL sec).length).length - 1) 0 = 58 then [48] else [58, 48] := by unfold filledF; rw [hl, if_neg h6]
    have j1 : ¬ (s.size : Int) < ((strB (wordL sec)).size : Int) := by rw [hwz]; omega
    have j2 : (0 : Int) ≤ ((strB (wordL sec)).size : Int) := by omega
    have j3 : ((strB (wordL sec)).size : Int) ≤ (s.size : Int) := by rw [hwz]; omega
    have hrb : bts (s.extract (strB (wordL sec)).size s.size) = (bts s).drop (wordL sec).length := by rw [bts_tail, hwz]
    have hrz : (s.extract (strB (wordL sec)).size s.size).size ≤ s.size := by rw [ByteArray.size_extract]; omega
    rw [← hrb] at hF
    generalize strB (wordL sec) = wd at *
    clear h6 hl hwb hrb hwz
    have hre := fun W => rest_any sec (s.extract wd.size s.size) W (by omega) (by omega)
    have hne : (restF sec (bts (s.extract wd.size s.size))).1 = false → sec ≠ 1 → 0 < (s.extract wd.size s.size).size := fun h h1 => by
      rw [← bts_len]
      apply List.length_pos_iff.2
      intro e
      rw [e] at h
      unfold restF at h
      rw [if_pos rfl, decide_eq_true h1] at h
      cases h
    have hem := bts_empty (s.extract wd.size s.size)
    have hbl := bts_len (s.extract wd.size s.size)
    have hsub := idx_sub (s.extract wd.size s.size) 1 (by omega)
    rw [hbl] at hF
    generalize restF sec (bts (s.extract wd.size s.size)) = pq at *
    obtain ⟨p, q⟩ := pq
    cases p
    · rw [if_neg (by simp)] at hF
      by_cases h1 : sec = 1
      · have i1 : ((sec : Int) == 1) = true := by rw [beq_iff_eq]; omega
        rw [if_pos h1] at hF
        by_cases h0 : bts (s.extract wd.size s.size) = []
        · rw [if_pos h0] at hF
          rw [decide_eq_true h0] at hem
          have HE := hide hF
          clear hF h0 h1 hne hsub hbl
          go_enter Tryd.func24, Tryd.ntmps24
          go_wp2_with (first
            | (go_at_call 31; refine (hwd _).mono ?_; rintro e w' ⟨rfl, hw'⟩; obtain rfl := hw'.symm)
            | (go_at_call 33; refine (hre _).mono ?_; rintro e w' ⟨rfl, hd⟩))
          go_ret
          exact ⟨by rw [HE.out]; rfl, hd⟩
        · rw [if_neg h0] at hF
          rw [decide_eq_false h0] at hem
          have HE := hide hF
          clear hF h0 h1 hne hsub hbl
          go_enter Tryd.func24, Tryd.ntmps24
          go_wp2_with (first
            | (go_at_call 31; refine (hwd _).mono ?_; rintro e w' ⟨rfl, hw'⟩; obtain rfl := hw'.symm)
            | (go_at_call 33; refine (hre _).mono ?_; rintro e w' ⟨rfl, hd⟩))
          go_ret
          exact ⟨by rw [HE.out]; rfl, hd⟩
      · have i1 : ((sec : Int) == 1) = false := by rw [beq_eq_false_iff_ne]; omega
        rw [if_neg h1] at hF
        have hpos := hne rfl h1
        have hix := hsub (by omega)
        obtain ⟨z, hz⟩ : ∃ z, (bts (s.extract wd.size s.size)).getD ((s.extract wd.size s.size).size - 1) 0 = z := ⟨_, rfl⟩
        rw [hz] at hix hF
        have hix' : ∀ W : World, (Instr.index 9 (.string (s.extract wd.size s.size)) (.int .i64 (((s.extract wd.size s.size).size : Int) - 1))).run Tryd.prog W = .ok (.int .u8 (z : Nat)) W := hix
        clear hne hsub hbl hem hix hz
        generalize hX : s.extract wd.size s.size = X at *
        by_cases h58 : z = 58
        · have i2 : ((z : Int) == 58) = true := by rw [beq_iff_eq]; omega
          rw [if_pos h58] at hF
          have HE := hide hF
          have HX := hide hX
          clear hF h58 h1
          go_enter Tryd.func24, Tryd.ntmps24
          go_wp2_with (first
            | (go_at_call 31; refine (hwd _).mono ?_; rintro e w' ⟨rfl, hw'⟩; obtain rfl := hw'.symm)
            | (go_at_call 33; refine (hre _).mono ?_; rintro e w' ⟨rfl, hd⟩))
          go_ret
          exact ⟨by rw [HE.out]; rfl, hd⟩
        · have i2 : ((z : Int) == 58) = false := by rw [beq_eq_false_iff_ne]; omega
          rw [if_neg h58] at hF
          have HE := hide hF
          clear hF h58 h1
          go_enter Tryd.func24, Tryd.ntmps24
          go_wp2_with (first
            | (go_at_call 31; refine (hwd _).mono ?_; rintro e w' ⟨rfl, hw'⟩; obtain rfl := hw'.symm)
            | (go_at_call 33; refine (hre _).mono ?_; rintro e w' ⟨rfl, hd⟩))
          go_ret
          exact ⟨by rw [HE.out]; rfl, hd⟩
    · rw [if_pos rfl] at hF
      have HE := hide hF
      clear hF hne hsub hbl hem
      go_enter Tryd.func24, Tryd.ntmps24
      go_wp2_with (first
        | (go_at_call 31; refine (hwd _).mono ?_; rintro e w' ⟨rfl, hw'⟩; obtain rfl := hw'.symm)
        | (go_at_call 33; refine (hre _).mono ?_; rintro e w' ⟨rfl, hd⟩))
      go_ret
      exact ⟨by rw [HE.out]; rfl, hd⟩
end Go.Proofs.YtgifamdoolcemaaDoor
