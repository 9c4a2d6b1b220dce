import Derived.Test.YtgifamdoolcemaaDoorMv
namespace Go.Proofs.YtgifamdoolcemaaDoor
open Go.RowKit Go.Maps

theorem beq_bts (a b : ByteArray) : (a.toList == b.toList) = decide (bts a = bts b) := by
  rw [str_beq, Bool.eq_iff_iff, decide_eq_true_iff, decide_eq_true_iff]
  exact ⟨fun h => by rw [h], bts_inj⟩
theorem word_256 (sec : Nat) : ∀ b ∈ wordL sec, b < 256 := by
  unfold wordL
  split <;> decide
theorem word_len (sec : Nat) : (wordL sec).length ≤ 12 := by
  unfold wordL
  split <;> decide

set_option maxRecDepth 100000 in
set_option maxHeartbeats 4000000 in
theorem line_any (sec : Nat) (s : ByteArray) (w : World) (hs : s.size ≤ 1048640) (hsec : sec ≤ 5) : Calls Tryd.prog 28 #[.int .i64 sec, .string s] w fun e w' => e = .returned (.tuple #[.bool (lineF sec (bts s)).1, .bool (lineF sec (bts s)).2.1, .bool (lineF sec (bts s)).2.2]) ∧ Below w.heap.size w w' := by
  have hbk := fun W => blanks_any s W (by omega)
  have hl := bts_len s
  cases hA : (bts s).all blk
  · rw [hA] at hbk
    by_cases h5 : sec = 5
    · have i5 : ((sec : Int) == 5) = true := by rw [beq_iff_eq]; omega
      have HE : Hid (lineF sec (bts s) = ((ruleF (bts s)).1, false, (ruleF (bts s)).2)) := hide (by unfold lineF; rw [if_neg (by rw [hA]; simp), if_pos h5])
      have hru := fun W => rule_any s W (by omega)
      generalize ruleF (bts s) = pq at *
      obtain ⟨p, q⟩ := pq
      clear hA h5 hl
      go_enter Tryd.func28, Tryd.ntmps28
      go_wp2_with (first
        | (go_at_call 23; refine (hbk _).mono ?_; rintro e w' ⟨rfl, hw'⟩; obtain rfl := hw'.symm)
        | (go_at_call 39; refine (hru _).mono ?_; rintro e w' ⟨rfl, hw'⟩; obtain rfl := hw'.symm))
      go_ret3
      exact ⟨by rw [HE.out]; rfl, Below.refl _ _⟩
    · have i5 : ((sec : Int) == 5) = false := by rw [beq_eq_false_iff_ne]; omega
      have hwd := fun W => word_any sec W
      have hwb := bts_strB (wordL sec) (word_256 sec)
      have hwz := strB_size (wordL sec)
      have hw12 := word_len sec
      by_cases h6 : s.size < (wordL sec).length
      · have HE : Hid (lineF sec (bts s) = (false, false, decide ((wordL sec).take s.size = bts s))) := hide (by unfold lineF; rw [if_neg (by rw [hA]; simp), if_neg h5, hl, if_pos h6])
        have hbe := beq_bts ((strB (wordL sec)).extract 0 s.size) s
        rw [bts_take, hwb] at hbe
        have HB := hide hbe
        have j1 : (s.size : Int) < ((strB (wordL sec)).size : Int) := by rw [hwz]; omega
        have j2 : (0 : Int) ≤ (s.size : Int) := by omega
        have j3 : (s.size : Int) ≤ ((strB (wordL sec)).size : Int) := by rw [hwz]; omega
        generalize strB (wordL sec) = wd at *
        clear hA h5 hl h6 hbe hwb hwz
        go_enter Tryd.func28, Tryd.ntmps28
        go_wp2_with (first
          | (go_at_call 23; refine (hbk _).mono ?_; rintro e w' ⟨rfl, hw'⟩; obtain rfl := hw'.symm)
          | (go_at_call 31; refine (hwd _).mono ?_; rintro e w' ⟨rfl, hw'⟩; obtain rfl := hw'.symm))
        go_quiet (fail)
        go_wp2
        go_ret3
        exact ⟨by rw [HE.out, ← HB.out]; rfl, below_drewN' (Below.refl _ _) _⟩
      · have j1 : ¬ (s.size : Int) < ((strB (wordL sec)).size : Int) := by rw [hwz]; omega
        have j2 : (0 : Int) ≤ ((strB (wordL sec)).size : Int) := by omega
        have j3 : ((strB (wordL sec)).size : Int) ≤ (s.size : Int) := by rw [hwz]; omega
        have hbe := beq_bts (s.extract 0 (strB (wordL sec)).size) (strB (wordL sec))
        rw [bts_take, hwb] at hbe
        by_cases h7 : (bts s).take (wordL sec).length = wordL sec
        · rw [decide_eq_true (show (bts s).take (strB (wordL sec)).size = wordL sec by rw [hwz]; exact h7)] at hbe
          have HE : Hid (lineF sec (bts s) = ((restF sec ((bts s).drop (wordL sec).length)).1, (restF sec ((bts s).drop (wordL sec).length)).1, (restF sec ((bts s).drop (wordL sec).length)).2)) := hide (by unfold lineF; rw [if_neg (by rw [hA]; simp), if_neg h5, hl, if_neg h6, if_neg (fun h => h h7)])
          have hre := fun W => rest_any sec (s.extract (strB (wordL sec)).size s.size) W (by rw [ByteArray.size_extract]; omega) hsec
          have hrb : bts (s.extract (strB (wordL sec)).size s.size) = (bts s).drop (wordL sec).length := by rw [bts_tail, hwz]
          rw [hrb] at hre
          clear hrb
          generalize restF sec ((bts s).drop (wordL sec).length) = pq at *
          obtain ⟨p, q⟩ := pq
          generalize strB (wordL sec) = wd at *
          clear hA h5 hl h6 h7 hwb hwz
          go_enter Tryd.func28, Tryd.ntmps28
          go_wp2_with (first
            | (go_at_call 23; refine (hbk _).mono ?_; rintro e w' ⟨rfl, hw'⟩; obtain rfl := hw'.symm)
            | (go_at_call 31; refine (hwd _).mono ?_; rintro e w' ⟨rfl, hw'⟩; obtain rfl := hw'.symm)
            | (go_at_call 33; refine (hre _).mono ?_; rintro e w' ⟨rfl, hd⟩))
          go_ret3
          exact ⟨by rw [HE.out]; rfl, hd⟩
        · rw [decide_eq_false (show ¬ (bts s).take (strB (wordL sec)).size = wordL sec by rw [hwz]; exact h7)] at hbe
          have HE : Hid (lineF sec (bts s) = (false, false, false)) := hide (by unfold lineF; rw [if_neg (by rw [hA]; simp), if_neg h5, hl, if_neg h6, if_pos h7])
          generalize strB (wordL sec) = wd at *
          clear hA h5 hl h6 h7 hwb hwz
          go_enter Tryd.func28, Tryd.ntmps28
          go_wp2_with (first
            | (go_at_call 23; refine (hbk _).mono ?_; rintro e w' ⟨rfl, hw'⟩; obtain rfl := hw'.symm)
            | (go_at_call 31; refine (hwd _).mono ?_; rintro e w' ⟨rfl, hw'⟩; obtain rfl := hw'.symm))
          go_ret3
          exact ⟨by rw [HE.out]; rfl, Below.refl _ _⟩
  · rw [hA] at hbk
    have HE : Hid (lineF sec (bts s) = (true, false, true)) := hide (by unfold lineF; rw [if_pos hA])
    clear hA hl
    go_enter Tryd.func28, Tryd.ntmps28
    go_wp2_with (go_at_call 23; refine (hbk _).mono ?_; rintro e w' ⟨rfl, hw'⟩; obtain rfl := hw'.symm)
    go_ret3
    exact ⟨by rw [HE.out]; rfl, Below.refl _ _⟩

set_option maxRecDepth 100000 in
set_option maxHeartbeats 1000000 in
theorem begun_any (sec : Nat) (s : ByteArray) (w : World) (hs : s.size ≤ 1048640) (hsec : sec ≤ 5) : Calls Tryd.prog 27 #[.int .i64 sec, .string s] w fun e w' => e = .returned (.bool (lineF sec (bts s)).2.2) ∧ Below w.heap.size w w' := by
  have hli := fun W => line_any sec s W hs hsec
  generalize lineF sec (bts s) = v at *
  obtain ⟨a, b, c⟩ := v
  go_enter Tryd.func27, Tryd.ntmps27
  go_wp2_with (go_at_call 28; refine (hli _).mono ?_; rintro e w' ⟨rfl, hd⟩)
  go_ret
  exact ⟨rfl, hd⟩
end Go.Proofs.YtgifamdoolcemaaDoor
