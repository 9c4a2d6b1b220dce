import Derived.Test.YtgifamdoolcemaaDoorRb
namespace Go.Proofs.YtgifamdoolcemaaDoor
open Go.RowKit Go.Maps

def opF (l : List Nat) : Bool × Bool :=
  if nmF l = true then (false, true)
  else if 2 ≤ l.length ∧ l.getD (l.length - 1) 0 = 58 then (false, nmF (l.take (l.length - 1)))
  else
    let whole := decide (3 ≤ l.length ∧ l.getD (l.length - 2) 0 = 58 ∧ (l.getD (l.length - 1) 0 = 48 ∨ l.getD (l.length - 1) 0 = 49)) && nmF (l.take (l.length - 2))
    (whole, whole)
def fieldF (sec : Nat) (l : List Nat) : Bool × Bool := if sec = 0 then opF l else (nmF l, nmF l)

theorem idx_sub (s : ByteArray) (k : Nat) (h0 : 0 < k) (h : k ≤ s.size) (W : World) : (Instr.index 9 (.string s) (.int .i64 ((s.size : Int) - (k : Int)))).run Tryd.prog W = .ok (.int .u8 ((bts s).getD (s.size - k) 0 : Nat)) W := by
  have e : (s.size : Int) - (k : Int) = ((s.size - k : Nat) : Int) := by omega
  have hl : s.size - k < (bts s).length := by rw [bts_len]; omega
  rw [e, idx_b s (s.size - k) (by omega) W]
  simp [List.getD_eq_getElem?_getD, List.getElem?_eq_getElem hl]

set_option maxRecDepth 100000 in
set_option maxHeartbeats 1000000 in
theorem op_any (s : ByteArray) (w : World) (hs : s.size ≤ 4194304) : Calls Tryd.prog 44 #[.string s] w fun e w' => e = .returned (.tuple #[.bool (opF (bts s)).1, .bool (opF (bts s)).2]) ∧ w' = w := by
  have hl := bts_len s
  have hnm := name_any s
  cases hA : nmF (bts s)
  · rw [hA] at hnm
    by_cases h2 : 2 ≤ s.size ∧ (bts s).getD (s.size - 1) 0 = 58
    · have HE : Hid (opF (bts s) = (false, nmF ((bts s).take (s.size - 1)))) := hide (by unfold opF; rw [hA, if_neg Bool.false_ne_true, hl, if_pos h2])
      have hix := idx_sub s 1 (by omega) (by omega)
      rw [h2.2] at hix
      have hix' : ∀ W : World, (Instr.index 9 (.string s) (.int .i64 ((s.size : Int) - 1))).run Tryd.prog W = .ok (.int .u8 58) W := hix
      have i1 : (s.size : Int) ≥ 2 := by omega
      have i2 : decide (2 ≤ s.size) = true := decide_eq_true h2.1
      have i3 : (0 : Int) ≤ (s.size : Int) - 1 := by omega
      have i4 : (s.size : Int) - 1 ≤ (s.size : Int) := by omega
      have e1 : ((s.size : Int) - 1).toNat = s.size - 1 := by omega
      have hn2 := name_any (s.extract 0 (s.size - 1))
      rw [bts_take] at hn2
      generalize nmF ((bts s).take (s.size - 1)) = f at *
      clear hA h2 hix hl
      go_enter Tryd.func44, Tryd.ntmps44
      go_wp2_with fail
      refine (hnm _).mono ?_
      rintro e w' ⟨rfl, hw⟩
      obtain rfl := hw.symm
      go_wp2_with fail
      refine (hn2 _).mono ?_
      rintro e w' ⟨rfl, hw⟩
      obtain rfl := hw.symm
      go_wp2
      go_ret2
      exact ⟨by rw [HE.out]; first | rfl | simp, rfl⟩
    · have hW : opF (bts s) = (decide (3 ≤ s.size ∧ (bts s).getD (s.size - 2) 0 = 58 ∧ ((bts s).getD (s.size - 1) 0 = 48 ∨ (bts s).getD (s.size - 1) 0 = 49)) && nmF ((bts s).take (s.size - 2)), decide (3 ≤ s.size ∧ (bts s).getD (s.size - 2) 0 = 58 ∧ ((bts s).getD (s.size - 1) 0 = 48 ∨ (bts s).getD (s.size - 1) 0 = 49)) && nmF ((bts s).take (s.size - 2))) := by
        unfold opF
        rw [hA, if_neg Bool.false_ne_true, hl, if_neg h2]
      have hno : ¬ (3 ≤ s.size ∧ (bts s).getD (s.size - 2) 0 = 58 ∧ ((bts s).getD (s.size - 1) 0 = 48 ∨ (bts s).getD (s.size - 1) 0 = 49)) → opF (bts s) = (false, false) := fun h => by rw [hW, decide_eq_false h]; rfl
      by_cases h3 : s.size < 2
      · have HE := hide (hno (fun h => by omega))
        have i1 : ¬ (s.size : Int) ≥ 2 := by omega
        have i2 : decide (2 ≤ s.size) = false := decide_eq_false (by omega)
        have i3 : ¬ (s.size : Int) ≥ 3 := by omega
        have i4 : decide (3 ≤ s.size) = false := decide_eq_false (by omega)
        clear hA hW hno h2 hl
        go_enter Tryd.func44, Tryd.ntmps44
        go_wp2_with fail
        refine (hnm _).mono ?_
        rintro e w' ⟨rfl, hw⟩
        obtain rfl := hw.symm
        go_wp2
        go_ret2
        exact ⟨by rw [HE.out]; first | rfl | simp, rfl⟩
      · have hix := idx_sub s 1 (by omega) (by omega)
        obtain ⟨b, hb⟩ : ∃ b, (bts s).getD (s.size - 1) 0 = b := ⟨_, rfl⟩
        rw [hb] at hix hno hW h2
        have hix' : ∀ W : World, (Instr.index 9 (.string s) (.int .i64 ((s.size : Int) - 1))).run Tryd.prog W = .ok (.int .u8 (b : Nat)) W := hix
        have i1 : (s.size : Int) ≥ 2 := by omega
        have i2 : decide (2 ≤ s.size) = true := decide_eq_true (by omega)
        have b58 : ((b : Int) == 58) = false := by rw [beq_eq_false_iff_ne]; intro e; exact h2 ⟨by omega, by omega⟩
        by_cases h4 : s.size < 3
        · have HE := hide (hno (fun h => by omega))
          have i3 : ¬ (s.size : Int) ≥ 3 := by omega
          have i4 : decide (3 ≤ s.size) = false := decide_eq_false (by omega)
          clear hA hW hno h2 hl hix hb
          go_enter Tryd.func44, Tryd.ntmps44
          go_wp2_with fail
          refine (hnm _).mono ?_
          rintro e w' ⟨rfl, hw⟩
          obtain rfl := hw.symm
          go_wp2
          go_ret2
          exact ⟨by rw [HE.out]; first | rfl | simp, rfl⟩
        · have hixa := idx_sub s 2 (by omega) (by omega)
          obtain ⟨a, ha⟩ : ∃ a, (bts s).getD (s.size - 2) 0 = a := ⟨_, rfl⟩
          rw [ha] at hixa hno hW
          have hixa' : ∀ W : World, (Instr.index 9 (.string s) (.int .i64 ((s.size : Int) - 2))).run Tryd.prog W = .ok (.int .u8 (a : Nat)) W := hixa
          have i3 : (s.size : Int) ≥ 3 := by omega
          have i4 : decide (3 ≤ s.size) = true := decide_eq_true (by omega)
          by_cases h5 : a = 58
          · have a58 : ((a : Int) == 58) = true := by rw [beq_iff_eq]; omega
            have i5 : (0 : Int) ≤ (s.size : Int) - 2 := by omega
            have i6 : (s.size : Int) - 2 ≤ (s.size : Int) := by omega
            have e1 : ((s.size : Int) - 2).toNat = s.size - 2 := by omega
            have hn2 := name_any (s.extract 0 (s.size - 2))
            rw [bts_take] at hn2
            by_cases h6 : b = 48
            · have b48 : ((b : Int) == 48) = true := by rw [beq_iff_eq]; omega
              have HE := hide hW
              rw [decide_eq_true (p := 3 ≤ s.size ∧ a = 58 ∧ (b = 48 ∨ b = 49)) ⟨by omega, h5, .inl h6⟩, Bool.true_and] at HE
              generalize nmF ((bts s).take (s.size - 2)) = f at *
              clear hA hW hno h2 hl hix hb ha h5 h6 hixa
              go_enter Tryd.func44, Tryd.ntmps44
              go_wp2_with fail
              refine (hnm _).mono ?_
              rintro e w' ⟨rfl, hw⟩
              obtain rfl := hw.symm
              go_wp2_with fail
              refine (hn2 _).mono ?_
              rintro e w' ⟨rfl, hw⟩
              obtain rfl := hw.symm
              go_wp2
              go_ret2
              exact ⟨by rw [HE.out]; first | rfl | simp, rfl⟩
            · have b48 : ((b : Int) == 48) = false := by rw [beq_eq_false_iff_ne]; omega
              by_cases h7 : b = 49
              · have b49 : ((b : Int) == 49) = true := by rw [beq_iff_eq]; omega
                have HE := hide hW
                rw [decide_eq_true (p := 3 ≤ s.size ∧ a = 58 ∧ (b = 48 ∨ b = 49)) ⟨by omega, h5, .inr h7⟩, Bool.true_and] at HE
                generalize nmF ((bts s).take (s.size - 2)) = f at *
                clear hA hW hno h2 hl hix hb ha h5 h6 h7 hixa
                go_enter Tryd.func44, Tryd.ntmps44
                go_wp2_with fail
                refine (hnm _).mono ?_
                rintro e w' ⟨rfl, hw⟩
                obtain rfl := hw.symm
                go_wp2_with fail
                refine (hn2 _).mono ?_
                rintro e w' ⟨rfl, hw⟩
                obtain rfl := hw.symm
                go_wp2
                go_ret2
                exact ⟨by rw [HE.out]; first | rfl | simp, rfl⟩
              · have b49 : ((b : Int) == 49) = false := by rw [beq_eq_false_iff_ne]; omega
                have HE := hide (hno (fun h => by omega))
                clear hA hW hno h2 hl hix hb ha h5 h6 h7 hixa hn2
                go_enter Tryd.func44, Tryd.ntmps44
                go_wp2_with fail
                refine (hnm _).mono ?_
                rintro e w' ⟨rfl, hw⟩
                obtain rfl := hw.symm
                go_wp2
                go_ret2
                exact ⟨by rw [HE.out]; first | rfl | simp, rfl⟩
          · have a58 : ((a : Int) == 58) = false := by rw [beq_eq_false_iff_ne]; omega
            have HE := hide (hno (fun h => by omega))
            clear hA hW hno h2 hl hix hb ha h5 hixa
            go_enter Tryd.func44, Tryd.ntmps44
            go_wp2_with fail
            refine (hnm _).mono ?_
            rintro e w' ⟨rfl, hw⟩
            obtain rfl := hw.symm
            go_wp2
            go_ret2
            exact ⟨by rw [HE.out]; first | rfl | simp, rfl⟩
  · rw [hA] at hnm
    have HE : Hid (opF (bts s) = (false, true)) := hide (by unfold opF; rw [hA, if_pos rfl])
    clear hA hl
    go_enter Tryd.func44, Tryd.ntmps44
    go_wp2_with fail
    refine (hnm _).mono ?_
    rintro e w' ⟨rfl, hw⟩
    obtain rfl := hw.symm
    go_wp2
    go_ret2
    exact ⟨by rw [HE.out]; rfl, rfl⟩

set_option maxRecDepth 100000 in
set_option maxHeartbeats 1000000 in
theorem field_any (sec : Nat) (s : ByteArray) (w : World) (hs : s.size ≤ 4194304) : Calls Tryd.prog 42 #[.int .i64 sec, .string s] w fun e w' => e = .returned (.tuple #[.bool (fieldF sec (bts s)).1, .bool (fieldF sec (bts s)).2]) ∧ w' = w := by
  by_cases h : sec = 0
  · have hop := op_any s w hs
    have HE : Hid (fieldF sec (bts s) = opF (bts s)) := hide (by unfold fieldF; rw [if_pos h])
    have i0 : ((sec : Int) == 0) = true := by rw [beq_iff_eq]; omega
    obtain ⟨a, b⟩ := opF (bts s)
    clear h
    go_enter Tryd.func42, Tryd.ntmps42
    go_wp2_with fail
    refine hop.mono ?_
    rintro e w' ⟨rfl, hw⟩
    obtain rfl := hw.symm
    go_wp2
    go_ret2
    exact ⟨by rw [HE.out]; rfl, rfl⟩
  · have hnm := name_any s w
    have HE : Hid (fieldF sec (bts s) = (nmF (bts s), nmF (bts s))) := hide (by unfold fieldF; rw [if_neg h])
    have i0 : ((sec : Int) == 0) = false := by rw [beq_eq_false_iff_ne]; omega
    generalize nmF (bts s) = a at *
    clear h
    go_enter Tryd.func42, Tryd.ntmps42
    go_wp2_with (go_at_call 40; refine hnm.mono ?_; rintro e w' ⟨rfl, hw⟩; obtain rfl := hw.symm)
    go_ret2
    exact ⟨by rw [HE.out]; rfl, rfl⟩
end Go.Proofs.YtgifamdoolcemaaDoor
