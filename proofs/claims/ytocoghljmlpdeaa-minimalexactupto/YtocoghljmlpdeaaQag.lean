import Derived.Test.YtocoghljmlpdeaaQaf
namespace Go.Proofs.Ytocoghljmlpdeaa
open Go.RowKit Go.Maps
attribute [local go_sem] Oper.semAt_some
/-! ### The walk over classes -/
set_option maxRecDepth 100000 in
set_option maxHeartbeats 8000000 in
theorem run_lst (B : Nat) (w : World) (N M bn gn q0 : Nat) (ba bt : Nat) (φ : Nat → Nat → Nat) (hn : NuS B w N bn gn (.slice none 0 0) []) (hq : q0 < N) (hφ : ∀ s a, s < N → a < M → φ s a < N) (hN : N ≤ 4194304) (hM : M ≤ 4194304) (hB : B ≤ w.heap.size)
    (hf : ∀ W, Below B w W → ∀ s a, s < N → a < M → Calls Try.prog 53 #[.int .i64 (s : Int), .int .i64 (a : Int), .pointer (some ⟨ba, 0, none⟩), .pointer (some ⟨bt, 0, none⟩)] W fun e w' => e = .returned (.int .i64 ((φ s a : Nat) : Int)) ∧ Below W.heap.size W w') :
    Calls Try.prog 56 #[.agg #[.int .i64 (M : Int), .func (.func 53) #[] #[.pointer (some ⟨ba, 0, none⟩), .pointer (some ⟨bt, 0, none⟩)], .func (.func 55) #[] #[.pointer (some ⟨bn, 0, none⟩)]], .int .i64 (q0 : Int)] w fun e w' => ∃ vS vT T K, e = .returned (.tuple #[vS, .bool false]) ∧ Hid (NuS B w' N bn gn vT T ∧ OwS w' B vS (stepsOf M K) ∧ Wk φ M q0 T K (T.length * M) ∧ Cv φ M T K (T.length * M) ∧ Below B w w') := by
  obtain ⟨W0, hW0⟩ : ∃ W0, ((w.alloc (.cells #[.int .i64 (M : Int), .func (.func 53) #[] #[.pointer (some ⟨ba, 0, none⟩), .pointer (some ⟨bt, 0, none⟩)], .func (.func 55) #[] #[.pointer (some ⟨bn, 0, none⟩)]] 83)).alloc (.cells #[.slice none 0 0] 22)).alloc (.cells #[.slice none 0 0] 53) = W0 := ⟨_, rfl⟩
  have I0 : RuS B W0 N M w.heap.size (w.heap.size + 1) (w.heap.size + 2) bn gn (.func (.func 53) #[] #[.pointer (some ⟨ba, 0, none⟩), .pointer (some ⟨bt, 0, none⟩)]) (.slice none 0 0) (.slice none 0 0) (.slice none 0 0) [] [] ∧ Below w.heap.size w W0 := by
    obtain ⟨d, e1, e2, e3⟩ := three_al w #[.int .i64 (M : Int), .func (.func 53) #[] #[.pointer (some ⟨ba, 0, none⟩), .pointer (some ⟨bt, 0, none⟩)], .func (.func 55) #[] #[.pointer (some ⟨bn, 0, none⟩)]] #[.slice none 0 0] #[.slice none 0 0] 83 22 53
    rw [hW0] at d e1 e2 e3
    exact ⟨⟨hn.on d, e1, e2, e3, owI_nil _ _, owS_nil _ _, (fun k hk => by cases hk), (by intro e; cases e), hB, by omega, by omega, rfl⟩, d⟩
  have HI := hide I0
  have HF := hide hf
  have HP := hide hφ
  clear hn hf I0 hφ
  go_enter Try.func56, Try.ntmps56
  go_upto_region 4 with fail
  obtain ⟨wb, hwb⟩ : ∃ b, w.heap.size = b := ⟨_, rfl⟩
  rw [hwb] at HI
  rw [hwb]
  have hW0B : B ≤ W0.heap.size := by have := HI.out.2.size; omega
  have TE := endsI_new B W0 N M wb (wb + 1) (wb + 2) bn gn _ _ _ _ [] [] HI.out.1 q0 (-1) 0 hq (by simp) hN hW0B
  go_upto_region 6 with (go_at_call 69; refine TE.mono ?_; rintro e w1 ⟨rfl, vM1, vS1, vT1, H1⟩)
  have D0 : Below B w W0 := HI.out.2.mono (by omega)
  have J0 : Hid (RuS B w1 N M wb (wb + 1) (wb + 2) bn gn (.func (.func 53) #[] #[.pointer (some ⟨ba, 0, none⟩), .pointer (some ⟨bt, 0, none⟩)]) vM1 vS1 vT1 [q0] (stepsOf M []) ∧ Wk φ M q0 [q0] [] (0 * M) ∧ Cv φ M [q0] [] (0 * M) ∧ Below B w w1) := hide ⟨H1.out.1, by rw [Nat.zero_mul]; exact Wk.one _ _ _, by rw [Nat.zero_mul]; exact Cv.nil _ _ _ _, D0.trans H1.out.2⟩
  clear TE H1 HI hW0 D0 hW0B
  go_wp2_with fail
  go_loopw [9] (fun iv wr => ∃ n : Nat, iv = .int .i64 (n : Int) ∧ ∃ vM vS vT T K, n ≤ T.length ∧ Hid (RuS B wr N M wb (wb + 1) (wb + 2) bn gn (.func (.func 53) #[] #[.pointer (some ⟨ba, 0, none⟩), .pointer (some ⟨bt, 0, none⟩)]) vM vS vT T (stepsOf M K) ∧ Wk φ M q0 T K (n * M) ∧ Cv φ M T K (n * M) ∧ Below B w wr)) (fun iv _ => N - (intOf iv).toNat)
  case atStart => exact ⟨0, rfl, vM1, vS1, vT1, [q0], [], Nat.zero_le _, J0⟩
  case round =>
    obtain ⟨n, rfl, vM, vS, vT, T, K, hn, HY⟩ := hrel
    obtain ⟨t0, k0, rfl⟩ := own_slice HY.out.1.rM
    have c3 : wr.cell? ⟨wb + 1, 0, none⟩ = some (.slice t0 (natI T).length k0) := cell_of HY.out.1.bm rfl
    rw [natI_len] at c3
    have hTN := nodup_le HY.out.1.nu.nd HY.out.1.nu.lt
    by_cases hlt : n < T.length
    · have l0 : (n : Int) < (T.length : Int) := by omega
      have c0 : wr.cell? ⟨wb, 0, none⟩ = some (.int .i64 (M : Int)) := cell_of HY.out.1.bw rfl
      obtain ⟨L, hL⟩ : ∃ L, T.length = L := ⟨_, rfl⟩
      have J1 : Hid (n < T.length ∧ RuS B wr N M wb (wb + 1) (wb + 2) bn gn (.func (.func 53) #[] #[.pointer (some ⟨ba, 0, none⟩), .pointer (some ⟨bt, 0, none⟩)]) (.slice t0 (natI T).length k0) vS vT T (stepsOf M K) ∧ Wk φ M q0 T K (n * M + 0) ∧ Cv φ M T K (n * M + 0) ∧ Below B w wr) := hide ⟨hlt, HY.out.1, HY.out.2.1, HY.out.2.2.1, HY.out.2.2.2⟩
      have hnN : n < N := by omega
      rw [hL] at c3 l0
      rename World => wo
      clear HY J0 hn hlt
      go_wp2_with fail
      clear c3 c0 hL hTN
      go_loopw [25] (fun iv wx => ∃ a : Nat, a ≤ M ∧ iv = .int .i64 (a : Int) ∧ ∃ vM vS vT T K, Hid (n < T.length ∧ RuS B wx N M wb (wb + 1) (wb + 2) bn gn (.func (.func 53) #[] #[.pointer (some ⟨ba, 0, none⟩), .pointer (some ⟨bt, 0, none⟩)]) vM vS vT T (stepsOf M K) ∧ Wk φ M q0 T K (n * M + a) ∧ Cv φ M T K (n * M + a) ∧ Below B w wx)) (fun iv _ => M - (intOf iv).toNat)
      case atStart => exact ⟨0, Nat.zero_le _, rfl, _, vS, vT, T, K, J1⟩
      case round =>
        clear J1
        obtain ⟨a, ha, rfl, vM, vS, vT, T, K, HZ⟩ := hrel
        by_cases hla : a < M
        · have l1 : (a : Int) < (M : Int) := by omega
          obtain ⟨hnT, hR, hK, hC, hD⟩ := HZ.out
          obtain ⟨t1, k1, rfl⟩ := own_slice hR.rM
          have hTN := nodup_le hR.nu.nd hR.nu.lt
          obtain ⟨x, hx⟩ : ∃ x, T[n] = x := ⟨_, rfl⟩
          have hxN : x < N := by rw [← hx]; exact hR.nu.lt _ (List.getElem_mem hnT)
          have hnl := natI_len T
          obtain ⟨em, hrd⟩ := owI_rd hR.rM
          obtain ⟨gM, oM, et, r1⟩ := hrd n (by omega)
          subst et
          have ex : (natI T)[n]'(by omega) = (x : Int) := by simp [natI, hx]
          rw [ex] at r1
          have d1 : (n * M + a) / M = n := by rw [Nat.mul_comm, Nat.mul_add_div (by omega), Nat.div_eq_of_lt hla]; omega
          have d2 : (n * M + a) % M = a := by rw [Nat.mul_comm, Nat.mul_add_mod, Nat.mod_eq_of_lt hla]
          have hxx : T[(n * M + a) / M]? = some x := by rw [d1, List.getElem?_eq_getElem hnT, hx]
          have hBx := hD.size
          have c1 : wr.cell? ⟨wb, 1, none⟩ = some (.func (.func 53) #[] #[.pointer (some ⟨ba, 0, none⟩), .pointer (some ⟨bt, 0, none⟩)]) := cell_of hR.bw rfl
          have c3 : wr.cell? ⟨wb + 1, 0, none⟩ = some (.slice (some ⟨gM, oM, none⟩) (natI T).length k1) := cell_of hR.bm rfl
          rw [hnl] at c3
          obtain ⟨L, hL⟩ : ∃ L, T.length = L := ⟨_, rfl⟩
          have n0 : (0 : Int) ≤ (n : Int) := by omega
          have n1 : (n : Int) < (L : Int) := by omega
          rw [hL] at c3
          have HX := hide (And.intro hnT (And.intro hK (And.intro hC (And.intro hD (And.intro hxx (And.intro d1 d2))))))
          have hy := HP.out x a hxN hla
          have SK : Hid (∀ W, Below wr.heap.size wr W → (W.cell? ⟨wb, 1, none⟩ = some (.func (.func 53) #[] #[.pointer (some ⟨ba, 0, none⟩), .pointer (some ⟨bt, 0, none⟩)]) ∧ W.cell? ⟨wb + 1, 0, none⟩ = some (.slice (some ⟨gM, oM, none⟩) L k1) ∧ W.cell? ⟨gM, oM + n, none⟩ = some (.int .i64 (x : Int))) ∧ RuS B W N M wb (wb + 1) (wb + 2) bn gn (.func (.func 53) #[] #[.pointer (some ⟨ba, 0, none⟩), .pointer (some ⟨bt, 0, none⟩)]) (.slice (some ⟨gM, oM, none⟩) (natI T).length k1) vS vT T (stepsOf M K)) := hide (fun W d => ⟨⟨(d.cell (p := ⟨wb, 1, none⟩) (World.block_lt_of_cell? wr _ c1)).trans c1, (d.cell (p := ⟨wb + 1, 0, none⟩) (World.block_lt_of_cell? wr _ c3)).trans c3, (d.cell (p := ⟨gM, oM + n, none⟩) (World.block_lt_of_cell? wr _ r1)).trans r1⟩, hR.on d⟩)
          have T1 : Hid (∀ W, Below B w W → Calls Try.prog 53 #[.int .i64 (x : Int), .int .i64 (a : Int), .pointer (some ⟨ba, 0, none⟩), .pointer (some ⟨bt, 0, none⟩)] W fun e w' => e = .returned (.int .i64 ((φ x a : Nat) : Int)) ∧ Below W.heap.size W w') := hide (fun W d => HF.out W d x a hxN hla)
          clear hnT hK hC hxx d1 d2 hR HZ hL ex em hnl hrd hx
          obtain ⟨y, hyx⟩ : ∃ y, φ x a = y := ⟨_, rfl⟩
          rw [hyx] at hy T1
          have HYX := hide hyx
          clear hyx
          have hBw : B ≤ wr.heap.size := by omega
          have g1 := fun d os => gw_cell c1 d os
          have g2 := fun d os => gw_cell c3 d os
          have g3 := fun d os => gw_cell r1 d os
          go_upto_region 12 with fail
          go_cut [40] from 27 to 40 (fun p40 W => p40 = .bool false ∧ ∃ vM vS vT T K, Hid (n < T.length ∧ RuS B W N M wb (wb + 1) (wb + 2) bn gn (.func (.func 53) #[] #[.pointer (some ⟨ba, 0, none⟩), .pointer (some ⟨bt, 0, none⟩)]) vM vS vT T (stepsOf M K) ∧ Wk φ M q0 T K (n * M + (a + 1)) ∧ Cv φ M T K (n * M + (a + 1)) ∧ Below B w W))
          case first =>
            have hnT := HX.out.1
            have hDw := HX.out.2.2.2.1
            by_cases hm : y ∈ T
            · refine wp_region_phg 12 #[true, true, true, true, true, true, true, true, true, true, true, true, false] (by kernel_rfl) ?_
              simp only [List.take_succ_cons, List.take_zero, List.drop_succ_cons, List.drop_zero]
              repeat (go_big_quiet_step ((go_at_call 53; exact calls_gw (T1.out _ (hDw.trans ((gw_below wr _ _).mono hBw))))))
              refine wpQuiet_nil ?_
              intro w2 hw2
              obtain ⟨⟨dq, osq⟩, hw2⟩ := hw2
              have d2' : Below wr.heap.size wr w2 := by rw [hw2]; exact gw_below _ _ _
              have HR2 := hide (And.intro (SK.out w2 d2').2 d2')
              clear d2' hw2
              have TE := endsI_old B w2 N M wb (wb + 1) (wb + 2) bn gn _ _ _ _ _ _ HR2.out.1 y (n : Int) (a : Int) hy hm
              go_wp2_with (go_at_call 69; refine TE.mono ?_; rintro e w3 ⟨rfl, d3⟩; have d3' := HR2.out.2.trans (d3.mono HR2.out.2.size); have HR3 := hide (And.intro (SK.out w3 d3').2 d3'); clear d3 d3')
              all_goals
                go_meet
                refine ⟨rfl, _, vS, vT, T, K, hide ⟨hnT, HR3.out.1, HX.out.2.1.more (by omega), HX.out.2.2.1.old HX.out.2.1 HX.out.2.2.2.2.1 (by rw [HX.out.2.2.2.2.2.2, HYX.out]; exact hm), hDw.trans (HR3.out.2.mono hBw)⟩⟩
            · refine wp_region_phg 12 #[true, true, true, true, true, true, true, true, true, true, true, true, false] (by kernel_rfl) ?_
              simp only [List.take_succ_cons, List.take_zero, List.drop_succ_cons, List.drop_zero]
              repeat (go_big_quiet_step ((go_at_call 53; exact calls_gw (T1.out _ (hDw.trans ((gw_below wr _ _).mono hBw))))))
              refine wpQuiet_nil ?_
              intro w2 hw2
              obtain ⟨⟨dq, osq⟩, hw2⟩ := hw2
              have d2' : Below wr.heap.size wr w2 := by rw [hw2]; exact gw_below _ _ _
              have HR2 := hide (And.intro (SK.out w2 d2').2 d2')
              clear d2' hw2
              have TE := endsI_new B w2 N M wb (wb + 1) (wb + 2) bn gn _ _ _ _ _ _ HR2.out.1 y (n : Int) (a : Int) hy hm hN (Nat.le_trans hBw HR2.out.2.size)
              go_wp2_with (go_at_call 69; refine TE.mono ?_; rintro e w3 ⟨rfl, vM3, vS3, vT3, HR3⟩)
              all_goals
                go_meet
                refine ⟨rfl, vM3, vS3, vT3, T ++ [y], K ++ [n * M + a], hide ⟨by rw [List.length_append]; omega, ?_, ?_, ?_, (hDw.trans (HR2.out.2.mono hBw)).trans HR3.out.2⟩⟩
                · rw [stepsOf_snoc, HX.out.2.2.2.2.2.1, HX.out.2.2.2.2.2.2]
                  exact HR3.out.1
                · have q := HX.out.2.1.put HX.out.2.2.2.2.1
                  rw [HX.out.2.2.2.2.2.2, HYX.out] at q
                  exact q
                · have q := HX.out.2.2.1.put HX.out.2.1 HX.out.2.2.2.2.1
                  rw [HX.out.2.2.2.2.2.2, HYX.out] at q
                  exact q
          case rest =>
            obtain ⟨rfl, vM', vS', vT', T', K', HZ⟩ := hcut
            rename World => wz
            go_wp2_with fail
            go_roundw
            case rel => exact ⟨a + 1, by omega, by go_num, vM', vS', vT', T', K', HZ⟩
            case measure => simp [intOf]; omega
        · have l1 : ¬ (a : Int) < (M : Int) := by omega
          obtain rfl : a = M := by omega
          have hTN := nodup_le HZ.out.2.1.nu.nd HZ.out.2.1.nu.lt
          have hnT := HZ.out.1
          go_wp2_with fail
          go_roundw
          case rel => exact ⟨n + 1, by go_num, vM, vS, vT, T, K, by omega, hide ⟨HZ.out.2.1, by rw [Nat.succ_mul]; exact HZ.out.2.2.1, by rw [Nat.succ_mul]; exact HZ.out.2.2.2.1, HZ.out.2.2.2.2⟩⟩
          case measure => simp [intOf]; omega
    · have l0 : ¬ (n : Int) < (T.length : Int) := by omega
      obtain rfl : n = T.length := by omega
      have c4 : wr.cell? ⟨wb + 2, 0, none⟩ = some vS := cell_of HY.out.1.bs rfl
      clear J0 hn hlt
      go_wp2_with fail
      go_ret2
      exact ⟨vS, rfl, vT, T, K, hide ⟨HY.out.1.nu, HY.out.1.rS, HY.out.2.1, HY.out.2.2.1, HY.out.2.2.2⟩⟩
/-! ### number over classes -/
set_option maxRecDepth 100000 in
set_option maxHeartbeats 4000000 in
theorem number_lst (w : World) (N M q0 : Nat) (ba bt : Nat) (φ : Nat → Nat → Nat) (hq : q0 < N) (hφ : ∀ s a, s < N → a < M → φ s a < N) (h1 : 1 ≤ N) (hN : N ≤ 4194304) (hM : M ≤ 4194304)
    (hf : ∀ W, Below w.heap.size w W → ∀ s a, s < N → a < M → Calls Try.prog 53 #[.int .i64 (s : Int), .int .i64 (a : Int), .pointer (some ⟨ba, 0, none⟩), .pointer (some ⟨bt, 0, none⟩)] W fun e w' => e = .returned (.int .i64 ((φ s a : Nat) : Int)) ∧ Below W.heap.size W w') :
    Calls Try.prog 33 #[.int .i64 (N : Int), .int .i64 (M : Int), .int .i64 (q0 : Int), .func (.func 53) #[] #[.pointer (some ⟨ba, 0, none⟩), .pointer (some ⟨bt, 0, none⟩)]] w (NumA w N M q0 φ) := by
  obtain ⟨i9, hi9, hz90, hz91, hz92⟩ := info_parts info3
  obtain ⟨W1, hW1⟩ : ∃ W1, (w.alloc (.cells #[.slice none 0 0, .slice none 0 0, .slice none 0 0] 55)).alloc (.cells #[.int .i64 (-1)] 3) = W1 := ⟨_, rfl⟩
  have HD := hide (two_al w #[.slice none 0 0, .slice none 0 0, .slice none 0 0] #[.int .i64 (-1)] 55 3)
  rw [hW1] at HD
  have TR := repeat_any W1 (w.heap.size + 1) N HD.out.2.2.1 h1 hN
  have HF := hide hf
  have HP := hide hφ
  clear hf hφ
  go_enter Try.func33, Try.ntmps33
  go_upto_region 2 with (go_at_call 54; refine TR.mono ?_; rintro e w2 ⟨gn, rfl, HR⟩)
  obtain ⟨bn, hbn⟩ : ∃ b, w2.heap.size = b := ⟨_, rfl⟩
  obtain ⟨W4, hW4⟩ : ∃ W4, (w2.alloc (.cells #[.slice none 0 0, .slice (some ⟨gn, 0, none⟩) N N, .slice none 0 0] 55)).alloc (.cells #[.int .i64 (M : Int), .func (.func 53) #[] #[.pointer (some ⟨ba, 0, none⟩), .pointer (some ⟨bt, 0, none⟩)], .func (.func 55) #[] #[.pointer (some ⟨bn, 0, none⟩)]] 83) = W4 := ⟨_, rfl⟩
  have H4 := two_al w2 #[.slice none 0 0, .slice (some ⟨gn, 0, none⟩) N N, .slice none 0 0] #[.int .i64 (M : Int), .func (.func 53) #[] #[.pointer (some ⟨ba, 0, none⟩), .pointer (some ⟨bt, 0, none⟩)], .func (.func 55) #[] #[.pointer (some ⟨bn, 0, none⟩)]] 55 83
  rw [hW4, hbn] at H4
  have hs1 := HD.out.2.2.2
  have hs2 := HR.out.2.2.size
  have D2 := HD.out.1.trans (HR.out.2.2.mono HD.out.1.size)
  have NU : NuS (w.heap.size + 1) W4 N bn gn (.slice none 0 0) [] := ⟨H4.2.1, owI_nil _ _, (HR.out.2.1.below H4.1 (by rw [← hbn]; exact HR.out.2.1.lt)).congr (fun c _ => by simp [numF]), (by intro e; cases e), by omega, by have := HR.out.1; omega, List.nodup_nil, fun q hq => by cases hq⟩
  have D4 : Below w.heap.size w W4 := D2.trans (H4.1.mono (by omega))
  have c0 : W4.cell? ⟨bn + 1, 0, none⟩ = some (.int .i64 (M : Int)) := cell_of H4.2.2.1 rfl
  have c1 : W4.cell? ⟨bn + 1, 1, none⟩ = some (.func (.func 53) #[] #[.pointer (some ⟨ba, 0, none⟩), .pointer (some ⟨bt, 0, none⟩)]) := cell_of H4.2.2.1 rfl
  have c2 : W4.cell? ⟨bn + 1, 2, none⟩ = some (.func (.func 55) #[] #[.pointer (some ⟨bn, 0, none⟩)]) := cell_of H4.2.2.1 rfl
  have TN := run_lst (w.heap.size + 1) W4 N M bn gn q0 ba bt φ NU hq HP.out hN hM (by have := H4.1.size; omega) (fun W d s a hs ha => HF.out W (D4.trans (d.mono (by omega))) s a hs ha)
  have HB8 := hide (And.intro D4 (blk_on (blk_on HD.out.2.1 HR.out.2.2) (by rw [hbn]; exact H4.1)))
  clear H4 NU D2 D4 TR
  rw [hbn]
  go_upto_region 3 with fail
  go_upto_region 4 with (go_at_call 56; refine TN.mono ?_; rintro e w5 ⟨vS, vT, T, K, rfl, H5⟩; obtain ⟨tT, kT, rfl⟩ := own_slice H5.out.1.rT; obtain ⟨tS, kS, rfl⟩ := own_slice H5.out.2.1; have b5 := H5.out.1.bb; have x2 : w5.cell? ⟨bn, 2, none⟩ = some (.slice none 0 0) := cell_of b5 rfl; have f2 : w5.frozen? ⟨bn, 2, none⟩ = false := fz_of b5)
  obtain ⟨w6, hw6⟩ : ∃ w6, w5.setCell ⟨bn, 2, none⟩ (.slice tS (stepsOf M K).length kS) = w6 := ⟨_, rfl⟩
  have b6 : w6.heap[bn]? = some (.cells #[.slice tT (natI T).length kT, .slice (some ⟨gn, 0, none⟩) N N, .slice tS (stepsOf M K).length kS] 55 (0, 0)) := by rw [← hw6]; exact heap_setCell_same _ _ 2 _ 55 _ b5
  have O6 : Only w5 w6 (fun k => k = bn) := by rw [← hw6]; exact only_set _ _ _ _
  have F5 := (H5.out.2.2.2.2.block w.heap.size (by omega)).trans HB8.out.2
  have hbw : w.heap.size ≠ bn := by omega
  have F3 := (O6.block w.heap.size (Array.getElem?_eq_some_iff.1 F5).1 hbw).trans F5
  have o0 : w6.cell? ⟨w.heap.size, 0, none⟩ = some (.slice none 0 0) := cell_of F3 rfl
  have o1 : w6.cell? ⟨w.heap.size, 1, none⟩ = some (.slice none 0 0) := cell_of F3 rfl
  have o2 : w6.cell? ⟨w.heap.size, 2, none⟩ = some (.slice none 0 0) := cell_of F3 rfl
  have f0 : w6.frozen? ⟨w.heap.size, 0, none⟩ = false := fz_of F3
  have f1 : w6.frozen? ⟨w.heap.size, 1, none⟩ = false := fz_of F3
  have f2' : w6.frozen? ⟨w.heap.size, 2, none⟩ = false := fz_of F3
  have y0 : w6.cell? ⟨bn, 0, none⟩ = some (.slice tT (natI T).length kT) := cell_of b6 rfl
  have y1 : w6.cell? ⟨bn, 1, none⟩ = some (.slice (some ⟨gn, 0, none⟩) N N) := cell_of b6 rfl
  have y2 : w6.cell? ⟨bn, 2, none⟩ = some (.slice tS (stepsOf M K).length kS) := cell_of b6 rfl
  have O8 := hide (And.intro (set3 w6 w.heap.size _ _ _ (.slice tT (natI T).length kT) (.slice (some ⟨gn, 0, none⟩) N N) (.slice tS (stepsOf M K).length kS) 55 F3) (only3 w6 w.heap.size 0 1 2 (.slice tT (natI T).length kT) (.slice (some ⟨gn, 0, none⟩) N N) (.slice tS (stepsOf M K).length kS)))
  have HO6 := hide O6
  have hgw : w.heap.size + 1 ≤ gn := H5.out.1.lg
  have nb : ∀ k, (Value.slice tT (natI T).length kT).ownBlock = some k → k ≠ bn ∧ k ≠ w.heap.size := fun k hk => ⟨fun e => by subst e; exact row_tag H5.out.1.rT b5 (by decide) hk, fun e => by have := (H5.out.1.rT.lt k hk).1; omega⟩
  have nbS : ∀ k, (Value.slice tS (stepsOf M K).length kS).ownBlock = some k → k ≠ bn ∧ k ≠ w.heap.size := fun k hk => ⟨fun e => by subst e; exact row_tag H5.out.2.1 b5 (by decide) hk, fun e => by have := (H5.out.2.1.lt k hk).1; omega⟩
  have ngb : gn ≠ bn := by
    obtain ⟨cur, e3, _⟩ := H5.out.1.rN
    intro e
    rw [e, b5] at e3
    cases e3
  have HN := hide (And.intro nb (And.intro nbS ngb))
  clear F3 F5 O6 b6 b5 nb nbS ngb
  go_wp2_with fail
  refine bodyPost_ret (results_cell_row (p := 8) (ty := 55) rfl _ _ w.heap.size 55 _ (0, 0) _ rfl O8.out.1 Try.underlying55 rfl (by kernel_rfl)) rfl ?_
  obtain ⟨nb, nbS, ngb⟩ := HN.out
  have D5 : Below w.heap.size w w5 := HB8.out.1.trans (H5.out.2.2.2.2.mono (by omega))
  refine ⟨_, gn, _, T, K, rfl, ?_, ?_, ?_, by omega, H5.out.1.ne, H5.out.1.nd, H5.out.1.lt, H5.out.2.2.1, H5.out.2.2.2.1, ?_⟩
  · exact owns_down (row_only (row_only H5.out.1.rT HO6.out (fun k hk e => (nb k hk).1 e)) O8.out.2 (fun k hk e => (nb k hk).2 e)) (by omega)
  · exact (H5.out.1.rN.only HO6.out ngb).only O8.out.2 (by omega)
  · exact owns_down (row_only (row_only H5.out.2.1 HO6.out (fun k hk e => (nbS k hk).1 e)) O8.out.2 (fun k hk e => (nbS k hk).2 e)) (by omega)
  · exact (D5.trans (HO6.out.toBelow D5.size (fun k hk => by omega))).trans (O8.out.2.toBelow (Nat.le_trans D5.size HO6.out.size) (fun k hk => by omega))
/-! ### The least -/
def zbP (B : Nat) (t : TypeId) (C : Array Value) : MkP := fun x lo hi W => x = .pointer (some ⟨lo, 0, none⟩) ∧ B ≤ lo ∧ lo < hi ∧ W.heap[lo]? = some (.cells C t (0, 0))
theorem zbP_mono {B : Nat} {t : TypeId} {C : Array Value} : MonoP (zbP B t C) := fun _ _ _ _ _ hs d ⟨e, l, l2, z⟩ => ⟨e, l, l2, (d.block _ (by omega)).trans z⟩
def nuP (B N M q0 : Nat) (φ : Nat → Nat → Nat) : MkP := fun x _ _ W => ∃ vT gn vS T K, x = .agg #[vT, .slice (some ⟨gn, 0, none⟩) N N, vS] ∧ OwI W B vT (natI T) ∧ Mrw W gn 3 N (fun q => .int .i64 (numF T q)) N ∧ OwS W B vS (stepsOf M K) ∧ B ≤ gn ∧ T.Nodup ∧ (∀ q ∈ T, q < N) ∧ Wk φ M q0 T K (T.length * M) ∧ Cv φ M T K (T.length * M)
theorem nuP_mono {B N M q0 : Nat} {φ : Nat → Nat → Nat} : MonoP (nuP B N M q0 φ) := fun _ _ _ _ _ _ d ⟨vT, gn, vS, T, K, e, a, b, c, f⟩ => ⟨vT, gn, vS, T, K, e, own_below a d, b.below d b.lt, own_below c d, f⟩
/-- The numbers of those that take the empty word. -/
def lsF (fin : Nat → Bool) (T : List Nat) (i : Nat) : List Nat := (List.range i).filter (fun j => fin (T.getD j 0))
/-- The numbers of the followers of one. -/
def lsR (φ : Nat → Nat → Nat) (T : List Nat) (s a : Nat) : List Nat := (List.range a).map (fun c => T.idxOf (φ s c))
def lsN (φ : Nat → Nat → Nat) (M : Nat) (T : List Nat) (i : Nat) : List Nat := (T.take i).flatMap (fun s => lsR φ T s M)
theorem lsF_succ (fin : Nat → Bool) (T : List Nat) (i : Nat) (h : i < T.length) : lsF fin T (i + 1) = lsF fin T i ++ (if fin T[i] then [i] else []) := by
  unfold lsF
  rw [List.range_succ, List.filter_append]
  congr 1
  have e : T.getD i 0 = T[i] := by rw [List.getD_eq_getElem?_getD, List.getElem?_eq_getElem h, Option.getD_some]
  simp only [List.filter_cons, List.filter_nil, e]
theorem lsF_le (fin : Nat → Bool) (T : List Nat) (i : Nat) : (lsF fin T i).length ≤ i := Nat.le_trans (List.length_filter_le _ _) (by simp)
theorem lsR_succ (φ : Nat → Nat → Nat) (T : List Nat) (s a : Nat) : lsR φ T s (a + 1) = lsR φ T s a ++ [T.idxOf (φ s a)] := by
  unfold lsR
  rw [List.range_succ, List.map_append, List.map_singleton]
theorem lsN_succ (φ : Nat → Nat → Nat) (M : Nat) (T : List Nat) (i : Nat) (h : i < T.length) : lsN φ M T (i + 1) = lsN φ M T i ++ lsR φ T T[i] M := by
  unfold lsN
  rw [List.take_add_one, List.getElem?_eq_getElem h, List.flatMap_append]
  simp
theorem lsN_len (φ : Nat → Nat → Nat) (M : Nat) (T : List Nat) (i : Nat) (h : i ≤ T.length) : (lsN φ M T i).length = i * M := by
  induction i with
  | zero => simp [lsN]
  | succ i ih =>
    rw [lsN_succ φ M T i (by omega), List.length_append, ih (by omega), Nat.succ_mul]
    simp [lsR]
/-- What is reached is closed. -/
theorem cv_in {φ : Nat → Nat → Nat} {M : Nat} {T K : List Nat} (h : Cv φ M T K (T.length * M)) {i a : Nat} (hi : i < T.length) (ha : a < M) : φ T[i] a ∈ T := by
  obtain ⟨j, hj, _⟩ := h (i * M + a) (place_lt hi ha) T[i] (by rw [div_place ha]; exact List.getElem?_eq_getElem hi)
  rw [mod_place ha] at hj
  exact List.mem_of_getElem? hj
/-- The least one while it grows. -/
structure LS (bm nT M : Nat) (w0 W : World) (vF vN : Value) (XF XN : List Int) : Prop where
  bx : W.heap[bm]? = some (.cells #[.int .i64 (nT : Int), .int .i64 (M : Int), .int .i64 0, vF, vN] 24 (0, 0))
  f : OwI W bm vF XF
  n : OwI W bm vN XN
  ap : ∀ k, vF.ownBlock = some k → vN.ownBlock ≠ some k
  d : Below bm w0 W
theorem LS.putN {bm nT M : Nat} {w0 wr W : World} {vF vN v : Value} {XF XN X : List Int} (h : LS bm nT M w0 wr vF vN XF XN) (hb0 : bm ≤ wr.heap.size) (o : Only wr W (fun k => vN.ownBlock = some k)) (ho : OwI W bm v X) (hb : ∀ k, v.ownBlock = some k → vN.ownBlock = some k ∨ wr.heap.size ≤ k) : LS bm nT M w0 (W.setCell ⟨bm, 4, none⟩ v) vF v XF X := by
  have bb : W.heap[bm]? = _ := (o.block bm (Array.getElem?_eq_some_iff.1 h.bx).1 (fun e => row_tag h.n h.bx (by decide) e)).trans h.bx
  have q := only_set W bm 4 v
  have f1 := row_only h.f o (fun k hk e => h.ap k hk e)
  refine ⟨heap_setCell_same _ _ 4 _ 24 _ bb, own_keep f1 bb (by decide) q, own_keep ho bb (by decide) q, fun k hk e => ?_, (h.d.trans (o.toBelow hb0 (fun k hk => (h.n.lt k hk).1))).trans (q.toBelow (Nat.le_trans hb0 o.size) (fun k hk => by omega))⟩
  rcases hb k e with z | z
  · exact h.ap k hk z
  · have := (h.f.lt k hk).2; omega
theorem LS.putF {bm nT M : Nat} {w0 wr W : World} {vF vN v : Value} {XF XN X : List Int} (h : LS bm nT M w0 wr vF vN XF XN) (hb0 : bm ≤ wr.heap.size) (o : Only wr W (fun k => vF.ownBlock = some k)) (ho : OwI W bm v X) (hb : ∀ k, v.ownBlock = some k → vF.ownBlock = some k ∨ wr.heap.size ≤ k) : LS bm nT M w0 (W.setCell ⟨bm, 3, none⟩ v) v vN X XN := by
  have bb : W.heap[bm]? = _ := (o.block bm (Array.getElem?_eq_some_iff.1 h.bx).1 (fun e => row_tag h.f h.bx (by decide) e)).trans h.bx
  have q := only_set W bm 3 v
  have f1 := row_only h.n o (fun k hk e => h.ap k e hk)
  refine ⟨heap_setCell_same _ _ 3 _ 24 _ bb, own_keep ho bb (by decide) q, own_keep f1 bb (by decide) q, fun k hk e => ?_, (h.d.trans (o.toBelow hb0 (fun k hk => (h.f.lt k hk).1))).trans (q.toBelow (Nat.le_trans hb0 o.size) (fun k hk => by omega))⟩
  rcases hb k hk with z | z
  · exact h.ap k z e
  · have := (h.n.lt k e).2; omega
set_option maxRecDepth 100000 in
set_option maxHeartbeats 8000000 in
theorem least_any (w : World) (N M st : Nat) (aF aN : Option Addr) (lF cF lN cN : Nat) (Fi Nx : List Int) (hF : RdN w aF Fi) (hN : RdN w aN Nx) (hlF : Fi.length = lF) (hlN : Nx.length = lN) (bF : lF ≤ 4194304) (bN : lN ≤ 4194304) (hv : vd N M st Fi Nx = true) :
    Calls Try.prog 32 #[.agg #[.int .i64 (N : Int), .int .i64 (M : Int), .int .i64 (st : Int), .slice aF lF cF, .slice aN lN cN]] w fun e w' => ∃ vF vN T K al, e = .returned (.agg #[.int .i64 ((T.length : Nat) : Int), .int .i64 (M : Int), .int .i64 0, vF, vN]) ∧ Hid (ClA Nx (inF Fi) N M al ∧ Wk (fun s a => al (dl Nx M s a)) M (al st) T K (T.length * M) ∧ Cv (fun s a => al (dl Nx M s a)) M T K (T.length * M) ∧ T.Nodup ∧ (∀ q ∈ T, q < N) ∧ OwI w' w.heap.size vF (natI (lsF (inF Fi) T T.length)) ∧ OwI w' w.heap.size vN (natI (lsN (fun s a => al (dl Nx M s a)) M T T.length)) ∧ (∀ k, vF.ownBlock = some k → vN.ownBlock ≠ some k) ∧ Below w.heap.size w w') := by
  obtain ⟨n, m, s0, en, em, es, n1, n2, m1, s1, e1, i1, i2⟩ := vd_nat hv
  obtain rfl : N = n := by omega
  obtain rfl : M = m := by omega
  obtain rfl : st = s0 := by omega
  clear en em es
  have bNM : N * M ≤ 4194304 := by rw [← e1, hlN]; exact bN
  have eNM : lN = N * M := by rw [← hlN]; exact e1
  obtain ⟨W0, hW0⟩ : ∃ W0, (w.alloc (.cells #[.int .i64 (N : Int), .int .i64 (M : Int), .int .i64 (st : Int), .slice aF lF cF, .slice aN lN cN] 24)).alloc (.cells #[.int .i64 0, .int .i64 0, .int .i64 0, .slice none 0 0, .slice none 0 0] 24) = W0 := ⟨_, rfl⟩
  have H2 := hide (two_al w #[.int .i64 (N : Int), .int .i64 (M : Int), .int .i64 (st : Int), .slice aF lF cF, .slice aN lN cN] #[.int .i64 0, .int .i64 0, .int .i64 0, .slice none 0 0, .slice none 0 0] 24 24)
  rw [hW0] at H2
  have d0 := H2.out.1
  have B0 := H2.out.2.1
  have k0 : W0.cell? ⟨w.heap.size, 0, none⟩ = some (.int .i64 (N : Int)) := cell_of B0 rfl
  have k1 : W0.cell? ⟨w.heap.size, 1, none⟩ = some (.int .i64 (M : Int)) := cell_of B0 rfl
  have k2 : W0.cell? ⟨w.heap.size, 2, none⟩ = some (.int .i64 (st : Int)) := cell_of B0 rfl
  have k3 : W0.cell? ⟨w.heap.size, 3, none⟩ = some (.slice aF lF cF) := cell_of B0 rfl
  have k4 : W0.cell? ⟨w.heap.size, 4, none⟩ = some (.slice aN lN cN) := cell_of B0 rfl
  have TO : Hid (Calls Try.prog 34 #[.agg #[.int .i64 (N : Int), .int .i64 (M : Int), .int .i64 (st : Int), .slice aF lF cF, .slice aN lN cN]] W0 fun e w' => ∃ gf, e = .returned (.agg #[.int .i64 (M : Int), .slice (some ⟨gf, 0, none⟩) N N, .slice aN lN cN]) ∧ Hid (TbR w' M N gf aN (inF Fi) Nx) ∧ Below W0.heap.size W0 w') := hide ((tableOf_any W0 N M lF cF lN cN st aF aN Fi (hF.on d0) hlF i2 bF (by omega)).mono (by
    rintro e w' ⟨gf, rfl, H, d'⟩
    exact ⟨gf, rfl, hide ⟨H.out.2, (hN.on d0).on d', e1, i1⟩, d'⟩))
  have HD := hide (And.intro d0 (And.intro B0 H2.out.2.2.1))
  have HNM := hide (And.intro eNM bNM)
  have hst : st < N := s1
  clear d0 B0 H2 hF hN hlF hlN e1 i1 i2 hv bF bN eNM bNM s1
  go_enter Try.func32, Try.ntmps32
  go_upto_region 2 with (go_at_call 34; refine TO.out.mono ?_; rintro e w3 ⟨gf, rfl, HT, D3⟩; have HD3 := hide D3; clear D3; obtain ⟨bt, hbt⟩ : ∃ x, w3.heap.size = x := ⟨_, rfl⟩)
  obtain ⟨w5, hw5⟩ : ∃ w5, w3.alloc (.cells #[.int .i64 (M : Int), .slice (some ⟨gf, 0, none⟩) N N, .slice aN lN cN] 60) = w5 := ⟨_, rfl⟩
  try rw [hbt]
  rw [hw5]
  have D5 : Below w3.heap.size w3 w5 := by rw [← hw5]; exact (Below.refl _ _).alloc (Nat.le_refl _) _
  have X5 : w5.heap[bt]? = some (.cells #[.int .i64 (M : Int), .slice (some ⟨gf, 0, none⟩) N N, .slice aN lN cN] 60 (0, 0)) := by rw [← hw5, ← hbt]; exact World.alloc_heap_new _ _
  have T5 := HT.out.on D5
  have D05 : Below W0.heap.size W0 w5 := HD3.out.trans (D5.mono HD3.out.size)
  have y0 : w5.cell? ⟨bt, 0, none⟩ = some (.int .i64 (M : Int)) := cell_of X5 rfl
  have y1 : w5.cell? ⟨bt, 1, none⟩ = some (.slice (some ⟨gf, 0, none⟩) N N) := cell_of X5 rfl
  have y2 : w5.cell? ⟨bt, 2, none⟩ = some (.slice aN lN cN) := cell_of X5 rfl
  have T40 := alike_any w5 N M gf lN cN aN Nx (inF Fi) T5 HNM.out.1 (by have := HNM.out.1; have := HNM.out.2; omega) (by omega) (by omega)
  have H5 := hide (And.intro X5 (And.intro T5 D05))
  clear D5 X5 T5 D05 hw5 hbt TO k0 k1 k2 k3 k4 HT HD3
  go_upto_region 3 with (go_at_call 40; refine T40.mono ?_; rintro e w6 ⟨h, rfl, al, HA⟩; obtain ⟨ba, hba⟩ : ∃ x, w6.heap.size = x := ⟨_, rfl⟩)
  obtain ⟨wq, hwq⟩ : ∃ wq, w6.alloc (.cells #[.slice (some ⟨h, 0, none⟩) N N] 22) = wq := ⟨_, rfl⟩
  try rw [hba]
  rw [hwq]
  have D6 : Below w6.heap.size w6 wq := by rw [← hwq]; exact (Below.refl _ _).alloc (Nat.le_refl _) _
  have D56 := HA.out.2.2.2.trans (D6.mono HA.out.2.2.2.size)
  have D06 := H5.out.2.2.trans (D56.mono H5.out.2.2.size)
  have HQ := hide (And.intro (blk_on HD.out.2.1 D06) (And.intro (blk_on H5.out.1 D56) (And.intro (show wq.heap[ba]? = some (.cells #[.slice (some ⟨h, 0, none⟩) N N] 22 (0, 0)) by rw [← hwq, ← hba]; exact World.alloc_heap_new _ _) (And.intro (HA.out.1.below D6 HA.out.1.lt) (And.intro (H5.out.2.1.on D56) (And.intro (HD.out.1.trans (D06.mono HD.out.1.size)) (blk_on HD.out.2.2 D06)))))))
  have HCL := hide HA.out.2.2.1
  obtain ⟨φ, hφ⟩ : ∃ φ : Nat → Nat → Nat, φ = fun s a => al (dl Nx M s a) := ⟨_, rfl⟩
  obtain ⟨r, hr⟩ : ∃ r, al st = r := ⟨_, rfl⟩
  have hrN : r < N := by have := (HCL.out st hst).1; omega
  have hdl : ∀ s a, s < N → a < M → dl Nx M s a < N := fun s a hs ha => (dl_spec HQ.out.2.2.2.2.1.len HQ.out.2.2.2.2.1.inr hs ha).2.2
  have TL : Hid (∀ W, Below wq.heap.size wq W → ∀ s a, s < N → a < M → Calls Try.prog 53 #[.int .i64 (s : Int), .int .i64 (a : Int), .pointer (some ⟨ba, 0, none⟩), .pointer (some ⟨bt, 0, none⟩)] W fun e w' => e = .returned (.int .i64 ((φ s a : Nat) : Int)) ∧ Below W.heap.size W w') := hide (fun W d s a hs ha => by
    rw [hφ]
    exact lst_any W N M s a gf h ba bt lN cN aN Nx al (cell_of (blk_on HQ.out.2.2.1 d) rfl) (blk_on HQ.out.2.1 d) (HQ.out.2.2.2.1.below d HQ.out.2.2.2.1.lt) (HQ.out.2.2.2.2.1.nx.on d) HQ.out.2.2.2.2.1.len HQ.out.2.2.2.2.1.inr HNM.out.1 hs ha HNM.out.2 (by omega) (by omega))
  have TN : Hid (∀ W, Below wq.heap.size wq W → Calls Try.prog 33 #[.int .i64 (N : Int), .int .i64 (M : Int), .int .i64 (r : Int), .func (.func 53) #[] #[.pointer (some ⟨ba, 0, none⟩), .pointer (some ⟨bt, 0, none⟩)]] W (NumA W N M r φ)) := hide (fun W d => number_lst W N M r ba bt φ hrN (fun s a hs ha => by rw [hφ]; have q := hdl s a hs ha; have := (HCL.out _ q).1; show al _ < N; omega) n1 (by omega) (by omega) (fun W' d' s a hs ha => TL.out W' (d.trans (d'.mono d.size)) s a hs ha))
  have HR9 := hide hr
  have HPH := hide hφ
  have l0 : (0 : Int) ≤ (st : Int) := by omega
  have l1 : (st : Int) < (N : Int) := by omega
  clear D6 D56 D06 hwq hba T40 y0 y1 y2 HA H5 HD hφ hr hdl
  go_upto_region 4 with fail
  have hmo : MonIL 0 [vI 0 (.pointer (some ⟨w.heap.size, 0, none⟩)), vI 1 (.int .i64 (N : Int)), vI 2 (.pointer (some ⟨w.heap.size, 1, none⟩)), vI 3 (.int .i64 (M : Int)), vI 4 (.slice (some ⟨h, 0, none⟩) N N), vI 5 (.pointer (some ⟨w.heap.size, 2, none⟩)), vI 6 (.int .i64 (st : Int)), vI 7 (.pointer (some ⟨h, st, none⟩)), vI 8 (.int .i64 (r : Int)), vI 9 (.func (.func 53) #[] #[.pointer (some ⟨ba, 0, none⟩), .pointer (some ⟨bt, 0, none⟩)]), pI 10 (nuP wq.heap.size N M r φ), pI 11 (zbP wq.heap.size 55 #[.slice none 0 0, .slice none 0 0, .slice none 0 0])] := ⟨vI_mono _ _, vI_mono _ _, vI_mono _ _, vI_mono _ _, vI_mono _ _, vI_mono _ _, vI_mono _ _, vI_mono _ _, vI_mono _ _, vI_mono _ _, pI_mono nuP_mono, pI_mono zbP_mono, trivial⟩
  refine wp_region_sl [vI 0 (.pointer (some ⟨w.heap.size, 0, none⟩)), vI 1 (.int .i64 (N : Int)), vI 2 (.pointer (some ⟨w.heap.size, 1, none⟩)), vI 3 (.int .i64 (M : Int)), vI 4 (.slice (some ⟨h, 0, none⟩) N N), vI 5 (.pointer (some ⟨w.heap.size, 2, none⟩)), vI 6 (.int .i64 (st : Int)), vI 7 (.pointer (some ⟨h, st, none⟩)), vI 8 (.int .i64 (r : Int)), vI 9 (.func (.func 53) #[] #[.pointer (some ⟨ba, 0, none⟩), .pointer (some ⟨bt, 0, none⟩)]), pI 10 (nuP wq.heap.size N M r φ), pI 11 (zbP wq.heap.size 55 #[.slice none 0 0, .slice none 0 0, .slice none 0 0])] (by kernel_rfl) (by kernel_rfl) (by kernel_rfl) (by kernel_rfl) hmo ⟨?o0, ?o1, ?o2, ?o3, ?o4, ?o5, ?o6, ?o7, ?o8, ?o9, ?o10, ?o11, trivial⟩ ?fin
  case o0 =>
    intro At yy W hy hb d hd K hK
    have s1 : At.tmps.getD 1 undef = .pointer (some ⟨w.heap.size, 0, none⟩) := hb 1 rfl
    have s1' := s1
    rw [Array.getD_eq_getD_getElem?] at s1'
    clear hd hy hb
    go_simp
    exact hK.out _ W (stp_of hmo d (Below.refl _ _)) (if_pos rfl)
  case o1 =>
    intro At yy W hy hb d hd K hK
    have e0 : yy 0 = .pointer (some ⟨w.heap.size, 0, none⟩) := by obtain ⟨_, _, _, _, e⟩ := hd ⟨0, .data⟩ (by simp) rfl rfl; exact e
    have s16 := (hy 0 _ 16 rfl rfl).trans e0
    have s16' := s16
    rw [Array.getD_eq_getD_getElem?] at s16'
    clear hd hy hb
    have yd0 : W.cell? ⟨w.heap.size, 0, none⟩ = some (.int .i64 (N : Int)) := cell_of (blk_on HQ.out.1 d) rfl
    go_simp
    exact hK.out _ W (stp_of hmo d (Below.refl _ _)) (if_pos rfl)
  case o2 =>
    intro At yy W hy hb d hd K hK
    have s1 : At.tmps.getD 1 undef = .pointer (some ⟨w.heap.size, 0, none⟩) := hb 1 rfl
    have s1' := s1
    rw [Array.getD_eq_getD_getElem?] at s1'
    clear hd hy hb
    go_simp
    exact hK.out _ W (stp_of hmo d (Below.refl _ _)) (if_pos rfl)
  case o3 =>
    intro At yy W hy hb d hd K hK
    have e2 : yy 2 = .pointer (some ⟨w.heap.size, 1, none⟩) := by obtain ⟨_, _, _, _, e⟩ := hd ⟨2, .data⟩ (by simp) rfl rfl; exact e
    have s18 := (hy 2 _ 18 rfl rfl).trans e2
    have s18' := s18
    rw [Array.getD_eq_getD_getElem?] at s18'
    clear hd hy hb
    have yd1 : W.cell? ⟨w.heap.size, 1, none⟩ = some (.int .i64 (M : Int)) := cell_of (blk_on HQ.out.1 d) rfl
    go_simp
    exact hK.out _ W (stp_of hmo d (Below.refl _ _)) (if_pos rfl)
  case o4 =>
    intro At yy W hy hb d hd K hK
    have s4 : At.tmps.getD 4 undef = .pointer (some ⟨ba, 0, none⟩) := hb 4 rfl
    have s4' := s4
    rw [Array.getD_eq_getD_getElem?] at s4'
    clear hd hy hb
    have ya : W.cell? ⟨ba, 0, none⟩ = some (.slice (some ⟨h, 0, none⟩) N N) := cell_of (blk_on HQ.out.2.2.1 d) rfl
    go_simp
    exact hK.out _ W (stp_of hmo d (Below.refl _ _)) (if_pos rfl)
  case o5 =>
    intro At yy W hy hb d hd K hK
    have s1 : At.tmps.getD 1 undef = .pointer (some ⟨w.heap.size, 0, none⟩) := hb 1 rfl
    have s1' := s1
    rw [Array.getD_eq_getD_getElem?] at s1'
    clear hd hy hb
    go_simp
    exact hK.out _ W (stp_of hmo d (Below.refl _ _)) (if_pos rfl)
  case o6 =>
    intro At yy W hy hb d hd K hK
    have e5 : yy 5 = .pointer (some ⟨w.heap.size, 2, none⟩) := by obtain ⟨_, _, _, _, e⟩ := hd ⟨5, .data⟩ (by simp) rfl rfl; exact e
    have s21 := (hy 5 _ 21 rfl rfl).trans e5
    have s21' := s21
    rw [Array.getD_eq_getD_getElem?] at s21'
    clear hd hy hb
    have yd2 : W.cell? ⟨w.heap.size, 2, none⟩ = some (.int .i64 (st : Int)) := cell_of (blk_on HQ.out.1 d) rfl
    go_simp
    exact hK.out _ W (stp_of hmo d (Below.refl _ _)) (if_pos rfl)
  case o7 =>
    intro At yy W hy hb d hd K hK
    have e4 : yy 4 = .slice (some ⟨h, 0, none⟩) N N := by obtain ⟨_, _, _, _, e⟩ := hd ⟨4, .data⟩ (by simp) rfl rfl; exact e
    have e6 : yy 6 = .int .i64 (st : Int) := by obtain ⟨_, _, _, _, e⟩ := hd ⟨6, .data⟩ (by simp) rfl rfl; exact e
    have s20 := (hy 4 _ 20 rfl rfl).trans e4
    have s20' := s20
    rw [Array.getD_eq_getD_getElem?] at s20'
    have s22 := (hy 6 _ 22 rfl rfl).trans e6
    have s22' := s22
    rw [Array.getD_eq_getD_getElem?] at s22'
    clear hd hy hb
    go_simp
    exact hK.out _ W (stp_of hmo d (Below.refl _ _)) (if_pos rfl)
  case o8 =>
    intro At yy W hy hb d hd K hK
    have e7 : yy 7 = .pointer (some ⟨h, st, none⟩) := by obtain ⟨_, _, _, _, e⟩ := hd ⟨7, .data⟩ (by simp) rfl rfl; exact e
    have s23 := (hy 7 _ 23 rfl rfl).trans e7
    have s23' := s23
    rw [Array.getD_eq_getD_getElem?] at s23'
    clear hd hy hb
    have y : W.cell? ⟨h, st, none⟩ = some (.int .i64 (r : Int)) := by have := (HQ.out.2.2.2.1.below d HQ.out.2.2.2.1.lt).at st hst; rwa [HR9.out] at this
    go_simp
    exact hK.out _ W (stp_of hmo d (Below.refl _ _)) (if_pos rfl)
  case o9 =>
    intro At yy W hy hb d hd K hK
    have s5 : At.tmps.getD 5 undef = .func (.func 53) #[] #[.pointer (some ⟨ba, 0, none⟩), .pointer (some ⟨bt, 0, none⟩)] := hb 5 rfl
    have s5' := s5
    rw [Array.getD_eq_getD_getElem?] at s5'
    clear hd hy hb
    go_simp
    exact hK.out _ W (stp_of hmo d (Below.refl _ _)) (if_pos rfl)
  case o10 =>
    intro At yy W hy hb d hd K hK
    have e1 : yy 1 = .int .i64 (N : Int) := by obtain ⟨_, _, _, _, e⟩ := hd ⟨1, .data⟩ (by simp) rfl rfl; exact e
    have e3 : yy 3 = .int .i64 (M : Int) := by obtain ⟨_, _, _, _, e⟩ := hd ⟨3, .data⟩ (by simp) rfl rfl; exact e
    have e8 : yy 8 = .int .i64 (r : Int) := by obtain ⟨_, _, _, _, e⟩ := hd ⟨8, .data⟩ (by simp) rfl rfl; exact e
    have e9 : yy 9 = .func (.func 53) #[] #[.pointer (some ⟨ba, 0, none⟩), .pointer (some ⟨bt, 0, none⟩)] := by obtain ⟨_, _, _, _, e⟩ := hd ⟨9, .data⟩ (by simp) rfl rfl; exact e
    have s17 := (hy 1 _ 17 rfl rfl).trans e1
    have s17' := s17
    rw [Array.getD_eq_getD_getElem?] at s17'
    have s19 := (hy 3 _ 19 rfl rfl).trans e3
    have s19' := s19
    rw [Array.getD_eq_getD_getElem?] at s19'
    have s24 := (hy 8 _ 24 rfl rfl).trans e8
    have s24' := s24
    rw [Array.getD_eq_getD_getElem?] at s24'
    have s25 := (hy 9 _ 25 rfl rfl).trans e9
    have s25' := s25
    rw [Array.getD_eq_getD_getElem?] at s25'
    clear hd hy hb
    go_simp
    go_wp2_with (go_at_call 33; refine (TN.out _ d).mono ?_; rintro e wa ⟨vT, gn, vS, T1, K1, rfl, hq⟩)
    exact hK.out _ wa (stp_of hmo d hq.2.2.2.2.2.2.2.2.2) ⟨vT, gn, vS, T1, K1, if_pos rfl, owns_down hq.1 d.size, hq.2.1, owns_down hq.2.2.1 d.size, Nat.le_trans d.size hq.2.2.2.1, hq.2.2.2.2.2.1, hq.2.2.2.2.2.2.1, hq.2.2.2.2.2.2.2.1, hq.2.2.2.2.2.2.2.2.1⟩
  case o11 =>
    intro At yy W hy hb d hd K hK
    clear hd hy hb
    go_simp
    exact hK.out _ _ (stp_of hmo d ((Below.refl _ _).alloc (Nat.le_refl _) _)) ⟨if_pos rfl, d.size, by simp, World.alloc_heap_new _ _⟩
  case fin =>
    intro yy lo hi W hM
    show wpList _ _ _ [_] _ _
    have e0 : yy 0 = .pointer (some ⟨w.heap.size, 0, none⟩) := hM.fact 0 (by simp) rfl (notR_all 0 rfl)
    have e1 : yy 1 = .int .i64 (N : Int) := hM.fact 1 (by simp) rfl (notR_all 1 rfl)
    have e2 : yy 2 = .pointer (some ⟨w.heap.size, 1, none⟩) := hM.fact 2 (by simp) rfl (notR_all 2 rfl)
    have e3 : yy 3 = .int .i64 (M : Int) := hM.fact 3 (by simp) rfl (notR_all 3 rfl)
    have e4 : yy 4 = .slice (some ⟨h, 0, none⟩) N N := hM.fact 4 (by simp) rfl (notR_all 4 rfl)
    have e5 : yy 5 = .pointer (some ⟨w.heap.size, 2, none⟩) := hM.fact 5 (by simp) rfl (notR_all 5 rfl)
    have e6 : yy 6 = .int .i64 (st : Int) := hM.fact 6 (by simp) rfl (notR_all 6 rfl)
    have e7 : yy 7 = .pointer (some ⟨h, st, none⟩) := hM.fact 7 (by simp) rfl (notR_all 7 rfl)
    have e8 : yy 8 = .int .i64 (r : Int) := hM.fact 8 (by simp) rfl (notR_all 8 rfl)
    have e9 : yy 9 = .func (.func 53) #[] #[.pointer (some ⟨ba, 0, none⟩), .pointer (some ⟨bt, 0, none⟩)] := hM.fact 9 (by simp) rfl (notR_all 9 rfl)
    obtain ⟨vT, gn, vS, T, K, e10, q1, q2, q3, q4, q5, q6, q7, q8⟩ := hM.fact 10 (by simp) rfl (notR_all 10 rfl)
    obtain ⟨e11, b11, l11, z11⟩ := hM.fact 11 (by simp) rfl (notR_all 11 rfl)
    have dd := hM.d
    simp only [fills, Act.put, List.take, List.length, List.setIfInBounds_toArray, List.set_cons_zero, List.set_cons_succ, e0, e1, e2, e3, e4, e5, e6, e7, e8, e9, e10, e11]
    generalize lo 11 = bn at z11 b11 l11 ⊢
    clear hM hmo e0 e1 e2 e3 e4 e5 e6 e7 e8 e9 e10 e11
    have c0 : W.cell? ⟨bn, 0, none⟩ = some (.slice none 0 0) := cell_of z11 rfl
    have c1 : W.cell? ⟨bn, 1, none⟩ = some (.slice none 0 0) := cell_of z11 rfl
    have c2 : W.cell? ⟨bn, 2, none⟩ = some (.slice none 0 0) := cell_of z11 rfl
    have f0 : W.frozen? ⟨bn, 0, none⟩ = false := fz_of z11
    have f1 : W.frozen? ⟨bn, 1, none⟩ = false := fz_of z11
    have f2 : W.frozen? ⟨bn, 2, none⟩ = false := fz_of z11
    obtain ⟨gT, kT, rfl⟩ := own_some q1 (by rw [natI_len, q7.l]; omega)
    obtain ⟨tS, kS, rfl⟩ := own_slice q3
    obtain ⟨nT, hnT⟩ : ∃ n, T.length = n := ⟨_, rfl⟩
    rw [natI_len, hnT] at q1 ⊢
    have g55 : gn ≠ bn := q2.tag z11 (by decide)
    obtain ⟨w9, hw9⟩ : ∃ w9, ((W.setCell ⟨bn, 0, none⟩ (.slice (some ⟨gT, 0, none⟩) nT kT)).setCell ⟨bn, 1, none⟩ (.slice (some ⟨gn, 0, none⟩) N N)).setCell ⟨bn, 2, none⟩ (.slice tS (stepsOf M K).length kS) = w9 := ⟨_, rfl⟩
    have z9 : w9.heap[bn]? = some (.cells #[.slice (some ⟨gT, 0, none⟩) nT kT, .slice (some ⟨gn, 0, none⟩) N N, .slice tS (stepsOf M K).length kS] 55 (0, 0)) := by rw [← hw9]; exact set3 W bn _ _ _ (.slice (some ⟨gT, 0, none⟩) nT kT) (.slice (some ⟨gn, 0, none⟩) N N) (.slice tS (stepsOf M K).length kS) 55 z11
    have O9 : Only W w9 (fun k => k = bn) := by rw [← hw9]; exact only3 W bn 0 1 2 _ _ _
    have D9 : Below wq.heap.size wq w9 := dd.trans (O9.toBelow dd.size (fun k hk => by rw [hk]; exact b11))
    have R9 : OwI w9 wq.heap.size (.slice (some ⟨gT, 0, none⟩) nT kT) (natI T) := own_keep q1 z11 (by decide) O9
    have M9 : Mrw w9 gn 3 N (fun q => .int .i64 (numF T q)) N := q2.only O9 g55
    have HX := hide (And.intro hnT (And.intro q5 (And.intro q6 (And.intro q7 q8))))
    have HX9 := hide (And.intro D9 (And.intro z9 (And.intro R9 M9)))
    have hnN : nT ≤ N := by rw [← hnT]; exact nodup_le q5 q6
    clear q1 q2 q3 q4 q5 q6 q7 q8 hnT g55 z9 O9 D9 R9 M9 z11 b11 l11 dd hst
    go_upto_region 5 with fail
    try rw [hw9]
    clear c0 c1 c2 f0 f1 f2 hw9
    obtain ⟨bm, hbm⟩ : ∃ b, w9.heap.size = b := ⟨_, rfl⟩
    have HG : Hid (∀ W, Below bm w9 W → W.heap[w.heap.size]? = some (.cells #[.int .i64 (N : Int), .int .i64 (M : Int), .int .i64 (st : Int), .slice aF lF cF, .slice aN lN cN] 24 (0, 0)) ∧ W.heap[bt]? = some (.cells #[.int .i64 (M : Int), .slice (some ⟨gf, 0, none⟩) N N, .slice aN lN cN] 60 (0, 0)) ∧ W.heap[bn]? = some (.cells #[.slice (some ⟨gT, 0, none⟩) nT kT, .slice (some ⟨gn, 0, none⟩) N N, .slice tS (stepsOf M K).length kS] 55 (0, 0)) ∧ OwI W wq.heap.size (.slice (some ⟨gT, 0, none⟩) nT kT) (natI T) ∧ Mrw W gn 3 N (fun q => .int .i64 (numF T q)) N ∧ TbR W M N gf aN (inF Fi) Nx ∧ Below wq.heap.size wq W ∧ bm ≤ W.heap.size) := hide (fun W d => by
      rw [← hbm] at d
      have e := HX9.out.1.trans (d.mono HX9.out.1.size)
      exact ⟨blk_on HQ.out.1 e, blk_on HQ.out.2.1 e, blk_on HX9.out.2.1 d, own_below HX9.out.2.2.1 d, HX9.out.2.2.2.below d HX9.out.2.2.2.lt, HQ.out.2.2.2.2.1.on e, e, by rw [← hbm]; exact d.size⟩)
    have y0 : w9.cell? ⟨bn, 0, none⟩ = some (.slice (some ⟨gT, 0, none⟩) nT kT) := cell_of HX9.out.2.1 rfl
    have y1 : w9.cell? ⟨w.heap.size, 1, none⟩ = some (.int .i64 (M : Int)) := cell_of (HG.out w9 (Below.refl _ _)).1 rfl
    go_upto_region 6 with fail
    try rw [hbm]
    obtain ⟨w10, hw10⟩ : ∃ W, w9.alloc (.cells #[.int .i64 (nT : Int), .int .i64 (M : Int), .int .i64 0, .slice none 0 0, .slice none 0 0] 24) = W := ⟨_, rfl⟩
    have hbx : w10.heap[bm]? = some (.cells #[.int .i64 (nT : Int), .int .i64 (M : Int), .int .i64 0, .slice none 0 0, .slice none 0 0] 24 (0, 0)) := by rw [← hw10, ← hbm]; exact World.alloc_heap_new _ _
    have d10 : Below bm w9 w10 := by rw [← hw10]; exact (Below.refl _ _).alloc (by omega) _
    have J0 : Hid (LS bm nT M w9 w10 (.slice none 0 0) (.slice none 0 0) (natI (lsF (inF Fi) T 0)) (natI (lsN φ M T 0))) := hide ⟨hbx, owI_nil _ _, owI_nil _ _, (fun k hk => by cases hk), d10⟩
    have y2 : w10.cell? ⟨bn, 0, none⟩ = some (.slice (some ⟨gT, 0, none⟩) nT kT) := cell_of (HG.out w10 d10).2.2.1 rfl
    try rw [hw10]
    clear hbx d10 y0 y1 hw10
    go_wp2_with fail
    clear y2
    have HBM := hide hbm
    clear hbm
    go_loopw [36] (fun iv wr => ∃ i : Nat, i ≤ nT ∧ iv = .int .i64 (i : Int) ∧ ∃ vF vN, Hid (LS bm nT M w9 wr vF vN (natI (lsF (inF Fi) T i)) (natI (lsN φ M T i)))) (fun iv _ => nT - (intOf iv).toNat)
    case atStart => exact ⟨0, Nat.zero_le _, rfl, _, _, J0⟩
    case round =>
      clear J0 l0 l1
      obtain ⟨i, hi, rfl, vF, vN, HI⟩ := hrel
      have HGI := hide (HG.out wr HI.out.d)
      by_cases hil : i < nT
      · have l0 : (i : Int) < (nT : Int) := by omega
        have l1 : (0 : Int) ≤ (i : Int) := by omega
        have hiT : i < T.length := by rw [HX.out.1]; exact hil
        obtain ⟨s, hs⟩ : ∃ s, T[i] = s := ⟨_, rfl⟩
        have hsN : s < N := by rw [← hs]; exact HX.out.2.2.1 _ (List.getElem_mem hiT)
        obtain ⟨g, o, eg, cT⟩ := natI_rd (owI_rd HGI.out.2.2.2.1).2 i hiT
        cases eg
        rw [hs, Nat.zero_add] at cT
        have cf : wr.cell? ⟨gf, s, none⟩ = some (.bool (inF Fi s)) := HGI.out.2.2.2.2.2.1.fi.at s hsN
        have ct : wr.cell? ⟨bt, 1, none⟩ = some (.slice (some ⟨gf, 0, none⟩) N N) := cell_of HGI.out.2.1 rfl
        have cd : wr.cell? ⟨w.heap.size, 1, none⟩ = some (.int .i64 (M : Int)) := cell_of HGI.out.1 rfl
        have l2 : (s : Int) < (N : Int) := by omega
        have l3 : (0 : Int) ≤ (s : Int) := by omega
        have HS9 := hide hs
        clear hs
        cases hfs : inF Fi s with
        | true =>
          rw [hfs] at cf
          have HFS := hide hfs
          clear hfs
          have hO := HI.out.f
          obtain ⟨b3, k3, hvF⟩ := own_slice hO
          obtain ⟨m3, hm3⟩ : ∃ m, (natI (lsF (inF Fi) T i)).length = m := ⟨_, rfl⟩
          rw [hm3] at hvF
          subst hvF
          have hm3i : m3 ≤ 4096 := by rw [← hm3, natI_len]; have := lsF_le (inF Fi) T i; omega
          have HM3 := hide hm3
          have HO := hide hO
          have c3 : wr.cell? ⟨bm, 3, none⟩ = some (.slice b3 m3 k3) := cell_of HI.out.bx rfl
          have dA : ∀ o : Obj, Below wr.heap.size wr (wr.alloc o) := fun o => (Below.refl _ _).alloc (Nat.le_refl _) _
          have hBm := HGI.out.2.2.2.2.2.2.2
          clear hm3 hO
          go_upto_region 11 with (at_builtin; refine wpList_appI rfl (.tmp 47) (.tmp 49) rfl bm (.slice b3 m3 k3) (natI (lsF (inF Fi) T i)) rfl (own_below HO.out (dA _)) wr.heap.size (i : Int) rfl (World.alloc_heap_new _ _) (by have := HM3.out; omega) (by simp <;> omega) ?_; intro b4 m4 k4 w4 h1 h2 h3 h4; have O34 : Only wr w4 (fun k => (Value.slice b3 m3 k3).ownBlock = some k) := (Only.ofBelow (dA _)).trans h3.out; have bb4 : w4.heap[bm]? = _ := (O34.block bm (Array.getElem?_eq_some_iff.1 HI.out.bx).1 (fun e => row_tag HO.out HI.out.bx (by decide) e)).trans HI.out.bx; have e4 : w4.cell? ⟨bm, 3, none⟩ = some (.slice b3 m3 k3) := cell_of bb4 rfl; have z4 : w4.frozen? ⟨bm, 3, none⟩ = false := fz_of bb4; have HN := hide (And.intro h1.out (And.intro h2.out (And.intro O34 h4.out))); clear h1 h2 h3 h4 O34 bb4)
          obtain ⟨w8, hw8⟩ : ∃ W, w4.setCell ⟨bm, 3, none⟩ (.slice b4 m4 k4) = W := ⟨_, rfl⟩
          try rw [hw8]
          have HI8 : Hid (LS bm nT M w9 w8 (.slice b4 m4 k4) vN (natI (lsF (inF Fi) T (i + 1))) (natI (lsN φ M T i ++ lsR φ T s 0))) := hide (by
            have q := HI.out.putF (v := .slice b4 m4 k4) hBm HN.out.2.2.1 HN.out.1 (fun k hk => by
              rcases HN.out.2.2.2 with z | z
              · exact Or.inl (by rw [← z]; exact hk)
              · rw [z] at hk
                injection hk with hk
                right
                rw [← hk]
                simp)
            have e1 : lsF (inF Fi) T (i + 1) = lsF (inF Fi) T i ++ [i] := by
              have z := lsF_succ (inF Fi) T i hiT
              rw [HS9.out, HFS.out] at z
              exact z
            have e2 : lsN φ M T i ++ lsR φ T s 0 = lsN φ M T i := by simp [lsR]
            rw [e1, e2, natI_snoc, ← hw8]
            exact q)
          clear e4 z4 hw8 c3 dA HN HO HM3 HI HGI cf ct cT hBm
          have cd : w8.cell? ⟨w.heap.size, 1, none⟩ = some (.int .i64 (M : Int)) := cell_of (HG.out w8 HI8.out.d).1 rfl
          go_wp2_with fail
          go_loopw [54] (fun iv wr => ∃ a : Nat, a ≤ M ∧ iv = .int .i64 (a : Int) ∧ ∃ vF vN, Hid (LS bm nT M w9 wr vF vN (natI (lsF (inF Fi) T (i + 1))) (natI (lsN φ M T i ++ lsR φ T s a)))) (fun iv _ => M - (intOf iv).toNat)
          case atStart => exact ⟨0, Nat.zero_le _, rfl, _, _, HI8⟩
          case round =>
            clear HI8 cd
            obtain ⟨a, haM, rfl, vF2, vN2, HI⟩ := hrel
            by_cases hal : a < M
            · have j0 : (a : Int) < (M : Int) := by omega
              have j1 : (0 : Int) ≤ (a : Int) := by omega
              have hBm := (HG.out wr HI.out.d).2.2.2.2.2.2.2
              obtain ⟨q, hq⟩ : ∃ q, φ s a = q := ⟨_, rfl⟩
              have hqT : q ∈ T := by
                have z := cv_in HX.out.2.2.2.2 hiT hal
                rw [HS9.out, hq] at z
                exact z
              have hqN : q < N := HX.out.2.2.1 q hqT
              obtain ⟨j, hj⟩ : ∃ j, T.idxOf q = j := ⟨_, rfl⟩
              have HNU : Hid (numF T q = (j : Int)) := hide (by unfold numF; rw [if_pos hqT, hj])
              obtain ⟨X, hX⟩ : ∃ X, lsN φ M T i ++ lsR φ T s a = X := ⟨_, rfl⟩
              have hXl : X.length ≤ 16777216 := by
                rw [← hX, List.length_append, lsN_len φ M T i (by omega)]
                have z1 : (lsR φ T s a).length = a := by simp [lsR]
                have z2 : (i + 1) * M ≤ N * M := Nat.mul_le_mul_right M (by omega)
                have z3 := HNM.out.2
                rw [Nat.succ_mul] at z2
                omega
              have HXE : Hid (lsN φ M T i ++ lsR φ T s (a + 1) = X ++ [j]) := hide (by rw [lsR_succ, ← List.append_assoc, hX, hq, hj])
              have hO := HI.out.n
              rw [hX] at hO
              obtain ⟨t1, c1, hv⟩ := own_slice hO
              obtain ⟨nX, hnX⟩ : ∃ l, (natI X).length = l := ⟨_, rfl⟩
              rw [hnX] at hv
              subst hv
              have HI2 : Hid (LS bm nT M w9 wr vF2 (.slice t1 nX c1) (natI (lsF (inF Fi) T (i + 1))) (natI X)) := hide (by rw [← hX]; exact HI.out)
              have TLs : Hid (∀ W, Below bm w9 W → Calls Try.prog 53 #[.int .i64 (s : Int), .int .i64 (a : Int), .pointer (some ⟨ba, 0, none⟩), .pointer (some ⟨bt, 0, none⟩)] W fun e w' => e = .returned (.int .i64 (q : Int)) ∧ Below W.heap.size W w') := hide (fun W d => by
                have z := TL.out W (HG.out W d).2.2.2.2.2.2.1 s a hsN hal
                rwa [hq] at z)
              have HTB : Hid (∀ W bb, JO wr (fun k => (Value.slice t1 nX c1).ownBlock = some k) bb W → Below bm w9 W) := hide (fun W bb d => HI2.out.d.trans (d.2.toBelow hBm (fun k hk => (HI2.out.n.lt k hk).1)))
              have HBX := hide (And.intro HI2.out.bx (fun e => row_tag HI2.out.n HI2.out.bx (by decide) e : ¬ (Value.slice t1 nX c1).ownBlock = some bm))
              have HLO := hide (fun k hk => (HI2.out.n.lt k hk).2 : ∀ k, (Value.slice t1 nX c1).ownBlock = some k → k < wr.heap.size)
              have HOX := hide HI2.out.n
              have HPW : Hid (∀ W v, Only wr W (fun k => (Value.slice t1 nX c1).ownBlock = some k) → OwI W bm v (natI (X ++ [j])) → (∀ k, v.ownBlock = some k → (Value.slice t1 nX c1).ownBlock = some k ∨ wr.heap.size ≤ k) → LS bm nT M w9 (W.setCell ⟨bm, 4, none⟩ v) vF2 v (natI (lsF (inF Fi) T (i + 1))) (natI (X ++ [j]))) := hide (fun W v o ho hb => HI2.out.putN hBm o ho hb)
              have l4 : (q : Int) < (N : Int) := by omega
              have l5 : (0 : Int) ≤ (q : Int) := by omega
              clear hO hq hj hqT hX hnX HI
              go_upto_region 14 with fail
              have hmo : MonIL 0 [vI 0 (.pointer (some ⟨bm, 4, none⟩)), vI 1 (.slice t1 nX c1), vI 2 (.pointer (some ⟨bn, 1, none⟩)), vI 3 (.slice (some ⟨gn, 0, none⟩) N N), vI 4 (.func (.func 53) #[] #[.pointer (some ⟨ba, 0, none⟩), .pointer (some ⟨bt, 0, none⟩)]), vI 5 (.int .i64 (s : Int)), vI 6 (.int .i64 (a : Int)), vI 7 (.int .i64 (q : Int)), vI 8 (.pointer (some ⟨gn, q, none⟩)), vI 9 (.int .i64 (j : Int)), pI 10 (ox1P wr.heap.size (.int .i64 (j : Int))), pI 11 (apI bm (X ++ [j]) (Value.slice t1 nX c1).ownBlock wr.heap.size)] := ⟨vI_mono _ _, vI_mono _ _, vI_mono _ _, vI_mono _ _, vI_mono _ _, vI_mono _ _, vI_mono _ _, vI_mono _ _, vI_mono _ _, vI_mono _ _, pI_mono ox1P_mono, pI_mono apI_mono, trivial⟩
              refine wp_region_sj (JO wr (fun k => (Value.slice t1 nX c1).ownBlock = some k)) 11 [vI 0 (.pointer (some ⟨bm, 4, none⟩)), vI 1 (.slice t1 nX c1), vI 2 (.pointer (some ⟨bn, 1, none⟩)), vI 3 (.slice (some ⟨gn, 0, none⟩) N N), vI 4 (.func (.func 53) #[] #[.pointer (some ⟨ba, 0, none⟩), .pointer (some ⟨bt, 0, none⟩)]), vI 5 (.int .i64 (s : Int)), vI 6 (.int .i64 (a : Int)), vI 7 (.int .i64 (q : Int)), vI 8 (.pointer (some ⟨gn, q, none⟩)), vI 9 (.int .i64 (j : Int)), pI 10 (ox1P wr.heap.size (.int .i64 (j : Int))), pI 11 (apI bm (X ++ [j]) (Value.slice t1 nX c1).ownBlock wr.heap.size)] (by kernel_rfl) (JO_first ⟨rfl, rfl, rfl, Nat.le_refl _, fun _ _ => rfl⟩) (by kernel_rfl) (by kernel_rfl) (by kernel_rfl) (by kernel_rfl) hmo ⟨?o0, ?o1, ?o2, ?o3, ?o4, ?o5, ?o6, ?o7, ?o8, ?o9, ?o10, ?o11, trivial⟩ ?fin
              case o0 =>
                intro At yy W bb hy hb hbb d hz hd K hK
                have s7 : At.tmps.getD 7 undef = .pointer (some ⟨bm, 0, none⟩) := hb 7 rfl
                have s7' := s7
                rw [Array.getD_eq_getD_getElem?] at s7'
                clear hd hy hb
                go_simp
                exact hK.out _ W (stpj_of hmo d (Below.refl _ _)) (if_pos rfl)
              case o1 =>
                intro At yy W bb hy hb hbb d hz hd K hK
                have e0 : yy 0 = .pointer (some ⟨bm, 4, none⟩) := by obtain ⟨_, _, _, _, e⟩ := hd ⟨0, .data⟩ (by simp) rfl rfl; exact e
                have s57 := (hy 0 _ 57 rfl rfl).trans e0
                have s57' := s57
                rw [Array.getD_eq_getD_getElem?] at s57'
                clear hd hy hb
                have y4 : W.cell? ⟨bm, 4, none⟩ = some (.slice t1 nX c1) := cell_of (JO_blk d HBX.out.1 HBX.out.2) rfl
                go_simp
                exact hK.out _ W (stpj_of hmo d (Below.refl _ _)) (if_pos rfl)
              case o2 =>
                intro At yy W bb hy hb hbb d hz hd K hK
                have s6 : At.tmps.getD 6 undef = .pointer (some ⟨bn, 0, none⟩) := hb 6 rfl
                have s6' := s6
                rw [Array.getD_eq_getD_getElem?] at s6'
                clear hd hy hb
                go_simp
                exact hK.out _ W (stpj_of hmo d (Below.refl _ _)) (if_pos rfl)
              case o3 =>
                intro At yy W bb hy hb hbb d hz hd K hK
                have e2 : yy 2 = .pointer (some ⟨bn, 1, none⟩) := by obtain ⟨_, _, _, _, e⟩ := hd ⟨2, .data⟩ (by simp) rfl rfl; exact e
                have s59 := (hy 2 _ 59 rfl rfl).trans e2
                have s59' := s59
                rw [Array.getD_eq_getD_getElem?] at s59'
                clear hd hy hb
                have y1 : W.cell? ⟨bn, 1, none⟩ = some (.slice (some ⟨gn, 0, none⟩) N N) := cell_of (HG.out W (HTB.out W _ d)).2.2.1 rfl
                go_simp
                exact hK.out _ W (stpj_of hmo d (Below.refl _ _)) (if_pos rfl)
              case o4 =>
                intro At yy W bb hy hb hbb d hz hd K hK
                have s5 : At.tmps.getD 5 undef = .func (.func 53) #[] #[.pointer (some ⟨ba, 0, none⟩), .pointer (some ⟨bt, 0, none⟩)] := hb 5 rfl
                have s5' := s5
                rw [Array.getD_eq_getD_getElem?] at s5'
                clear hd hy hb
                go_simp
                exact hK.out _ W (stpj_of hmo d (Below.refl _ _)) (if_pos rfl)
              case o5 =>
                intro At yy W bb hy hb hbb d hz hd K hK
                have s9 : At.tmps.getD 9 undef = .int .i64 (s : Int) := hb 9 rfl
                have s9' := s9
                rw [Array.getD_eq_getD_getElem?] at s9'
                clear hd hy hb
                go_simp
                exact hK.out _ W (stpj_of hmo d (Below.refl _ _)) (if_pos rfl)
              case o6 =>
                intro At yy W bb hy hb hbb d hz hd K hK
                have s10 : At.tmps.getD 10 undef = .int .i64 (a : Int) := hb 10 rfl
                have s10' := s10
                rw [Array.getD_eq_getD_getElem?] at s10'
                clear hd hy hb
                go_simp
                exact hK.out _ W (stpj_of hmo d (Below.refl _ _)) (if_pos rfl)
              case o7 =>
                intro At yy W bb hy hb hbb d hz hd K hK
                have e4 : yy 4 = .func (.func 53) #[] #[.pointer (some ⟨ba, 0, none⟩), .pointer (some ⟨bt, 0, none⟩)] := by obtain ⟨_, _, _, _, e⟩ := hd ⟨4, .data⟩ (by simp) rfl rfl; exact e
                have e5 : yy 5 = .int .i64 (s : Int) := by obtain ⟨_, _, _, _, e⟩ := hd ⟨5, .data⟩ (by simp) rfl rfl; exact e
                have e6 : yy 6 = .int .i64 (a : Int) := by obtain ⟨_, _, _, _, e⟩ := hd ⟨6, .data⟩ (by simp) rfl rfl; exact e
                have s61 := (hy 4 _ 61 rfl rfl).trans e4
                have s61' := s61
                rw [Array.getD_eq_getD_getElem?] at s61'
                have s62 := (hy 5 _ 62 rfl rfl).trans e5
                have s62' := s62
                rw [Array.getD_eq_getD_getElem?] at s62'
                have s63 := (hy 6 _ 63 rfl rfl).trans e6
                have s63' := s63
                rw [Array.getD_eq_getD_getElem?] at s63'
                clear hd hy hb
                go_simp
                go_wp2_with (go_at_call 53; refine (TLs.out _ (HTB.out _ _ d)).mono ?_; rintro e wa ⟨rfl, da⟩)
                exact hK.out _ wa (stpj_of hmo (JO_on d da) da) (if_pos rfl)
              case o8 =>
                intro At yy W bb hy hb hbb d hz hd K hK
                have e3 : yy 3 = .slice (some ⟨gn, 0, none⟩) N N := by obtain ⟨_, _, _, _, e⟩ := hd ⟨3, .data⟩ (by simp) rfl rfl; exact e
                have e7 : yy 7 = .int .i64 (q : Int) := by obtain ⟨_, _, _, _, e⟩ := hd ⟨7, .data⟩ (by simp) rfl rfl; exact e
                have s60 := (hy 3 _ 60 rfl rfl).trans e3
                have s60' := s60
                rw [Array.getD_eq_getD_getElem?] at s60'
                have s64 := (hy 7 _ 64 rfl rfl).trans e7
                have s64' := s64
                rw [Array.getD_eq_getD_getElem?] at s64'
                clear hd hy hb
                go_simp
                exact hK.out _ W (stpj_of hmo d (Below.refl _ _)) (if_pos rfl)
              case o9 =>
                intro At yy W bb hy hb hbb d hz hd K hK
                have e8 : yy 8 = .pointer (some ⟨gn, q, none⟩) := by obtain ⟨_, _, _, _, e⟩ := hd ⟨8, .data⟩ (by simp) rfl rfl; exact e
                have s65 := (hy 8 _ 65 rfl rfl).trans e8
                have s65' := s65
                rw [Array.getD_eq_getD_getElem?] at s65'
                clear hd hy hb
                have y : W.cell? ⟨gn, q, none⟩ = some (.int .i64 (j : Int)) := by have := (HG.out W (HTB.out W _ d)).2.2.2.2.1.at q hqN; rwa [HNU.out] at this
                go_simp
                exact hK.out _ W (stpj_of hmo d (Below.refl _ _)) (if_pos rfl)
              case o10 =>
                intro At yy W bb hy hb hbb d hz hd K hK
                have e9 : yy 9 = .int .i64 (j : Int) := by obtain ⟨_, _, _, _, e⟩ := hd ⟨9, .data⟩ (by simp) rfl rfl; exact e
                have s66 := (hy 9 _ 66 rfl rfl).trans e9
                have s66' := s66
                rw [Array.getD_eq_getD_getElem?] at s66'
                clear hd hy hb
                go_simp
                exact hK.out _ _ (stpj_of hmo (JO_on d ((Below.refl _ _).alloc (Nat.le_refl _) _)) ((Below.refl _ _).alloc (Nat.le_refl _) _)) ⟨if_pos rfl, hz, by simp, World.alloc_heap_new _ _⟩
              case o11 =>
                intro At yy W bb hy hb hbb d hz hd K hK
                have e1 : yy 1 = .slice t1 nX c1 := by obtain ⟨_, _, _, _, e⟩ := hd ⟨1, .data⟩ (by simp) rfl rfl; exact e
                have f10 := hd ⟨10, .data⟩ (by simp) rfl rfl
                obtain ⟨lo2, hi2, hl2, hh2, e10, b2, l2', z2⟩ := f10
                have s58 := (hy 1 _ 58 rfl rfl).trans e1
                have s58' := s58
                rw [Array.getD_eq_getD_getElem?] at s58'
                have s67 := (hy 10 _ 67 rfl rfl).trans e10
                have s67' := s67
                rw [Array.getD_eq_getD_getElem?] at s67'
                clear hd hb
                have hb0 := hbb rfl
                subst hb0
                refine step_appI rfl _ _ rfl bm (.slice t1 nX c1) X s58 (own_below HOX.out (d.1 rfl)) lo2 j s67 z2 hXl (Nat.le_trans hBm hz) ?_
                intro v4 w4 ho4 hg4 hv4
                exact hK.out _ w4 (stpj_keeps [] rfl (JO_put d hg4.out) hg4.out.size ⟨.inr (fun _ _ _ h => h), .inr (fun _ _ _ h => h), .inr (fun _ _ _ h => h), .inr (fun _ _ _ h => h), .inr (fun _ _ _ h => h), .inr (fun _ _ _ h => h), .inr (fun _ _ _ h => h), .inr (fun _ _ _ h => h), .inr (fun _ _ _ h => h), .inr (fun _ _ _ h => h), .inr (fun _ _ hh h => ox1P_keep hh h hg4.out HLO.out), .inl (by simp), trivial⟩) ⟨v4, if_pos rfl, ho4, fun k hk => (hv4 k hk).imp id (Nat.le_trans hz)⟩
              case fin =>
                intro yy lo hi W hM
                show wpList _ _ _ [_, _] _ _
                have e0 : yy 0 = .pointer (some ⟨bm, 4, none⟩) := hM.fact 0 (by simp) rfl (notR_all 0 rfl)
                have e1 : yy 1 = .slice t1 nX c1 := hM.fact 1 (by simp) rfl (notR_all 1 rfl)
                have e2 : yy 2 = .pointer (some ⟨bn, 1, none⟩) := hM.fact 2 (by simp) rfl (notR_all 2 rfl)
                have e3 : yy 3 = .slice (some ⟨gn, 0, none⟩) N N := hM.fact 3 (by simp) rfl (notR_all 3 rfl)
                have e4 : yy 4 = .func (.func 53) #[] #[.pointer (some ⟨ba, 0, none⟩), .pointer (some ⟨bt, 0, none⟩)] := hM.fact 4 (by simp) rfl (notR_all 4 rfl)
                have e5 : yy 5 = .int .i64 (s : Int) := hM.fact 5 (by simp) rfl (notR_all 5 rfl)
                have e6 : yy 6 = .int .i64 (a : Int) := hM.fact 6 (by simp) rfl (notR_all 6 rfl)
                have e7 : yy 7 = .int .i64 (q : Int) := hM.fact 7 (by simp) rfl (notR_all 7 rfl)
                have e8 : yy 8 = .pointer (some ⟨gn, q, none⟩) := hM.fact 8 (by simp) rfl (notR_all 8 rfl)
                have e9 : yy 9 = .int .i64 (j : Int) := hM.fact 9 (by simp) rfl (notR_all 9 rfl)
                obtain ⟨v4, e11, O11, B11⟩ := hM.fact 11 (by simp) rfl (notR_all 11 rfl)
                obtain ⟨e10, _, _, _⟩ := hM.fact 10 (by simp) rfl (notR_all 10 rfl)
                have dd : JO wr (fun k => (Value.slice t1 nX c1).ownBlock = some k) true W := hM.d
                simp only [fills, Act.put, List.take, List.length, List.setIfInBounds_toArray, List.set_cons_zero, List.set_cons_succ, e0, e1, e2, e3, e4, e5, e6, e7, e8, e9, e10, e11]
                generalize lo 10 = p8
                obtain ⟨b4, c4, e4⟩ := own_slice O11
                subst e4
                clear hM hmo e0 e1 e2 e3 e4 e5 e6 e7 e8 e9 e10 e11
                have HF := hide (HPW.out W (.slice b4 (natI (X ++ [j])).length c4) dd.2 O11 B11)
                have y6 : W.cell? ⟨bm, 4, none⟩ = some (.slice t1 nX c1) := cell_of (JO_blk dd HBX.out.1 HBX.out.2) rfl
                have g6 : W.frozen? ⟨bm, 4, none⟩ = false := fz_of (JO_blk dd HBX.out.1 HBX.out.2)
                clear O11 B11 dd
                go_wp2_with fail
                go_roundw
                case rel => exact ⟨a + 1, by omega, by go_num, vF2, _, hide (by rw [HXE.out]; exact HF.out)⟩
                case measure => simp [intOf]; omega
            · have j0 : ¬ (a : Int) < (M : Int) := by omega
              have haE : a = M := by omega
              subst a
              have HJ : Hid (LS bm nT M w9 wr vF2 vN2 (natI (lsF (inF Fi) T (i + 1))) (natI (lsN φ M T (i + 1)))) := hide (by
                rw [lsN_succ φ M T i hiT, HS9.out]
                exact HI.out)
              clear haM hal
              go_wp2_with fail
              go_roundw
              case rel => exact ⟨i + 1, by omega, by go_num, vF2, vN2, HJ⟩
              case measure => simp [intOf]; omega
        | false =>
          rw [hfs] at cf
          have HFS := hide hfs
          clear hfs
          obtain ⟨w8, hw8⟩ : ∃ W, wr = W := ⟨_, rfl⟩
          subst wr
          have HI8 : Hid (LS bm nT M w9 w8 vF vN (natI (lsF (inF Fi) T (i + 1))) (natI (lsN φ M T i ++ lsR φ T s 0))) := hide (by
            have e1 : lsF (inF Fi) T (i + 1) = lsF (inF Fi) T i := by
              have z := lsF_succ (inF Fi) T i hiT
              rw [HS9.out, HFS.out] at z
              simpa using z
            have e2 : lsN φ M T i ++ lsR φ T s 0 = lsN φ M T i := by simp [lsR]
            rw [e1, e2]
            exact HI.out)
          go_upto_region 11 with fail
          clear HI HGI cf ct cT
          go_wp2_with fail
          go_loopw [54] (fun iv wr => ∃ a : Nat, a ≤ M ∧ iv = .int .i64 (a : Int) ∧ ∃ vF vN, Hid (LS bm nT M w9 wr vF vN (natI (lsF (inF Fi) T (i + 1))) (natI (lsN φ M T i ++ lsR φ T s a)))) (fun iv _ => M - (intOf iv).toNat)
          case atStart => exact ⟨0, Nat.zero_le _, rfl, _, _, HI8⟩
          case round =>
            clear HI8 cd
            obtain ⟨a, haM, rfl, vF2, vN2, HI⟩ := hrel
            by_cases hal : a < M
            · have j0 : (a : Int) < (M : Int) := by omega
              have j1 : (0 : Int) ≤ (a : Int) := by omega
              have hBm := (HG.out wr HI.out.d).2.2.2.2.2.2.2
              obtain ⟨q, hq⟩ : ∃ q, φ s a = q := ⟨_, rfl⟩
              have hqT : q ∈ T := by
                have z := cv_in HX.out.2.2.2.2 hiT hal
                rw [HS9.out, hq] at z
                exact z
              have hqN : q < N := HX.out.2.2.1 q hqT
              obtain ⟨j, hj⟩ : ∃ j, T.idxOf q = j := ⟨_, rfl⟩
              have HNU : Hid (numF T q = (j : Int)) := hide (by unfold numF; rw [if_pos hqT, hj])
              obtain ⟨X, hX⟩ : ∃ X, lsN φ M T i ++ lsR φ T s a = X := ⟨_, rfl⟩
              have hXl : X.length ≤ 16777216 := by
                rw [← hX, List.length_append, lsN_len φ M T i (by omega)]
                have z1 : (lsR φ T s a).length = a := by simp [lsR]
                have z2 : (i + 1) * M ≤ N * M := Nat.mul_le_mul_right M (by omega)
                have z3 := HNM.out.2
                rw [Nat.succ_mul] at z2
                omega
              have HXE : Hid (lsN φ M T i ++ lsR φ T s (a + 1) = X ++ [j]) := hide (by rw [lsR_succ, ← List.append_assoc, hX, hq, hj])
              have hO := HI.out.n
              rw [hX] at hO
              obtain ⟨t1, c1, hv⟩ := own_slice hO
              obtain ⟨nX, hnX⟩ : ∃ l, (natI X).length = l := ⟨_, rfl⟩
              rw [hnX] at hv
              subst hv
              have HI2 : Hid (LS bm nT M w9 wr vF2 (.slice t1 nX c1) (natI (lsF (inF Fi) T (i + 1))) (natI X)) := hide (by rw [← hX]; exact HI.out)
              have TLs : Hid (∀ W, Below bm w9 W → Calls Try.prog 53 #[.int .i64 (s : Int), .int .i64 (a : Int), .pointer (some ⟨ba, 0, none⟩), .pointer (some ⟨bt, 0, none⟩)] W fun e w' => e = .returned (.int .i64 (q : Int)) ∧ Below W.heap.size W w') := hide (fun W d => by
                have z := TL.out W (HG.out W d).2.2.2.2.2.2.1 s a hsN hal
                rwa [hq] at z)
              have HTB : Hid (∀ W bb, JO wr (fun k => (Value.slice t1 nX c1).ownBlock = some k) bb W → Below bm w9 W) := hide (fun W bb d => HI2.out.d.trans (d.2.toBelow hBm (fun k hk => (HI2.out.n.lt k hk).1)))
              have HBX := hide (And.intro HI2.out.bx (fun e => row_tag HI2.out.n HI2.out.bx (by decide) e : ¬ (Value.slice t1 nX c1).ownBlock = some bm))
              have HLO := hide (fun k hk => (HI2.out.n.lt k hk).2 : ∀ k, (Value.slice t1 nX c1).ownBlock = some k → k < wr.heap.size)
              have HOX := hide HI2.out.n
              have HPW : Hid (∀ W v, Only wr W (fun k => (Value.slice t1 nX c1).ownBlock = some k) → OwI W bm v (natI (X ++ [j])) → (∀ k, v.ownBlock = some k → (Value.slice t1 nX c1).ownBlock = some k ∨ wr.heap.size ≤ k) → LS bm nT M w9 (W.setCell ⟨bm, 4, none⟩ v) vF2 v (natI (lsF (inF Fi) T (i + 1))) (natI (X ++ [j]))) := hide (fun W v o ho hb => HI2.out.putN hBm o ho hb)
              have l4 : (q : Int) < (N : Int) := by omega
              have l5 : (0 : Int) ≤ (q : Int) := by omega
              clear hO hq hj hqT hX hnX HI
              go_upto_region 14 with fail
              have hmo : MonIL 0 [vI 0 (.pointer (some ⟨bm, 4, none⟩)), vI 1 (.slice t1 nX c1), vI 2 (.pointer (some ⟨bn, 1, none⟩)), vI 3 (.slice (some ⟨gn, 0, none⟩) N N), vI 4 (.func (.func 53) #[] #[.pointer (some ⟨ba, 0, none⟩), .pointer (some ⟨bt, 0, none⟩)]), vI 5 (.int .i64 (s : Int)), vI 6 (.int .i64 (a : Int)), vI 7 (.int .i64 (q : Int)), vI 8 (.pointer (some ⟨gn, q, none⟩)), vI 9 (.int .i64 (j : Int)), pI 10 (ox1P wr.heap.size (.int .i64 (j : Int))), pI 11 (apI bm (X ++ [j]) (Value.slice t1 nX c1).ownBlock wr.heap.size)] := ⟨vI_mono _ _, vI_mono _ _, vI_mono _ _, vI_mono _ _, vI_mono _ _, vI_mono _ _, vI_mono _ _, vI_mono _ _, vI_mono _ _, vI_mono _ _, pI_mono ox1P_mono, pI_mono apI_mono, trivial⟩
              refine wp_region_sj (JO wr (fun k => (Value.slice t1 nX c1).ownBlock = some k)) 11 [vI 0 (.pointer (some ⟨bm, 4, none⟩)), vI 1 (.slice t1 nX c1), vI 2 (.pointer (some ⟨bn, 1, none⟩)), vI 3 (.slice (some ⟨gn, 0, none⟩) N N), vI 4 (.func (.func 53) #[] #[.pointer (some ⟨ba, 0, none⟩), .pointer (some ⟨bt, 0, none⟩)]), vI 5 (.int .i64 (s : Int)), vI 6 (.int .i64 (a : Int)), vI 7 (.int .i64 (q : Int)), vI 8 (.pointer (some ⟨gn, q, none⟩)), vI 9 (.int .i64 (j : Int)), pI 10 (ox1P wr.heap.size (.int .i64 (j : Int))), pI 11 (apI bm (X ++ [j]) (Value.slice t1 nX c1).ownBlock wr.heap.size)] (by kernel_rfl) (JO_first ⟨rfl, rfl, rfl, Nat.le_refl _, fun _ _ => rfl⟩) (by kernel_rfl) (by kernel_rfl) (by kernel_rfl) (by kernel_rfl) hmo ⟨?o0, ?o1, ?o2, ?o3, ?o4, ?o5, ?o6, ?o7, ?o8, ?o9, ?o10, ?o11, trivial⟩ ?fin
              case o0 =>
                intro At yy W bb hy hb hbb d hz hd K hK
                have s7 : At.tmps.getD 7 undef = .pointer (some ⟨bm, 0, none⟩) := hb 7 rfl
                have s7' := s7
                rw [Array.getD_eq_getD_getElem?] at s7'
                clear hd hy hb
                go_simp
                exact hK.out _ W (stpj_of hmo d (Below.refl _ _)) (if_pos rfl)
              case o1 =>
                intro At yy W bb hy hb hbb d hz hd K hK
                have e0 : yy 0 = .pointer (some ⟨bm, 4, none⟩) := by obtain ⟨_, _, _, _, e⟩ := hd ⟨0, .data⟩ (by simp) rfl rfl; exact e
                have s57 := (hy 0 _ 57 rfl rfl).trans e0
                have s57' := s57
                rw [Array.getD_eq_getD_getElem?] at s57'
                clear hd hy hb
                have y4 : W.cell? ⟨bm, 4, none⟩ = some (.slice t1 nX c1) := cell_of (JO_blk d HBX.out.1 HBX.out.2) rfl
                go_simp
                exact hK.out _ W (stpj_of hmo d (Below.refl _ _)) (if_pos rfl)
              case o2 =>
                intro At yy W bb hy hb hbb d hz hd K hK
                have s6 : At.tmps.getD 6 undef = .pointer (some ⟨bn, 0, none⟩) := hb 6 rfl
                have s6' := s6
                rw [Array.getD_eq_getD_getElem?] at s6'
                clear hd hy hb
                go_simp
                exact hK.out _ W (stpj_of hmo d (Below.refl _ _)) (if_pos rfl)
              case o3 =>
                intro At yy W bb hy hb hbb d hz hd K hK
                have e2 : yy 2 = .pointer (some ⟨bn, 1, none⟩) := by obtain ⟨_, _, _, _, e⟩ := hd ⟨2, .data⟩ (by simp) rfl rfl; exact e
                have s59 := (hy 2 _ 59 rfl rfl).trans e2
                have s59' := s59
                rw [Array.getD_eq_getD_getElem?] at s59'
                clear hd hy hb
                have y1 : W.cell? ⟨bn, 1, none⟩ = some (.slice (some ⟨gn, 0, none⟩) N N) := cell_of (HG.out W (HTB.out W _ d)).2.2.1 rfl
                go_simp
                exact hK.out _ W (stpj_of hmo d (Below.refl _ _)) (if_pos rfl)
              case o4 =>
                intro At yy W bb hy hb hbb d hz hd K hK
                have s5 : At.tmps.getD 5 undef = .func (.func 53) #[] #[.pointer (some ⟨ba, 0, none⟩), .pointer (some ⟨bt, 0, none⟩)] := hb 5 rfl
                have s5' := s5
                rw [Array.getD_eq_getD_getElem?] at s5'
                clear hd hy hb
                go_simp
                exact hK.out _ W (stpj_of hmo d (Below.refl _ _)) (if_pos rfl)
              case o5 =>
                intro At yy W bb hy hb hbb d hz hd K hK
                have s9 : At.tmps.getD 9 undef = .int .i64 (s : Int) := hb 9 rfl
                have s9' := s9
                rw [Array.getD_eq_getD_getElem?] at s9'
                clear hd hy hb
                go_simp
                exact hK.out _ W (stpj_of hmo d (Below.refl _ _)) (if_pos rfl)
              case o6 =>
                intro At yy W bb hy hb hbb d hz hd K hK
                have s10 : At.tmps.getD 10 undef = .int .i64 (a : Int) := hb 10 rfl
                have s10' := s10
                rw [Array.getD_eq_getD_getElem?] at s10'
                clear hd hy hb
                go_simp
                exact hK.out _ W (stpj_of hmo d (Below.refl _ _)) (if_pos rfl)
              case o7 =>
                intro At yy W bb hy hb hbb d hz hd K hK
                have e4 : yy 4 = .func (.func 53) #[] #[.pointer (some ⟨ba, 0, none⟩), .pointer (some ⟨bt, 0, none⟩)] := by obtain ⟨_, _, _, _, e⟩ := hd ⟨4, .data⟩ (by simp) rfl rfl; exact e
                have e5 : yy 5 = .int .i64 (s : Int) := by obtain ⟨_, _, _, _, e⟩ := hd ⟨5, .data⟩ (by simp) rfl rfl; exact e
                have e6 : yy 6 = .int .i64 (a : Int) := by obtain ⟨_, _, _, _, e⟩ := hd ⟨6, .data⟩ (by simp) rfl rfl; exact e
                have s61 := (hy 4 _ 61 rfl rfl).trans e4
                have s61' := s61
                rw [Array.getD_eq_getD_getElem?] at s61'
                have s62 := (hy 5 _ 62 rfl rfl).trans e5
                have s62' := s62
                rw [Array.getD_eq_getD_getElem?] at s62'
                have s63 := (hy 6 _ 63 rfl rfl).trans e6
                have s63' := s63
                rw [Array.getD_eq_getD_getElem?] at s63'
                clear hd hy hb
                go_simp
                go_wp2_with (go_at_call 53; refine (TLs.out _ (HTB.out _ _ d)).mono ?_; rintro e wa ⟨rfl, da⟩)
                exact hK.out _ wa (stpj_of hmo (JO_on d da) da) (if_pos rfl)
              case o8 =>
                intro At yy W bb hy hb hbb d hz hd K hK
                have e3 : yy 3 = .slice (some ⟨gn, 0, none⟩) N N := by obtain ⟨_, _, _, _, e⟩ := hd ⟨3, .data⟩ (by simp) rfl rfl; exact e
                have e7 : yy 7 = .int .i64 (q : Int) := by obtain ⟨_, _, _, _, e⟩ := hd ⟨7, .data⟩ (by simp) rfl rfl; exact e
                have s60 := (hy 3 _ 60 rfl rfl).trans e3
                have s60' := s60
                rw [Array.getD_eq_getD_getElem?] at s60'
                have s64 := (hy 7 _ 64 rfl rfl).trans e7
                have s64' := s64
                rw [Array.getD_eq_getD_getElem?] at s64'
                clear hd hy hb
                go_simp
                exact hK.out _ W (stpj_of hmo d (Below.refl _ _)) (if_pos rfl)
              case o9 =>
                intro At yy W bb hy hb hbb d hz hd K hK
                have e8 : yy 8 = .pointer (some ⟨gn, q, none⟩) := by obtain ⟨_, _, _, _, e⟩ := hd ⟨8, .data⟩ (by simp) rfl rfl; exact e
                have s65 := (hy 8 _ 65 rfl rfl).trans e8
                have s65' := s65
                rw [Array.getD_eq_getD_getElem?] at s65'
                clear hd hy hb
                have y : W.cell? ⟨gn, q, none⟩ = some (.int .i64 (j : Int)) := by have := (HG.out W (HTB.out W _ d)).2.2.2.2.1.at q hqN; rwa [HNU.out] at this
                go_simp
                exact hK.out _ W (stpj_of hmo d (Below.refl _ _)) (if_pos rfl)
              case o10 =>
                intro At yy W bb hy hb hbb d hz hd K hK
                have e9 : yy 9 = .int .i64 (j : Int) := by obtain ⟨_, _, _, _, e⟩ := hd ⟨9, .data⟩ (by simp) rfl rfl; exact e
                have s66 := (hy 9 _ 66 rfl rfl).trans e9
                have s66' := s66
                rw [Array.getD_eq_getD_getElem?] at s66'
                clear hd hy hb
                go_simp
                exact hK.out _ _ (stpj_of hmo (JO_on d ((Below.refl _ _).alloc (Nat.le_refl _) _)) ((Below.refl _ _).alloc (Nat.le_refl _) _)) ⟨if_pos rfl, hz, by simp, World.alloc_heap_new _ _⟩
              case o11 =>
                intro At yy W bb hy hb hbb d hz hd K hK
                have e1 : yy 1 = .slice t1 nX c1 := by obtain ⟨_, _, _, _, e⟩ := hd ⟨1, .data⟩ (by simp) rfl rfl; exact e
                have f10 := hd ⟨10, .data⟩ (by simp) rfl rfl
                obtain ⟨lo2, hi2, hl2, hh2, e10, b2, l2', z2⟩ := f10
                have s58 := (hy 1 _ 58 rfl rfl).trans e1
                have s58' := s58
                rw [Array.getD_eq_getD_getElem?] at s58'
                have s67 := (hy 10 _ 67 rfl rfl).trans e10
                have s67' := s67
                rw [Array.getD_eq_getD_getElem?] at s67'
                clear hd hb
                have hb0 := hbb rfl
                subst hb0
                refine step_appI rfl _ _ rfl bm (.slice t1 nX c1) X s58 (own_below HOX.out (d.1 rfl)) lo2 j s67 z2 hXl (Nat.le_trans hBm hz) ?_
                intro v4 w4 ho4 hg4 hv4
                exact hK.out _ w4 (stpj_keeps [] rfl (JO_put d hg4.out) hg4.out.size ⟨.inr (fun _ _ _ h => h), .inr (fun _ _ _ h => h), .inr (fun _ _ _ h => h), .inr (fun _ _ _ h => h), .inr (fun _ _ _ h => h), .inr (fun _ _ _ h => h), .inr (fun _ _ _ h => h), .inr (fun _ _ _ h => h), .inr (fun _ _ _ h => h), .inr (fun _ _ _ h => h), .inr (fun _ _ hh h => ox1P_keep hh h hg4.out HLO.out), .inl (by simp), trivial⟩) ⟨v4, if_pos rfl, ho4, fun k hk => (hv4 k hk).imp id (Nat.le_trans hz)⟩
              case fin =>
                intro yy lo hi W hM
                show wpList _ _ _ [_, _] _ _
                have e0 : yy 0 = .pointer (some ⟨bm, 4, none⟩) := hM.fact 0 (by simp) rfl (notR_all 0 rfl)
                have e1 : yy 1 = .slice t1 nX c1 := hM.fact 1 (by simp) rfl (notR_all 1 rfl)
                have e2 : yy 2 = .pointer (some ⟨bn, 1, none⟩) := hM.fact 2 (by simp) rfl (notR_all 2 rfl)
                have e3 : yy 3 = .slice (some ⟨gn, 0, none⟩) N N := hM.fact 3 (by simp) rfl (notR_all 3 rfl)
                have e4 : yy 4 = .func (.func 53) #[] #[.pointer (some ⟨ba, 0, none⟩), .pointer (some ⟨bt, 0, none⟩)] := hM.fact 4 (by simp) rfl (notR_all 4 rfl)
                have e5 : yy 5 = .int .i64 (s : Int) := hM.fact 5 (by simp) rfl (notR_all 5 rfl)
                have e6 : yy 6 = .int .i64 (a : Int) := hM.fact 6 (by simp) rfl (notR_all 6 rfl)
                have e7 : yy 7 = .int .i64 (q : Int) := hM.fact 7 (by simp) rfl (notR_all 7 rfl)
                have e8 : yy 8 = .pointer (some ⟨gn, q, none⟩) := hM.fact 8 (by simp) rfl (notR_all 8 rfl)
                have e9 : yy 9 = .int .i64 (j : Int) := hM.fact 9 (by simp) rfl (notR_all 9 rfl)
                obtain ⟨v4, e11, O11, B11⟩ := hM.fact 11 (by simp) rfl (notR_all 11 rfl)
                obtain ⟨e10, _, _, _⟩ := hM.fact 10 (by simp) rfl (notR_all 10 rfl)
                have dd : JO wr (fun k => (Value.slice t1 nX c1).ownBlock = some k) true W := hM.d
                simp only [fills, Act.put, List.take, List.length, List.setIfInBounds_toArray, List.set_cons_zero, List.set_cons_succ, e0, e1, e2, e3, e4, e5, e6, e7, e8, e9, e10, e11]
                generalize lo 10 = p8
                obtain ⟨b4, c4, e4⟩ := own_slice O11
                subst e4
                clear hM hmo e0 e1 e2 e3 e4 e5 e6 e7 e8 e9 e10 e11
                have HF := hide (HPW.out W (.slice b4 (natI (X ++ [j])).length c4) dd.2 O11 B11)
                have y6 : W.cell? ⟨bm, 4, none⟩ = some (.slice t1 nX c1) := cell_of (JO_blk dd HBX.out.1 HBX.out.2) rfl
                have g6 : W.frozen? ⟨bm, 4, none⟩ = false := fz_of (JO_blk dd HBX.out.1 HBX.out.2)
                clear O11 B11 dd
                go_wp2_with fail
                go_roundw
                case rel => exact ⟨a + 1, by omega, by go_num, vF2, _, hide (by rw [HXE.out]; exact HF.out)⟩
                case measure => simp [intOf]; omega
            · have j0 : ¬ (a : Int) < (M : Int) := by omega
              have haE : a = M := by omega
              subst a
              have HJ : Hid (LS bm nT M w9 wr vF2 vN2 (natI (lsF (inF Fi) T (i + 1))) (natI (lsN φ M T (i + 1)))) := hide (by
                rw [lsN_succ φ M T i hiT, HS9.out]
                exact HI.out)
              clear haM hal
              go_wp2_with fail
              go_roundw
              case rel => exact ⟨i + 1, by omega, by go_num, vF2, vN2, HJ⟩
              case measure => simp [intOf]; omega
      · have l0 : ¬ (i : Int) < (nT : Int) := by omega
        have hEi : i = nT := by omega
        subst i
        obtain ⟨bF, cF2, hvF⟩ := own_slice HI.out.f
        obtain ⟨bN, cN2, hvN⟩ := own_slice HI.out.n
        obtain ⟨mF, hmF⟩ : ∃ m, (natI (lsF (inF Fi) T nT)).length = m := ⟨_, rfl⟩
        obtain ⟨mN, hmN⟩ : ∃ m, (natI (lsN φ M T nT)).length = m := ⟨_, rfl⟩
        rw [hmF] at hvF
        rw [hmN] at hvN
        subst hvF
        subst hvN
        clear hmF hmN
        have x0 : wr.cell? ⟨bm, 0, none⟩ = some (.int .i64 (nT : Int)) := cell_of HI.out.bx rfl
        have x1 : wr.cell? ⟨bm, 1, none⟩ = some (.int .i64 (M : Int)) := cell_of HI.out.bx rfl
        have x2 : wr.cell? ⟨bm, 2, none⟩ = some (.int .i64 0) := cell_of HI.out.bx rfl
        have x3 : wr.cell? ⟨bm, 3, none⟩ = some (.slice bF mF cF2) := cell_of HI.out.bx rfl
        have x4 : wr.cell? ⟨bm, 4, none⟩ = some (.slice bN mN cN2) := cell_of HI.out.bx rfl
        have B5 : wr.heap[w.heap.size + 1]? = some (.cells #[.int .i64 0, .int .i64 0, .int .i64 0, .slice none 0 0, .slice none 0 0] 24 (0, 0)) := blk_on HQ.out.2.2.2.2.2.2 HGI.out.2.2.2.2.2.2.1
        have r0 : wr.cell? ⟨w.heap.size + 1, 0, none⟩ = some (.int .i64 0) := cell_of B5 rfl
        have r1 : wr.cell? ⟨w.heap.size + 1, 1, none⟩ = some (.int .i64 0) := cell_of B5 rfl
        have r2 : wr.cell? ⟨w.heap.size + 1, 2, none⟩ = some (.int .i64 0) := cell_of B5 rfl
        have r3 : wr.cell? ⟨w.heap.size + 1, 3, none⟩ = some (.slice none 0 0) := cell_of B5 rfl
        have r4 : wr.cell? ⟨w.heap.size + 1, 4, none⟩ = some (.slice none 0 0) := cell_of B5 rfl
        have f0 : wr.frozen? ⟨w.heap.size + 1, 0, none⟩ = false := fz_of B5
        have f1 : wr.frozen? ⟨w.heap.size + 1, 1, none⟩ = false := fz_of B5
        have f2 : wr.frozen? ⟨w.heap.size + 1, 2, none⟩ = false := fz_of B5
        have f3 : wr.frozen? ⟨w.heap.size + 1, 3, none⟩ = false := fz_of B5
        have f4 : wr.frozen? ⟨w.heap.size + 1, 4, none⟩ = false := fz_of B5
        have O6 := hide (And.intro (set5 wr (w.heap.size + 1) _ _ _ _ _ (.int .i64 (nT : Int)) (.int .i64 (M : Int)) (.int .i64 0) (.slice bF mF cF2) (.slice bN mN cN2) 24 B5) (And.intro (only5 wr (w.heap.size + 1) (.int .i64 (nT : Int)) (.int .i64 (M : Int)) (.int .i64 0) (.slice bF mF cF2) (.slice bN mN cN2)) B5))
        clear B5 hi hil hnN l0
        go_wp2_with fail
        refine bodyPost_ret (results_cell_row (p := 2) (ty := 24) rfl _ _ (w.heap.size + 1) 24 _ (0, 0) _ rfl O6.out.1 Try.underlying24 rfl (by kernel_rfl)) rfl ?_
        have D1 : Below w.heap.size w wr := HQ.out.2.2.2.2.2.1.trans (HGI.out.2.2.2.2.2.2.1.mono HQ.out.2.2.2.2.2.1.size)
        have hbm2 : w.heap.size ≤ bm := by
          have z1 := HX9.out.1.size
          have z2 := HQ.out.2.2.2.2.2.1.size
          have z3 := HBM.out
          omega
        have eT := HX.out.1
        have eP := HPH.out
        refine ⟨.slice bF mF cF2, .slice bN mN cN2, T, K, al, by rw [eT], hide ⟨HCL.out, ?_, ?_, HX.out.2.1, HX.out.2.2.1, ?_, ?_, HI.out.ap, D1.trans (O6.out.2.1.toBelow D1.size (fun k hk => by omega))⟩⟩
        · have z := HX.out.2.2.2.1
          rw [eP, ← HR9.out] at z
          exact z
        · have z := HX.out.2.2.2.2
          rw [eP] at z
          exact z
        · rw [eT]
          exact owns_down (own_keep HI.out.f O6.out.2.2 (by decide) O6.out.2.1) hbm2
        · rw [← eP, eT]
          exact owns_down (own_keep HI.out.n O6.out.2.2 (by decide) O6.out.2.1) hbm2
/-! ### What is not valid -/
set_option maxRecDepth 100000 in
set_option maxHeartbeats 1000000 in
theorem access_bad (w : World) (N M st : Int) (aF aN : Option Addr) (lF cF lN cN : Nat) (Fi Nx : List Int) (hF : RdN w aF Fi) (hN : RdN w aN Nx) (hlF : Fi.length = lF) (hlN : Nx.length = lN) (bF : lF ≤ 4194304) (bN : lN ≤ 4194304) (hv : vd N M st Fi Nx = false) :
    Calls Try.prog 10 #[.agg #[.int .i64 N, .int .i64 M, .int .i64 st, .slice aF lF cF, .slice aN lN cN]] w fun e w' => e = .returned (.tuple #[.slice none 0 0, .int .i64 3]) ∧ Below w.heap.size w w' := by
  obtain ⟨W0, hW0⟩ : ∃ W0, w.alloc (.cells #[.int .i64 N, .int .i64 M, .int .i64 st, .slice aF lF cF, .slice aN lN cN] 24) = W0 := ⟨_, rfl⟩
  have d0 : Below w.heap.size w W0 := by rw [← hW0]; exact (Below.refl _ _).alloc (Nat.le_refl _) _
  have B0 : W0.heap[w.heap.size]? = some (.cells #[.int .i64 N, .int .i64 M, .int .i64 st, .slice aF lF cF, .slice aN lN cN] 24 (0, 0)) := by rw [← hW0]; exact World.alloc_heap_new _ _
  have k0 : W0.cell? ⟨w.heap.size, 0, none⟩ = some (.int .i64 N) := cell_of B0 rfl
  have k1 : W0.cell? ⟨w.heap.size, 1, none⟩ = some (.int .i64 M) := cell_of B0 rfl
  have k2 : W0.cell? ⟨w.heap.size, 2, none⟩ = some (.int .i64 st) := cell_of B0 rfl
  have k3 : W0.cell? ⟨w.heap.size, 3, none⟩ = some (.slice aF lF cF) := cell_of B0 rfl
  have k4 : W0.cell? ⟨w.heap.size, 4, none⟩ = some (.slice aN lN cN) := cell_of B0 rfl
  have TV : Hid (Calls Try.prog 31 #[.agg #[.int .i64 N, .int .i64 M, .int .i64 st, .slice aF lF cF, .slice aN lN cN]] W0 fun e w' => e = .returned (.int .i64 3) ∧ Below W0.heap.size W0 w') := hide (by
    have := valid_any W0 N M st aF aN lF cF lN cN Fi Nx (hF.on d0) (hN.on d0) hlF hlN bF bN
    rw [hv] at this
    exact this)
  have HD := hide (And.intro d0 B0)
  clear d0 B0 hF hN hv hlF hlN bF bN
  go_enter Try.func10, Try.ntmps10
  go_wp2_with (go_at_call 31; refine TV.out.mono ?_; rintro e w2 ⟨rfl, HB⟩)
  go_ret2
  exact ⟨rfl, HD.out.1.trans (HB.mono HD.out.1.size)⟩
set_option maxRecDepth 100000 in
set_option maxHeartbeats 1000000 in
theorem classes_bad (w : World) (N M st : Int) (aF aN : Option Addr) (lF cF lN cN : Nat) (Fi Nx : List Int) (hF : RdN w aF Fi) (hN : RdN w aN Nx) (hlF : Fi.length = lF) (hlN : Nx.length = lN) (bF : lF ≤ 4194304) (bN : lN ≤ 4194304) (hv : vd N M st Fi Nx = false) :
    Calls Try.prog 14 #[.agg #[.int .i64 N, .int .i64 M, .int .i64 st, .slice aF lF cF, .slice aN lN cN]] w fun e w' => e = .returned (.tuple #[.slice none 0 0, .int .i64 3]) ∧ Below w.heap.size w w' := by
  obtain ⟨W0, hW0⟩ : ∃ W0, w.alloc (.cells #[.int .i64 N, .int .i64 M, .int .i64 st, .slice aF lF cF, .slice aN lN cN] 24) = W0 := ⟨_, rfl⟩
  have d0 : Below w.heap.size w W0 := by rw [← hW0]; exact (Below.refl _ _).alloc (Nat.le_refl _) _
  have B0 : W0.heap[w.heap.size]? = some (.cells #[.int .i64 N, .int .i64 M, .int .i64 st, .slice aF lF cF, .slice aN lN cN] 24 (0, 0)) := by rw [← hW0]; exact World.alloc_heap_new _ _
  have k0 : W0.cell? ⟨w.heap.size, 0, none⟩ = some (.int .i64 N) := cell_of B0 rfl
  have k1 : W0.cell? ⟨w.heap.size, 1, none⟩ = some (.int .i64 M) := cell_of B0 rfl
  have k2 : W0.cell? ⟨w.heap.size, 2, none⟩ = some (.int .i64 st) := cell_of B0 rfl
  have k3 : W0.cell? ⟨w.heap.size, 3, none⟩ = some (.slice aF lF cF) := cell_of B0 rfl
  have k4 : W0.cell? ⟨w.heap.size, 4, none⟩ = some (.slice aN lN cN) := cell_of B0 rfl
  have TV : Hid (Calls Try.prog 31 #[.agg #[.int .i64 N, .int .i64 M, .int .i64 st, .slice aF lF cF, .slice aN lN cN]] W0 fun e w' => e = .returned (.int .i64 3) ∧ Below W0.heap.size W0 w') := hide (by
    have := valid_any W0 N M st aF aN lF cF lN cN Fi Nx (hF.on d0) (hN.on d0) hlF hlN bF bN
    rw [hv] at this
    exact this)
  have HD := hide (And.intro d0 B0)
  clear d0 B0 hF hN hv hlF hlN bF bN
  go_enter Try.func14, Try.ntmps14
  go_wp2_with (go_at_call 31; refine TV.out.mono ?_; rintro e w2 ⟨rfl, HB⟩)
  go_ret2
  exact ⟨rfl, HD.out.1.trans (HB.mono HD.out.1.size)⟩
set_option maxRecDepth 100000 in
set_option maxHeartbeats 1000000 in
theorem tell_bad (w : World) (N M st : Int) (aF aN : Option Addr) (lF cF lN cN : Nat) (Fi Nx : List Int) (hF : RdN w aF Fi) (hN : RdN w aN Nx) (hlF : Fi.length = lF) (hlN : Nx.length = lN) (bF : lF ≤ 4194304) (bN : lN ≤ 4194304) (hv : vd N M st Fi Nx = false) (s t : Int) :
    Calls Try.prog 15 #[.agg #[.int .i64 N, .int .i64 M, .int .i64 st, .slice aF lF cF, .slice aN lN cN], .int .i64 s, .int .i64 t] w fun e w' => e = .returned (.tuple #[.slice none 0 0, .int .i64 3]) ∧ Below w.heap.size w w' := by
  obtain ⟨W0, hW0⟩ : ∃ W0, w.alloc (.cells #[.int .i64 N, .int .i64 M, .int .i64 st, .slice aF lF cF, .slice aN lN cN] 24) = W0 := ⟨_, rfl⟩
  have d0 : Below w.heap.size w W0 := by rw [← hW0]; exact (Below.refl _ _).alloc (Nat.le_refl _) _
  have B0 : W0.heap[w.heap.size]? = some (.cells #[.int .i64 N, .int .i64 M, .int .i64 st, .slice aF lF cF, .slice aN lN cN] 24 (0, 0)) := by rw [← hW0]; exact World.alloc_heap_new _ _
  have k0 : W0.cell? ⟨w.heap.size, 0, none⟩ = some (.int .i64 N) := cell_of B0 rfl
  have k1 : W0.cell? ⟨w.heap.size, 1, none⟩ = some (.int .i64 M) := cell_of B0 rfl
  have k2 : W0.cell? ⟨w.heap.size, 2, none⟩ = some (.int .i64 st) := cell_of B0 rfl
  have k3 : W0.cell? ⟨w.heap.size, 3, none⟩ = some (.slice aF lF cF) := cell_of B0 rfl
  have k4 : W0.cell? ⟨w.heap.size, 4, none⟩ = some (.slice aN lN cN) := cell_of B0 rfl
  have TV : Hid (Calls Try.prog 31 #[.agg #[.int .i64 N, .int .i64 M, .int .i64 st, .slice aF lF cF, .slice aN lN cN]] W0 fun e w' => e = .returned (.int .i64 3) ∧ Below W0.heap.size W0 w') := hide (by
    have := valid_any W0 N M st aF aN lF cF lN cN Fi Nx (hF.on d0) (hN.on d0) hlF hlN bF bN
    rw [hv] at this
    exact this)
  have HD := hide (And.intro d0 B0)
  clear d0 B0 hF hN hv hlF hlN bF bN
  go_enter Try.func15, Try.ntmps15
  go_wp2_with (go_at_call 31; refine TV.out.mono ?_; rintro e w2 ⟨rfl, HB⟩)
  go_ret2
  exact ⟨rfl, HD.out.1.trans (HB.mono HD.out.1.size)⟩
set_option maxRecDepth 100000 in
set_option maxHeartbeats 1000000 in
theorem minimal_bad (w : World) (N M st : Int) (aF aN : Option Addr) (lF cF lN cN : Nat) (Fi Nx : List Int) (hF : RdN w aF Fi) (hN : RdN w aN Nx) (hlF : Fi.length = lF) (hlN : Nx.length = lN) (bF : lF ≤ 4194304) (bN : lN ≤ 4194304) (hv : vd N M st Fi Nx = false) :
    Calls Try.prog 8 #[.agg #[.int .i64 N, .int .i64 M, .int .i64 st, .slice aF lF cF, .slice aN lN cN]] w fun e w' => e = .returned (.tuple #[.agg #[.int .i64 0, .int .i64 0, .int .i64 0, .slice none 0 0, .slice none 0 0], .int .i64 3]) ∧ Below w.heap.size w w' := by
  obtain ⟨W0, hW0⟩ : ∃ W0, (w.alloc (.cells #[.int .i64 N, .int .i64 M, .int .i64 st, .slice aF lF cF, .slice aN lN cN] 24)).alloc (.cells #[.int .i64 0, .int .i64 0, .int .i64 0, .slice none 0 0, .slice none 0 0] 24) = W0 := ⟨_, rfl⟩
  have H2 := hide (two_al w #[.int .i64 N, .int .i64 M, .int .i64 st, .slice aF lF cF, .slice aN lN cN] #[.int .i64 0, .int .i64 0, .int .i64 0, .slice none 0 0, .slice none 0 0] 24 24)
  rw [hW0] at H2
  have d0 := H2.out.1
  have B0 := H2.out.2.1
  have k0 : W0.cell? ⟨w.heap.size, 0, none⟩ = some (.int .i64 N) := cell_of B0 rfl
  have k1 : W0.cell? ⟨w.heap.size, 1, none⟩ = some (.int .i64 M) := cell_of B0 rfl
  have k2 : W0.cell? ⟨w.heap.size, 2, none⟩ = some (.int .i64 st) := cell_of B0 rfl
  have k3 : W0.cell? ⟨w.heap.size, 3, none⟩ = some (.slice aF lF cF) := cell_of B0 rfl
  have k4 : W0.cell? ⟨w.heap.size, 4, none⟩ = some (.slice aN lN cN) := cell_of B0 rfl
  have TV : Hid (Calls Try.prog 31 #[.agg #[.int .i64 N, .int .i64 M, .int .i64 st, .slice aF lF cF, .slice aN lN cN]] W0 fun e w' => e = .returned (.int .i64 3) ∧ Below W0.heap.size W0 w') := hide (by
    have := valid_any W0 N M st aF aN lF cF lN cN Fi Nx (hF.on d0) (hN.on d0) hlF hlN bF bN
    rw [hv] at this
    exact this)
  have HD := hide (And.intro d0 B0)
  clear d0 B0 hF hN hv hlF hlN bF bN
  go_enter Try.func8, Try.ntmps8
  go_upto_region 3 with (go_at_call 31; refine TV.out.mono ?_; rintro e w2 ⟨rfl, HB⟩)
  have R2 := blk_on H2.out.2.2.1 HB
  have r0 : w2.cell? ⟨w.heap.size + 1, 0, none⟩ = some (.int .i64 0) := cell_of R2 rfl
  have r1 : w2.cell? ⟨w.heap.size + 1, 1, none⟩ = some (.int .i64 0) := cell_of R2 rfl
  have r2 : w2.cell? ⟨w.heap.size + 1, 2, none⟩ = some (.int .i64 0) := cell_of R2 rfl
  have r3 : w2.cell? ⟨w.heap.size + 1, 3, none⟩ = some (.slice none 0 0) := cell_of R2 rfl
  have r4 : w2.cell? ⟨w.heap.size + 1, 4, none⟩ = some (.slice none 0 0) := cell_of R2 rfl
  have f0 : w2.frozen? ⟨w.heap.size + 1, 0, none⟩ = false := fz_of R2
  have f1 : w2.frozen? ⟨w.heap.size + 1, 1, none⟩ = false := fz_of R2
  have f2 : w2.frozen? ⟨w.heap.size + 1, 2, none⟩ = false := fz_of R2
  have f3 : w2.frozen? ⟨w.heap.size + 1, 3, none⟩ = false := fz_of R2
  have f4 : w2.frozen? ⟨w.heap.size + 1, 4, none⟩ = false := fz_of R2
  have O6 := hide (And.intro (set5 w2 (w.heap.size + 1) _ _ _ _ _ (.int .i64 0) (.int .i64 0) (.int .i64 0) (.slice none 0 0) (.slice none 0 0) 24 R2) (only5 w2 (w.heap.size + 1) (.int .i64 0) (.int .i64 0) (.int .i64 0) (.slice none 0 0) (.slice none 0 0)))
  have HBB := hide (HD.out.1.trans (HB.mono HD.out.1.size))
  clear R2 HB k0 k1 k2 k3 k4
  go_wp2_with fail
  refine bodyPost_ret (results_c1 (p := 2) (q := 3) (ty := 24) rfl _ _ (w.heap.size + 1) 24 _ (0, 0) _ (.int .i64 3) rfl rfl O6.out.1 Try.underlying24 rfl (by kernel_rfl)) rfl ?_
  exact ⟨rfl, HBB.out.trans (O6.out.2.toBelow HBB.out.size (fun k hk => by omega))⟩
/-! ### Minimal -/
/-- What Minimal answers. -/
structure MnA (N M st : Nat) (Fi Nx : List Int) (B : Nat) (w : World) (vF vN : Value) (T K : List Nat) (al : Nat → Nat) : Prop where
  ca : ClA Nx (inF Fi) N M al
  wk : Wk (fun s a => al (dl Nx M s a)) M (al st) T K (T.length * M)
  cv : Cv (fun s a => al (dl Nx M s a)) M T K (T.length * M)
  nd : T.Nodup
  lt : ∀ q ∈ T, q < N
  f : OwI w B vF (natI (lsF (inF Fi) T T.length))
  n : OwI w B vN (natI (lsN (fun s a => al (dl Nx M s a)) M T T.length))
  ap : ∀ k, vF.ownBlock = some k → vN.ownBlock ≠ some k
set_option maxRecDepth 100000 in
set_option maxHeartbeats 2000000 in
theorem minimal_ok (w : World) (N M st : Nat) (aF aN : Option Addr) (lF cF lN cN : Nat) (Fi Nx : List Int) (hF : RdN w aF Fi) (hN : RdN w aN Nx) (hlF : Fi.length = lF) (hlN : Nx.length = lN) (bF : lF ≤ 4194304) (bN : lN ≤ 4194304) (hv : vd N M st Fi Nx = true) :
    Calls Try.prog 8 #[.agg #[.int .i64 (N : Int), .int .i64 (M : Int), .int .i64 (st : Int), .slice aF lF cF, .slice aN lN cN]] w fun e w' => ∃ vF vN T K al, e = .returned (.tuple #[.agg #[.int .i64 ((T.length : Nat) : Int), .int .i64 (M : Int), .int .i64 0, vF, vN], .int .i64 0]) ∧ Hid (MnA N M st Fi Nx w.heap.size w' vF vN T K al ∧ Below w.heap.size w w') := by
  obtain ⟨n, m, s0, en, em, es, n1, n2, m1, s1, e1, i1, i2⟩ := vd_nat hv
  obtain rfl : N = n := by omega
  obtain rfl : M = m := by omega
  obtain rfl : st = s0 := by omega
  clear en em es
  have bNM : N * M ≤ 4194304 := by rw [← e1, hlN]; exact bN
  have eNM : lN = N * M := by rw [← hlN]; exact e1
  obtain ⟨W0, hW0⟩ : ∃ W0, (w.alloc (.cells #[.int .i64 (N : Int), .int .i64 (M : Int), .int .i64 (st : Int), .slice aF lF cF, .slice aN lN cN] 24)).alloc (.cells #[.int .i64 0, .int .i64 0, .int .i64 0, .slice none 0 0, .slice none 0 0] 24) = W0 := ⟨_, rfl⟩
  have H2 := hide (two_al w #[.int .i64 (N : Int), .int .i64 (M : Int), .int .i64 (st : Int), .slice aF lF cF, .slice aN lN cN] #[.int .i64 0, .int .i64 0, .int .i64 0, .slice none 0 0, .slice none 0 0] 24 24)
  rw [hW0] at H2
  have d0 := H2.out.1
  have B0 := H2.out.2.1
  have k0 : W0.cell? ⟨w.heap.size, 0, none⟩ = some (.int .i64 (N : Int)) := cell_of B0 rfl
  have k1 : W0.cell? ⟨w.heap.size, 1, none⟩ = some (.int .i64 (M : Int)) := cell_of B0 rfl
  have k2 : W0.cell? ⟨w.heap.size, 2, none⟩ = some (.int .i64 (st : Int)) := cell_of B0 rfl
  have k3 : W0.cell? ⟨w.heap.size, 3, none⟩ = some (.slice aF lF cF) := cell_of B0 rfl
  have k4 : W0.cell? ⟨w.heap.size, 4, none⟩ = some (.slice aN lN cN) := cell_of B0 rfl
  have TV : Hid (Calls Try.prog 31 #[.agg #[.int .i64 (N : Int), .int .i64 (M : Int), .int .i64 (st : Int), .slice aF lF cF, .slice aN lN cN]] W0 fun e w' => e = .returned (.int .i64 0) ∧ Below W0.heap.size W0 w') := hide (by
    have := valid_any W0 N M st aF aN lF cF lN cN Fi Nx (hF.on d0) (hN.on d0) hlF hlN bF bN
    rw [if_pos hv] at this
    exact this)
  have TL : Hid (∀ W, Below W0.heap.size W0 W → Calls Try.prog 32 #[.agg #[.int .i64 (N : Int), .int .i64 (M : Int), .int .i64 (st : Int), .slice aF lF cF, .slice aN lN cN]] W fun e w' => ∃ vF vN T K al, e = .returned (.agg #[.int .i64 ((T.length : Nat) : Int), .int .i64 (M : Int), .int .i64 0, vF, vN]) ∧ Hid (MnA N M st Fi Nx W.heap.size w' vF vN T K al ∧ Below W.heap.size W w')) := hide (fun W d => (least_any W N M st aF aN lF cF lN cN Fi Nx ((hF.on d0).on d) ((hN.on d0).on d) hlF hlN bF bN hv).mono (by
    rintro e w' ⟨vF, vN, T, K, al, rfl, H⟩
    obtain ⟨a1, a2, a3, a4, a5, a6, a7, a8, a9⟩ := H.out
    exact ⟨vF, vN, T, K, al, rfl, hide ⟨⟨a1, a2, a3, a4, a5, a6, a7, a8⟩, a9⟩⟩))
  have HD := hide (And.intro d0 (And.intro B0 H2.out.2.2.1))
  have HNM := hide (And.intro eNM bNM)
  clear d0 B0 hF hN hlF hlN e1 i1 i2 hv bF bN eNM bNM s1
  go_enter Try.func8, Try.ntmps8
  go_upto_region 4 with (go_at_call 31; refine TV.out.mono ?_; rintro e w2 ⟨rfl, HB⟩)
  have R2 := blk_on HD.out.2.1 HB
  have q0 : w2.cell? ⟨w.heap.size, 0, none⟩ = some (.int .i64 (N : Int)) := cell_of R2 rfl
  have q1 : w2.cell? ⟨w.heap.size, 1, none⟩ = some (.int .i64 (M : Int)) := cell_of R2 rfl
  have q2 : w2.cell? ⟨w.heap.size, 2, none⟩ = some (.int .i64 (st : Int)) := cell_of R2 rfl
  have q3 : w2.cell? ⟨w.heap.size, 3, none⟩ = some (.slice aF lF cF) := cell_of R2 rfl
  have q4 : w2.cell? ⟨w.heap.size, 4, none⟩ = some (.slice aN lN cN) := cell_of R2 rfl
  have TLW := TL.out w2 HB
  have HBB := hide (And.intro (HD.out.1.trans (HB.mono HD.out.1.size)) (blk_on HD.out.2.2 HB))
  clear R2 HB k0 k1 k2 k3 k4 TL TV
  go_wp2_with fail
  go_at_call 32
  refine TLW.mono ?_
  rintro e w3 ⟨vF, vN, T, K, al, rfl, HA⟩
  have R3 := blk_on HBB.out.2 HA.out.2
  have r0 : w3.cell? ⟨w.heap.size + 1, 0, none⟩ = some (.int .i64 0) := cell_of R3 rfl
  have r1 : w3.cell? ⟨w.heap.size + 1, 1, none⟩ = some (.int .i64 0) := cell_of R3 rfl
  have r2 : w3.cell? ⟨w.heap.size + 1, 2, none⟩ = some (.int .i64 0) := cell_of R3 rfl
  have r3 : w3.cell? ⟨w.heap.size + 1, 3, none⟩ = some (.slice none 0 0) := cell_of R3 rfl
  have r4 : w3.cell? ⟨w.heap.size + 1, 4, none⟩ = some (.slice none 0 0) := cell_of R3 rfl
  have f0 : w3.frozen? ⟨w.heap.size + 1, 0, none⟩ = false := fz_of R3
  have f1 : w3.frozen? ⟨w.heap.size + 1, 1, none⟩ = false := fz_of R3
  have f2 : w3.frozen? ⟨w.heap.size + 1, 2, none⟩ = false := fz_of R3
  have f3 : w3.frozen? ⟨w.heap.size + 1, 3, none⟩ = false := fz_of R3
  have f4 : w3.frozen? ⟨w.heap.size + 1, 4, none⟩ = false := fz_of R3
  obtain ⟨bF, c5, hvF⟩ := own_slice HA.out.1.f
  obtain ⟨bN, c6, hvN⟩ := own_slice HA.out.1.n
  obtain ⟨mF, hmF⟩ : ∃ m, (natI (lsF (inF Fi) T T.length)).length = m := ⟨_, rfl⟩
  obtain ⟨mN, hmN⟩ : ∃ m, (natI (lsN (fun s a => al (dl Nx M s a)) M T T.length)).length = m := ⟨_, rfl⟩
  rw [hmF] at hvF
  rw [hmN] at hvN
  subst hvF
  subst hvN
  clear hmF hmN
  have O6 := hide (And.intro (set5 w3 (w.heap.size + 1) _ _ _ _ _ (.int .i64 ((T.length : Nat) : Int)) (.int .i64 (M : Int)) (.int .i64 0) (.slice bF mF c5) (.slice bN mN c6) 24 R3) (And.intro (only5 w3 (w.heap.size + 1) (.int .i64 ((T.length : Nat) : Int)) (.int .i64 (M : Int)) (.int .i64 0) (.slice bF mF c5) (.slice bN mN c6)) R3))
  have DA : Hid (Below w.heap.size w w3) := hide (HBB.out.1.trans (HA.out.2.mono HBB.out.1.size))
  clear R3 TLW q0 q1 q2 q3 q4
  go_wp2_with fail
  refine bodyPost_ret (results_c1 (p := 2) (q := 3) (ty := 24) rfl _ _ (w.heap.size + 1) 24 _ (0, 0) _ (.int .i64 0) rfl rfl O6.out.1 Try.underlying24 rfl (by kernel_rfl)) rfl ?_
  obtain ⟨a1, a2, a3, a4, a5, a6, a7, a8⟩ := HA.out.1
  refine ⟨.slice bF mF c5, .slice bN mN c6, T, K, al, rfl, hide ⟨⟨a1, a2, a3, a4, a5, ?_, ?_, a8⟩, DA.out.trans (O6.out.2.1.toBelow DA.out.size (fun k hk => by omega))⟩⟩
  · exact owns_down (own_keep a6 O6.out.2.2 (by decide) O6.out.2.1) HBB.out.1.size
  · exact owns_down (own_keep a7 O6.out.2.2 (by decide) O6.out.2.1) HBB.out.1.size
end Go.Proofs.Ytocoghljmlpdeaa
