import Derived.Test.YtfoahpideglghaaGreatDoorYA
import Derived.Test.YtfoahpideglghaaGreatDoorRN
import Derived.Test.YtfoahpideglghaaGreatDoorUs
import Derived.Test.YtfoahpideglghaaGreatDoorND
import Derived.Test.YtfoahpideglghaaGreatDoorAC
import Derived.Test.YtfoahpideglghaaGreatDoorZN
import Derived.Test.YtfoahpideglghaaGreatDoorMM
namespace Go.Proofs.YtfoahpideglghaaGreatDoor
open Go.RowKit Go.Maps Go.Shelf
attribute [local go_sem] Oper.semAt_some

set_option maxRecDepth 100000 in
set_option maxHeartbeats 2000000 in
theorem redge_any (w : World) (n m : Int) (a1 a2 a3 : Option Addr) (c1 c2 c3 : Nat) (St Fi : List Int) (Ed : List EdT) (x1 x2 x3 : Int) (hA : Hid (RdA w a1 a2 a3 St Fi Ed)) (h3 : Ed.length ≤ 4194304) :
    Calls Tryz.prog 80 #[.agg #[.int .i64 n, .int .i64 m, .slice a1 St.length c1, .slice a2 Fi.length c2, .slice a3 Ed.length c3], .agg #[.int .i64 x1, .int .i64 x2, .int .i64 x3]] w fun e w' => e = .returned (.bool (decide ((x1, x2, x3) ∈ Ed))) ∧ Below w.heap.size w w' := by
  obtain ⟨W0, hW0⟩ : ∃ W0, (w.alloc (.cells #[.int .i64 n, .int .i64 m, .slice a1 St.length c1, .slice a2 Fi.length c2, .slice a3 Ed.length c3] 25)).alloc (.cells #[.int .i64 x1, .int .i64 x2, .int .i64 x3] 59) = W0 := ⟨_, rfl⟩
  have H0 : Hid (Below w.heap.size w W0 ∧ W0.heap[w.heap.size]? = some (.cells #[.int .i64 n, .int .i64 m, .slice a1 St.length c1, .slice a2 Fi.length c2, .slice a3 Ed.length c3] 25 (0, 0)) ∧ W0.heap[w.heap.size + 1]? = some (.cells #[.int .i64 x1, .int .i64 x2, .int .i64 x3] 59 (0, 0))) := hide (by
    have t := box3 w #[.int .i64 n, .int .i64 m, .slice a1 St.length c1, .slice a2 Fi.length c2, .slice a3 Ed.length c3] #[.int .i64 x1, .int .i64 x2, .int .i64 x3] 25 59
    rw [hW0] at t
    exact ⟨t.1, t.2.1, t.2.2.1⟩)
  go_enter Tryz.func80, Tryz.ntmps80
  go_wp2_with fail
  clear hW0
  go_loopw [5] (fun iv wr => ∃ i : Nat, i ≤ Ed.length ∧ iv = .int .i64 i ∧ Hid ((∀ t (h : t < Ed.length), t < i → Ed[t] ≠ (x1, x2, x3)) ∧ Below W0.heap.size W0 wr)) (fun iv _ => Ed.length - (intOf iv).toNat)
  case atStart => exact ⟨0, Nat.zero_le _, rfl, hide ⟨fun t _ h => absurd h (Nat.not_lt_zero t), Below.refl _ _⟩⟩
  case round =>
    obtain ⟨i, hi, rfl, HY⟩ := hrel
    have eb := blk_on H0.out.2.1 HY.out.2
    have y4 : wr.cell? ⟨w.heap.size, 4, none⟩ = some (.slice a3 Ed.length c3) := cell_of eb rfl
    have ex := blk_on H0.out.2.2 HY.out.2
    have z0 : wr.cell? ⟨w.heap.size + 1, 0, none⟩ = some (.int .i64 x1) := cell_of ex rfl
    have z1 : wr.cell? ⟨w.heap.size + 1, 1, none⟩ = some (.int .i64 x2) := cell_of ex rfl
    have z2 : wr.cell? ⟨w.heap.size + 1, 2, none⟩ = some (.int .i64 x3) := cell_of ex rfl
    have HDW := hide (H0.out.1.trans (HY.out.2.mono H0.out.1.size))
    clear eb ex
    by_cases hlt : i < Ed.length
    · have i0 : (i : Int) < (Ed.length : Int) := by omega
      have i1 : (0 : Int) ≤ (i : Int) := by omega
      have iw : IntKind.i64.wrap ((i : Int) + 1) = (i : Int) + 1 := by rw [IntKind.wrap_i64]; omega
      obtain ⟨g, o, hao, q0, q1, q2⟩ := (hA.out.e.on HDW.out) i hlt
      subst hao
      by_cases he : Ed[i] = (x1, x2, x3)
      · have hd : Hid (decide ((x1, x2, x3) ∈ Ed) = true) := hide (by simpa using he ▸ List.getElem_mem hlt)
        rw [he] at q0 q1 q2
        simp only at q0 q1 q2
        clear he
        go_upto_region 4 with fail
        refine wp_region_phase 6 #[true, true, true, true, true, true, false] (by kernel_rfl) (by kernel_rfl) ?_
        simp only [List.take_succ_cons, List.take_zero, List.drop_succ_cons, List.drop_zero]
        repeat (go_big_quiet_step (fail))
        refine wpQuiet_nil ?_
        intro wz hzz
        obtain ⟨nq, rfl⟩ := hzz
        go_wp2_with fail
        refine bodyPost_ret (results_tmp rfl _ _ _) rfl ?_
        exact ⟨by rw [hd.out]; rfl, below_drewN2 HDW.out nq⟩
      · have HN : Hid (∀ t (h : t < Ed.length), t < i + 1 → Ed[t] ≠ (x1, x2, x3)) := hide (fun t ht h2 => by
          rcases Nat.lt_or_ge t i with h3 | h3
          · exact HY.out.1 t ht h3
          · obtain rfl : t = i := by omega
            exact he)
        obtain ⟨v, hv⟩ : ∃ v, Ed[i] = v := ⟨_, rfl⟩
        rw [hv] at q0 q1 q2 he
        clear hv
        obtain ⟨v1, v2, v3⟩ := v
        simp only at q0 q1 q2
        by_cases d1 : v1 = x1
        · by_cases d2 : v2 = x2
          · have k3 : (v3 == x3) = false := by simpa using fun d3 => he (by rw [d1, d2, d3])
            have k1 : (v1 == x1) = true := by simpa using d1
            have k2 : (v2 == x2) = true := by simpa using d2
            clear he d1 d2
            go_upto_region 4 with fail
            refine wp_region_phase 6 #[true, true, true, true, true, true, false] (by kernel_rfl) (by kernel_rfl) ?_
            simp only [List.take_succ_cons, List.take_zero, List.drop_succ_cons, List.drop_zero]
            repeat (go_big_quiet_step (fail))
            refine wpQuiet_nil ?_
            intro wz hzz
            obtain ⟨nq, rfl⟩ := hzz
            go_wp2_with fail
            go_roundw
            case rel => exact ⟨i + 1, by omega, by go_num, hide ⟨HN.out, below_drewN2 HY.out.2 nq⟩⟩
            case measure => simp [intOf]; omega
          · have k2 : (v2 == x2) = false := by simpa using d2
            have k1 : (v1 == x1) = true := by simpa using d1
            clear he d1 d2
            go_upto_region 4 with fail
            refine wp_region_phase 6 #[true, true, true, true, true, true, false] (by kernel_rfl) (by kernel_rfl) ?_
            simp only [List.take_succ_cons, List.take_zero, List.drop_succ_cons, List.drop_zero]
            repeat (go_big_quiet_step (fail))
            refine wpQuiet_nil ?_
            intro wz hzz
            obtain ⟨nq, rfl⟩ := hzz
            go_wp2_with fail
            go_roundw
            case rel => exact ⟨i + 1, by omega, by go_num, hide ⟨HN.out, below_drewN2 HY.out.2 nq⟩⟩
            case measure => simp [intOf]; omega
        · have k1 : (v1 == x1) = false := by simpa using d1
          clear he d1
          go_upto_region 4 with fail
          refine wp_region_phase 6 #[true, true, true, true, true, true, false] (by kernel_rfl) (by kernel_rfl) ?_
          simp only [List.take_succ_cons, List.take_zero, List.drop_succ_cons, List.drop_zero]
          repeat (go_big_quiet_step (fail))
          refine wpQuiet_nil ?_
          intro wz hzz
          obtain ⟨nq, rfl⟩ := hzz
          go_wp2_with fail
          go_roundw
          case rel => exact ⟨i + 1, by omega, by go_num, hide ⟨HN.out, below_drewN2 HY.out.2 nq⟩⟩
          case measure => simp [intOf]; omega
    · have i0 : ¬ (i : Int) < (Ed.length : Int) := by omega
      have hd : Hid (decide ((x1, x2, x3) ∈ Ed) = false) := hide (by
        rw [decide_eq_false_iff_not]
        intro hm
        obtain ⟨t, ht, e⟩ := List.getElem_of_mem hm
        exact HY.out.1 t ht (by omega) e)
      go_wp2_with fail
      refine bodyPost_ret (results_tmp rfl _ _ _) rfl ?_
      exact ⟨by rw [hd.out]; rfl, HDW.out⟩
set_option maxRecDepth 100000 in
set_option maxHeartbeats 2000000 in
theorem rruns_bad (w : World) (n m : Int) (a1 a2 a3 : Option Addr) (c1 c2 c3 : Nat) (St Fi : List Int) (Ed : List EdT) (ax : Option Addr) (cs : Nat) (Ss : List Int) (u1 : Option Addr) (cw : Nat) (Wd : List Int) (hA : Hid (RdA w a1 a2 a3 St Fi Ed)) (hU : Hid (RdN w u1 Wd)) (h1 : St.length ≤ 4194304) (h2 : Fi.length ≤ 4194304) (h3 : Ed.length ≤ 4194304) (hw : Wd.length ≤ 4194304) (hbad : wordErr n m St Fi Ed Wd ≠ 0) :
    Calls Tryz.prog 46 #[.agg #[.int .i64 n, .int .i64 m, .slice a1 St.length c1, .slice a2 Fi.length c2, .slice a3 Ed.length c3], .slice ax Ss.length cs, .slice u1 Wd.length cw] w fun e w' => e = .returned (.tuple #[.bool false, .int .i64 (wordErr n m St Fi Ed Wd)]) ∧ Below w.heap.size w w' := by
  obtain ⟨W0, hW0⟩ : ∃ W0, w.alloc (.cells #[.int .i64 n, .int .i64 m, .slice a1 St.length c1, .slice a2 Fi.length c2, .slice a3 Ed.length c3] 25) = W0 := ⟨_, rfl⟩
  have H0 : Hid (Below w.heap.size w W0 ∧ W0.heap[w.heap.size]? = some (.cells #[.int .i64 n, .int .i64 m, .slice a1 St.length c1, .slice a2 Fi.length c2, .slice a3 Ed.length c3] 25 (0, 0))) := hide ⟨by rw [← hW0]; exact alloc_below _ _, by rw [← hW0]; exact World.alloc_heap_new _ _⟩
  have y0 : W0.cell? ⟨w.heap.size, 0, none⟩ = some (.int .i64 n) := cell_of H0.out.2 rfl
  have y1 : W0.cell? ⟨w.heap.size, 1, none⟩ = some (.int .i64 m) := cell_of H0.out.2 rfl
  have y2 : W0.cell? ⟨w.heap.size, 2, none⟩ = some (.slice a1 St.length c1) := cell_of H0.out.2 rfl
  have y3 : W0.cell? ⟨w.heap.size, 3, none⟩ = some (.slice a2 Fi.length c2) := cell_of H0.out.2 rfl
  have y4 : W0.cell? ⟨w.heap.size, 4, none⟩ = some (.slice a3 Ed.length c3) := cell_of H0.out.2 rfl
  have TA := rword_any W0 n m a1 a2 a3 c1 c2 c3 St Fi Ed u1 cw Wd (hide (hA.out.on H0.out.1)) (hide (hU.out.on H0.out.1)) h1 h2 h3 hw
  generalize wordErr n m St Fi Ed Wd = er at hbad TA ⊢
  have e1 : (er != 0) = true := by simpa using hbad
  clear hbad
  go_enter Tryz.func46, Tryz.ntmps46
  go_wp2_with (go_at_call 79; refine TA.mono ?_; rintro e w1 ⟨rfl, d1⟩; have H1 := hide (H0.out.1.trans (d1.mono H0.out.1.size)); clear d1)
  go_ret2
  exact ⟨rfl, H1.out⟩
set_option maxRecDepth 100000 in
set_option maxHeartbeats 2000000 in
theorem rruns_ok (w : World) (n m : Int) (a1 a2 a3 : Option Addr) (c1 c2 c3 : Nat) (St Fi : List Int) (Ed : List EdT) (ax : Option Addr) (cs : Nat) (Ss : List Int) (u1 : Option Addr) (cw : Nat) (Wd : List Int) (hA : Hid (RdA w a1 a2 a3 St Fi Ed)) (hU : Hid (RdN w u1 Wd)) (h1 : St.length ≤ 4194304) (h2 : Fi.length ≤ 4194304) (h3 : Ed.length ≤ 4194304) (hw : Wd.length ≤ 4194304) (hS : Hid (RdN w ax Ss)) (hs : Ss.length ≤ 4194304) (hok : wordErr n m St Fi Ed Wd = 0) :
    Calls Tryz.prog 46 #[.agg #[.int .i64 n, .int .i64 m, .slice a1 St.length c1, .slice a2 Fi.length c2, .slice a3 Ed.length c3], .slice ax Ss.length cs, .slice u1 Wd.length cw] w (RunA St Fi Ed Ss Wd w) := by
  obtain ⟨W0, hW0⟩ : ∃ W0, w.alloc (.cells #[.int .i64 n, .int .i64 m, .slice a1 St.length c1, .slice a2 Fi.length c2, .slice a3 Ed.length c3] 25) = W0 := ⟨_, rfl⟩
  have H0 : Hid (Below w.heap.size w W0 ∧ W0.heap[w.heap.size]? = some (.cells #[.int .i64 n, .int .i64 m, .slice a1 St.length c1, .slice a2 Fi.length c2, .slice a3 Ed.length c3] 25 (0, 0))) := hide ⟨by rw [← hW0]; exact alloc_below _ _, by rw [← hW0]; exact World.alloc_heap_new _ _⟩
  have y0 : W0.cell? ⟨w.heap.size, 0, none⟩ = some (.int .i64 n) := cell_of H0.out.2 rfl
  have y1 : W0.cell? ⟨w.heap.size, 1, none⟩ = some (.int .i64 m) := cell_of H0.out.2 rfl
  have y2 : W0.cell? ⟨w.heap.size, 2, none⟩ = some (.slice a1 St.length c1) := cell_of H0.out.2 rfl
  have y3 : W0.cell? ⟨w.heap.size, 3, none⟩ = some (.slice a2 Fi.length c2) := cell_of H0.out.2 rfl
  have y4 : W0.cell? ⟨w.heap.size, 4, none⟩ = some (.slice a3 Ed.length c3) := cell_of H0.out.2 rfl
  have TA := rword_any W0 n m a1 a2 a3 c1 c2 c3 St Fi Ed u1 cw Wd (hide (hA.out.on H0.out.1)) (hide (hU.out.on H0.out.1)) h1 h2 h3 hw
  rw [hok] at TA
  clear hok
  have SB : Hid (∀ W, Below W0.heap.size W0 W → (fun W => W.cell? ⟨w.heap.size, 0, none⟩ = some (.int .i64 n) ∧ W.cell? ⟨w.heap.size, 1, none⟩ = some (.int .i64 m) ∧ W.cell? ⟨w.heap.size, 2, none⟩ = some (.slice a1 St.length c1) ∧ W.cell? ⟨w.heap.size, 3, none⟩ = some (.slice a2 Fi.length c2) ∧ W.cell? ⟨w.heap.size, 4, none⟩ = some (.slice a3 Ed.length c3)) W) := hide (fun W d => by
    have e := blk_on H0.out.2 d
    exact ⟨cell_of e rfl, cell_of e rfl, cell_of e rfl, cell_of e rfl, cell_of e rfl⟩)
  by_cases hln : Ss.length = Wd.length + 1
  case neg =>
    have l0 : ((Ss.length : Int) != (Wd.length : Int) + 1) = true := by simp; omega
    go_enter Tryz.func46, Tryz.ntmps46
    go_upto_region 4 with (go_at_call 79; refine TA.mono ?_; rintro e w1 ⟨rfl, d1⟩; have H1 := hide d1; clear d1 y0 y1 y2 y3 y4)
    obtain ⟨y0, y1, y2, y3, y4⟩ := SB.out w1 H1.out
    have HD1 := hide (H0.out.1.trans (H1.out.mono H0.out.1.size))
    refine wp_region_phase 25 #[true, true, true, true, true, true, true, true, true, true, true, true, true, true, true, true, true, true, true, true, true, true, true, true, true, false] (by kernel_rfl) (by kernel_rfl) ?_
    simp only [List.take_succ_cons, List.take_zero, List.drop_succ_cons, List.drop_zero]
    repeat (go_big_quiet_step (fail))
    refine wpQuiet_nil ?_
    intro wz hzz
    obtain ⟨nq, rfl⟩ := hzz
    go_wp2_with fail
    go_ret2
    exact ⟨false, rfl, ⟨fun h => (by cases h), fun h => absurd h.1 hln⟩, below_drewN2 HD1.out nq⟩
  case pos =>
    have l0 : ((Ss.length : Int) != (Wd.length : Int) + 1) = false := by simp; omega
    have l1 : (0 : Int) < (Ss.length : Int) := by omega
    have l2 : (Wd.length : Int) < (Ss.length : Int) := by omega
    have l3 : (0 : Int) ≤ (Wd.length : Int) := by omega
    have HP := hide (fun (h0 : Ss[0]'(by omega) ∈ St) (h1 : Ss[Wd.length]'(by omega) ∈ Fi) (h2 : ∀ i (h : i < Wd.length), (Ss[i]'(by omega), Wd[i], Ss[i + 1]'(by omega)) ∈ Ed) => (show IsP St Fi Ed Ss Wd from ⟨hln, h0, h1, h2⟩))
    obtain ⟨gs, os, hax, _⟩ := hS.out 0 (by omega)
    subst hax
    have HC : Hid (∀ W, Below w.heap.size w W → ∀ t (h : t < Ss.length), W.cell? ⟨gs, os + t, none⟩ = some (.int .i64 Ss[t])) := hide (fun W d t ht => by
      obtain ⟨_, _, e1, q⟩ := (hS.out.on d) t ht
      cases e1
      exact q)
    obtain ⟨x0, hx0⟩ : ∃ x, Ss[0]'(by omega) = x := ⟨_, rfl⟩
    obtain ⟨x1, hx1⟩ : ∃ x, Ss[Wd.length]'(by omega) = x := ⟨_, rfl⟩
    have HX0 : Hid ((Ss[0]'(by omega) ∈ St) ↔ decide (x0 ∈ St) = true) := hide (by rw [hx0]; exact decide_eq_true_iff.symm)
    have HX1 : Hid ((Ss[Wd.length]'(by omega) ∈ Fi) ↔ decide (x1 ∈ Fi) = true) := hide (by rw [hx1]; exact decide_eq_true_iff.symm)
    have HQ : Hid (∀ W, Below w.heap.size w W → W.cell? ⟨gs, os, none⟩ = some (.int .i64 x0) ∧ W.cell? ⟨gs, os + Wd.length, none⟩ = some (.int .i64 x1)) := hide (fun W d => ⟨by rw [← hx0]; exact HC.out W d 0 (by omega), by rw [← hx1]; exact HC.out W d Wd.length (by omega)⟩)
    have U1 : Hid (∀ W, Below w.heap.size w W → Calls Tryz.prog 60 #[.slice a1 St.length c1, .int .i64 x0] W fun e w' => e = .returned (.bool (decide (x0 ∈ St))) ∧ w' = W) := hide (fun W d => in60 W a1 St c1 x0 (hide (hA.out.s.on d)) h1)
    have U2 : Hid (∀ W, Below w.heap.size w W → Calls Tryz.prog 60 #[.slice a2 Fi.length c2, .int .i64 x1] W fun e w' => e = .returned (.bool (decide (x1 ∈ Fi))) ∧ w' = W) := hide (fun W d => in60 W a2 Fi c2 x1 (hide (hA.out.f.on d)) h2)
    generalize decide (x0 ∈ St) = r0 at HX0 U1
    generalize decide (x1 ∈ Fi) = r1 at HX1 U2
    clear hx0 hx1
    have KS : Hid (∀ W, Below W0.heap.size W0 W → W.cell? ⟨gs, os, none⟩ = some (.int .i64 x0) ∧ W.cell? ⟨gs, os + Wd.length, none⟩ = some (.int .i64 x1)) := hide (fun W d => HQ.out W (H0.out.1.trans (d.mono H0.out.1.size)))
    cases r0
    · go_enter Tryz.func46, Tryz.ntmps46
      go_upto_region 4 with (go_at_call 79; refine TA.mono ?_; rintro e w1 ⟨rfl, d1⟩; have H1 := hide d1; clear d1 y0 y1 y2 y3 y4)
      obtain ⟨y0, y1, y2, y3, y4⟩ := SB.out w1 H1.out
      have HD1 := hide (H0.out.1.trans (H1.out.mono H0.out.1.size))
      obtain ⟨q0, q1⟩ := KS.out w1 H1.out
      refine wp_region_phase 25 #[true, true, true, true, true, true, true, true, true, true, true, true, true, true, true, true, true, true, true, true, true, true, true, true, true, false] (by kernel_rfl) (by kernel_rfl) ?_
      simp only [List.take_succ_cons, List.take_zero, List.drop_succ_cons, List.drop_zero]
      repeat (go_big_quiet_step ((go_at_call_of 60 a1; exact Calls.quiet_of_same (U1.out _ (below_drewN2 HD1.out _)))))
      refine wpQuiet_nil ?_
      intro wz hzz
      obtain ⟨nq, rfl⟩ := hzz
      go_wp2_with fail
      go_ret2
      exact ⟨false, rfl, ⟨fun h => (by cases h), fun h => absurd (HX0.out.1 h.2.1) (by decide)⟩, below_drewN2 HD1.out nq⟩
    · cases r1
      · go_enter Tryz.func46, Tryz.ntmps46
        go_upto_region 4 with (go_at_call 79; refine TA.mono ?_; rintro e w1 ⟨rfl, d1⟩; have H1 := hide d1; clear d1 y0 y1 y2 y3 y4)
        obtain ⟨y0, y1, y2, y3, y4⟩ := SB.out w1 H1.out
        have HD1 := hide (H0.out.1.trans (H1.out.mono H0.out.1.size))
        obtain ⟨q0, q1⟩ := KS.out w1 H1.out
        refine wp_region_phase 25 #[true, true, true, true, true, true, true, true, true, true, true, true, true, true, true, true, true, true, true, true, true, true, true, true, true, false] (by kernel_rfl) (by kernel_rfl) ?_
        simp only [List.take_succ_cons, List.take_zero, List.drop_succ_cons, List.drop_zero]
        repeat (go_big_quiet_step ((first | (go_at_call_of 60 a1; exact Calls.quiet_of_same (U1.out _ (below_drewN2 HD1.out _))) | (go_at_call_of 60 a2; exact Calls.quiet_of_same (U2.out _ (below_drewN2 HD1.out _))))))
        refine wpQuiet_nil ?_
        intro wz hzz
        obtain ⟨nq, rfl⟩ := hzz
        go_wp2_with fail
        go_ret2
        exact ⟨false, rfl, ⟨fun h => (by cases h), fun h => absurd (HX1.out.1 h.2.2.1) (by decide)⟩, below_drewN2 HD1.out nq⟩
      · go_enter Tryz.func46, Tryz.ntmps46
        go_upto_region 4 with (go_at_call 79; refine TA.mono ?_; rintro e w1 ⟨rfl, d1⟩; have H1 := hide d1; clear d1 y0 y1 y2 y3 y4)
        obtain ⟨y0, y1, y2, y3, y4⟩ := SB.out w1 H1.out
        have HD1 := hide (H0.out.1.trans (H1.out.mono H0.out.1.size))
        obtain ⟨q0, q1⟩ := KS.out w1 H1.out
        refine wp_region_phase 25 #[true, true, true, true, true, true, true, true, true, true, true, true, true, true, true, true, true, true, true, true, true, true, true, true, true, false] (by kernel_rfl) (by kernel_rfl) ?_
        simp only [List.take_succ_cons, List.take_zero, List.drop_succ_cons, List.drop_zero]
        repeat (go_big_quiet_step ((first | (go_at_call_of 60 a1; exact Calls.quiet_of_same (U1.out _ (below_drewN2 HD1.out _))) | (go_at_call_of 60 a2; exact Calls.quiet_of_same (U2.out _ (below_drewN2 HD1.out _))))))
        refine wpQuiet_nil ?_
        intro wz hzz
        obtain ⟨nq, rfl⟩ := hzz
        obtain ⟨W1, hW1⟩ : ∃ W1, w1.drewN nq = W1 := ⟨_, rfl⟩
        rw [hW1]
        have D1 : Hid (Below W0.heap.size W0 W1) := hide (by rw [← hW1]; exact below_drewN2 H1.out nq)
        clear hW1 y0 y1 y2 y3 y4 q0 q1 U1 U2 hW0 H1 HD1 KS HQ TA
        go_wp2_with fail
        go_loopw [9] (fun iv wr => ∃ i : Nat, ∃ hi : i ≤ Wd.length, iv = .int .i64 i ∧ Hid (Below W0.heap.size W0 wr ∧ (∀ j (h : j < Wd.length), j < i → (Ss[j]'(by omega), Wd[j], Ss[j + 1]'(by omega)) ∈ Ed))) (fun iv _ => Wd.length - (intOf iv).toNat)
        case atStart => exact ⟨0, Nat.zero_le _, rfl, hide ⟨D1.out, fun j _ h => absurd h (by omega)⟩⟩
        case round =>
          obtain ⟨i, hi, rfl, HY⟩ := hrel
          have HDW := hide (H0.out.1.trans (HY.out.1.mono H0.out.1.size))
          by_cases hlt : i < Wd.length
          · have i0 : (0 : Int) ≤ (i : Int) := by omega
            have i1 : (i : Int) < (Wd.length : Int) := by omega
            have i2 : (i : Int) < (Ss.length : Int) := by omega
            have i3 : (i : Int) + 1 < (Ss.length : Int) := by omega
            have i4 : (i : Int) ≤ 4194304 := by omega
            have i5 : (i : Int) < (Wd.length : Int) + 1 := by omega
            have i6 : (i : Int) + 1 < (Wd.length : Int) + 1 := by omega
            have i7 : (i : Int) ≤ (Wd.length : Int) := by omega
            have i8 : (0 : Int) ≤ (i : Int) + 1 := by omega
            obtain ⟨gw, ow, hau, qw⟩ := (hU.out.on HDW.out) i hlt
            subst hau
            have s0 := HC.out wr HDW.out i (by omega)
            have s1 := HC.out wr HDW.out (i + 1) (by omega)
            have HE : Hid (((Ss[i]'(by omega), Wd[i], Ss[i + 1]'(by omega)) ∈ Ed) ↔ decide ((Ss[i]'(by omega), Wd[i], Ss[i + 1]'(by omega)) ∈ Ed) = true) := hide decide_eq_true_iff.symm
            have T80 : Hid (∀ W, Below w.heap.size w W → Calls Tryz.prog 80 #[.agg #[.int .i64 n, .int .i64 m, .slice a1 St.length c1, .slice a2 Fi.length c2, .slice a3 Ed.length c3], .agg #[.int .i64 (Ss[i]'(by omega)), .int .i64 Wd[i], .int .i64 (Ss[i + 1]'(by omega))]] W fun e w' => e = .returned (.bool (decide ((Ss[i]'(by omega), Wd[i], Ss[i + 1]'(by omega)) ∈ Ed))) ∧ Below W.heap.size W w') := hide (fun W d => redge_any W n m a1 a2 a3 c1 c2 c3 St Fi Ed _ _ _ (hide (hA.out.on d)) h3)
            generalize decide ((Ss[i]'(by omega), Wd[i], Ss[i + 1]'(by omega)) ∈ Ed) = r at HE T80
            have HN2 : Hid (r = true → ∀ j (h : j < Wd.length), j < i + 1 → (Ss[j]'(by omega), Wd[j], Ss[j + 1]'(by omega)) ∈ Ed) := hide (fun hr j hj hji => by
              rcases Nat.lt_or_ge j i with h | h
              · exact HY.out.2 j hj h
              · obtain rfl : j = i := by omega
                exact HE.out.2 hr)
            have fin : Hid (r = false → ∀ w', Below w.heap.size w w' → RunA St Fi Ed Ss Wd w (.returned (.tuple #[.bool false, .int .i64 0])) w') := hide (fun hr w' d => ⟨false, rfl, ⟨fun h => (by cases h), fun h => absurd (HE.out.1 (h.2.2.2 i hlt)) (by rw [hr]; decide)⟩, d⟩)
            obtain ⟨z0, hz0⟩ : ∃ z, Ss[i]'(by omega) = z := ⟨_, rfl⟩
            obtain ⟨z1, hz1⟩ : ∃ z, Ss[i + 1]'(by omega) = z := ⟨_, rfl⟩
            obtain ⟨sy, hsy⟩ : ∃ z, Wd[i] = z := ⟨_, rfl⟩
            rw [hz0] at s0
            rw [hz1] at s1
            rw [hsy] at qw
            simp only [hz0, hz1, hsy] at T80
            have HY1 := hide HY.out.1
            clear hz0 hz1 hsy HE HY
            obtain ⟨y0, y1, y2, y3, y4⟩ := SB.out wr HY1.out
            go_upto_region 9 with fail
            refine wp_region_phase 15 #[true, true, true, true, true, true, true, true, true, true, true, true, true, true, true, false, false] (by kernel_rfl) (by kernel_rfl) ?_
            simp only [List.take_succ_cons, List.take_zero, List.drop_succ_cons, List.drop_zero]
            repeat (go_big_quiet_step (fail))
            refine wpQuiet_nil ?_
            intro wz hzz
            obtain ⟨nq, rfl⟩ := hzz
            cases r
            · go_wp2_with (go_at_call 80; refine (T80.out _ (below_drewN2 HDW.out nq)).mono ?_; rintro e wa ⟨rfl, da⟩; have Da : Below w.heap.size w wa := (below_drewN2 HDW.out nq).trans (da.mono (below_drewN2 HDW.out nq).size))
              go_ret2
              exact fin.out (by trivial) _ Da
            · go_wp2_with (go_at_call 80; refine (T80.out _ (below_drewN2 HDW.out nq)).mono ?_; rintro e wa ⟨rfl, da⟩; have Da : Below W0.heap.size W0 wa := (below_drewN2 HY1.out nq).trans (da.mono (below_drewN2 HY1.out nq).size))
              exact ⟨⟨i + 1, by omega, by go_num, hide ⟨Da, HN2.out (by trivial)⟩⟩, by simp [intOf]; omega⟩
          · have i1 : ¬ (i : Int) < (Wd.length : Int) := by omega
            obtain rfl : i = Wd.length := by omega
            have FN : Hid (RunA St Fi Ed Ss Wd w (.returned (.tuple #[.bool true, .int .i64 0])) wr) := hide ⟨true, rfl, ⟨fun _ => HP.out (HX0.out.2 (by trivial)) (HX1.out.2 (by trivial)) (fun j hj => HY.out.2 j hj hj), fun _ => rfl⟩, HDW.out⟩
            clear HY
            go_wp2_with fail
            go_ret2
            exact FN.out
end Go.Proofs.YtfoahpideglghaaGreatDoor
namespace Go.Proofs.YtfoahpideglghaaGreatDoor
open Go.RowKit Go.Maps Go.Shelf

theorem itl_ss (N X : Nat) : (itl (elems N X)).Pairwise (· < ·) := by
  unfold itl
  rw [List.pairwise_map]
  exact (elems_sorted N X).imp fun h => by omega
theorem mem_el {N X : Nat} {x : Int} : x ∈ itl (elems N X) ↔ (0 ≤ x ∧ x < (N : Int)) ∧ X.testBit x.toNat = true := by
  rw [mem_itl]
  constructor
  · rintro ⟨i, hi, rfl⟩
    have := mem_elems.1 hi
    exact ⟨⟨by omega, by omega⟩, by simpa using this.2⟩
  · rintro ⟨⟨h0, h1⟩, h2⟩
    exact ⟨x.toNat, mem_elems.2 ⟨by omega, h2⟩, by omega⟩
theorem ends_in {N : Nat} {Ed : List EdT} (hi : ∀ x ∈ Ed, (0 ≤ x.1 ∧ x.1 < (N : Int)) ∧ 0 ≤ x.2.2 ∧ x.2.2 < (N : Int)) {back : Bool} {e : EdT} (he : e ∈ Ed) : (0 ≤ (ends back e).1 ∧ (ends back e).1 < (N : Int)) ∧ 0 ≤ (ends back e).2 ∧ (ends back e).2 < (N : Int) := by
  have := hi e he
  cases back
  · exact this
  · exact ⟨this.2, this.1⟩
theorem img_step {N X : Nat} {Ed : List EdT} (hi : ∀ x ∈ Ed, (0 ≤ x.1 ∧ x.1 < (N : Int)) ∧ 0 ≤ x.2.2 ∧ x.2.2 < (N : Int)) (back : Bool) (y : Int) : itl (elems N (imgF back X y Ed)) = riseL (imgL back Ed (itl (elems N X)) y) := ssI_eq (itl_ss _ _) (riseL_ss _) fun x => by
  rw [riseL_iff, imgL_iff, mem_el, imgF_test]
  constructor
  · rintro ⟨⟨h0, h1⟩, e, he, hs, hb, hq⟩
    have k := ends_in hi (back := back) he
    exact ⟨e, he, hs, mem_el.2 ⟨k.1, (hasB_nat hb).2⟩, by omega⟩
  · rintro ⟨e, he, hs, hm, rfl⟩
    have k := ends_in hi (back := back) he
    exact ⟨k.2, e, he, hs, hasB_of k.1.1 (mem_el.1 hm).2, rfl⟩
theorem set_step {N : Nat} {Q : List Int} (h : Q.all (inB N) = true) : itl (elems N (setI N Q)) = riseL Q := ssI_eq (itl_ss _ _) (riseL_ss _) fun x => by
  rw [riseL_iff, mem_el, setI_test]
  constructor
  · rintro ⟨⟨h0, h1⟩, i, hi, h2, h3⟩
    obtain rfl : i = x := by omega
    exact hi
  · intro hx
    have k := inB_iff.1 (List.all_eq_true.1 h x hx)
    exact ⟨k, x, hx, k, rfl⟩
theorem imgL_congr {back : Bool} {Ed : List EdT} {Q Q' : List Int} {y : Int} (h : ∀ x, x ∈ Q ↔ x ∈ Q') : imgL back Ed Q y = imgL back Ed Q' y := by
  unfold imgL
  congr 1
  exact List.filter_congr fun e _ => by simp only [h]
theorem aft_step {N : Nat} {Ed : List EdT} (hi : ∀ x ∈ Ed, (0 ≤ x.1 ∧ x.1 < (N : Int)) ∧ 0 ≤ x.2.2 ∧ x.2.2 < (N : Int)) : ∀ (Wd : List Int) (X : Nat), itl (elems N (wordF Ed X Wd)) = aftL Ed (itl (elems N X)) Wd
  | [], _ => rfl
  | y :: W, X => by
    show itl (elems N (wordF Ed (imgF false X y Ed) W)) = aftL Ed (riseL (imgL false Ed (itl (elems N X)) y)) W
    rw [aft_step hi W, img_step hi]
theorem lans_of {w w' : World} {L : List Nat} {R : List Int} {gl cl : Nat} {e : Ending} (E : itl L = R) (he : e = .returned (.tuple #[.slice (some ⟨gl, 0, none⟩) L.length cl, .int .i64 0])) (ho : w'.ownsRow w.heap.size 3 1 (.slice (some ⟨gl, 0, none⟩) L.length cl) L.length (intV L)) (d : Below w.heap.size w w') : LAns w (R, 0) e w' := by
  have l : L.length = R.length := by rw [← E, itl_len]
  rw [intV_itl, E, l] at ho
  rw [l] at he
  exact ⟨_, cl, he, hide ho, d⟩
theorem post_ans (w : World) (n m : Int) (a1 a2 a3 : Option Addr) (c1 c2 c3 : Nat) (St Fi : List Int) (Ed : List EdT) (q1 : Option Addr) (cq : Nat) (Q : List Int) (sym : Int) (hA : Hid (RdA w a1 a2 a3 St Fi Ed)) (hQ : Hid (RdN w q1 Q)) (hT : Hid (TabAt w ∧ 0 < w.heap.size)) (h1 : St.length ≤ 4194304) (h2 : Fi.length ≤ 4194304) (h3 : Ed.length ≤ 4194304) (hq : Q.length ≤ 4194304) :
    Calls Tryz.prog 15 #[.agg #[.int .i64 n, .int .i64 m, .slice a1 St.length c1, .slice a2 Fi.length c2, .slice a3 Ed.length c3], .slice q1 Q.length cq, .int .i64 sym] w (LAns w (imgA false n m St Fi Ed Q sym)) := by
  unfold imgA
  by_cases e0 : imgErr n m St Fi Ed Q sym = 0
  · rw [if_pos e0]
    have em : mayA n m St Fi Ed = true := by
      by_cases h : mayA n m St Fi Ed = true
      · exact h
      · unfold imgErr at e0; rw [if_neg h] at e0; cases e0
    have e12 : (Q.all (inB n) && inB m sym) = true := by
      by_cases h : (Q.all (inB n) && inB m sym) = true
      · exact h
      · unfold imgErr at e0; rw [if_pos em, if_neg h] at e0; cases e0
    rw [Bool.and_eq_true] at e12
    obtain ⟨N, rfl⟩ := Int.eq_ofNat_of_zero_le (may_parts em).1.1
    have hi := may_in em
    have E : itl (elems N (imgF false (setI N Q) sym Ed)) = riseL (imgL false Ed Q sym) := by
      rw [img_step hi, set_step e12.1, imgL_congr (riseL_iff Q)]
    exact (post_ok w N m a1 a2 a3 q1 c1 c2 c3 cq St Fi Ed Q sym hT hA hQ h1 h2 h3 hq (hide em) (hide e12.1) (hide e12.2)).mono fun e w' ⟨gl, cl, he, ho, d⟩ => lans_of E he ho d
  · rw [if_neg e0]
    exact (post_bad w n m a1 a2 a3 q1 c1 c2 c3 cq St Fi Ed Q sym hA hQ h1 h2 h3 hq (hide e0)).mono fun e w' ⟨he, d⟩ => lans_bad he d
theorem pre_ans (w : World) (n m : Int) (a1 a2 a3 : Option Addr) (c1 c2 c3 : Nat) (St Fi : List Int) (Ed : List EdT) (q1 : Option Addr) (cq : Nat) (Q : List Int) (sym : Int) (hA : Hid (RdA w a1 a2 a3 St Fi Ed)) (hQ : Hid (RdN w q1 Q)) (hT : Hid (TabAt w ∧ 0 < w.heap.size)) (h1 : St.length ≤ 4194304) (h2 : Fi.length ≤ 4194304) (h3 : Ed.length ≤ 4194304) (hq : Q.length ≤ 4194304) :
    Calls Tryz.prog 16 #[.agg #[.int .i64 n, .int .i64 m, .slice a1 St.length c1, .slice a2 Fi.length c2, .slice a3 Ed.length c3], .slice q1 Q.length cq, .int .i64 sym] w (LAns w (imgA true n m St Fi Ed Q sym)) := by
  unfold imgA
  by_cases e0 : imgErr n m St Fi Ed Q sym = 0
  · rw [if_pos e0]
    have em : mayA n m St Fi Ed = true := by
      by_cases h : mayA n m St Fi Ed = true
      · exact h
      · unfold imgErr at e0; rw [if_neg h] at e0; cases e0
    have e12 : (Q.all (inB n) && inB m sym) = true := by
      by_cases h : (Q.all (inB n) && inB m sym) = true
      · exact h
      · unfold imgErr at e0; rw [if_pos em, if_neg h] at e0; cases e0
    rw [Bool.and_eq_true] at e12
    obtain ⟨N, rfl⟩ := Int.eq_ofNat_of_zero_le (may_parts em).1.1
    have hi := may_in em
    have E : itl (elems N (imgF true (setI N Q) sym Ed)) = riseL (imgL true Ed Q sym) := by
      rw [img_step hi, set_step e12.1, imgL_congr (riseL_iff Q)]
    exact (pre_ok w N m a1 a2 a3 q1 c1 c2 c3 cq St Fi Ed Q sym hT hA hQ h1 h2 h3 hq (hide em) (hide e12.1) (hide e12.2)).mono fun e w' ⟨gl, cl, he, ho, d⟩ => lans_of E he ho d
  · rw [if_neg e0]
    exact (pre_bad w n m a1 a2 a3 q1 c1 c2 c3 cq St Fi Ed Q sym hA hQ h1 h2 h3 hq (hide e0)).mono fun e w' ⟨he, d⟩ => lans_bad he d
theorem word_may {n m : Int} {St Fi : List Int} {Ed : List EdT} {Wd : List Int} (e0 : wordErr n m St Fi Ed Wd = 0) : mayA n m St Fi Ed = true := by
  by_cases h : mayA n m St Fi Ed = true
  · exact h
  · unfold wordErr at e0; rw [if_neg h] at e0; cases e0
theorem after_ans (w : World) (n m : Int) (a1 a2 a3 : Option Addr) (c1 c2 c3 : Nat) (St Fi : List Int) (Ed : List EdT) (u1 : Option Addr) (cw : Nat) (Wd : List Int) (hA : Hid (RdA w a1 a2 a3 St Fi Ed)) (hU : Hid (RdN w u1 Wd)) (hT : Hid (TabAt w ∧ 0 < w.heap.size)) (h1 : St.length ≤ 4194304) (h2 : Fi.length ≤ 4194304) (h3 : Ed.length ≤ 4194304) (hw : Wd.length ≤ 4194304) :
    Calls Tryz.prog 19 #[.agg #[.int .i64 n, .int .i64 m, .slice a1 St.length c1, .slice a2 Fi.length c2, .slice a3 Ed.length c3], .slice u1 Wd.length cw] w (LAns w (aftA n m St Fi Ed Wd)) := by
  unfold aftA
  by_cases e0 : wordErr n m St Fi Ed Wd = 0
  · rw [if_pos e0]
    have em := word_may e0
    obtain ⟨N, rfl⟩ := Int.eq_ofNat_of_zero_le (may_parts em).1.1
    have E : itl (elems N (wordF Ed (setI N St) Wd)) = aftL Ed (riseL St) Wd := by rw [aft_step (may_in em), set_step (may_parts em).2.2.2.1]
    exact (After_ok w N m a1 a2 a3 u1 c1 c2 c3 cw St Fi Ed Wd hA hU hT h1 h2 h3 hw e0).mono fun e w' ⟨gl, cl, he, ho, d⟩ => lans_of E he ho.out d
  · rw [if_neg e0]
    exact (After_bad w n m a1 a2 a3 u1 c1 c2 c3 cw St Fi Ed Wd hA hU h1 h2 h3 hw e0).mono fun e w' ⟨he, d⟩ => lans_bad he d
theorem accepts_ans (w : World) (n m : Int) (a1 a2 a3 : Option Addr) (c1 c2 c3 : Nat) (St Fi : List Int) (Ed : List EdT) (u1 : Option Addr) (cw : Nat) (Wd : List Int) (hA : Hid (RdA w a1 a2 a3 St Fi Ed)) (hU : Hid (RdN w u1 Wd)) (hT : Hid (TabAt w ∧ 0 < w.heap.size)) (h1 : St.length ≤ 4194304) (h2 : Fi.length ≤ 4194304) (h3 : Ed.length ≤ 4194304) (hw : Wd.length ≤ 4194304) :
    Calls Tryz.prog 9 #[.agg #[.int .i64 n, .int .i64 m, .slice a1 St.length c1, .slice a2 Fi.length c2, .slice a3 Ed.length c3], .slice u1 Wd.length cw] w fun e w' => e = .returned (.tuple #[.bool (accA n m St Fi Ed Wd).1, .int .i64 (accA n m St Fi Ed Wd).2]) ∧ Below w.heap.size w w' := by
  unfold accA aftA
  by_cases e0 : wordErr n m St Fi Ed Wd = 0
  · rw [if_pos e0]
    have em := word_may e0
    obtain ⟨N, rfl⟩ := Int.eq_ofNat_of_zero_le (may_parts em).1.1
    have E : itl (elems N (wordF Ed (setI N St) Wd)) = aftL Ed (riseL St) Wd := by rw [aft_step (may_in em), set_step (may_parts em).2.2.2.1]
    have B : (!decide (wordF Ed (setI N St) Wd &&& setI N Fi = 0)) = (aftL Ed (riseL St) Wd).any fun x => decide (x ∈ Fi) := by
      rw [Bool.eq_iff_iff, Bool.not_eq_true', decide_eq_false_iff_not, and_zero_iff, Classical.not_not, ← E, List.any_eq_true]
      constructor
      · rintro ⟨p, hp, hf⟩
        obtain ⟨k1, k2⟩ := hasB_nat hp
        have k3 := hasB_setI.1 hf
        exact ⟨p, mem_el.2 ⟨k3.2, k2⟩, by simpa using k3.1⟩
      · rintro ⟨p, hp, hf⟩
        have k := mem_el.1 hp
        exact ⟨p, hasB_of k.1.1 k.2, hasB_setI.2 ⟨by simpa using hf, k.1⟩⟩
    rw [← B]
    exact Accepts_ok w N m a1 a2 a3 u1 c1 c2 c3 cw St Fi Ed Wd hA hU hT h1 h2 h3 hw e0
  · rw [if_neg e0]
    exact Accepts_bad w n m a1 a2 a3 u1 c1 c2 c3 cw St Fi Ed Wd hA hU h1 h2 h3 hw e0
open Classical in
/-- Whether states are a path of a word, or the error. -/
noncomputable def runR (n m : Int) (St Fi : List Int) (Ed : List EdT) (Ss Wd : List Int) : Bool × Int := if wordErr n m St Fi Ed Wd = 0 then (decide (IsP St Fi Ed Ss Wd), 0) else (false, wordErr n m St Fi Ed Wd)
theorem runA_is {n m : Int} {St Fi : List Int} {Ed : List EdT} {Ss Wd : List Int} {w w' : World} {e : Ending} (e0 : wordErr n m St Fi Ed Wd = 0) (h : RunA St Fi Ed Ss Wd w e w') : e = .returned (.tuple #[.bool (runR n m St Fi Ed Ss Wd).1, .int .i64 (runR n m St Fi Ed Ss Wd).2]) ∧ Below w.heap.size w w' := by
  obtain ⟨r, he, hr, d⟩ := h
  unfold runR
  rw [if_pos e0]
  refine ⟨?_, d⟩
  rw [he]
  have : r = @decide (IsP St Fi Ed Ss Wd) (Classical.propDecidable _) := by
    rw [Bool.eq_iff_iff, hr]
    exact (@decide_eq_true_iff _ (Classical.propDecidable _)).symm
  rw [this]
theorem runs_ans (w : World) (n m : Int) (a1 a2 a3 : Option Addr) (c1 c2 c3 : Nat) (St Fi : List Int) (Ed : List EdT) (ax : Option Addr) (cs : Nat) (Ss : List Int) (u1 : Option Addr) (cw : Nat) (Wd : List Int) (hA : Hid (RdA w a1 a2 a3 St Fi Ed)) (hU : Hid (RdN w u1 Wd)) (hS : Hid (RdN w ax Ss)) (h1 : St.length ≤ 4194304) (h2 : Fi.length ≤ 4194304) (h3 : Ed.length ≤ 4194304) (hs : Ss.length ≤ 4194304) (hw : Wd.length ≤ 4194304) :
    Calls Tryz.prog 13 #[.agg #[.int .i64 n, .int .i64 m, .slice a1 St.length c1, .slice a2 Fi.length c2, .slice a3 Ed.length c3], .slice ax Ss.length cs, .slice u1 Wd.length cw] w fun e w' => e = .returned (.tuple #[.bool (runR n m St Fi Ed Ss Wd).1, .int .i64 (runR n m St Fi Ed Ss Wd).2]) ∧ Below w.heap.size w w' := by
  by_cases e0 : wordErr n m St Fi Ed Wd = 0
  · have em := word_may e0
    obtain ⟨N, rfl⟩ := Int.eq_ofNat_of_zero_le (may_parts em).1.1
    exact (Runs_ok w N m a1 a2 a3 ax u1 c1 c2 c3 cs cw St Fi Ed Ss Wd hA hS hU h1 h2 h3 hs hw e0).mono fun e w' h => runA_is e0 h
  · unfold runR
    rw [if_neg e0]
    exact Runs_bad w n m a1 a2 a3 ax u1 c1 c2 c3 cs cw Ss.length St Fi Ed Wd hA hU h1 h2 h3 hw e0
theorem rruns_ans (w : World) (n m : Int) (a1 a2 a3 : Option Addr) (c1 c2 c3 : Nat) (St Fi : List Int) (Ed : List EdT) (ax : Option Addr) (cs : Nat) (Ss : List Int) (u1 : Option Addr) (cw : Nat) (Wd : List Int) (hA : Hid (RdA w a1 a2 a3 St Fi Ed)) (hU : Hid (RdN w u1 Wd)) (hS : Hid (RdN w ax Ss)) (h1 : St.length ≤ 4194304) (h2 : Fi.length ≤ 4194304) (h3 : Ed.length ≤ 4194304) (hs : Ss.length ≤ 4194304) (hw : Wd.length ≤ 4194304) :
    Calls Tryz.prog 46 #[.agg #[.int .i64 n, .int .i64 m, .slice a1 St.length c1, .slice a2 Fi.length c2, .slice a3 Ed.length c3], .slice ax Ss.length cs, .slice u1 Wd.length cw] w fun e w' => e = .returned (.tuple #[.bool (runR n m St Fi Ed Ss Wd).1, .int .i64 (runR n m St Fi Ed Ss Wd).2]) ∧ Below w.heap.size w w' := by
  by_cases e0 : wordErr n m St Fi Ed Wd = 0
  · exact (rruns_ok w n m a1 a2 a3 c1 c2 c3 St Fi Ed ax cs Ss u1 cw Wd hA hU h1 h2 h3 hw hS hs e0).mono fun e w' h => runA_is e0 h
  · unfold runR
    rw [if_neg e0]
    exact rruns_bad w n m a1 a2 a3 c1 c2 c3 St Fi Ed ax cs Ss u1 cw Wd hA hU h1 h2 h3 hw e0
end Go.Proofs.YtfoahpideglghaaGreatDoor
namespace Go.Proofs.YtfoahpideglghaaGreatDoor
open Go.RowKit Go.Maps Go.Shelf
attribute [local go_sem] Oper.semAt_some

/-! ### The document's path -/
/-- The states from which the rest of a word leads to an end. -/
def liveW (Ed : List EdT) (Fi : List Int) (W : List Int) : List Int := W.foldr (fun y S => riseL (imgL true Ed S y)) (riseL Fi)
def liveL (Ed : List EdT) (Fi : List Int) (Wd : List Int) (j : Nat) : List Int := liveW Ed Fi (Wd.drop j)
theorem liveL_last (Ed : List EdT) (Fi Wd : List Int) : liveL Ed Fi Wd Wd.length = riseL Fi := by unfold liveL; rw [List.drop_length]; rfl
theorem liveL_step (Ed : List EdT) (Fi Wd : List Int) (j : Nat) (h : j < Wd.length) : liveL Ed Fi Wd j = riseL (imgL true Ed (liveL Ed Fi Wd (j + 1)) Wd[j]) := by
  unfold liveL
  rw [List.drop_eq_getElem_cons h]
  rfl
theorem liveL_len {Ed : List EdT} {Fi Wd : List Int} {j : Nat} (h2 : Fi.length ≤ 4194304) (h3 : Ed.length ≤ 4194304) : (liveL Ed Fi Wd j).length ≤ 4194304 := by
  unfold liveL
  cases Wd.drop j with
  | nil => exact Nat.le_trans (riseL_len _) h2
  | cons y W => exact Nat.le_trans (riseL_len _) (Nat.le_trans (imgL_len _ _ _ _) h3)
/-- The first of a list that is in another one. -/
def fstL (C L : List Int) : Option Int := C.find? fun x => decide (x ∈ L)
/-- The least path of a word, from one of some states. -/
def pthR (Ed : List EdT) (Fi : List Int) : List Int → List Int → Option (List Int)
  | [], C => (fstL C (liveW Ed Fi [])).map fun p => [p]
  | y :: W, C => (fstL C (liveW Ed Fi (y :: W))).bind fun p => (pthR Ed Fi W (riseL (imgL false Ed [p] y))).map fun r => p :: r
def pthV : Option (List Int) → List Int × Int
  | none => ([], 60)
  | some L => (L, 0)
def pthA (n m : Int) (St Fi : List Int) (Ed : List EdT) (Wd : List Int) : List Int × Int := if wordErr n m St Fi Ed Wd = 0 then pthV (pthR Ed Fi Wd (riseL St)) else ([], wordErr n m St Fi Ed Wd)
/-- What is known of the path at a place. -/
structure PhI (Ed : List EdT) (St Fi Wd : List Int) (i : Nat) (O C : List Int) : Prop where
  len : O.length = i
  go : i ≤ Wd.length → pthR Ed Fi Wd (riseL St) = (pthR Ed Fi (Wd.drop i) C).map fun r => O ++ r
  fin : Wd.length < i → pthR Ed Fi Wd (riseL St) = some O
  nn : ∀ x ∈ C, 0 ≤ x
  cl : C.length ≤ 4194304
theorem PhI.zero {Ed : List EdT} {St Fi Wd : List Int} (hS : ∀ x ∈ St, 0 ≤ x) (h1 : St.length ≤ 4194304) : PhI Ed St Fi Wd 0 [] (riseL St) :=
  ⟨rfl, fun _ => by rw [List.drop_zero]; simp, fun h => by omega, fun x hx => hS x ((riseL_iff _ _).1 hx), Nat.le_trans (riseL_len _) h1⟩
theorem PhI.none {Ed : List EdT} {St Fi Wd : List Int} {i : Nat} {O C : List Int} (h : PhI Ed St Fi Wd i O C) (hi : i ≤ Wd.length) (hf : fstL C (liveL Ed Fi Wd i) = .none) : pthR Ed Fi Wd (riseL St) = .none := by
  rw [h.go hi]
  unfold liveL at hf
  revert hf
  cases Wd.drop i with
  | nil => intro hf; unfold pthR; rw [hf]; rfl
  | cons y W => intro hf; unfold pthR; rw [hf]; rfl
theorem PhI.last {Ed : List EdT} {St Fi Wd : List Int} {O C : List Int} {p : Int} (h : PhI Ed St Fi Wd Wd.length O C) (hf : fstL C (liveL Ed Fi Wd Wd.length) = some p) : PhI Ed St Fi Wd (Wd.length + 1) (O ++ [p]) C := by
  refine ⟨by rw [List.length_append, h.len]; rfl, fun k => by omega, fun _ => ?_, h.nn, h.cl⟩
  rw [h.go (Nat.le_refl _)]
  unfold liveL at hf
  rw [List.drop_length] at hf ⊢
  unfold pthR
  rw [hf]
  rfl
theorem PhI.next {Ed : List EdT} {St Fi Wd : List Int} {i : Nat} {O C : List Int} {p : Int} (h : PhI Ed St Fi Wd i O C) (hi : i < Wd.length) (hf : fstL C (liveL Ed Fi Wd i) = some p) (hE : ∀ e ∈ Ed, 0 ≤ e.2.2) (h3 : Ed.length ≤ 4194304) : PhI Ed St Fi Wd (i + 1) (O ++ [p]) (riseL (imgL false Ed [p] Wd[i])) := by
  refine ⟨by rw [List.length_append, h.len]; rfl, fun _ => ?_, fun k => by omega, fun x hx => ?_, Nat.le_trans (riseL_len _) (Nat.le_trans (imgL_len _ _ _ _) h3)⟩
  · rw [h.go (by omega)]
    unfold liveL at hf
    rw [List.drop_eq_getElem_cons hi] at hf ⊢
    rw [pthR, hf]
    simp only [Option.bind_some, Option.map_map]
    congr 1
    funext r
    simp
  · obtain ⟨e, he, _, _, rfl⟩ := imgL_iff.1 ((riseL_iff _ _).1 hx)
    exact hE e he
theorem fst_none {C L : List Int} (h : ∀ t (ht : t < C.length), C[t] ∉ L) : fstL C L = none := List.find?_eq_none.2 fun x hx => by
  obtain ⟨t, ht, rfl⟩ := List.getElem_of_mem hx
  simpa using h t ht
theorem fst_some {C L : List Int} {k : Nat} (hk : k < C.length) (hm : C[k] ∈ L) (h : ∀ t (ht : t < C.length), t < k → C[t] ∉ L) : fstL C L = some C[k] := by
  unfold fstL
  rw [List.find?_eq_some_iff_getElem]
  exact ⟨by simpa using hm, k, hk, rfl, fun j hj => by simpa using h j (by omega) hj⟩
/-- The row of lists while it is filled from behind. -/
structure LvR (W : World) (gl n : Nat) (F : Nat → List Int) (k : Nat) : Prop where
  blk : ∃ cur : Array Value, W.heap[gl]? = some (.cells cur 22 (0, 0)) ∧ cur.size = n
  row : ∀ j, k ≤ j → j < n → ∃ b c, W.cell? ⟨gl, j, none⟩ = some (.slice b (F j).length c) ∧ W.ownsRow 0 3 1 (.slice b (F j).length c) (F j).length ((F j).map (Value.int .i64))
theorem LvR.on {W W' : World} {gl n : Nat} {F : Nat → List Int} {k : Nat} (h : LvR W gl n F k) (d : Below W.heap.size W W') : LvR W' gl n F k := by
  obtain ⟨cur, hc, hs⟩ := h.blk
  refine ⟨⟨cur, blk_on hc d, hs⟩, fun j h1 h2 => ?_⟩
  obtain ⟨b, c, q, o⟩ := h.row j h1 h2
  exact ⟨b, c, (d.cell (p := ⟨gl, j, none⟩) (World.block_lt_of_cell? W _ q)).trans q, own_below o d⟩
theorem LvR.put {W : World} {gl n : Nat} {F : Nat → List Int} {k : Nat} (h : LvR W gl n F (k + 1)) (hk : k < n) {b : Option Addr} {c : Nat} (o : W.ownsRow 0 3 1 (.slice b (F k).length c) (F k).length ((F k).map (Value.int .i64))) : LvR (W.setCell ⟨gl, k, none⟩ (.slice b (F k).length c)) gl n F k := by
  obtain ⟨cur, hc, hs⟩ := h.blk
  have oo := only_set W gl k (.slice b (F k).length c)
  have e3 := heap_setCell_same W gl k cur 22 (.slice b (F k).length c) hc
  refine ⟨⟨_, e3, by simpa using hs⟩, fun j h1 h2 => ?_⟩
  by_cases hj : j = k
  · subst hj
    exact ⟨b, c, cell_of e3 (by rw [Array.getElem?_setIfInBounds_self_of_lt (by omega)]), own_keep o hc (by decide) oo⟩
  · obtain ⟨b', c', q, o'⟩ := h.row j (by omega) h2
    refine ⟨b', c', ?_, own_keep o' hc (by decide) oo⟩
    have hc2 : cur[j]? = some (.slice b' (F j).length c') := by simpa [World.cell?, hc] using q
    exact cell_of e3 (by rw [Array.getElem?_setIfInBounds_ne (fun e => hj e.symm)]; exact hc2)
theorem LvR.cell {W : World} {gl n : Nat} {F : Nat → List Int} {k : Nat} (h : LvR W gl n F k) (j : Nat) (hj : j < n) : ∃ v, W.cell? ⟨gl, j, none⟩ = some v ∧ W.frozen? ⟨gl, j, none⟩ = false := by
  obtain ⟨cur, hc, hs⟩ := h.blk
  exact ⟨cur[j]'(by omega), cell_of hc (Array.getElem?_eq_getElem (by omega)), fz_of hc⟩
end Go.Proofs.YtfoahpideglghaaGreatDoor
