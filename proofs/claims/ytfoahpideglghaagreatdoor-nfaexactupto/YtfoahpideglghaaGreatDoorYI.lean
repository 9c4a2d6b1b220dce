import Derived.Test.YtfoahpideglghaaGreatDoorZR
import Derived.Test.YtfoahpideglghaaGreatDoorUs
import Derived.Test.YtfoahpideglghaaGreatDoorSA
namespace Go.Proofs.YtfoahpideglghaaGreatDoor
open Go.RowKit Go.Maps Go.Shelf
attribute [local go_sem] Oper.semAt_some

/-- Whether two automata are the same, field by field. -/
def eqB (n m n' m' : Int) (St Fi : List Int) (Ed : List EdT) (St' Fi' : List Int) (Ed' : List EdT) : Bool := decide (n = n' ∧ m = m' ∧ St = St' ∧ Fi = Fi' ∧ Ed = Ed')
set_option maxRecDepth 100000 in
set_option maxHeartbeats 4000000 in
theorem requal_any (w : World) (n m n' m' : Int) (a1 a2 a3 b1 b2 b3 : Option Addr) (c1 c2 c3 d1 d2 d3 : Nat) (St Fi : List Int) (Ed : List EdT) (St' Fi' : List Int) (Ed' : List EdT) (hA : Hid (RdA w a1 a2 a3 St Fi Ed)) (hB : Hid (RdA w b1 b2 b3 St' Fi' Ed')) (h1 : St.length ≤ 4194304) (h2 : Fi.length ≤ 4194304) (h3 : Ed.length ≤ 4194304) (h4 : St'.length ≤ 4194304) (h5 : Fi'.length ≤ 4194304) (_h6 : Ed'.length ≤ 4194304) :
    Calls Tryz.prog 25 #[.agg #[.int .i64 n, .int .i64 m, .slice a1 St.length c1, .slice a2 Fi.length c2, .slice a3 Ed.length c3], .agg #[.int .i64 n', .int .i64 m', .slice b1 St'.length d1, .slice b2 Fi'.length d2, .slice b3 Ed'.length d3]] w fun e w' => e = .returned (.bool (eqB n m n' m' St Fi Ed St' Fi' Ed')) ∧ Below w.heap.size w w' := by
  obtain ⟨W0, hW0⟩ : ∃ W0, (w.alloc (.cells #[.int .i64 n, .int .i64 m, .slice a1 St.length c1, .slice a2 Fi.length c2, .slice a3 Ed.length c3] 25)).alloc (.cells #[.int .i64 n', .int .i64 m', .slice b1 St'.length d1, .slice b2 Fi'.length d2, .slice b3 Ed'.length d3] 25) = W0 := ⟨_, rfl⟩
  have HD := hide (box3 w #[.int .i64 n, .int .i64 m, .slice a1 St.length c1, .slice a2 Fi.length c2, .slice a3 Ed.length c3] #[.int .i64 n', .int .i64 m', .slice b1 St'.length d1, .slice b2 Fi'.length d2, .slice b3 Ed'.length d3] 25 25)
  rw [hW0] at HD
  have SK : Hid (∀ W, Below W0.heap.size W0 W → ((W.cell? ⟨w.heap.size, 0, none⟩ = some (.int .i64 n) ∧ W.cell? ⟨w.heap.size, 1, none⟩ = some (.int .i64 m) ∧ W.cell? ⟨w.heap.size, 2, none⟩ = some (.slice a1 St.length c1) ∧ W.cell? ⟨w.heap.size, 3, none⟩ = some (.slice a2 Fi.length c2) ∧ W.cell? ⟨w.heap.size, 4, none⟩ = some (.slice a3 Ed.length c3)) ∧ (W.cell? ⟨w.heap.size + 1, 0, none⟩ = some (.int .i64 n') ∧ W.cell? ⟨w.heap.size + 1, 1, none⟩ = some (.int .i64 m') ∧ W.cell? ⟨w.heap.size + 1, 2, none⟩ = some (.slice b1 St'.length d1) ∧ W.cell? ⟨w.heap.size + 1, 3, none⟩ = some (.slice b2 Fi'.length d2) ∧ W.cell? ⟨w.heap.size + 1, 4, none⟩ = some (.slice b3 Ed'.length d3)))) := hide (fun W d => by
    have e := blk_on HD.out.2.1 d
    have f := blk_on HD.out.2.2.1 d
    exact ⟨⟨cell_of e rfl, cell_of e rfl, cell_of e rfl, cell_of e rfl, cell_of e rfl⟩, cell_of f rfl, cell_of f rfl, cell_of f rfl, cell_of f rfl, cell_of f rfl⟩)
  have TS : Hid (∀ W, Below W0.heap.size W0 W → Calls Tryz.prog 20 #[.slice a1 St.length c1, .slice b1 St'.length d1] W fun e w' => e = .returned (.bool (decide (St = St'))) ∧ Below W.heap.size W w') := hide (fun W d => by
    have d2 := HD.out.1.trans (d.mono HD.out.1.size)
    exact sameInts_any W a1 b1 St St' c1 d1 (hide (hA.out.s.on d2)) (hide (hB.out.s.on d2)) h1 h4)
  have TF : Hid (∀ W, Below W0.heap.size W0 W → Calls Tryz.prog 20 #[.slice a2 Fi.length c2, .slice b2 Fi'.length d2] W fun e w' => e = .returned (.bool (decide (Fi = Fi'))) ∧ Below W.heap.size W w') := hide (fun W d => by
    have dd := HD.out.1.trans (d.mono HD.out.1.size)
    exact sameInts_any W a2 b2 Fi Fi' c2 d2 (hide (hA.out.f.on dd)) (hide (hB.out.f.on dd)) h2 h5)
  obtain ⟨⟨y0, y1, y2, y3, y4⟩, z0, z1, z2, z3, z4⟩ := SK.out W0 (Below.refl _ _)
  rcases Classical.em (n = n') with e0 | e0
  rotate_left
  · have HE : Hid (eqB n m n' m' St Fi Ed St' Fi' Ed' = false) := hide (decide_eq_false fun h => e0 h.1)
    have k0 : (n != n') = true := by simpa using e0
    clear e0
    go_enter Tryz.func25, Tryz.ntmps25
    go_wp2_with fail
    refine bodyPost_ret (results_tmp rfl _ _ _) rfl ?_
    exact ⟨by rw [HE.out]; rfl, HD.out.1⟩
  have k0 : (n != n') = false := by simpa using e0
  rcases Classical.em (m = m') with e1 | e1
  rotate_left
  · have HE : Hid (eqB n m n' m' St Fi Ed St' Fi' Ed' = false) := hide (decide_eq_false fun h => e1 h.2.1)
    have k1 : (m != m') = true := by simpa using e1
    clear e0 e1
    go_enter Tryz.func25, Tryz.ntmps25
    go_wp2_with fail
    refine bodyPost_ret (results_tmp rfl _ _ _) rfl ?_
    exact ⟨by rw [HE.out]; rfl, HD.out.1⟩
  have k1 : (m != m') = false := by simpa using e1
  rcases Classical.em (St = St') with e2 | e2
  rotate_left
  · have HE : Hid (eqB n m n' m' St Fi Ed St' Fi' Ed' = false) := hide (decide_eq_false fun h => e2 h.2.2.1)
    rw [decide_eq_false e2] at TS
    clear e0 e1 e2
    go_enter Tryz.func25, Tryz.ntmps25
    go_wp2_with (first
      | (go_at_call_of 20 a1; refine (TS.out _ (Below.refl _ _)).mono ?_; rintro e w1 ⟨rfl, q1⟩; have H1 := hide q1; clear q1 y0 y1 y2 y3 y4 z0 z1 z2 z3 z4; have ⟨⟨y0, y1, y2, y3, y4⟩, z0, z1, z2, z3, z4⟩ := SK.out w1 (H1.out)))
    refine bodyPost_ret (results_tmp rfl _ _ _) rfl ?_
    exact ⟨by rw [HE.out]; rfl, HD.out.1.trans (H1.out.mono HD.out.1.size)⟩
  rw [decide_eq_true e2] at TS
  rcases Classical.em (Fi = Fi') with e3 | e3
  rotate_left
  · have HE : Hid (eqB n m n' m' St Fi Ed St' Fi' Ed' = false) := hide (decide_eq_false fun h => e3 h.2.2.2.1)
    rw [decide_eq_false e3] at TF
    clear e0 e1 e2 e3
    go_enter Tryz.func25, Tryz.ntmps25
    go_wp2_with (first
      | (go_at_call_of 20 a1; refine (TS.out _ (Below.refl _ _)).mono ?_; rintro e w1 ⟨rfl, q1⟩; have H1 := hide q1; clear q1 y0 y1 y2 y3 y4 z0 z1 z2 z3 z4; have ⟨⟨y0, y1, y2, y3, y4⟩, z0, z1, z2, z3, z4⟩ := SK.out w1 (H1.out))
      | (go_at_call_of 20 a2; refine (TF.out w1 H1.out).mono ?_; rintro e w2 ⟨rfl, q2⟩; have H2 := hide (H1.out.trans (q2.mono H1.out.size)); clear q2 y0 y1 y2 y3 y4 z0 z1 z2 z3 z4; have ⟨⟨y0, y1, y2, y3, y4⟩, z0, z1, z2, z3, z4⟩ := SK.out w2 (H2.out)))
    refine bodyPost_ret (results_tmp rfl _ _ _) rfl ?_
    exact ⟨by rw [HE.out]; rfl, HD.out.1.trans (H2.out.mono HD.out.1.size)⟩
  rw [decide_eq_true e3] at TF
  rcases Classical.em (Ed.length = Ed'.length) with e4 | e4
  rotate_left
  · have HE : Hid (eqB n m n' m' St Fi Ed St' Fi' Ed' = false) := hide (decide_eq_false fun h => e4 (by rw [h.2.2.2.2]))
    have k4 : ((Ed.length : Int) != (Ed'.length : Int)) = true := by simp; omega
    clear e0 e1 e2 e3 e4
    go_enter Tryz.func25, Tryz.ntmps25
    go_wp2_with (first
      | (go_at_call_of 20 a1; refine (TS.out _ (Below.refl _ _)).mono ?_; rintro e w1 ⟨rfl, q1⟩; have H1 := hide q1; clear q1 y0 y1 y2 y3 y4 z0 z1 z2 z3 z4; have ⟨⟨y0, y1, y2, y3, y4⟩, z0, z1, z2, z3, z4⟩ := SK.out w1 (H1.out))
      | (go_at_call_of 20 a2; refine (TF.out w1 H1.out).mono ?_; rintro e w2 ⟨rfl, q2⟩; have H2 := hide (H1.out.trans (q2.mono H1.out.size)); clear q2 y0 y1 y2 y3 y4 z0 z1 z2 z3 z4; have ⟨⟨y0, y1, y2, y3, y4⟩, z0, z1, z2, z3, z4⟩ := SK.out w2 (H2.out)))
    refine bodyPost_ret (results_tmp rfl _ _ _) rfl ?_
    exact ⟨by rw [HE.out]; rfl, HD.out.1.trans (H2.out.mono HD.out.1.size)⟩
  have k4 : ((Ed.length : Int) != (Ed'.length : Int)) = false := by simp; omega
  have HEQ : Hid (Ed = Ed' → eqB n m n' m' St Fi Ed St' Fi' Ed' = true) := hide (fun h => decide_eq_true ⟨e0, e1, e2, e3, h⟩)
  have HLE := hide e4
  clear e0 e1 e2 e3 e4
  go_enter Tryz.func25, Tryz.ntmps25
  go_wp2_with (first
    | (go_at_call_of 20 a1; refine (TS.out _ (Below.refl _ _)).mono ?_; rintro e w1 ⟨rfl, q1⟩; have H1 := hide q1; clear q1 y0 y1 y2 y3 y4 z0 z1 z2 z3 z4; have ⟨⟨y0, y1, y2, y3, y4⟩, z0, z1, z2, z3, z4⟩ := SK.out w1 (H1.out))
    | (go_at_call_of 20 a2; refine (TF.out w1 H1.out).mono ?_; rintro e w2 ⟨rfl, q2⟩; have H2 := hide (H1.out.trans (q2.mono H1.out.size)); clear q2 y0 y1 y2 y3 y4 z0 z1 z2 z3 z4; have ⟨⟨y0, y1, y2, y3, y4⟩, z0, z1, z2, z3, z4⟩ := SK.out w2 (H2.out)))
  clear y0 y1 y2 y3 y4 z0 z1 z2 z3 z4 H1 TS TF hW0
  go_loopw [5] (fun iv wr => ∃ i : Nat, i ≤ Ed.length ∧ iv = .int .i64 i ∧ Hid (Below W0.heap.size W0 wr ∧ ∀ t (h : t < Ed.length) (h' : t < Ed'.length), t < i → Ed[t] = Ed'[t])) (fun iv _ => Ed.length - (intOf iv).toNat)
  case atStart => exact ⟨0, Nat.zero_le _, rfl, hide ⟨H2.out, fun t _ _ h => by omega⟩⟩
  case round =>
    obtain ⟨i, hi, rfl, HY⟩ := hrel
    obtain ⟨⟨y0, y1, y2, y3, y4⟩, z0, z1, z2, z3, z4⟩ := SK.out wr (HY.out.1)
    have HDW := hide (HD.out.1.trans (HY.out.1.mono HD.out.1.size))
    by_cases hlt : i < Ed.length
    · have i0 : (i : Int) < (Ed.length : Int) := by omega
      have i1 : (0 : Int) ≤ (i : Int) := by omega
      have hlt' : i < Ed'.length := by have := HLE.out; omega
      have i2 : (i : Int) < (Ed'.length : Int) := by omega
      have iw : IntKind.i64.wrap ((i : Int) + 1) = (i : Int) + 1 := by rw [IntKind.wrap_i64]; omega
      obtain ⟨g, o, hao, q0, q1, q2⟩ := (hA.out.e.on HDW.out) i hlt
      obtain ⟨g', o', hbo, r0, r1, r2⟩ := (hB.out.e.on HDW.out) i hlt'
      subst hao hbo
      have HNE : Hid (Ed[i] ≠ Ed'[i] → eqB n m n' m' St Fi Ed St' Fi' Ed' = false) := hide (fun h => decide_eq_false fun k => h (by simp only [k.2.2.2.2]))
      have HNX : Hid (Ed[i] = Ed'[i] → ∀ t (h : t < Ed.length) (h' : t < Ed'.length), t < i + 1 → Ed[t] = Ed'[t]) := hide (fun he t h h' ht => by
        rcases Nat.lt_or_ge t i with h3 | h3
        · exact HY.out.2 t h h' h3
        · obtain rfl : t = i := by omega
          exact he)
      generalize Ed[i] = u at q0 q1 q2 HNE HNX
      generalize Ed'[i] = v at r0 r1 r2 HNE HNX
      obtain ⟨u1, u2, u3⟩ := u
      obtain ⟨v1, v2, v3⟩ := v
      simp only at q0 q1 q2 r0 r1 r2
      clear hlt'
      by_cases f1 : u1 = v1
      · by_cases f2 : u2 = v2
        · by_cases f3 : u3 = v3
          · have HN := hide (HNX.out (by rw [f1, f2, f3]))
            subst f1 f2 f3
            clear HNE HNX
            go_upto_region 6 with fail
            refine wp_region_phase 10 #[true, true, true, true, true, true, true, true, true, true, false] (by kernel_rfl) (by kernel_rfl) ?_
            simp only [List.take_succ_cons, List.take_zero, List.drop_succ_cons, List.drop_zero]
            repeat (go_big_quiet_step (fail))
            refine wpQuiet_nil ?_
            intro wz hzz
            obtain ⟨nq, rfl⟩ := hzz
            go_wp2_with fail
            go_roundw
            case rel => exact ⟨i + 1, by omega, by go_num, hide ⟨below_drewN2 HY.out.1 nq, HN.out⟩⟩
            case measure => simp [intOf]; omega
          · have HE := hide (HNE.out (by intro h; cases h; exact f3 rfl))
            have p1 : (u1 == v1) = true := by simpa using f1
            have p2 : (u2 == v2) = true := by simpa using f2
            have p3 : (u3 == v3) = false := by simpa using f3
            clear f1 f2 f3 HNE HNX
            go_upto_region 6 with fail
            refine wp_region_phase 10 #[true, true, true, true, true, true, true, true, true, true, false] (by kernel_rfl) (by kernel_rfl) ?_
            simp only [List.take_succ_cons, List.take_zero, List.drop_succ_cons, List.drop_zero]
            repeat (go_big_quiet_step (fail))
            refine wpQuiet_nil ?_
            intro wz hzz
            obtain ⟨nq, rfl⟩ := hzz
            go_wp2_with fail
            refine bodyPost_ret (results_tmp rfl _ _ _) rfl ?_
            exact ⟨by rw [HE.out]; rfl, below_drewN2 HDW.out nq⟩
        · have HE := hide (HNE.out (by intro h; cases h; exact f2 rfl))
          have p1 : (u1 == v1) = true := by simpa using f1
          have p2 : (u2 == v2) = false := by simpa using f2
          clear f1 f2 HNE HNX
          go_upto_region 6 with fail
          refine wp_region_phase 10 #[true, true, true, true, true, true, true, true, true, true, false] (by kernel_rfl) (by kernel_rfl) ?_
          simp only [List.take_succ_cons, List.take_zero, List.drop_succ_cons, List.drop_zero]
          repeat (go_big_quiet_step (fail))
          refine wpQuiet_nil ?_
          intro wz hzz
          obtain ⟨nq, rfl⟩ := hzz
          go_wp2_with fail
          refine bodyPost_ret (results_tmp rfl _ _ _) rfl ?_
          exact ⟨by rw [HE.out]; rfl, below_drewN2 HDW.out nq⟩
      · have HE := hide (HNE.out (by intro h; cases h; exact f1 rfl))
        have p1 : (u1 == v1) = false := by simpa using f1
        clear f1 HNE HNX
        go_upto_region 6 with fail
        refine wp_region_phase 10 #[true, true, true, true, true, true, true, true, true, true, false] (by kernel_rfl) (by kernel_rfl) ?_
        simp only [List.take_succ_cons, List.take_zero, List.drop_succ_cons, List.drop_zero]
        repeat (go_big_quiet_step (fail))
        refine wpQuiet_nil ?_
        intro wz hzz
        obtain ⟨nq, rfl⟩ := hzz
        go_wp2_with fail
        refine bodyPost_ret (results_tmp rfl _ _ _) rfl ?_
        exact ⟨by rw [HE.out]; rfl, below_drewN2 HDW.out nq⟩
    · have i0 : ¬ (i : Int) < (Ed.length : Int) := by omega
      have HE := hide (HEQ.out (List.ext_getElem HLE.out fun t h h' => HY.out.2 t h h' (by omega)))
      go_wp2_with fail
      refine bodyPost_ret (results_tmp rfl _ _ _) rfl ?_
      exact ⟨by rw [HE.out]; rfl, HDW.out⟩
end Go.Proofs.YtfoahpideglghaaGreatDoor
namespace Go.Proofs.YtfoahpideglghaaGreatDoor
open Go.RowKit Go.Maps Go.Shelf
attribute [local go_sem] Oper.semAt_some

theorem norm_len (n m : Int) (St Fi : List Int) (Ed : List EdT) (h1 : St.length ≤ 4194304) (h2 : Fi.length ≤ 4194304) (h3 : Ed.length ≤ 4194304) : (normAns n m St Fi Ed).s.length ≤ 4194304 ∧ (normAns n m St Fi Ed).f.length ≤ 4194304 ∧ (normAns n m St Fi Ed).e.length ≤ 4194304 := by
  have t1 := riseL_len St
  have t2 := riseL_len Fi
  have t3 := riseE_len Ed
  unfold normAns badA
  by_cases em : mayA n m St Fi Ed = true
  · rw [if_pos em]; exact ⟨by simp only; omega, by simp only; omega, by simp only; omega⟩
  · rw [if_neg em]; exact ⟨by simp, by simp, by simp⟩
theorem smB_is (n m n' m' : Int) (St Fi : List Int) (Ed : List EdT) (St' Fi' : List Int) (Ed' : List EdT) : ∃ x y : Bool, ((normAns n m St Fi Ed).er == 0) = x ∧ ((normAns n' m' St' Fi' Ed').er == 0) = y ∧ smB n m n' m' St Fi Ed St' Fi' Ed' = (x && y && eqB (normAns n m St Fi Ed).n (normAns n m St Fi Ed).m (normAns n' m' St' Fi' Ed').n (normAns n' m' St' Fi' Ed').m (normAns n m St Fi Ed).s (normAns n m St Fi Ed).f (normAns n m St Fi Ed).e (normAns n' m' St' Fi' Ed').s (normAns n' m' St' Fi' Ed').f (normAns n' m' St' Fi' Ed').e) := by
  refine ⟨_, _, rfl, rfl, ?_⟩
  unfold smB normAns badA eqB
  by_cases e1 : mayA n m St Fi Ed = true
  · by_cases e2 : mayA n' m' St' Fi' Ed' = true
    · simp [e1, e2]
    · simp [e1, e2]
  · simp [e1]
set_option maxRecDepth 100000 in
set_option maxHeartbeats 4000000 in
theorem rsame_any (w : World) (n m n' m' : Int) (a1 a2 a3 b1 b2 b3 : Option Addr) (c1 c2 c3 d1 d2 d3 : Nat) (St Fi : List Int) (Ed : List EdT) (St' Fi' : List Int) (Ed' : List EdT) (hA : Hid (RdA w a1 a2 a3 St Fi Ed)) (hB : Hid (RdA w b1 b2 b3 St' Fi' Ed')) (h1 : St.length ≤ 4194304) (h2 : Fi.length ≤ 4194304) (h3 : Ed.length ≤ 4194304) (h4 : St'.length ≤ 4194304) (h5 : Fi'.length ≤ 4194304) (h6 : Ed'.length ≤ 4194304) (hc : Ed.length ≤ c3) (hc' : Ed'.length ≤ d3) :
    Calls Tryz.prog 40 #[.agg #[.int .i64 n, .int .i64 m, .slice a1 St.length c1, .slice a2 Fi.length c2, .slice a3 Ed.length c3], .agg #[.int .i64 n', .int .i64 m', .slice b1 St'.length d1, .slice b2 Fi'.length d2, .slice b3 Ed'.length d3]] w (SmP w (smB n m n' m' St Fi Ed St' Fi' Ed')) := by
  obtain ⟨W0, hW0⟩ : ∃ W0, (w.alloc (.cells #[.int .i64 n, .int .i64 m, .slice a1 St.length c1, .slice a2 Fi.length c2, .slice a3 Ed.length c3] 25)).alloc (.cells #[.int .i64 n', .int .i64 m', .slice b1 St'.length d1, .slice b2 Fi'.length d2, .slice b3 Ed'.length d3] 25) = W0 := ⟨_, rfl⟩
  have HD := hide (box3 w #[.int .i64 n, .int .i64 m, .slice a1 St.length c1, .slice a2 Fi.length c2, .slice a3 Ed.length c3] #[.int .i64 n', .int .i64 m', .slice b1 St'.length d1, .slice b2 Fi'.length d2, .slice b3 Ed'.length d3] 25 25)
  rw [hW0] at HD
  have SK : Hid (∀ W, Below W0.heap.size W0 W → ((W.cell? ⟨w.heap.size, 0, none⟩ = some (.int .i64 n) ∧ W.cell? ⟨w.heap.size, 1, none⟩ = some (.int .i64 m) ∧ W.cell? ⟨w.heap.size, 2, none⟩ = some (.slice a1 St.length c1) ∧ W.cell? ⟨w.heap.size, 3, none⟩ = some (.slice a2 Fi.length c2) ∧ W.cell? ⟨w.heap.size, 4, none⟩ = some (.slice a3 Ed.length c3)) ∧ (W.cell? ⟨w.heap.size + 1, 0, none⟩ = some (.int .i64 n') ∧ W.cell? ⟨w.heap.size + 1, 1, none⟩ = some (.int .i64 m') ∧ W.cell? ⟨w.heap.size + 1, 2, none⟩ = some (.slice b1 St'.length d1) ∧ W.cell? ⟨w.heap.size + 1, 3, none⟩ = some (.slice b2 Fi'.length d2) ∧ W.cell? ⟨w.heap.size + 1, 4, none⟩ = some (.slice b3 Ed'.length d3)))) := hide (fun W d => by
    have e := blk_on HD.out.2.1 d
    have f := blk_on HD.out.2.2.1 d
    exact ⟨⟨cell_of e rfl, cell_of e rfl, cell_of e rfl, cell_of e rfl, cell_of e rfl⟩, cell_of f rfl, cell_of f rfl, cell_of f rfl, cell_of f rfl, cell_of f rfl⟩)
  have T1 : Hid (∀ W, Below W0.heap.size W0 W → Calls Tryz.prog 32 #[.agg #[.int .i64 n, .int .i64 m, .slice a1 St.length c1, .slice a2 Fi.length c2, .slice a3 Ed.length c3]] W (AnsR W (normAns n m St Fi Ed))) := hide (fun W d => rnormal_ans W n m a1 a2 a3 c1 c2 c3 St Fi Ed (hide (hA.out.on (HD.out.1.trans (d.mono HD.out.1.size)))) h1 h2 h3 hc)
  have T2 : Hid (∀ W, Below W0.heap.size W0 W → Calls Tryz.prog 32 #[.agg #[.int .i64 n', .int .i64 m', .slice b1 St'.length d1, .slice b2 Fi'.length d2, .slice b3 Ed'.length d3]] W (AnsR W (normAns n' m' St' Fi' Ed'))) := hide (fun W d => rnormal_ans W n' m' b1 b2 b3 d1 d2 d3 St' Fi' Ed' (hide (hB.out.on (HD.out.1.trans (d.mono HD.out.1.size)))) h4 h5 h6 hc')
  have L1 := hide (norm_len n m St Fi Ed h1 h2 h3)
  have L2 := hide (norm_len n' m' St' Fi' Ed' h4 h5 h6)
  obtain ⟨x, y, hx, hy, hS⟩ := smB_is n m n' m' St Fi Ed St' Fi' Ed'
  have HS := hide hS
  clear hS
  generalize normAns n m St Fi Ed = r1 at T1 L1 hx HS
  generalize normAns n' m' St' Fi' Ed' = r2 at T2 L2 hy HS
  generalize smB n m n' m' St Fi Ed St' Fi' Ed' = q at HS ⊢
  obtain ⟨⟨y0, y1, y2, y3, y4⟩, z0, z1, z2, z3, z4⟩ := SK.out W0 (Below.refl _ _)
  go_enter Tryz.func40, Tryz.ntmps40
  go_upto_region 2 with (go_at_call_of 32 a1; refine (T1.out W0 (Below.refl _ _)).mono ?_; rintro e w1 ⟨x1, kx1, x2, kx2, x3, kx3, rfl, O1, D1⟩)
  obtain ⟨W1, hW⟩ : ∃ X, w1.alloc (.cells #[.int .i64 r1.n, .int .i64 r1.m, .slice x1 r1.s.length kx1, .slice x2 r1.f.length kx2, .slice x3 r1.e.length kx3] 25) = X := ⟨_, rfl⟩
  have G1 : Hid (W1.heap[w1.heap.size]? = some (.cells #[.int .i64 r1.n, .int .i64 r1.m, .slice x1 r1.s.length kx1, .slice x2 r1.f.length kx2, .slice x3 r1.e.length kx3] 25 (0, 0)) ∧ OwnD W0.heap.size W1 (.slice x1 r1.s.length kx1) (.slice x2 r1.f.length kx2) (.slice x3 r1.e.length kx3) r1.s r1.f r1.e ∧ Below W0.heap.size W0 W1) := hide (by
    have dn : Below w1.heap.size w1 W1 := by rw [← hW]; exact alloc_below _ _
    exact ⟨by rw [← hW]; exact World.alloc_heap_new _ _, O1.out.on dn, D1.trans (dn.mono D1.size)⟩)
  rw [hW]
  clear hW O1 D1 y0 y1 y2 y3 y4 z0 z1 z2 z3 z4 hW0
  generalize w1.heap.size = p1 at G1 ⊢
  obtain ⟨⟨y0, y1, y2, y3, y4⟩, z0, z1, z2, z3, z4⟩ := SK.out W1 (G1.out.2.2)
  go_upto_region 3 with (go_at_call_of 32 b1; refine (T2.out W1 G1.out.2.2).mono ?_; rintro e w2 ⟨zz1, kzz1, zz2, kzz2, zz3, kzz3, rfl, O2, D2⟩)
  obtain ⟨W2, hW⟩ : ∃ X, w2.alloc (.cells #[.int .i64 r2.n, .int .i64 r2.m, .slice zz1 r2.s.length kzz1, .slice zz2 r2.f.length kzz2, .slice zz3 r2.e.length kzz3] 25) = X := ⟨_, rfl⟩
  have G2 : Hid (W2.heap[w2.heap.size]? = some (.cells #[.int .i64 r2.n, .int .i64 r2.m, .slice zz1 r2.s.length kzz1, .slice zz2 r2.f.length kzz2, .slice zz3 r2.e.length kzz3] 25 (0, 0)) ∧ W2.heap[p1]? = some (.cells #[.int .i64 r1.n, .int .i64 r1.m, .slice x1 r1.s.length kx1, .slice x2 r1.f.length kx2, .slice x3 r1.e.length kx3] 25 (0, 0)) ∧ OwnD W0.heap.size W2 (.slice x1 r1.s.length kx1) (.slice x2 r1.f.length kx2) (.slice x3 r1.e.length kx3) r1.s r1.f r1.e ∧ OwnD W1.heap.size W2 (.slice zz1 r2.s.length kzz1) (.slice zz2 r2.f.length kzz2) (.slice zz3 r2.e.length kzz3) r2.s r2.f r2.e ∧ Below w.heap.size w W2) := hide (by
    have dn : Below w2.heap.size w2 W2 := by rw [← hW]; exact alloc_below _ _
    have e1 := D2.trans (dn.mono D2.size)
    have e2 := G1.out.2.2.trans (e1.mono G1.out.2.2.size)
    exact ⟨by rw [← hW]; exact World.alloc_heap_new _ _, blk_on G1.out.1 e1, G1.out.2.1.on e1, O2.out.on dn, HD.out.1.trans (e2.mono HD.out.1.size)⟩)
  rw [hW]
  clear hW O2 D2 y0 y1 y2 y3 y4 z0 z1 z2 z3 z4 G1 T1 T2 SK
  generalize w2.heap.size = p2 at G2 ⊢
  have y0 : W2.cell? ⟨p1, 0, none⟩ = some (.int .i64 r1.n) := cell_of G2.out.2.1 rfl
  have y1 : W2.cell? ⟨p1, 1, none⟩ = some (.int .i64 r1.m) := cell_of G2.out.2.1 rfl
  have y2 : W2.cell? ⟨p1, 2, none⟩ = some (.slice x1 r1.s.length kx1) := cell_of G2.out.2.1 rfl
  have y3 : W2.cell? ⟨p1, 3, none⟩ = some (.slice x2 r1.f.length kx2) := cell_of G2.out.2.1 rfl
  have y4 : W2.cell? ⟨p1, 4, none⟩ = some (.slice x3 r1.e.length kx3) := cell_of G2.out.2.1 rfl
  have z0 : W2.cell? ⟨p2, 0, none⟩ = some (.int .i64 r2.n) := cell_of G2.out.1 rfl
  have z1 : W2.cell? ⟨p2, 1, none⟩ = some (.int .i64 r2.m) := cell_of G2.out.1 rfl
  have z2 : W2.cell? ⟨p2, 2, none⟩ = some (.slice zz1 r2.s.length kzz1) := cell_of G2.out.1 rfl
  have z3 : W2.cell? ⟨p2, 3, none⟩ = some (.slice zz2 r2.f.length kzz2) := cell_of G2.out.1 rfl
  have z4 : W2.cell? ⟨p2, 4, none⟩ = some (.slice zz3 r2.e.length kzz3) := cell_of G2.out.1 rfl
  have TE := requal_any W2 r1.n r1.m r2.n r2.m x1 x2 x3 zz1 zz2 zz3 kx1 kx2 kx3 kzz1 kzz2 kzz3 r1.s r1.f r1.e r2.s r2.f r2.e (hide G2.out.2.2.1.rd) (hide G2.out.2.2.2.1.rd) L1.out.1 L1.out.2.1 L1.out.2.2 L2.out.1 L2.out.2.1 L2.out.2.2
  generalize eqB r1.n r1.m r2.n r2.m r1.s r1.f r1.e r2.s r2.f r2.e = v at TE HS
  cases x
  · have HE : Hid (q = false) := hide (by rw [HS.out]; rfl)
    go_wp2_with fail
    refine bodyPost_ret (results_tmp rfl _ _ _) rfl ?_
    exact ⟨by rw [HE.out]; rfl, G2.out.2.2.2.2⟩
  · cases y
    · have HE : Hid (q = false) := hide (by rw [HS.out]; rfl)
      go_wp2_with fail
      refine bodyPost_ret (results_tmp rfl _ _ _) rfl ?_
      exact ⟨by rw [HE.out]; rfl, G2.out.2.2.2.2⟩
    · have HE : Hid (q = v) := hide (by rw [HS.out]; rfl)
      go_wp2_with (go_at_call 25; refine TE.mono ?_; rintro e w3 ⟨rfl, D3⟩)
      refine bodyPost_ret (results_tmp rfl _ _ _) rfl ?_
      exact ⟨by rw [HE.out]; rfl, G2.out.2.2.2.2.trans (D3.mono G2.out.2.2.2.2.size)⟩
end Go.Proofs.YtfoahpideglghaaGreatDoor
