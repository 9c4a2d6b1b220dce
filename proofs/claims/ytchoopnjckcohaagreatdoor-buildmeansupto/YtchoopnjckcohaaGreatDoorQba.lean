import Derived.Test.YtchoopnjckcohaaGreatDoorQaz
import Derived.Test.YtchoopnjckcohaaGreatDoorBo
set_option maxRecDepth 100000
set_option maxHeartbeats 40000000
namespace Go.Proofs.YtchoopnjckcohaaGreatDoor
open Go.RowKit Go.Maps Go.Shelf
attribute [local go_sem] Oper.semAt_some
def eqB (n m n' m' : Int) (St Fi : List Int) (Ed : List EdT) (St' Fi' : List Int) (Ed' : List EdT) : Bool := decide (n = n' ∧ m = m' ∧ St = St' ∧ Fi = Fi' ∧ Ed = Ed')
theorem requal_any (w : World) (n m n' m' : Int) (a1 a2 a3 b1 b2 b3 : Option Addr) (c1 c2 c3 d1 d2 d3 : Nat) (St Fi : List Int) (Ed : List EdT) (St' Fi' : List Int) (Ed' : List EdT) (hA : Hid (RdA w a1 a2 a3 St Fi Ed)) (hB : Hid (RdA w b1 b2 b3 St' Fi' Ed')) (h1 : St.length ≤ 4194304) (h2 : Fi.length ≤ 4194304) (h3 : Ed.length ≤ 4194304) (h4 : St'.length ≤ 4194304) (h5 : Fi'.length ≤ 4194304) (_h6 : Ed'.length ≤ 4194304) :
 Calls Tryz.prog 19 #[.agg #[.int .i64 n, .int .i64 m, .slice a1 St.length c1, .slice a2 Fi.length c2, .slice a3 Ed.length c3], .agg #[.int .i64 n', .int .i64 m', .slice b1 St'.length d1, .slice b2 Fi'.length d2, .slice b3 Ed'.length d3]] w fun e w' => e = .returned (.bool (eqB n m n' m' St Fi Ed St' Fi' Ed')) ∧ Below w.heap.size w w' := by
 obtain ⟨W0, hW0⟩ : ∃ W0, (w.alloc (.cells #[.int .i64 n, .int .i64 m, .slice a1 St.length c1, .slice a2 Fi.length c2, .slice a3 Ed.length c3] 25)).alloc (.cells #[.int .i64 n', .int .i64 m', .slice b1 St'.length d1, .slice b2 Fi'.length d2, .slice b3 Ed'.length d3] 25) = W0 := ⟨_, rfl⟩
 have HD := hide (box3 w #[.int .i64 n, .int .i64 m, .slice a1 St.length c1, .slice a2 Fi.length c2, .slice a3 Ed.length c3] #[.int .i64 n', .int .i64 m', .slice b1 St'.length d1, .slice b2 Fi'.length d2, .slice b3 Ed'.length d3] 25 25)
 rw [hW0] at HD
 have SK : Hid (∀ W, Below W0.heap.size W0 W → ((W.cell? ⟨w.heap.size, 0, none⟩ = some (.int .i64 n) ∧ W.cell? ⟨w.heap.size, 1, none⟩ = some (.int .i64 m) ∧ W.cell? ⟨w.heap.size, 2, none⟩ = some (.slice a1 St.length c1) ∧ W.cell? ⟨w.heap.size, 3, none⟩ = some (.slice a2 Fi.length c2) ∧ W.cell? ⟨w.heap.size, 4, none⟩ = some (.slice a3 Ed.length c3)) ∧ (W.cell? ⟨w.heap.size + 1, 0, none⟩ = some (.int .i64 n') ∧ W.cell? ⟨w.heap.size + 1, 1, none⟩ = some (.int .i64 m') ∧ W.cell? ⟨w.heap.size + 1, 2, none⟩ = some (.slice b1 St'.length d1) ∧ W.cell? ⟨w.heap.size + 1, 3, none⟩ = some (.slice b2 Fi'.length d2) ∧ W.cell? ⟨w.heap.size + 1, 4, none⟩ = some (.slice b3 Ed'.length d3)))) := hide (fun W d => by
  have e := blk_on HD.out.2.1 d
  have f := blk_on HD.out.2.2.1 d
  exact ⟨⟨cell_of e rfl, cell_of e rfl, cell_of e rfl, cell_of e rfl, cell_of e rfl⟩, cell_of f rfl, cell_of f rfl, cell_of f rfl, cell_of f rfl, cell_of f rfl⟩)
 have TS : Hid (∀ W, Below W0.heap.size W0 W → Calls Tryz.prog 28 #[.slice a1 St.length c1, .slice b1 St'.length d1] W fun e w' => e = .returned (.bool (decide (St = St'))) ∧ Below W.heap.size W w') := hide (fun W d => by
  have d2 := HD.out.1.trans (d.mono HD.out.1.size)
  exact sameInts_any W a1 b1 St St' c1 d1 (hide (hA.out.s.on d2)) (hide (hB.out.s.on d2)) h1 h4)
 have TF : Hid (∀ W, Below W0.heap.size W0 W → Calls Tryz.prog 28 #[.slice a2 Fi.length c2, .slice b2 Fi'.length d2] W fun e w' => e = .returned (.bool (decide (Fi = Fi'))) ∧ Below W.heap.size W w') := hide (fun W d => by
  have dd := HD.out.1.trans (d.mono HD.out.1.size)
  exact sameInts_any W a2 b2 Fi Fi' c2 d2 (hide (hA.out.f.on dd)) (hide (hB.out.f.on dd)) h2 h5)
 obtain ⟨⟨y0, y1, y2, y3, y4⟩, z0, z1, z2, z3, z4⟩ := SK.out W0 (Below.refl _ _)
 rcases Classical.em (n = n') with e0 | e0
 rotate_left
 · have HE : Hid (eqB n m n' m' St Fi Ed St' Fi' Ed' = false) := hide (decide_eq_false fun h => e0 h.1)
   have k0 : (n != n') = true := by simpa using e0
   clear e0
   go_enter Tryz.func19, Tryz.ntmps19
   go_wp2_with fail
   refine bodyPost_ret (results_tmp rfl _ _ _) rfl ?_
   exact ⟨by rw [HE.out]; rfl, HD.out.1⟩
 have k0 : (n != n') = false := by simpa using e0
 rcases Classical.em (m = m') with e1 | e1
 rotate_left
 · have HE : Hid (eqB n m n' m' St Fi Ed St' Fi' Ed' = false) := hide (decide_eq_false fun h => e1 h.2.1)
   have k1 : (m != m') = true := by simpa using e1
   clear e0 e1
   go_enter Tryz.func19, Tryz.ntmps19
   go_wp2_with fail
   refine bodyPost_ret (results_tmp rfl _ _ _) rfl ?_
   exact ⟨by rw [HE.out]; rfl, HD.out.1⟩
 have k1 : (m != m') = false := by simpa using e1
 rcases Classical.em (St = St') with e2 | e2
 rotate_left
 · have HE : Hid (eqB n m n' m' St Fi Ed St' Fi' Ed' = false) := hide (decide_eq_false fun h => e2 h.2.2.1)
   rw [decide_eq_false e2] at TS
   clear e0 e1 e2
   go_enter Tryz.func19, Tryz.ntmps19
   go_wp2_with (first
    | (go_at_call_of 28 a1; refine (TS.out _ (Below.refl _ _)).mono ?_; rintro e w1 ⟨rfl, q1⟩; have H1 := hide q1; clear q1 y0 y1 y2 y3 y4 z0 z1 z2 z3 z4; have ⟨⟨y0, y1, y2, y3, y4⟩, z0, z1, z2, z3, z4⟩ := SK.out w1 (H1.out)))
   refine bodyPost_ret (results_tmp rfl _ _ _) rfl ?_
   exact ⟨by rw [HE.out]; rfl, HD.out.1.trans (H1.out.mono HD.out.1.size)⟩
 rw [decide_eq_true e2] at TS
 rcases Classical.em (Fi = Fi') with e3 | e3
 rotate_left
 · have HE : Hid (eqB n m n' m' St Fi Ed St' Fi' Ed' = false) := hide (decide_eq_false fun h => e3 h.2.2.2.1)
   rw [decide_eq_false e3] at TF
   clear e0 e1 e2 e3
   go_enter Tryz.func19, Tryz.ntmps19
   go_wp2_with (first
    | (go_at_call_of 28 a1; refine (TS.out _ (Below.refl _ _)).mono ?_; rintro e w1 ⟨rfl, q1⟩; have H1 := hide q1; clear q1 y0 y1 y2 y3 y4 z0 z1 z2 z3 z4; have ⟨⟨y0, y1, y2, y3, y4⟩, z0, z1, z2, z3, z4⟩ := SK.out w1 (H1.out))
    | (go_at_call_of 28 a2; refine (TF.out w1 H1.out).mono ?_; rintro e w2 ⟨rfl, q2⟩; have H2 := hide (H1.out.trans (q2.mono H1.out.size)); clear q2 y0 y1 y2 y3 y4 z0 z1 z2 z3 z4; have ⟨⟨y0, y1, y2, y3, y4⟩, z0, z1, z2, z3, z4⟩ := SK.out w2 (H2.out)))
   refine bodyPost_ret (results_tmp rfl _ _ _) rfl ?_
   exact ⟨by rw [HE.out]; rfl, HD.out.1.trans (H2.out.mono HD.out.1.size)⟩
 rw [decide_eq_true e3] at TF
 rcases Classical.em (Ed.length = Ed'.length) with e4 | e4
 rotate_left
 · have HE : Hid (eqB n m n' m' St Fi Ed St' Fi' Ed' = false) := hide (decide_eq_false fun h => e4 (by rw [h.2.2.2.2]))
   have k4 : ((Ed.length : Int) != (Ed'.length : Int)) = true := by simp; omega
   clear e0 e1 e2 e3 e4
   go_enter Tryz.func19, Tryz.ntmps19
   go_wp2_with (first
    | (go_at_call_of 28 a1; refine (TS.out _ (Below.refl _ _)).mono ?_; rintro e w1 ⟨rfl, q1⟩; have H1 := hide q1; clear q1 y0 y1 y2 y3 y4 z0 z1 z2 z3 z4; have ⟨⟨y0, y1, y2, y3, y4⟩, z0, z1, z2, z3, z4⟩ := SK.out w1 (H1.out))
    | (go_at_call_of 28 a2; refine (TF.out w1 H1.out).mono ?_; rintro e w2 ⟨rfl, q2⟩; have H2 := hide (H1.out.trans (q2.mono H1.out.size)); clear q2 y0 y1 y2 y3 y4 z0 z1 z2 z3 z4; have ⟨⟨y0, y1, y2, y3, y4⟩, z0, z1, z2, z3, z4⟩ := SK.out w2 (H2.out)))
   refine bodyPost_ret (results_tmp rfl _ _ _) rfl ?_
   exact ⟨by rw [HE.out]; rfl, HD.out.1.trans (H2.out.mono HD.out.1.size)⟩
 have k4 : ((Ed.length : Int) != (Ed'.length : Int)) = false := by simp; omega
 have HEQ : Hid (Ed = Ed' → eqB n m n' m' St Fi Ed St' Fi' Ed' = true) := hide (fun h => decide_eq_true ⟨e0, e1, e2, e3, h⟩)
 have HLE := hide e4
 clear e0 e1 e2 e3 e4
 go_enter Tryz.func19, Tryz.ntmps19
 go_wp2_with (first
  | (go_at_call_of 28 a1; refine (TS.out _ (Below.refl _ _)).mono ?_; rintro e w1 ⟨rfl, q1⟩; have H1 := hide q1; clear q1 y0 y1 y2 y3 y4 z0 z1 z2 z3 z4; have ⟨⟨y0, y1, y2, y3, y4⟩, z0, z1, z2, z3, z4⟩ := SK.out w1 (H1.out))
  | (go_at_call_of 28 a2; refine (TF.out w1 H1.out).mono ?_; rintro e w2 ⟨rfl, q2⟩; have H2 := hide (H1.out.trans (q2.mono H1.out.size)); clear q2 y0 y1 y2 y3 y4 z0 z1 z2 z3 z4; have ⟨⟨y0, y1, y2, y3, y4⟩, z0, z1, z2, z3, z4⟩ := SK.out w2 (H2.out)))
 clear y0 y1 y2 y3 y4 z0 z1 z2 z3 z4 H1 TS TF hW0
 go_loopw [5] (fun iv wr => ∃ i : Nat, i ≤ Ed.length ∧ iv = .int .i64 i ∧ Hid (Below W0.heap.size W0 wr ∧ ∀ t (h : t < Ed.length) (h' : t < Ed'.length), t < i → Ed[t] = Ed'[t])) (fun iv _ => Ed.length - (intOf iv).toNat)
 case atStart => exact ⟨0, Nat.zero_le _, rfl, hide ⟨H2.out, fun t _ _ h => by omega⟩⟩
 case round =>
  obtain ⟨i, hi, rfl, HY⟩ := hrel
  obtain ⟨⟨y0, y1, y2, y3, y4⟩, z0, z1, z2, z3, z4⟩ := SK.out wr (HY.out.1)
  have HDW := hide (HD.out.1.trans (HY.out.1.mono HD.out.1.size))
  by_cases hlt : i < Ed.length
  · have i0 : (i : Int) < (Ed.length : Int) := by omega
    have i1 : (0 : Int) ≤ (i : Int) := by omega
    have hlt' : i < Ed'.length := by have := HLE.out; omega
    have i2 : (i : Int) < (Ed'.length : Int) := by omega
    have iw : IntKind.i64.wrap ((i : Int) + 1) = (i : Int) + 1 := by rw [IntKind.wrap_i64]; omega
    obtain ⟨g, o, hao, q0, q1, q2⟩ := (hA.out.e.on HDW.out) i hlt
    obtain ⟨g', o', hbo, r0, r1, r2⟩ := (hB.out.e.on HDW.out) i hlt'
    subst hao hbo
    have HNE : Hid (Ed[i] ≠ Ed'[i] → eqB n m n' m' St Fi Ed St' Fi' Ed' = false) := hide (fun h => decide_eq_false fun k => h (by simp only [k.2.2.2.2]))
    have HNX : Hid (Ed[i] = Ed'[i] → ∀ t (h : t < Ed.length) (h' : t < Ed'.length), t < i + 1 → Ed[t] = Ed'[t]) := hide (fun he t h h' ht => by
     rcases Nat.lt_or_ge t i with h3 | h3
     · exact HY.out.2 t h h' h3
     · obtain rfl : t = i := by omega
       exact he)
    generalize Ed[i] = u at q0 q1 q2 HNE HNX
    generalize Ed'[i] = v at r0 r1 r2 HNE HNX
    obtain ⟨u1, u2, u3⟩ := u
    obtain ⟨v1, v2, v3⟩ := v
    simp only at q0 q1 q2 r0 r1 r2
    clear hlt'
    by_cases f1 : u1 = v1
    · by_cases f2 : u2 = v2
      · by_cases f3 : u3 = v3
        · have HN := hide (HNX.out (by rw [f1, f2, f3]))
          subst f1 f2 f3
          clear HNE HNX
          go_upto_region 6 with fail
          refine wp_region_phase 10 #[true, true, true, true, true, true, true, true, true, true, false] (by kernel_rfl) (by kernel_rfl) ?_
          simp only [List.take_succ_cons, List.take_zero, List.drop_succ_cons, List.drop_zero]
          repeat (go_big_quiet_step (fail))
          refine wpQuiet_nil ?_
          intro wz hzz
          obtain ⟨nq, rfl⟩ := hzz
          go_wp2_with fail
          go_roundw
          case rel => exact ⟨i + 1, by omega, by go_num, hide ⟨below_drewN2 HY.out.1 nq, HN.out⟩⟩
          case measure => simp [intOf]; omega
        · have HE := hide (HNE.out (by intro h; cases h; exact f3 rfl))
          have p1 : (u1 == v1) = true := by simpa using f1
          have p2 : (u2 == v2) = true := by simpa using f2
          have p3 : (u3 == v3) = false := by simpa using f3
          clear f1 f2 f3 HNE HNX
          go_upto_region 6 with fail
          refine wp_region_phase 10 #[true, true, true, true, true, true, true, true, true, true, false] (by kernel_rfl) (by kernel_rfl) ?_
          simp only [List.take_succ_cons, List.take_zero, List.drop_succ_cons, List.drop_zero]
          repeat (go_big_quiet_step (fail))
          refine wpQuiet_nil ?_
          intro wz hzz
          obtain ⟨nq, rfl⟩ := hzz
          go_wp2_with fail
          refine bodyPost_ret (results_tmp rfl _ _ _) rfl ?_
          exact ⟨by rw [HE.out]; rfl, below_drewN2 HDW.out nq⟩
      · have HE := hide (HNE.out (by intro h; cases h; exact f2 rfl))
        have p1 : (u1 == v1) = true := by simpa using f1
        have p2 : (u2 == v2) = false := by simpa using f2
        clear f1 f2 HNE HNX
        go_upto_region 6 with fail
        refine wp_region_phase 10 #[true, true, true, true, true, true, true, true, true, true, false] (by kernel_rfl) (by kernel_rfl) ?_
        simp only [List.take_succ_cons, List.take_zero, List.drop_succ_cons, List.drop_zero]
        repeat (go_big_quiet_step (fail))
        refine wpQuiet_nil ?_
        intro wz hzz
        obtain ⟨nq, rfl⟩ := hzz
        go_wp2_with fail
        refine bodyPost_ret (results_tmp rfl _ _ _) rfl ?_
        exact ⟨by rw [HE.out]; rfl, below_drewN2 HDW.out nq⟩
    · have HE := hide (HNE.out (by intro h; cases h; exact f1 rfl))
      have p1 : (u1 == v1) = false := by simpa using f1
      clear f1 HNE HNX
      go_upto_region 6 with fail
      refine wp_region_phase 10 #[true, true, true, true, true, true, true, true, true, true, false] (by kernel_rfl) (by kernel_rfl) ?_
      simp only [List.take_succ_cons, List.take_zero, List.drop_succ_cons, List.drop_zero]
      repeat (go_big_quiet_step (fail))
      refine wpQuiet_nil ?_
      intro wz hzz
      obtain ⟨nq, rfl⟩ := hzz
      go_wp2_with fail
      refine bodyPost_ret (results_tmp rfl _ _ _) rfl ?_
      exact ⟨by rw [HE.out]; rfl, below_drewN2 HDW.out nq⟩
  · have i0 : ¬ (i : Int) < (Ed.length : Int) := by omega
    have HE := hide (HEQ.out (List.ext_getElem HLE.out fun t h h' => HY.out.2 t h h' (by omega)))
    go_wp2_with fail
    refine bodyPost_ret (results_tmp rfl _ _ _) rfl ?_
    exact ⟨by rw [HE.out]; rfl, HDW.out⟩
theorem rd_one {W : World} {b : Nat} {x : Int} {t : TypeId} {fr : Nat × Nat} (h : W.heap[b]? = some (.cells #[.int .i64 x] t fr)) : RdN W (some ⟨b, 0, none⟩) [x] := fun j hj => by
 obtain rfl : j = 0 := by simpa using hj
 exact ⟨b, 0, rfl, cell_of h rfl⟩
theorem rdE_want {W : World} {b : Nat} {t : TypeId} {fr : Nat × Nat} (h : W.heap[b]? = some (.cells #[.int .i64 0, .int .i64 0, .int .i64 1, .int .i64 0, .int .i64 0, .int .i64 2, .int .i64 2, .int .i64 1, .int .i64 3] t fr)) : RdE W (some ⟨b, 0, none⟩) [(0, 0, 1), (0, 0, 2), (2, 1, 3)] := fun j hj => by
 have hj' : j < 3 := by simpa using hj
 obtain rfl | rfl | rfl : j = 0 ∨ j = 1 ∨ j = 2 := by omega
 · exact ⟨b, 0, rfl, cell_of h rfl, cell_of h rfl, cell_of h rfl⟩
 · exact ⟨b, 0, rfl, cell_of h rfl, cell_of h rfl, cell_of h rfl⟩
 · exact ⟨b, 0, rfl, cell_of h rfl, cell_of h rfl, cell_of h rfl⟩
theorem box33 (w : World) (A B C : Array Value) (t u v : TypeId) : Below w.heap.size w (((w.alloc (.cells A t)).alloc (.cells B u)).alloc (.cells C v)) ∧ (((w.alloc (.cells A t)).alloc (.cells B u)).alloc (.cells C v)).heap[w.heap.size]? = some (.cells A t (0, 0)) ∧ (((w.alloc (.cells A t)).alloc (.cells B u)).alloc (.cells C v)).heap[w.heap.size + 1]? = some (.cells B u (0, 0)) ∧ (((w.alloc (.cells A t)).alloc (.cells B u)).alloc (.cells C v)).heap[w.heap.size + 2]? = some (.cells C v (0, 0)) ∧ (((w.alloc (.cells A t)).alloc (.cells B u)).alloc (.cells C v)).heap.size = w.heap.size + 3 := by
 have z1 : (w.alloc (.cells A t)).heap.size = w.heap.size + 1 := by simp
 have z2 : ((w.alloc (.cells A t)).alloc (.cells B u)).heap.size = w.heap.size + 2 := by simp
 refine ⟨((((Below.refl _ _).alloc (Nat.le_refl _) _).alloc (by omega) _).alloc (by omega) _), ?_, ?_, ?_, by simp⟩
 · exact ((Below.heap_alloc _ _ _ (by omega)).trans (Below.heap_alloc _ _ _ (by omega))).trans (World.alloc_heap_new _ _)
 · have := World.alloc_heap_new (w.alloc (.cells A t)) (.cells B u)
   rw [z1] at this
   exact (Below.heap_alloc _ _ _ (by omega)).trans this
 · have := World.alloc_heap_new ((w.alloc (.cells A t)).alloc (.cells B u)) (.cells C v)
   rw [z2] at this
   exact this
theorem rise_up {L : List Int} (h : L.Pairwise (· < ·)) : riseL L = L := ssL_eq _ _ (riseL_ss L) h fun x => riseL_iff L x
theorem l_may (s : Int) (h : 0 ≤ s ∧ s < 2) : mayA 2 2 [0] [1] [(0, s, 1)] = true := by
 obtain rfl | rfl : s = 0 ∨ s = 1 := by omega
 · decide
 · decide
theorem l_br : brL [(0, 0, 1)] [1] (movN [0] 2) 2 2 = [(0, 0, 1), (0, 0, 2)] := by
 have r1 : riseL [(1 : Int), 2] = [1, 2] := rise_up (by simp)
 have r0 := rise_nil
 have e00 : celL [(0, 0, 1)] [1] (movN [0] 2) 0 0 = [(0, 0, 1), (0, 0, 2)] := by
  unfold celL
  rw [show endL [(0, 0, 1)] [1] (movN [0] 2) 0 0 = [1, 2] by decide, r1]
  rfl
 have e01 : celL [(0, 0, 1)] [1] (movN [0] 2) 0 1 = [] := by
  unfold celL
  rw [show endL [(0, 0, 1)] [1] (movN [0] 2) 0 1 = [] by decide, r0]
  rfl
 have e10 : celL [(0, 0, 1)] [1] (movN [0] 2) 1 0 = [] := by
  unfold celL
  rw [show endL [(0, 0, 1)] [1] (movN [0] 2) 1 0 = [] by decide, r0]
  rfl
 have e11 : celL [(0, 0, 1)] [1] (movN [0] 2) 1 1 = [] := by
  unfold celL
  rw [show endL [(0, 0, 1)] [1] (movN [0] 2) 1 1 = [] by decide, r0]
  rfl
 rw [show (2 : Nat) = 0 + 1 + 1 from rfl, brL_next, brL_next]
 simp [brL, rowL, List.range_succ, e00, e01, e10, e11]
theorem one_sym (w : World) (g : Nat) (s : Int) (hs : 0 ≤ s ∧ s < 2) (h : w.heap[g]? = some (.cells #[.int .i64 s] 3 (0, 0))) :
 Calls Tryz.prog 20 #[.slice (some ⟨g, 0, none⟩) 1 1, .int .i64 2] w fun e w' => ∃ b1 k1 b2 k2 b3 k3, e = .returned (.tuple #[.agg #[.int .i64 2, .int .i64 2, .slice b1 1 k1, .slice b2 1 k2, .slice b3 1 k3], .int .i64 0]) ∧ Hid (OwnO w.heap.size w' (.slice b1 1 k1) (.slice b2 1 k2) (.slice b3 1 k3) [0] [1] [(0, s, 1)] ∧ Below w.heap.size w w') :=
 one_ok w (some ⟨g, 0, none⟩) 1 1 2 [s] (hide rfl) (hide (rd_one h)) (by omega) (by omega) (hide (fun x hx => by rw [List.mem_singleton] at hx; subst hx; exact hs))
theorem concat_two (w : World) (a1 a2 a3 b1 b2 b3 : Option Addr) (c1 c2 c3 d1 d2 d3 : Nat) (hA : Hid (RdA w a1 a2 a3 [0] [1] [(0, 0, 1)])) (hB : Hid (RdA w b1 b2 b3 [0] [1] [(0, 1, 1)])) :
 Calls Tryz.prog 21 #[.agg #[.int .i64 2, .int .i64 2, .slice a1 1 c1, .slice a2 1 c2, .slice a3 1 c3], .agg #[.int .i64 2, .int .i64 2, .slice b1 1 d1, .slice b2 1 d2, .slice b3 1 d3]] w fun e w' => ∃ g1 k1 t2 u2 z5 d5, e = .returned (.tuple #[.agg #[.int .i64 4, .int .i64 2, .slice (some ⟨g1, 0, none⟩) 1 k1, .slice t2 1 u2, .slice z5 3 d5], .int .i64 0]) ∧ Hid (RdA w' (some ⟨g1, 0, none⟩) t2 z5 [0] [3] [(0, 0, 1), (0, 0, 2), (2, 1, 3)] ∧ Below w.heap.size w w') := by
 have T := concat_no w 2 2 2 a1 a2 a3 b1 b2 b3 c1 c2 c3 d1 d2 d3 [0] [1] [0] [1] [(0, 0, 1)] [(0, 1, 1)] hA hB (by decide) (by decide) (by decide) (by decide) (by decide) (by decide) (l_may 0 (by omega)) (l_may 1 (by omega)) (by decide) (by decide)
 rw [rise_one, rise_one, riseE_one (L := [(0, 0, 1)]) (by decide), riseE_one (L := [(0, 1, 1)]) (by decide)] at T
 have T2 := T (hide (by decide)) (hide (by have q := riseE_ss [((0 : Int), (0 : Int), (1 : Int))]; rwa [riseE_one (by decide)] at q)) (hide (by decide)) (hide (fun x hx => ⟨0, by omega, by simpa using hx⟩)) (hide (fun x hx => ⟨1, by omega, by simpa using hx⟩)) (hide (fun x hx => ⟨0, by omega, by simpa using hx⟩)) (hide (fun x hx => ⟨1, by omega, by simpa using hx⟩)) (hide (by decide))
 rw [show ((2 : Nat) : Int) = 2 from rfl, l_br] at T2
 exact T2 (by decide) (hide (by decide)) (hide (by decide))
theorem lives_any (w : World) : Calls Tryz.prog 7 #[] w fun e w' => e = .returned (.bool true) ∧ Below w.heap.size w w' := by
 obtain ⟨A, hA⟩ : ∃ A, w.alloc (.cells #[.int .i64 0] 3) = A := ⟨_, rfl⟩
 have HA : Hid (A.heap[w.heap.size]? = some (.cells #[.int .i64 0] 3 (0, 0)) ∧ Below w.heap.size w A) := hide (by rw [← hA]; exact ⟨World.alloc_heap_new _ _, (Below.refl _ _).alloc (Nat.le_refl _) _⟩)
 have TA := one_sym A w.heap.size 0 (by omega) HA.out.1
 go_enter Tryz.func7, Tryz.ntmps7
 go_upto_region 2 with (go_at_call 20; refine TA.mono ?_; rintro e w1 ⟨x1, k1, x2, k2, x3, k3, rfl, H1⟩)
 clear TA
 obtain ⟨B, hB⟩ : ∃ B, (w1.alloc (.cells #[.int .i64 2, .int .i64 2, .slice x1 1 k1, .slice x2 1 k2, .slice x3 1 k3] 25)).alloc (.cells #[.int .i64 1] 3) = B := ⟨_, rfl⟩
 have HB : Hid (B.heap[w1.heap.size]? = some (.cells #[.int .i64 2, .int .i64 2, .slice x1 1 k1, .slice x2 1 k2, .slice x3 1 k3] 25 (0, 0)) ∧ B.heap[w1.heap.size + 1]? = some (.cells #[.int .i64 1] 3 (0, 0)) ∧ Below w1.heap.size w1 B) := hide (by
  have hk1 := (Below.refl w1.heap.size w1).alloc (Nat.le_refl _) (.cells #[.int .i64 2, .int .i64 2, .slice x1 1 k1, .slice x2 1 k2, .slice x3 1 k3] 25)
  have z1 := World.alloc_heap_new w1 (.cells #[.int .i64 2, .int .i64 2, .slice x1 1 k1, .slice x2 1 k2, .slice x3 1 k3] 25)
  have s1 : (w1.alloc (.cells #[.int .i64 2, .int .i64 2, .slice x1 1 k1, .slice x2 1 k2, .slice x3 1 k3] 25)).heap.size = w1.heap.size + 1 := by simp
  generalize w1.alloc (.cells #[.int .i64 2, .int .i64 2, .slice x1 1 k1, .slice x2 1 k2, .slice x3 1 k3] 25) = Z at hk1 z1 s1 hB
  have hk2 := (Below.refl Z.heap.size Z).alloc (Nat.le_refl _) (.cells #[.int .i64 1] 3)
  have z2 := World.alloc_heap_new Z (.cells #[.int .i64 1] 3)
  rw [hB] at hk2 z2
  rw [s1] at z2
  exact ⟨blk_on z1 hk2, z2, hk1.trans (hk2.mono hk1.size)⟩)
 have TB := one_sym B (w1.heap.size + 1) 1 (by omega) HB.out.2.1
 go_upto_region 3 with (go_at_call 20; refine TB.mono ?_; rintro e w2 ⟨y1, j1, y2, j2, y3, j3, rfl, H2⟩)
 clear TB hB hA
 obtain ⟨Cw, hC⟩ : ∃ C, w2.alloc (.cells #[.int .i64 2, .int .i64 2, .slice y1 1 j1, .slice y2 1 j2, .slice y3 1 j3] 25) = C := ⟨_, rfl⟩
 have HC : Hid (Cw.heap[w2.heap.size]? = some (.cells #[.int .i64 2, .int .i64 2, .slice y1 1 j1, .slice y2 1 j2, .slice y3 1 j3] 25 (0, 0)) ∧ Below w2.heap.size w2 Cw) := hide (by rw [← hC]; exact ⟨World.alloc_heap_new _ _, (Below.refl _ _).alloc (Nat.le_refl _) _⟩)
 rw [hC]
 clear hC
 have HX : Hid (Cw.heap[w1.heap.size]? = some (.cells #[.int .i64 2, .int .i64 2, .slice x1 1 k1, .slice x2 1 k2, .slice x3 1 k3] 25 (0, 0)) ∧ RdA Cw x1 x2 x3 [0] [1] [(0, 0, 1)] ∧ RdA Cw y1 y2 y3 [0] [1] [(0, 1, 1)] ∧ Below w.heap.size w Cw) := hide (by
  have dA := HA.out.2.trans (H1.out.2.mono HA.out.2.size)
  have dB := HB.out.2.2.trans (H2.out.2.mono HB.out.2.2.size)
  have dC := dB.trans (HC.out.2.mono dB.size)
  refine ⟨blk_on (blk_on HB.out.1 H2.out.2) HC.out.2, ?_, ?_, dA.trans (dC.mono dA.size)⟩
  · exact (OwnO.rd H1.out.1).on dC
  · exact (OwnO.rd H2.out.1).on HC.out.2)
 have TC := concat_two Cw x1 x2 x3 y1 y2 y3 k1 k2 k3 j1 j2 j3 (hide HX.out.2.1) (hide HX.out.2.2.1)
 obtain ⟨p0, p1, p2, p3, p4⟩ := zd5 HX.out.1 rfl rfl rfl rfl rfl
 obtain ⟨q0, q1, q2, q3, q4⟩ := zd5 HC.out.1 rfl rfl rfl rfl rfl
 go_upto_region 4 with (go_at_call 21; refine TC.mono ?_; rintro e w3 ⟨g1, e1, t2, u2, z5, d5, rfl, H3⟩)
 clear TC p0 q0 p1 q1 p2 q2 p3 q3 p4 q4
 have HD3 : Hid (Below w.heap.size w w3) := hide (HX.out.2.2.2.trans (H3.out.2.mono HX.out.2.2.2.size))
 clear HX HC HB HA H1 H2
 go_upto_region 5 with fail
 obtain ⟨W5, hW5⟩ : ∃ W, ((((w3.alloc (.cells #[.int .i64 4, .int .i64 2, .slice (some ⟨g1, 0, none⟩) 1 e1, .slice t2 1 u2, .slice z5 3 d5] 25)).alloc (.cells #[.int .i64 0] 3)).alloc (.cells #[.int .i64 3] 3)).alloc (.cells #[.int .i64 0, .int .i64 0, .int .i64 1, .int .i64 0, .int .i64 0, .int .i64 2, .int .i64 2, .int .i64 1, .int .i64 3] 61)).alloc (.cells #[.int .i64 4, .int .i64 2, .slice (some ⟨w3.heap.size + 1, 0, none⟩) 1 1, .slice (some ⟨w3.heap.size + 1 + 1, 0, none⟩) 1 1, .slice (some ⟨w3.heap.size + 1 + 1 + 1, 0, none⟩) 3 3] 25) = W := ⟨_, rfl⟩
 rw [hW5]
 have HW : Hid (W5.heap[w3.heap.size]? = some (.cells #[.int .i64 4, .int .i64 2, .slice (some ⟨g1, 0, none⟩) 1 e1, .slice t2 1 u2, .slice z5 3 d5] 25 (0, 0)) ∧ W5.heap[w3.heap.size + 1 + 1 + 1 + 1]? = some (.cells #[.int .i64 4, .int .i64 2, .slice (some ⟨w3.heap.size + 1, 0, none⟩) 1 1, .slice (some ⟨w3.heap.size + 1 + 1, 0, none⟩) 1 1, .slice (some ⟨w3.heap.size + 1 + 1 + 1, 0, none⟩) 3 3] 25 (0, 0)) ∧ RdA W5 (some ⟨w3.heap.size + 1, 0, none⟩) (some ⟨w3.heap.size + 1 + 1, 0, none⟩) (some ⟨w3.heap.size + 1 + 1 + 1, 0, none⟩) [0] [3] [(0, 0, 1), (0, 0, 2), (2, 1, 3)] ∧ Below w3.heap.size w3 W5) := hide (by
  have h1 := (Below.refl w3.heap.size w3).alloc (Nat.le_refl _) (.cells #[.int .i64 4, .int .i64 2, .slice (some ⟨g1, 0, none⟩) 1 e1, .slice t2 1 u2, .slice z5 3 d5] 25)
  have z1 := World.alloc_heap_new w3 (.cells #[.int .i64 4, .int .i64 2, .slice (some ⟨g1, 0, none⟩) 1 e1, .slice t2 1 u2, .slice z5 3 d5] 25)
  have s1 : (w3.alloc (.cells #[.int .i64 4, .int .i64 2, .slice (some ⟨g1, 0, none⟩) 1 e1, .slice t2 1 u2, .slice z5 3 d5] 25)).heap.size = w3.heap.size + 1 := by simp
  generalize w3.alloc (.cells #[.int .i64 4, .int .i64 2, .slice (some ⟨g1, 0, none⟩) 1 e1, .slice t2 1 u2, .slice z5 3 d5] 25) = Z at h1 z1 s1 hW5
  have hb := box33 Z #[.int .i64 0] #[.int .i64 3] #[.int .i64 0, .int .i64 0, .int .i64 1, .int .i64 0, .int .i64 0, .int .i64 2, .int .i64 2, .int .i64 1, .int .i64 3] 3 3 61
  generalize ((Z.alloc (.cells #[.int .i64 0] 3)).alloc (.cells #[.int .i64 3] 3)).alloc (.cells #[.int .i64 0, .int .i64 0, .int .i64 1, .int .i64 0, .int .i64 0, .int .i64 2, .int .i64 2, .int .i64 1, .int .i64 3] 61) = V at hb hW5
  have h2 := (Below.refl V.heap.size V).alloc (Nat.le_refl _) (.cells #[.int .i64 4, .int .i64 2, .slice (some ⟨w3.heap.size + 1, 0, none⟩) 1 1, .slice (some ⟨w3.heap.size + 1 + 1, 0, none⟩) 1 1, .slice (some ⟨w3.heap.size + 1 + 1 + 1, 0, none⟩) 3 3] 25)
  have z2 := World.alloc_heap_new V (.cells #[.int .i64 4, .int .i64 2, .slice (some ⟨w3.heap.size + 1, 0, none⟩) 1 1, .slice (some ⟨w3.heap.size + 1 + 1, 0, none⟩) 1 1, .slice (some ⟨w3.heap.size + 1 + 1 + 1, 0, none⟩) 3 3] 25)
  rw [hW5] at h2 z2
  rw [hb.2.2.2.2, s1] at z2
  rw [s1] at hb
  have dZ : Below Z.heap.size Z W5 := by
   have q := hb.1
   rw [← s1] at q
   exact q.trans (h2.mono q.size)
  exact ⟨blk_on z1 dZ, z2, ⟨rd_one (blk_on hb.2.1 h2), rd_one (blk_on hb.2.2.1 h2), rdE_want (blk_on hb.2.2.2.1 h2)⟩, h1.trans (dZ.mono h1.size)⟩)
 clear hW5
 have TE := requal_any W5 4 2 4 2 (some ⟨g1, 0, none⟩) t2 z5 (some ⟨w3.heap.size + 1, 0, none⟩) (some ⟨w3.heap.size + 1 + 1, 0, none⟩) (some ⟨w3.heap.size + 1 + 1 + 1, 0, none⟩) e1 u2 d5 1 1 3 [0] [3] [(0, 0, 1), (0, 0, 2), (2, 1, 3)] [0] [3] [(0, 0, 1), (0, 0, 2), (2, 1, 3)] (hide (H3.out.1.on HW.out.2.2.2)) (hide HW.out.2.2.1) (by decide) (by decide) (by decide) (by decide) (by decide) (by decide)
 rw [show eqB 4 2 4 2 [0] [3] [(0, 0, 1), (0, 0, 2), (2, 1, 3)] [0] [3] [(0, 0, 1), (0, 0, 2), (2, 1, 3)] = true by decide] at TE
 obtain ⟨p0, p1, p2, p3, p4⟩ := zd5 HW.out.1 rfl rfl rfl rfl rfl
 obtain ⟨q0, q1, q2, q3, q4⟩ := zd5 HW.out.2.1 rfl rfl rfl rfl rfl
 go_wp2_with (go_at_call 19; refine TE.mono ?_; rintro e w6 ⟨rfl, D6⟩; have H6 := hide D6; clear D6)
 go_ret
 have d5 := HD3.out.trans (HW.out.2.2.2.mono HD3.out.size)
 exact ⟨rfl, d5.trans (H6.out.mono d5.size)⟩
theorem ending_bad (w : World) (n m : Int) (a1 a2 a3 : Option Addr) (c1 c2 c3 : Nat) (St Fi : List Int) (Ed : List EdT) (_hA : Hid (RdA w a1 a2 a3 St Fi Ed)) (_h1 : St.length ≤ 4194304) (_h2 : Fi.length ≤ 4194304) (_h3 : Ed.length ≤ 4194304) (v : Value) (x : Int) (hx : x ≠ 0) :
 Calls Tryz.prog 38 #[.agg #[.int .i64 n, .int .i64 m, .slice a1 St.length c1, .slice a2 Fi.length c2, .slice a3 Ed.length c3], v, .int .i64 x] w fun e w' => e = .returned (.tuple #[.agg #[.int .i64 0, .int .i64 0, .slice none 0 0, .slice none 0 0, .slice none 0 0], .int .i64 x]) ∧ Below w.heap.size w w' := by
 obtain ⟨W0, hW0⟩ : ∃ W0, (w.alloc (.cells #[.int .i64 n, .int .i64 m, .slice a1 St.length c1, .slice a2 Fi.length c2, .slice a3 Ed.length c3] 25)).alloc (.cells #[.int .i64 0, .int .i64 0, .slice none 0 0, .slice none 0 0, .slice none 0 0] 25) = W0 := ⟨_, rfl⟩
 have HD := hide (box2 w #[.int .i64 n, .int .i64 m, .slice a1 St.length c1, .slice a2 Fi.length c2, .slice a3 Ed.length c3] #[.int .i64 0, .int .i64 0, .slice none 0 0, .slice none 0 0, .slice none 0 0] 25)
 rw [hW0] at HD
 have hx2 : (x == 0) = false := by simpa using hx
 have F4 := HD.out.2.2.1
 obtain ⟨o0, o1, o2, o3, o4⟩ := zd5 F4 rfl rfl rfl rfl rfl
 have fz0 : W0.frozen? ⟨w.heap.size + 1, 0, none⟩ = false := fz_of F4
 have fz1 : W0.frozen? ⟨w.heap.size + 1, 1, none⟩ = false := fz_of F4
 have fz2 : W0.frozen? ⟨w.heap.size + 1, 2, none⟩ = false := fz_of F4
 have fz3 : W0.frozen? ⟨w.heap.size + 1, 3, none⟩ = false := fz_of F4
 have fz4 : W0.frozen? ⟨w.heap.size + 1, 4, none⟩ = false := fz_of F4
 have O6 := hide (And.intro (set5 W0 (w.heap.size + 1) _ _ _ _ _ (.int .i64 0) (.int .i64 0) (.slice none 0 0) (.slice none 0 0) (.slice none 0 0) 25 F4) (only5 W0 (w.heap.size + 1) (.int .i64 0) (.int .i64 0) (.slice none 0 0) (.slice none 0 0) (.slice none 0 0)))
 clear F4
 go_enter Tryz.func38, Tryz.ntmps38
 go_wp2_with fail
 refine bodyPost_ret (results_c1 (p := 6) (q := 7) (ty := 25) rfl _ _ (w.heap.size + 1) 25 _ (0, 0) _ _ rfl rfl O6.out.1 Tryz.underlying25 rfl (by kernel_rfl)) rfl ?_
 have s1 := HD.out.2.2.2
 exact ⟨rfl, HD.out.1.trans (O6.out.2.toBelow (by omega) (fun k hk => by omega))⟩
theorem ending_ok (w : World) (n m : Int) (a1 a2 a3 : Option Addr) (c1 c2 c3 : Nat) (St Fi : List Int) (Ed : List EdT) (hA : Hid (RdA w a1 a2 a3 St Fi Ed)) (h1 : St.length ≤ 4194304) (h2 : Fi.length ≤ 4194304) (h3 : Ed.length ≤ 4194304) (em : mayA n m St Fi Ed = true) (av : Option Addr) (L : List Int) (cv B : Nat) (hL : Hid (w.ownsRow B 3 1 (.slice av L.length cv) L.length (L.map (Value.int .i64)))) :
 Calls Tryz.prog 38 #[.agg #[.int .i64 n, .int .i64 m, .slice a1 St.length c1, .slice a2 Fi.length c2, .slice a3 Ed.length c3], .slice av L.length cv, .int .i64 0] w fun e w' => ∃ g1 k1 g3 k3, e = .returned (.tuple #[.agg #[.int .i64 n, .int .i64 m, .slice (some ⟨g1, 0, none⟩) (riseL St).length k1, .slice av L.length cv, .slice (some ⟨g3, 0, none⟩) (riseE Ed).length k3], .int .i64 0]) ∧ Hid (w'.ownsRow w.heap.size 3 1 (.slice (some ⟨g1, 0, none⟩) (riseL St).length k1) (riseL St).length ((riseL St).map (Value.int .i64)) ∧ w'.ownsRow w.heap.size 61 3 (.slice (some ⟨g3, 0, none⟩) (riseE Ed).length k3) (riseE Ed).length ((riseE Ed).flatMap encE) ∧ w'.ownsRow B 3 1 (.slice av L.length cv) L.length (L.map (Value.int .i64)) ∧ Below w.heap.size w w') := by
 obtain ⟨W0, hW0⟩ : ∃ W0, (w.alloc (.cells #[.int .i64 n, .int .i64 m, .slice a1 St.length c1, .slice a2 Fi.length c2, .slice a3 Ed.length c3] 25)).alloc (.cells #[.int .i64 0, .int .i64 0, .slice none 0 0, .slice none 0 0, .slice none 0 0] 25) = W0 := ⟨_, rfl⟩
 have HD := hide (box2 w #[.int .i64 n, .int .i64 m, .slice a1 St.length c1, .slice a2 Fi.length c2, .slice a3 Ed.length c3] #[.int .i64 0, .int .i64 0, .slice none 0 0, .slice none 0 0, .slice none 0 0] 25)
 rw [hW0] at HD
 have TN := normal_ok W0 n m a1 a2 a3 c1 c2 c3 St Fi Ed (hide (hA.out.on HD.out.1)) h1 h2 h3 em
 clear em
 generalize riseL St = S1 at *
 generalize riseL Fi = F1 at *
 generalize riseE Ed = E1 at *
 obtain ⟨y0, y1, y2, y3, y4⟩ := zd5 HD.out.2.1 rfl rfl rfl rfl rfl
 go_enter Tryz.func38, Tryz.ntmps38
 go_upto_region 4 with (go_at_call 48; refine TN.mono ?_; rintro e w1 ⟨g1, k1, g2, k2, g3, k3, rfl, O1, D1⟩; have H1 := hide (And.intro O1 D1); clear O1 D1)
 clear TN y0 y1 y2 y3 y4
 obtain ⟨W1, hW1⟩ : ∃ W, w1.alloc (.cells #[.int .i64 n, .int .i64 m, .slice (some ⟨g1, 0, none⟩) S1.length k1, .slice (some ⟨g2, 0, none⟩) F1.length k2, .slice (some ⟨g3, 0, none⟩) E1.length k3] 25) = W := ⟨_, rfl⟩
 have HW : Hid (W1.heap[w1.heap.size]? = some (.cells #[.int .i64 n, .int .i64 m, .slice (some ⟨g1, 0, none⟩) S1.length k1, .slice (some ⟨g2, 0, none⟩) F1.length k2, .slice (some ⟨g3, 0, none⟩) E1.length k3] 25 (0, 0)) ∧ Below w1.heap.size w1 W1) := hide (by rw [← hW1]; exact ⟨World.alloc_heap_new _ _, (Below.refl _ _).alloc (Nat.le_refl _) _⟩)
 rw [hW1]
 clear hW1
 have z0 : W1.cell? ⟨w1.heap.size, 3, none⟩ = some (.slice (some ⟨g2, 0, none⟩) F1.length k2) := cell_of HW.out.1 rfl
 have z1 : W1.frozen? ⟨w1.heap.size, 3, none⟩ = false := fz_of HW.out.1
 go_upto_region 5 with fail
 clear z0 z1
 obtain ⟨W2, hW2⟩ : ∃ W, W1.setCell ⟨w1.heap.size, 3, none⟩ (.slice av L.length cv) = W := ⟨_, rfl⟩
 have HW2 : Hid (W2.heap[w1.heap.size]? = some (.cells #[.int .i64 n, .int .i64 m, .slice (some ⟨g1, 0, none⟩) S1.length k1, .slice av L.length cv, .slice (some ⟨g3, 0, none⟩) E1.length k3] 25 (0, 0)) ∧ W2.heap[w.heap.size + 1]? = some (.cells #[.int .i64 0, .int .i64 0, .slice none 0 0, .slice none 0 0, .slice none 0 0] 25 (0, 0)) ∧ OwnO w.heap.size W2 (.slice (some ⟨g1, 0, none⟩) S1.length k1) (.slice (some ⟨g2, 0, none⟩) F1.length k2) (.slice (some ⟨g3, 0, none⟩) E1.length k3) S1 F1 E1 ∧ Below w.heap.size w W2 ∧ w.heap.size + 2 ≤ W2.heap.size) := hide (by
  have o := only_set W1 w1.heap.size 3 (.slice av L.length cv)
  rw [hW2] at o
  have q : W2.heap[w1.heap.size]? = some (.cells #[.int .i64 n, .int .i64 m, .slice (some ⟨g1, 0, none⟩) S1.length k1, .slice av L.length cv, .slice (some ⟨g3, 0, none⟩) E1.length k3] 25 (0, 0)) := by
   rw [← hW2]
   exact heap_setCell_same _ _ 3 _ 25 _ HW.out.1
  have s0 := HD.out.2.2.2
  have s1 := H1.out.2.size
  have s2 := HW.out.2.size
  have s3 := o.size
  have dd := (HD.out.1.trans (H1.out.2.mono HD.out.1.size))
  have d3 := dd.trans (HW.out.2.mono dd.size)
  exact ⟨q, (o.block _ (by omega) (by omega)).trans (blk_on (blk_on HD.out.2.2.1 H1.out.2) HW.out.2), (((ownO_own H1.out.1).on HW.out.2).keep HW.out.1 o).down (by omega), d3.trans (o.toBelow d3.size (fun k hk => by omega)), by omega⟩)
 rw [hW2]
 clear hW2 HW H1
 have F3 := HW2.out.1
 have F4 := HW2.out.2.1
 obtain ⟨p0, p1, p2, p3, p4⟩ := zd5 F3 rfl rfl rfl rfl rfl
 obtain ⟨o0, o1, o2, o3, o4⟩ := zd5 F4 rfl rfl rfl rfl rfl
 have fz0 : W2.frozen? ⟨w.heap.size + 1, 0, none⟩ = false := fz_of F4
 have fz1 : W2.frozen? ⟨w.heap.size + 1, 1, none⟩ = false := fz_of F4
 have fz2 : W2.frozen? ⟨w.heap.size + 1, 2, none⟩ = false := fz_of F4
 have fz3 : W2.frozen? ⟨w.heap.size + 1, 3, none⟩ = false := fz_of F4
 have fz4 : W2.frozen? ⟨w.heap.size + 1, 4, none⟩ = false := fz_of F4
 have O6 := hide (And.intro (set5 W2 (w.heap.size + 1) _ _ _ _ _ (.int .i64 n) (.int .i64 m) (.slice (some ⟨g1, 0, none⟩) S1.length k1) (.slice av L.length cv) (.slice (some ⟨g3, 0, none⟩) E1.length k3) 25 F4) (only5 W2 (w.heap.size + 1) (.int .i64 n) (.int .i64 m) (.slice (some ⟨g1, 0, none⟩) S1.length k1) (.slice av L.length cv) (.slice (some ⟨g3, 0, none⟩) E1.length k3)))
 have HO := hide (HW2.out.2.2.1.keep F4 O6.out.2)
 clear F3 F4
 go_wp2_with fail
 refine bodyPost_ret (results_c1 (p := 6) (q := 7) (ty := 25) rfl _ _ (w.heap.size + 1) 25 _ (0, 0) _ _ rfl rfl O6.out.1 Tryz.underlying25 rfl (by kernel_rfl)) rfl ?_
 have dw := HW2.out.2.2.2.1
 have sz := HW2.out.2.2.2.2
 have dq : Below w.heap.size W2 _ := O6.out.2.toBelow (B := w.heap.size) (by omega) (fun k hk => by omega)
 have F4 := HW2.out.2.1
 exact ⟨g1, k1, g3, k3, rfl, hide ⟨HO.out.s, HO.out.e, own_keep (own_below hL.out dw) F4 (by decide) O6.out.2, dw.trans dq⟩⟩
theorem starting_bad (w : World) (n m : Int) (a1 a2 a3 : Option Addr) (c1 c2 c3 : Nat) (St Fi : List Int) (Ed : List EdT) (_hA : Hid (RdA w a1 a2 a3 St Fi Ed)) (_h1 : St.length ≤ 4194304) (_h2 : Fi.length ≤ 4194304) (_h3 : Ed.length ≤ 4194304) (v : Value) (x : Int) (hx : x ≠ 0) :
 Calls Tryz.prog 40 #[.agg #[.int .i64 n, .int .i64 m, .slice a1 St.length c1, .slice a2 Fi.length c2, .slice a3 Ed.length c3], v, .int .i64 x] w fun e w' => e = .returned (.tuple #[.agg #[.int .i64 0, .int .i64 0, .slice none 0 0, .slice none 0 0, .slice none 0 0], .int .i64 x]) ∧ Below w.heap.size w w' := by
 obtain ⟨W0, hW0⟩ : ∃ W0, (w.alloc (.cells #[.int .i64 n, .int .i64 m, .slice a1 St.length c1, .slice a2 Fi.length c2, .slice a3 Ed.length c3] 25)).alloc (.cells #[.int .i64 0, .int .i64 0, .slice none 0 0, .slice none 0 0, .slice none 0 0] 25) = W0 := ⟨_, rfl⟩
 have HD := hide (box2 w #[.int .i64 n, .int .i64 m, .slice a1 St.length c1, .slice a2 Fi.length c2, .slice a3 Ed.length c3] #[.int .i64 0, .int .i64 0, .slice none 0 0, .slice none 0 0, .slice none 0 0] 25)
 rw [hW0] at HD
 have hx2 : (x == 0) = false := by simpa using hx
 have F4 := HD.out.2.2.1
 obtain ⟨o0, o1, o2, o3, o4⟩ := zd5 F4 rfl rfl rfl rfl rfl
 have fz0 : W0.frozen? ⟨w.heap.size + 1, 0, none⟩ = false := fz_of F4
 have fz1 : W0.frozen? ⟨w.heap.size + 1, 1, none⟩ = false := fz_of F4
 have fz2 : W0.frozen? ⟨w.heap.size + 1, 2, none⟩ = false := fz_of F4
 have fz3 : W0.frozen? ⟨w.heap.size + 1, 3, none⟩ = false := fz_of F4
 have fz4 : W0.frozen? ⟨w.heap.size + 1, 4, none⟩ = false := fz_of F4
 have O6 := hide (And.intro (set5 W0 (w.heap.size + 1) _ _ _ _ _ (.int .i64 0) (.int .i64 0) (.slice none 0 0) (.slice none 0 0) (.slice none 0 0) 25 F4) (only5 W0 (w.heap.size + 1) (.int .i64 0) (.int .i64 0) (.slice none 0 0) (.slice none 0 0) (.slice none 0 0)))
 clear F4
 go_enter Tryz.func40, Tryz.ntmps40
 go_wp2_with fail
 refine bodyPost_ret (results_c1 (p := 6) (q := 7) (ty := 25) rfl _ _ (w.heap.size + 1) 25 _ (0, 0) _ _ rfl rfl O6.out.1 Tryz.underlying25 rfl (by kernel_rfl)) rfl ?_
 have s1 := HD.out.2.2.2
 exact ⟨rfl, HD.out.1.trans (O6.out.2.toBelow (by omega) (fun k hk => by omega))⟩
theorem starting_ok (w : World) (n m : Int) (a1 a2 a3 : Option Addr) (c1 c2 c3 : Nat) (St Fi : List Int) (Ed : List EdT) (hA : Hid (RdA w a1 a2 a3 St Fi Ed)) (h1 : St.length ≤ 4194304) (h2 : Fi.length ≤ 4194304) (h3 : Ed.length ≤ 4194304) (em : mayA n m St Fi Ed = true) (av : Option Addr) (L : List Int) (cv B : Nat) (hL : Hid (w.ownsRow B 3 1 (.slice av L.length cv) L.length (L.map (Value.int .i64)))) :
 Calls Tryz.prog 40 #[.agg #[.int .i64 n, .int .i64 m, .slice a1 St.length c1, .slice a2 Fi.length c2, .slice a3 Ed.length c3], .slice av L.length cv, .int .i64 0] w fun e w' => ∃ g2 k2 g3 k3, e = .returned (.tuple #[.agg #[.int .i64 n, .int .i64 m, .slice av L.length cv, .slice (some ⟨g2, 0, none⟩) (riseL Fi).length k2, .slice (some ⟨g3, 0, none⟩) (riseE Ed).length k3], .int .i64 0]) ∧ Hid (w'.ownsRow w.heap.size 3 1 (.slice (some ⟨g2, 0, none⟩) (riseL Fi).length k2) (riseL Fi).length ((riseL Fi).map (Value.int .i64)) ∧ w'.ownsRow w.heap.size 61 3 (.slice (some ⟨g3, 0, none⟩) (riseE Ed).length k3) (riseE Ed).length ((riseE Ed).flatMap encE) ∧ w'.ownsRow B 3 1 (.slice av L.length cv) L.length (L.map (Value.int .i64)) ∧ Below w.heap.size w w') := by
 obtain ⟨W0, hW0⟩ : ∃ W0, (w.alloc (.cells #[.int .i64 n, .int .i64 m, .slice a1 St.length c1, .slice a2 Fi.length c2, .slice a3 Ed.length c3] 25)).alloc (.cells #[.int .i64 0, .int .i64 0, .slice none 0 0, .slice none 0 0, .slice none 0 0] 25) = W0 := ⟨_, rfl⟩
 have HD := hide (box2 w #[.int .i64 n, .int .i64 m, .slice a1 St.length c1, .slice a2 Fi.length c2, .slice a3 Ed.length c3] #[.int .i64 0, .int .i64 0, .slice none 0 0, .slice none 0 0, .slice none 0 0] 25)
 rw [hW0] at HD
 have TN := normal_ok W0 n m a1 a2 a3 c1 c2 c3 St Fi Ed (hide (hA.out.on HD.out.1)) h1 h2 h3 em
 clear em
 generalize riseL St = S1 at *
 generalize riseL Fi = F1 at *
 generalize riseE Ed = E1 at *
 obtain ⟨y0, y1, y2, y3, y4⟩ := zd5 HD.out.2.1 rfl rfl rfl rfl rfl
 go_enter Tryz.func40, Tryz.ntmps40
 go_upto_region 4 with (go_at_call 48; refine TN.mono ?_; rintro e w1 ⟨g1, k1, g2, k2, g3, k3, rfl, O1, D1⟩; have H1 := hide (And.intro O1 D1); clear O1 D1)
 clear TN y0 y1 y2 y3 y4
 obtain ⟨W1, hW1⟩ : ∃ W, w1.alloc (.cells #[.int .i64 n, .int .i64 m, .slice (some ⟨g1, 0, none⟩) S1.length k1, .slice (some ⟨g2, 0, none⟩) F1.length k2, .slice (some ⟨g3, 0, none⟩) E1.length k3] 25) = W := ⟨_, rfl⟩
 have HW : Hid (W1.heap[w1.heap.size]? = some (.cells #[.int .i64 n, .int .i64 m, .slice (some ⟨g1, 0, none⟩) S1.length k1, .slice (some ⟨g2, 0, none⟩) F1.length k2, .slice (some ⟨g3, 0, none⟩) E1.length k3] 25 (0, 0)) ∧ Below w1.heap.size w1 W1) := hide (by rw [← hW1]; exact ⟨World.alloc_heap_new _ _, (Below.refl _ _).alloc (Nat.le_refl _) _⟩)
 rw [hW1]
 clear hW1
 have z0 : W1.cell? ⟨w1.heap.size, 2, none⟩ = some (.slice (some ⟨g1, 0, none⟩) S1.length k1) := cell_of HW.out.1 rfl
 have z1 : W1.frozen? ⟨w1.heap.size, 2, none⟩ = false := fz_of HW.out.1
 go_upto_region 5 with fail
 clear z0 z1
 obtain ⟨W2, hW2⟩ : ∃ W, W1.setCell ⟨w1.heap.size, 2, none⟩ (.slice av L.length cv) = W := ⟨_, rfl⟩
 have HW2 : Hid (W2.heap[w1.heap.size]? = some (.cells #[.int .i64 n, .int .i64 m, .slice av L.length cv, .slice (some ⟨g2, 0, none⟩) F1.length k2, .slice (some ⟨g3, 0, none⟩) E1.length k3] 25 (0, 0)) ∧ W2.heap[w.heap.size + 1]? = some (.cells #[.int .i64 0, .int .i64 0, .slice none 0 0, .slice none 0 0, .slice none 0 0] 25 (0, 0)) ∧ OwnO w.heap.size W2 (.slice (some ⟨g1, 0, none⟩) S1.length k1) (.slice (some ⟨g2, 0, none⟩) F1.length k2) (.slice (some ⟨g3, 0, none⟩) E1.length k3) S1 F1 E1 ∧ Below w.heap.size w W2 ∧ w.heap.size + 2 ≤ W2.heap.size) := hide (by
  have o := only_set W1 w1.heap.size 2 (.slice av L.length cv)
  rw [hW2] at o
  have q : W2.heap[w1.heap.size]? = some (.cells #[.int .i64 n, .int .i64 m, .slice av L.length cv, .slice (some ⟨g2, 0, none⟩) F1.length k2, .slice (some ⟨g3, 0, none⟩) E1.length k3] 25 (0, 0)) := by
   rw [← hW2]
   exact heap_setCell_same _ _ 2 _ 25 _ HW.out.1
  have s0 := HD.out.2.2.2
  have s1 := H1.out.2.size
  have s2 := HW.out.2.size
  have s3 := o.size
  have dd := (HD.out.1.trans (H1.out.2.mono HD.out.1.size))
  have d3 := dd.trans (HW.out.2.mono dd.size)
  exact ⟨q, (o.block _ (by omega) (by omega)).trans (blk_on (blk_on HD.out.2.2.1 H1.out.2) HW.out.2), (((ownO_own H1.out.1).on HW.out.2).keep HW.out.1 o).down (by omega), d3.trans (o.toBelow d3.size (fun k hk => by omega)), by omega⟩)
 rw [hW2]
 clear hW2 HW H1
 have F3 := HW2.out.1
 have F4 := HW2.out.2.1
 obtain ⟨p0, p1, p2, p3, p4⟩ := zd5 F3 rfl rfl rfl rfl rfl
 obtain ⟨o0, o1, o2, o3, o4⟩ := zd5 F4 rfl rfl rfl rfl rfl
 have fz0 : W2.frozen? ⟨w.heap.size + 1, 0, none⟩ = false := fz_of F4
 have fz1 : W2.frozen? ⟨w.heap.size + 1, 1, none⟩ = false := fz_of F4
 have fz2 : W2.frozen? ⟨w.heap.size + 1, 2, none⟩ = false := fz_of F4
 have fz3 : W2.frozen? ⟨w.heap.size + 1, 3, none⟩ = false := fz_of F4
 have fz4 : W2.frozen? ⟨w.heap.size + 1, 4, none⟩ = false := fz_of F4
 have O6 := hide (And.intro (set5 W2 (w.heap.size + 1) _ _ _ _ _ (.int .i64 n) (.int .i64 m) (.slice av L.length cv) (.slice (some ⟨g2, 0, none⟩) F1.length k2) (.slice (some ⟨g3, 0, none⟩) E1.length k3) 25 F4) (only5 W2 (w.heap.size + 1) (.int .i64 n) (.int .i64 m) (.slice av L.length cv) (.slice (some ⟨g2, 0, none⟩) F1.length k2) (.slice (some ⟨g3, 0, none⟩) E1.length k3)))
 have HO := hide (HW2.out.2.2.1.keep F4 O6.out.2)
 clear F3 F4
 go_wp2_with fail
 refine bodyPost_ret (results_c1 (p := 6) (q := 7) (ty := 25) rfl _ _ (w.heap.size + 1) 25 _ (0, 0) _ _ rfl rfl O6.out.1 Tryz.underlying25 rfl (by kernel_rfl)) rfl ?_
 have dw := HW2.out.2.2.2.1
 have sz := HW2.out.2.2.2.2
 have dq : Below w.heap.size W2 _ := O6.out.2.toBelow (B := w.heap.size) (by omega) (fun k hk => by omega)
 have F4 := HW2.out.2.1
 exact ⟨g2, k2, g3, k3, rfl, hide ⟨HO.out.f, HO.out.e, own_keep (own_below hL.out dw) F4 (by decide) O6.out.2, dw.trans dq⟩⟩
end Go.Proofs.YtchoopnjckcohaaGreatDoor
