import Derived.Test.YtchoopnjckcohaaGreatDoorQah
set_option maxRecDepth 100000
set_option maxHeartbeats 40000000
namespace Go.Proofs.YtchoopnjckcohaaGreatDoor
open Go.RowKit Go.Maps Go.Shelf
attribute [local go_sem] Oper.semAt_some
theorem nat_in {N : Nat} {L : List Int} (h : ∀ x ∈ L, 0 ≤ x ∧ x < (N : Int)) : ∀ x ∈ L, ∃ q : Nat, q < N ∧ x = (q : Int) := fun x hx => ⟨x.toNat, by have := h x hx; omega, by have := h x hx; omega⟩
theorem mov_in {N M : Nat} {L : List Int} (h : ∀ x ∈ L, ∃ q : Nat, q < M ∧ x = (q : Int)) : ∀ x ∈ movN L (N : Int), ∃ q : Nat, q < M + N ∧ x = (q : Int) := fun x hx => by
 unfold movN at hx
 rw [List.mem_map] at hx
 obtain ⟨y, hy, rfl⟩ := hx
 obtain ⟨q, hq, rfl⟩ := h y hy
 exact ⟨q + N, by omega, by omega⟩
theorem concat_big (w : World) (N M m : Nat) (a1 a2 a3 b1 b2 b3 : Option Addr) (c1 c2 c3 d1 d2 d3 : Nat) (Sa Fa Sb Fb : List Int) (Ea Eb : List EdT) (hA : Hid (RdA w a1 a2 a3 Sa Fa Ea)) (hB : Hid (RdA w b1 b2 b3 Sb Fb Eb)) (h1 : Sa.length ≤ 2000000) (h2 : Fa.length ≤ 2000000) (h3 : Ea.length ≤ 2000000) (h4 : Sb.length ≤ 2000000) (h5 : Fb.length ≤ 2000000) (h6 : Eb.length ≤ 2000000) (em : mayA (N : Int) (m : Int) Sa Fa Ea = true) (em' : mayA (M : Int) (m : Int) Sb Fb Eb = true) (hNM : 4096 < N + M) :
 Calls Tryz.prog 21 #[.agg #[.int .i64 (N : Int), .int .i64 (m : Int), .slice a1 Sa.length c1, .slice a2 Fa.length c2, .slice a3 Ea.length c3], .agg #[.int .i64 (M : Int), .int .i64 (m : Int), .slice b1 Sb.length d1, .slice b2 Fb.length d2, .slice b3 Eb.length d3]] w (AnsO w (badA 8)) := by
 obtain ⟨W0, hW0⟩ : ∃ W0, ((w.alloc (.cells #[.int .i64 (N : Int), .int .i64 (m : Int), .slice a1 Sa.length c1, .slice a2 Fa.length c2, .slice a3 Ea.length c3] 25)).alloc (.cells #[.int .i64 (M : Int), .int .i64 (m : Int), .slice b1 Sb.length d1, .slice b2 Fb.length d2, .slice b3 Eb.length d3] 25)).alloc (.cells #[.int .i64 0, .int .i64 0, .slice none 0 0, .slice none 0 0, .slice none 0 0] 25) = W0 := ⟨_, rfl⟩
 have HD := hide (box3b w #[.int .i64 (N : Int), .int .i64 (m : Int), .slice a1 Sa.length c1, .slice a2 Fa.length c2, .slice a3 Ea.length c3] #[.int .i64 (M : Int), .int .i64 (m : Int), .slice b1 Sb.length d1, .slice b2 Fb.length d2, .slice b3 Eb.length d3] #[.int .i64 0, .int .i64 0, .slice none 0 0, .slice none 0 0, .slice none 0 0] 25)
 rw [hW0] at HD
 have TB := both_ok W0 (N : Int) (m : Int) (M : Int) a1 a2 a3 b1 b2 b3 c1 c2 c3 d1 d2 d3 Sa Fa Sb Fb Ea Eb (hide (hA.out.on HD.out.1)) (hide (hB.out.on HD.out.1)) (by omega) (by omega) (by omega) (by omega) (by omega) (by omega) em em'
 have hNM2 : N ≤ 4096 ∧ M ≤ 4096 := by have := (may_parts em).1; have := (may_parts em').1; omega
 clear em em'
 generalize riseL Sa = S1 at *
 generalize riseL Fa = F1 at *
 generalize riseE Ea = E1 at *
 generalize riseL Sb = S2 at *
 generalize riseL Fb = F2 at *
 generalize riseE Eb = E2 at *
 have jn : (4096 : Int) < (N : Int) + (M : Int) := by omega
 have ew : IntKind.i64.wrap ((N : Int) + (M : Int)) = (N : Int) + (M : Int) := by rw [IntKind.wrap_i64]; omega
 obtain ⟨cy0, cy1, cy2, cy3, cy4⟩ := zd5 HD.out.2.1 rfl rfl rfl rfl rfl
 obtain ⟨cx0, cx1, cx2, cx3, cx4⟩ := zd5 HD.out.2.2.1 rfl rfl rfl rfl rfl
 go_enter Tryz.func21, Tryz.ntmps21
 go_upto_region 4 with (go_at_call 55; refine TB.mono ?_; rintro e w1 ⟨g1, k1, g2, k2, g3, k3, r1, q1, r2, q2, r3, q3, rfl, H1⟩)
 clear TB cy0 cx0 cy1 cx1 cy2 cx2 cy3 cx3 cy4 cx4
 obtain ⟨W1, hW1⟩ : ∃ W1, (w1.alloc (.cells #[.int .i64 (N : Int), .int .i64 (m : Int), .slice (some ⟨g1, 0, none⟩) S1.length k1, .slice (some ⟨g2, 0, none⟩) F1.length k2, .slice (some ⟨g3, 0, none⟩) E1.length k3] 25)).alloc (.cells #[.int .i64 (M : Int), .int .i64 (m : Int), .slice (some ⟨r1, 0, none⟩) S2.length q1, .slice (some ⟨r2, 0, none⟩) F2.length q2, .slice (some ⟨r3, 0, none⟩) E2.length q3] 25) = W1 := ⟨_, rfl⟩
 have HW : Hid (W1.heap[w1.heap.size]? = some (.cells #[.int .i64 (N : Int), .int .i64 (m : Int), .slice (some ⟨g1, 0, none⟩) S1.length k1, .slice (some ⟨g2, 0, none⟩) F1.length k2, .slice (some ⟨g3, 0, none⟩) E1.length k3] 25 (0, 0)) ∧ W1.heap[w1.heap.size + 1]? = some (.cells #[.int .i64 (M : Int), .int .i64 (m : Int), .slice (some ⟨r1, 0, none⟩) S2.length q1, .slice (some ⟨r2, 0, none⟩) F2.length q2, .slice (some ⟨r3, 0, none⟩) E2.length q3] 25 (0, 0)) ∧ W1.heap[w.heap.size + 1 + 1]? = some (.cells #[.int .i64 0, .int .i64 0, .slice none 0 0, .slice none 0 0, .slice none 0 0] 25 (0, 0)) ∧ w.heap.size + 3 ≤ W1.heap.size ∧ Below w.heap.size w W1) := hide (by
  have q := box2 w1 #[.int .i64 (N : Int), .int .i64 (m : Int), .slice (some ⟨g1, 0, none⟩) S1.length k1, .slice (some ⟨g2, 0, none⟩) F1.length k2, .slice (some ⟨g3, 0, none⟩) E1.length k3] #[.int .i64 (M : Int), .int .i64 (m : Int), .slice (some ⟨r1, 0, none⟩) S2.length q1, .slice (some ⟨r2, 0, none⟩) F2.length q2, .slice (some ⟨r3, 0, none⟩) E2.length q3] 25
  rw [hW1] at q
  have s := HD.out.2.2.2.2
  have d2 := H1.out.2.2.trans (q.1.mono H1.out.2.2.size)
  exact ⟨q.2.1, q.2.2.1, blk_on HD.out.2.2.2.1 d2, by have := d2.size; omega, HD.out.1.trans (d2.mono HD.out.1.size)⟩)
 have HX : Hid (OwnO w.heap.size W1 (.slice (some ⟨g1, 0, none⟩) S1.length k1) (.slice (some ⟨g2, 0, none⟩) F1.length k2) (.slice (some ⟨g3, 0, none⟩) E1.length k3) S1 F1 E1) := hide (by
  have q := box2 w1 #[.int .i64 (N : Int), .int .i64 (m : Int), .slice (some ⟨g1, 0, none⟩) S1.length k1, .slice (some ⟨g2, 0, none⟩) F1.length k2, .slice (some ⟨g3, 0, none⟩) E1.length k3] #[.int .i64 (M : Int), .int .i64 (m : Int), .slice (some ⟨r1, 0, none⟩) S2.length q1, .slice (some ⟨r2, 0, none⟩) F2.length q2, .slice (some ⟨r3, 0, none⟩) E2.length q3] 25
  rw [hW1] at q
  exact (H1.out.1.on q.1).down HD.out.1.size)
 have HY : Hid (OwnO w.heap.size W1 (.slice (some ⟨r1, 0, none⟩) S2.length q1) (.slice (some ⟨r2, 0, none⟩) F2.length q2) (.slice (some ⟨r3, 0, none⟩) E2.length q3) S2 F2 E2) := hide (by
  have q := box2 w1 #[.int .i64 (N : Int), .int .i64 (m : Int), .slice (some ⟨g1, 0, none⟩) S1.length k1, .slice (some ⟨g2, 0, none⟩) F1.length k2, .slice (some ⟨g3, 0, none⟩) E1.length k3] #[.int .i64 (M : Int), .int .i64 (m : Int), .slice (some ⟨r1, 0, none⟩) S2.length q1, .slice (some ⟨r2, 0, none⟩) F2.length q2, .slice (some ⟨r3, 0, none⟩) E2.length q3] 25
  rw [hW1] at q
  exact (H1.out.2.1.on q.1).down HD.out.1.size)
 rw [hW1]
 clear hW1 H1
 obtain ⟨cx0, cx1, cx2, cx3, cx4⟩ := zd5 HW.out.1 rfl rfl rfl rfl rfl
 obtain ⟨cy0, cy1, cy2, cy3, cy4⟩ := zd5 HW.out.2.1 rfl rfl rfl rfl rfl
 have F4 := HW.out.2.2.1
 obtain ⟨o0, o1, o2, o3, o4⟩ := zd5 F4 rfl rfl rfl rfl rfl
 have fz0 : W1.frozen? ⟨w.heap.size + 1 + 1, 0, none⟩ = false := fz_of F4
 have fz1 : W1.frozen? ⟨w.heap.size + 1 + 1, 1, none⟩ = false := fz_of F4
 have fz2 : W1.frozen? ⟨w.heap.size + 1 + 1, 2, none⟩ = false := fz_of F4
 have fz3 : W1.frozen? ⟨w.heap.size + 1 + 1, 3, none⟩ = false := fz_of F4
 have fz4 : W1.frozen? ⟨w.heap.size + 1 + 1, 4, none⟩ = false := fz_of F4
 have O6 := hide (And.intro (set5 W1 (w.heap.size + 1 + 1) _ _ _ _ _ (.int .i64 0) (.int .i64 0) (.slice none 0 0) (.slice none 0 0) (.slice none 0 0) 25 F4) (only5 W1 (w.heap.size + 1 + 1) (.int .i64 0) (.int .i64 0) (.slice none 0 0) (.slice none 0 0) (.slice none 0 0)))
 clear F4
 go_wp2_with fail
 refine bodyPost_ret (results_c1 (p := 4) (q := 5) (ty := 25) rfl _ _ (w.heap.size + 1 + 1) 25 _ (0, 0) _ _ rfl rfl O6.out.1 Tryz.underlying25 rfl (by kernel_rfl)) rfl ?_
 have s2 := HW.out.2.2.2.1
 exact ansO_bad rfl (HW.out.2.2.2.2.trans (O6.out.2.toBelow (by omega) (fun k hk => by omega)))
theorem concat_fit (w : World) (N M m : Nat) (a1 a2 a3 b1 b2 b3 : Option Addr) (c1 c2 c3 d1 d2 d3 : Nat) (Sa Fa Sb Fb : List Int) (Ea Eb : List EdT) (hA : Hid (RdA w a1 a2 a3 Sa Fa Ea)) (hB : Hid (RdA w b1 b2 b3 Sb Fb Eb)) (h1 : Sa.length ≤ 2000000) (h2 : Fa.length ≤ 2000000) (h3 : Ea.length ≤ 2000000) (h4 : Sb.length ≤ 2000000) (h5 : Fb.length ≤ 2000000) (h6 : Eb.length ≤ 2000000) (em : mayA (N : Int) (m : Int) Sa Fa Ea = true) (em' : mayA (M : Int) (m : Int) Sb Fb Eb = true) (hNM : N + M ≤ 4096) :
 Calls Tryz.prog 21 #[.agg #[.int .i64 (N : Int), .int .i64 (m : Int), .slice a1 Sa.length c1, .slice a2 Fa.length c2, .slice a3 Ea.length c3], .agg #[.int .i64 (M : Int), .int .i64 (m : Int), .slice b1 Sb.length d1, .slice b2 Fb.length d2, .slice b3 Eb.length d3]] w (AnsO w (behA ((M : Int) + (N : Int)) (m : Int) (if emptB (riseL Sa) (riseL Fa) then (riseL Sa) ++ movN (riseL Sb) N else (riseL Sa)) (if emptB (movN (riseL Sb) N) (movN (riseL Fb) N) then (riseL Fa) ++ movN (riseL Fb) N else movN (riseL Fb) N) (brL (riseE Ea) (riseL Fa) (movN (riseL Sb) N) m N) (movE (riseE Eb) N))) := by
 obtain ⟨W0, hW0⟩ : ∃ W0, ((w.alloc (.cells #[.int .i64 (N : Int), .int .i64 (m : Int), .slice a1 Sa.length c1, .slice a2 Fa.length c2, .slice a3 Ea.length c3] 25)).alloc (.cells #[.int .i64 (M : Int), .int .i64 (m : Int), .slice b1 Sb.length d1, .slice b2 Fb.length d2, .slice b3 Eb.length d3] 25)).alloc (.cells #[.int .i64 0, .int .i64 0, .slice none 0 0, .slice none 0 0, .slice none 0 0] 25) = W0 := ⟨_, rfl⟩
 have HD := hide (box3b w #[.int .i64 (N : Int), .int .i64 (m : Int), .slice a1 Sa.length c1, .slice a2 Fa.length c2, .slice a3 Ea.length c3] #[.int .i64 (M : Int), .int .i64 (m : Int), .slice b1 Sb.length d1, .slice b2 Fb.length d2, .slice b3 Eb.length d3] #[.int .i64 0, .int .i64 0, .slice none 0 0, .slice none 0 0, .slice none 0 0] 25)
 rw [hW0] at HD
 have TB := both_ok W0 (N : Int) (m : Int) (M : Int) a1 a2 a3 b1 b2 b3 c1 c2 c3 d1 d2 d3 Sa Fa Sb Fb Ea Eb (hide (hA.out.on HD.out.1)) (hide (hB.out.on HD.out.1)) (by omega) (by omega) (by omega) (by omega) (by omega) (by omega) em em'
 have Hin : Hid ((∀ x ∈ riseL Sa, ∃ q : Nat, q < N ∧ x = (q : Int)) ∧ (∀ x ∈ riseL Fa, ∃ q : Nat, q < N ∧ x = (q : Int)) ∧ (∀ x ∈ riseL Sb, ∃ q : Nat, q < M ∧ x = (q : Int)) ∧ (∀ x ∈ riseL Fb, ∃ q : Nat, q < M ∧ x = (q : Int))) := hide ⟨nat_in (may_st (may_rise em)).1, nat_in (may_st (may_rise em)).2, nat_in (may_st (may_rise em')).1, nat_in (may_st (may_rise em')).2⟩
 have HEa : Hid (SsE (riseE Ea) ∧ (∀ e ∈ riseE Ea, (0 ≤ e.1 ∧ e.1 < (N : Int)) ∧ (0 ≤ e.2.1 ∧ e.2.1 < (m : Int)) ∧ (0 ≤ e.2.2 ∧ e.2.2 < (N : Int))) ∧ (∀ e ∈ riseE Eb, (0 ≤ e.1 ∧ e.1 ≤ 4096) ∧ 0 ≤ e.2.2 ∧ e.2.2 ≤ 4096)) := hide ⟨riseE_ss Ea, (may_parts (may_rise em)).2.2.2.2.2, fun e he => by have q := (may_parts (may_rise em')).2.2.2.2.2 e he; have q2 := (may_parts em').1; omega⟩
 have hl : Hid ((riseL Sa).length ≤ 2000000 ∧ (riseL Fa).length ≤ 2000000 ∧ (riseE Ea).length ≤ 2000000 ∧ (riseL Sb).length ≤ 2000000 ∧ (riseL Fb).length ≤ 2000000 ∧ (riseE Eb).length ≤ 2000000) := hide ⟨Nat.le_trans (riseL_len Sa) h1, Nat.le_trans (riseL_len Fa) h2, Nat.le_trans (riseE_len Ea) h3, Nat.le_trans (riseL_len Sb) h4, Nat.le_trans (riseL_len Fb) h5, Nat.le_trans (riseE_len Eb) h6⟩
 have hm : m ≤ 128 := by have := (may_parts em).2.1; omega
 have hNM2 : N ≤ 4096 ∧ M ≤ 4096 := by have := (may_parts em).1; have := (may_parts em').1; omega
 clear em em'
 generalize riseL Sa = S1 at *
 generalize riseL Fa = F1 at *
 generalize riseE Ea = E1 at *
 generalize riseL Sb = S2 at *
 generalize riseL Fb = F2 at *
 generalize riseE Eb = E2 at *
 have jn : ¬ (4096 : Int) < (N : Int) + (M : Int) := by omega
 have ew : IntKind.i64.wrap ((N : Int) + (M : Int)) = (N : Int) + (M : Int) := by rw [IntKind.wrap_i64]; omega
 obtain ⟨SL, hSL⟩ : ∃ SL, (if emptB S1 F1 then S1 ++ movN S2 N else S1) = SL := ⟨_, rfl⟩
 obtain ⟨FL, hFL⟩ : ∃ FL, (if emptB (movN S2 N) (movN F2 N) then F1 ++ movN F2 N else movN F2 N) = FL := ⟨_, rfl⟩
 rw [hSL, hFL]
 have HSL := hide hSL.symm
 have HFL := hide hFL.symm
 clear hSL hFL
 obtain ⟨R, hR⟩ : ∃ R, behA ((M : Int) + (N : Int)) (m : Int) SL FL (brL E1 F1 (movN S2 N) m N) (movE E2 N) = R := ⟨_, rfl⟩
 rw [hR]
 have HR := hide hR
 clear hR
 obtain ⟨rn, rm, rs, rf, re, rr⟩ := R
 obtain ⟨cy0, cy1, cy2, cy3, cy4⟩ := zd5 HD.out.2.1 rfl rfl rfl rfl rfl
 obtain ⟨cx0, cx1, cx2, cx3, cx4⟩ := zd5 HD.out.2.2.1 rfl rfl rfl rfl rfl
 go_enter Tryz.func21, Tryz.ntmps21
 go_upto_region 4 with (go_at_call 55; refine TB.mono ?_; rintro e w1 ⟨g1, k1, g2, k2, g3, k3, r1, q1, r2, q2, r3, q3, rfl, H1⟩)
 clear TB cy0 cx0 cy1 cx1 cy2 cx2 cy3 cx3 cy4 cx4
 obtain ⟨W1, hW1⟩ : ∃ W1, (w1.alloc (.cells #[.int .i64 (N : Int), .int .i64 (m : Int), .slice (some ⟨g1, 0, none⟩) S1.length k1, .slice (some ⟨g2, 0, none⟩) F1.length k2, .slice (some ⟨g3, 0, none⟩) E1.length k3] 25)).alloc (.cells #[.int .i64 (M : Int), .int .i64 (m : Int), .slice (some ⟨r1, 0, none⟩) S2.length q1, .slice (some ⟨r2, 0, none⟩) F2.length q2, .slice (some ⟨r3, 0, none⟩) E2.length q3] 25) = W1 := ⟨_, rfl⟩
 have HW : Hid (W1.heap[w1.heap.size]? = some (.cells #[.int .i64 (N : Int), .int .i64 (m : Int), .slice (some ⟨g1, 0, none⟩) S1.length k1, .slice (some ⟨g2, 0, none⟩) F1.length k2, .slice (some ⟨g3, 0, none⟩) E1.length k3] 25 (0, 0)) ∧ W1.heap[w1.heap.size + 1]? = some (.cells #[.int .i64 (M : Int), .int .i64 (m : Int), .slice (some ⟨r1, 0, none⟩) S2.length q1, .slice (some ⟨r2, 0, none⟩) F2.length q2, .slice (some ⟨r3, 0, none⟩) E2.length q3] 25 (0, 0)) ∧ W1.heap[w.heap.size + 1 + 1]? = some (.cells #[.int .i64 0, .int .i64 0, .slice none 0 0, .slice none 0 0, .slice none 0 0] 25 (0, 0)) ∧ w.heap.size + 3 ≤ W1.heap.size ∧ Below w.heap.size w W1) := hide (by
  have q := box2 w1 #[.int .i64 (N : Int), .int .i64 (m : Int), .slice (some ⟨g1, 0, none⟩) S1.length k1, .slice (some ⟨g2, 0, none⟩) F1.length k2, .slice (some ⟨g3, 0, none⟩) E1.length k3] #[.int .i64 (M : Int), .int .i64 (m : Int), .slice (some ⟨r1, 0, none⟩) S2.length q1, .slice (some ⟨r2, 0, none⟩) F2.length q2, .slice (some ⟨r3, 0, none⟩) E2.length q3] 25
  rw [hW1] at q
  have s := HD.out.2.2.2.2
  have d2 := H1.out.2.2.trans (q.1.mono H1.out.2.2.size)
  exact ⟨q.2.1, q.2.2.1, blk_on HD.out.2.2.2.1 d2, by have := d2.size; omega, HD.out.1.trans (d2.mono HD.out.1.size)⟩)
 have HX : Hid (OwnO w.heap.size W1 (.slice (some ⟨g1, 0, none⟩) S1.length k1) (.slice (some ⟨g2, 0, none⟩) F1.length k2) (.slice (some ⟨g3, 0, none⟩) E1.length k3) S1 F1 E1) := hide (by
  have q := box2 w1 #[.int .i64 (N : Int), .int .i64 (m : Int), .slice (some ⟨g1, 0, none⟩) S1.length k1, .slice (some ⟨g2, 0, none⟩) F1.length k2, .slice (some ⟨g3, 0, none⟩) E1.length k3] #[.int .i64 (M : Int), .int .i64 (m : Int), .slice (some ⟨r1, 0, none⟩) S2.length q1, .slice (some ⟨r2, 0, none⟩) F2.length q2, .slice (some ⟨r3, 0, none⟩) E2.length q3] 25
  rw [hW1] at q
  exact (H1.out.1.on q.1).down HD.out.1.size)
 have HY : Hid (OwnO w.heap.size W1 (.slice (some ⟨r1, 0, none⟩) S2.length q1) (.slice (some ⟨r2, 0, none⟩) F2.length q2) (.slice (some ⟨r3, 0, none⟩) E2.length q3) S2 F2 E2) := hide (by
  have q := box2 w1 #[.int .i64 (N : Int), .int .i64 (m : Int), .slice (some ⟨g1, 0, none⟩) S1.length k1, .slice (some ⟨g2, 0, none⟩) F1.length k2, .slice (some ⟨g3, 0, none⟩) E1.length k3] #[.int .i64 (M : Int), .int .i64 (m : Int), .slice (some ⟨r1, 0, none⟩) S2.length q1, .slice (some ⟨r2, 0, none⟩) F2.length q2, .slice (some ⟨r3, 0, none⟩) E2.length q3] 25
  rw [hW1] at q
  exact (H1.out.2.1.on q.1).down HD.out.1.size)
 rw [hW1]
 clear hW1 H1
 obtain ⟨cx0, cx1, cx2, cx3, cx4⟩ := zd5 HW.out.1 rfl rfl rfl rfl rfl
 obtain ⟨cy0, cy1, cy2, cy3, cy4⟩ := zd5 HW.out.2.1 rfl rfl rfl rfl rfl
 go_upto_region 6 with fail
 clear cy0 cx0 cy1 cx1 cy2 cx2 cy3 cx3 cy4 cx4
 have T4 : Hid (∀ W, Below W1.heap.size W1 W → Calls Tryz.prog 50 #[.agg #[.int .i64 (M : Int), .int .i64 (m : Int), .slice (some ⟨r1, 0, none⟩) S2.length q1, .slice (some ⟨r2, 0, none⟩) F2.length q2, .slice (some ⟨r3, 0, none⟩) E2.length q3], .int .i64 (N : Int)] W fun e w' => ∃ t1 u1 t2 u2 t3 u3, e = .returned (.agg #[.int .i64 ((M : Int) + (N : Int)), .int .i64 (m : Int), .slice t1 S2.length u1, .slice t2 F2.length u2, .slice t3 E2.length u3]) ∧ Hid (OwnO W.heap.size w' (.slice t1 S2.length u1) (.slice t2 F2.length u2) (.slice t3 E2.length u3) (movN S2 N) (movN F2 N) (movE E2 N) ∧ Below W.heap.size W w')) := hide (fun W d => moved_any W M S2.length F2.length E2.length (m : Int) (N : Int) _ _ _ q1 q2 q3 S2 F2 E2 rfl rfl rfl (hide (HY.out.on d).rd) hl.out.2.2.2.1 hl.out.2.2.2.2.1 hl.out.2.2.2.2.2 (by omega) (by omega) (hide (fun x hx => by obtain ⟨q, h, rfl⟩ := Hin.out.2.2.1 x hx; omega)) (hide (fun x hx => by obtain ⟨q, h, rfl⟩ := Hin.out.2.2.2 x hx; omega)) (hide HEa.out.2.2))
 have T5 : Hid (∀ W, Below W1.heap.size W1 W → ∀ t1 u1 t2 u2 t3 u3, OwnO W1.heap.size W (.slice t1 S2.length u1) (.slice t2 F2.length u2) (.slice t3 E2.length u3) (movN S2 N) (movN F2 N) (movE E2 N) → Calls Tryz.prog 56 #[.agg #[.int .i64 (N : Int), .int .i64 (m : Int), .slice (some ⟨g1, 0, none⟩) S1.length k1, .slice (some ⟨g2, 0, none⟩) F1.length k2, .slice (some ⟨g3, 0, none⟩) E1.length k3], .agg #[.int .i64 ((M : Int) + (N : Int)), .int .i64 (m : Int), .slice t1 S2.length u1, .slice t2 F2.length u2, .slice t3 E2.length u3]] W fun e w' => ∃ x1 y1 x2 y2 x3 y3, e = .returned (.tuple #[.agg #[.int .i64 rn, .int .i64 rm, .slice x1 rs.length y1, .slice x2 rf.length y2, .slice x3 re.length y3], .int .i64 rr]) ∧ Hid (OwnO w.heap.size w' (.slice x1 rs.length y1) (.slice x2 rf.length y2) (.slice x3 re.length y3) rs rf re ∧ Below W.heap.size W w')) := hide (fun W d t1 u1 t2 u2 t3 u3 ho => by
  have L1 := movN_len S2 (N : Int)
  have L2 := movN_len F2 (N : Int)
  have L3 := movE_len E2 (N : Int)
  have rd : RdA W t1 t2 t3 (movN S2 N) (movN F2 N) (movE E2 N) := by
   have q := ho
   rw [← L1, ← L2, ← L3] at q
   exact q.rd
  have oX := HX.out.on d
  have oF : W.ownsRow W1.heap.size 3 1 (.slice t2 F2.length u2) (movN F2 N).length ((movN F2 N).map (Value.int .i64)) := ho.f
  have sz := HW.out.2.2.2.2.size
  have T := behind_ans W N m S1.length F1.length E1.length S2.length F2.length E2.length ((M : Int) + (N : Int)) (m : Int) _ _ _ t1 t2 t3 k1 k2 k3 u1 u2 u3 S1 F1 (movN S2 N) (movN F2 N) E1 (movE E2 N) (hide ⟨rfl, rfl, rfl, L1, L2, L3⟩) (hide oX.rd) (hide rd) (fun e => none_zero (by have q := ho.s; rw [L1] at q; exact q) e) (by omega) hm hl.out.1 hl.out.2.1 hl.out.2.2.1 hl.out.2.2.2.1 hl.out.2.2.2.2.1 hl.out.2.2.2.2.2 (hide HEa.out.1) (hide HEa.out.2.1) (hide Hin.out.2.1) (fun e => none_zero (by have q := ho.e; rw [L3] at q; exact q) e) (hide Hin.out.1) (M + N) (hide (by omega)) (by omega) (hide (mov_in Hin.out.2.2.1)) (hide (mov_in Hin.out.2.2.2)) w.heap.size (Nat.le_trans sz d.size) (hide oX.s) (hide (owns_down oF sz)) (hide (fun g hg hh => by have q1 := (HX.out.s.lt g hg).2; have q2 := (oF.lt g hh).1; omega)) (fun e => none_zero oX.s e) (fun e => none_zero oX.f e) (fun e => none_zero (by have q := oF; rw [L2] at q; exact q) e) SL FL HSL HFL
  rw [HR.out] at T
  exact T)
 have hmo : MonIL 0 [vI 0 (.agg #[.int .i64 (N : Int), .int .i64 (m : Int), .slice (some ⟨g1, 0, none⟩) S1.length k1, .slice (some ⟨g2, 0, none⟩) F1.length k2, .slice (some ⟨g3, 0, none⟩) E1.length k3]), vI 1 (.agg #[.int .i64 (M : Int), .int .i64 (m : Int), .slice (some ⟨r1, 0, none⟩) S2.length q1, .slice (some ⟨r2, 0, none⟩) F2.length q2, .slice (some ⟨r3, 0, none⟩) E2.length q3]), vI 2 (.pointer (some ⟨w1.heap.size, 0, none⟩)), vI 3 (.int .i64 (N : Int)), pI 4 (dMv W1.heap.size N M m S2 F2 E2), pI 5 (dBh w.heap.size rn rm rs rf re rr), pI 6 (dEx w.heap.size rn rm rs rf re), vI 7 (.int .i64 rr)] := ⟨vI_mono _ _, vI_mono _ _, vI_mono _ _, vI_mono _ _, pI_mono dMv_mono, pI_mono dBh_mono, pI_mono dEx_mono, vI_mono _ _, trivial⟩
 refine wp_region_sl _ (by kernel_rfl) (by kernel_rfl) (by kernel_rfl) (by kernel_rfl) hmo ⟨?o0, ?o1, ?o2, ?o3, ?o4, ?o5, ?o6, ?o7, trivial⟩ ?fin
 case o0 =>
  intro At yy W hy hb d hd K hK
  obtain ⟨s6, s6'⟩ := zsb (hb 6 rfl : _ = .pointer (some ⟨w1.heap.size, 0, none⟩))
  clear hd hy hb
  have bxX := blk_on HW.out.1 d
  have bxY := blk_on HW.out.2.1 d
  obtain ⟨cx0, cx1, cx2, cx3, cx4⟩ := zd5 bxX rfl rfl rfl rfl rfl
  obtain ⟨cy0, cy1, cy2, cy3, cy4⟩ := zd5 bxY rfl rfl rfl rfl rfl
  clear bxX bxY
  go_simp
  exact zkq hK hmo d (if_pos rfl)
 case o1 =>
  intro At yy W hy hb d hd K hK
  obtain ⟨s7, s7'⟩ := zsb (hb 7 rfl : _ = .pointer (some ⟨w1.heap.size + 1, 0, none⟩))
  clear hd hy hb
  have bxX := blk_on HW.out.1 d
  have bxY := blk_on HW.out.2.1 d
  obtain ⟨cx0, cx1, cx2, cx3, cx4⟩ := zd5 bxX rfl rfl rfl rfl rfl
  obtain ⟨cy0, cy1, cy2, cy3, cy4⟩ := zd5 bxY rfl rfl rfl rfl rfl
  clear bxX bxY
  go_simp
  exact zkq hK hmo d (if_pos rfl)
 case o2 =>
  intro At yy W hy hb d hd K hK
  obtain ⟨s6, s6'⟩ := zsb (hb 6 rfl : _ = .pointer (some ⟨w1.heap.size, 0, none⟩))
  clear hd hy hb
  go_simp
  exact zkq hK hmo d (if_pos rfl)
 case o3 =>
  intro At yy W hy hb d hd K hK
  obtain ⟨s29, s29'⟩ := zsg 2 29 .data hy hd rfl
  clear hd hy hb
  have bxX := blk_on HW.out.1 d
  have bxY := blk_on HW.out.2.1 d
  obtain ⟨cx0, cx1, cx2, cx3, cx4⟩ := zd5 bxX rfl rfl rfl rfl rfl
  obtain ⟨cy0, cy1, cy2, cy3, cy4⟩ := zd5 bxY rfl rfl rfl rfl rfl
  clear bxX bxY
  go_simp
  exact zkq hK hmo d (if_pos rfl)
 case o4 =>
  intro At yy W hy hb d hd K hK
  obtain ⟨s28, s28'⟩ := zsg 1 28 .data hy hd rfl
  obtain ⟨s30, s30'⟩ := zsg 3 30 .data hy hd rfl
  clear hd hy hb
  go_simp
  go_wp2_with (go_at_call 50; refine (T4.out _ d).mono ?_; rintro e wa ⟨t1, u1, t2, u2, t3, u3, rfl, hR⟩)
  exact hK.out _ wa (stp_of hmo d hR.out.2) ⟨t1, u1, t2, u2, t3, u3, if_pos rfl, hR.out.1.down d.size⟩
 case o5 =>
  intro At yy W hy hb d hd K hK
  have f4 := hd ⟨4, .data⟩ (by simp) rfl rfl
  obtain ⟨_, _, _, _, t1, u1, t2, u2, t3, u3, e4, h4⟩ := f4
  obtain ⟨s27, s27'⟩ := zsg 0 27 .data hy hd rfl
  obtain ⟨s31, s31'⟩ := zsb ((hy 4 _ 31 rfl rfl).trans e4)
  clear hd hy hb
  go_simp
  go_wp2_with (go_at_call 56; refine (T5.out _ d t1 u1 t2 u2 t3 u3 h4).mono ?_; rintro e wa ⟨x1, y1, x2, y2, x3, y3, rfl, hR⟩)
  exact hK.out _ wa (stp_of hmo d hR.out.2) ⟨x1, y1, x2, y2, x3, y3, if_pos rfl, hR.out.1⟩
 case o6 =>
  intro At yy W hy hb d hd K hK
  have f5 := hd ⟨5, .data⟩ (by simp) rfl rfl
  obtain ⟨_, _, _, _, x1, y1, x2, y2, x3, y3, e5, h5⟩ := f5
  obtain ⟨s32, s32'⟩ := zsb ((hy 5 _ 32 rfl rfl).trans e5)
  clear hd hy hb
  go_simp
  exact zkq hK hmo d ⟨x1, y1, x2, y2, x3, y3, if_pos rfl, h5⟩
 case o7 =>
  intro At yy W hy hb d hd K hK
  have f5 := hd ⟨5, .data⟩ (by simp) rfl rfl
  obtain ⟨_, _, _, _, x1, y1, x2, y2, x3, y3, e5, _⟩ := f5
  obtain ⟨s32, s32'⟩ := zsb ((hy 5 _ 32 rfl rfl).trans e5)
  clear hd hy hb
  go_simp
  exact zkq hK hmo d (if_pos rfl)
 case fin =>
  intro yy lo hi W hM
  show wpList _ _ _ [_, _] _ _
  have e0 := hM.v 0 (by simp) rfl rfl rfl
  have e1 := hM.v 1 (by simp) rfl rfl rfl
  have e2 := hM.v 2 (by simp) rfl rfl rfl
  have e3 := hM.v 3 (by simp) rfl rfl rfl
  have e7 := hM.v 7 (by simp) rfl rfl rfl
  obtain ⟨x1, y1, x2, y2, x3, y3, e6, h6⟩ := hM.fact 6 (by simp) rfl (notR_all 6 rfl)
  obtain ⟨_, _, _, _, _, _, e4, _⟩ := hM.fact 4 (by simp) rfl (notR_all 4 rfl)
  obtain ⟨_, _, _, _, _, _, e5, _⟩ := hM.fact 5 (by simp) rfl (notR_all 5 rfl)
  have HDD := hide hM.d
  simp only [fills, Act.put, List.take, List.length, List.setIfInBounds_toArray, List.set_cons_zero, List.set_cons_succ, e0, e1, e2, e3, e7, e4, e5, e6]
  clear hM hmo e0 e1 e2 e3 e7 e4 e5 e6
  have F4 := blk_on HW.out.2.2.1 HDD.out
  obtain ⟨o0, o1, o2, o3, o4⟩ := zd5 F4 rfl rfl rfl rfl rfl
  have fz0 : W.frozen? ⟨w.heap.size + 1 + 1, 0, none⟩ = false := fz_of F4
  have fz1 : W.frozen? ⟨w.heap.size + 1 + 1, 1, none⟩ = false := fz_of F4
  have fz2 : W.frozen? ⟨w.heap.size + 1 + 1, 2, none⟩ = false := fz_of F4
  have fz3 : W.frozen? ⟨w.heap.size + 1 + 1, 3, none⟩ = false := fz_of F4
  have fz4 : W.frozen? ⟨w.heap.size + 1 + 1, 4, none⟩ = false := fz_of F4
  have O6 := hide (And.intro (set5 W (w.heap.size + 1 + 1) _ _ _ _ _ (.int .i64 rn) (.int .i64 rm) (.slice x1 rs.length y1) (.slice x2 rf.length y2) (.slice x3 re.length y3) 25 F4) (only5 W (w.heap.size + 1 + 1) (.int .i64 rn) (.int .i64 rm) (.slice x1 rs.length y1) (.slice x2 rf.length y2) (.slice x3 re.length y3)))
  have HO := hide (h6.keep F4 O6.out.2)
  clear F4 h6
  go_wp2_with fail
  refine bodyPost_ret (results_c1 (p := 4) (q := 5) (ty := 25) rfl _ _ (w.heap.size + 1 + 1) 25 _ (0, 0) _ _ rfl rfl O6.out.1 Tryz.underlying25 rfl (by kernel_rfl)) rfl ?_
  have s1 := HDD.out.size
  have s2 := HW.out.2.2.2.1
  have dw := HW.out.2.2.2.2
  exact ⟨x1, y1, x2, y2, x3, y3, rfl, hide HO.out, (dw.trans (HDD.out.mono dw.size)).trans (O6.out.2.toBelow (by omega) (fun k hk => by omega))⟩
theorem rwA_low {B C : Nat} {W : World} {m R : Nat} {E : List EdT} {a : Option Addr} {n c g : Nat} (h : RwA B W m R E a n c g) (hC : C ≤ B) : RwA C W m R E a n c g := ⟨owns_down h.ow hC, h.fi, Nat.le_trans hC h.ge⟩
def dFi (f : Nat → Bool) (n : Nat) : MkP := fun x _ _ W => ∃ g, x = .slice (some ⟨g, 0, none⟩) n n ∧ Mrw W g 4 n (fun c => .bool (f c)) n
theorem dFi_mono {f : Nat → Bool} {n : Nat} : MonoP (dFi f n) := fun _ _ _ _ _ _ d ⟨g, e, h⟩ => ⟨g, e, h.below d h.lt⟩
def dEn (B : Nat) (Fn : List Int) : MkP := fun x _ _ W => ∃ aF cF, x = .slice aF Fn.length cF ∧ W.ownsRow B 3 1 (.slice aF Fn.length cF) Fn.length (Fn.map (Value.int .i64))
theorem dEn_mono {B : Nat} {Fn : List Int} : MonoP (dEn B Fn) := fun _ _ _ _ _ _ d ⟨a, c, e, h⟩ => ⟨a, c, e, own_below h d⟩
theorem nd_of {L : List Int} (h : L.Pairwise (· < ·)) : L.Nodup := h.imp fun h e => by omega
theorem prsL_nd {X Y : List Int} (d1 : X.Nodup) (d2 : Y.Nodup) : (prsL X Y).Nodup := by
 unfold prsL List.Nodup
 rw [List.pairwise_flatMap]
 refine ⟨fun a _ => List.pairwise_map.2 (d2.imp fun hne e => hne (Prod.mk.inj e).2), d1.imp fun hne x hx y hy e => ?_⟩
 obtain ⟨u, _, rfl⟩ := List.mem_map.1 hx
 obtain ⟨v, _, rfl⟩ := List.mem_map.1 hy
 exact hne (Prod.mk.inj e).1
theorem prsL_ok {X Y : List Int} {N M : Nat} (h1 : ∀ x ∈ X, ∃ q : Nat, q < N ∧ x = (q : Int)) (h2 : ∀ x ∈ Y, ∃ q : Nat, q < M ∧ x = (q : Int)) : ∀ t ∈ prsL X Y, ∃ p q : Nat, t = ((p : Int), (q : Int)) ∧ p < N ∧ q < M := by
 intro t ht
 unfold prsL at ht
 obtain ⟨a, ha, h⟩ := List.mem_flatMap.1 ht
 obtain ⟨b, hb, rfl⟩ := List.mem_map.1 h
 obtain ⟨p, hp, rfl⟩ := h1 a ha
 obtain ⟨q, hq, rfl⟩ := h2 b hb
 exact ⟨p, q, rfl, hp, hq⟩
theorem rnI_start {E1 E2 : List EdT} {m N M : Nat} {S1 S2 : List Int} {bud : Int} {ps : List PrT} {ns : List Int} (he : metF bud false [] (prsL S1 S2) [] = (0, ps, ns)) (ho : ∀ t ∈ prsL S1 S2, ∃ p q : Nat, t = ((p : Int), (q : Int)) ∧ p < N ∧ q < M) : RnI E1 E2 m N M ps ps [] 0 0 := by
 obtain ⟨_, k2, k3, _, _⟩ := metF_inv _ _ _ _ _ _ _ _ he List.nodup_nil
 have hh : ∀ a c, ¬ hnd m 0 0 a c := fun a c => by unfold hnd; omega
 refine ⟨⟨[], by simp⟩, k2, fun x hx => ?_, by simp, fun a c x y _ h => absurd h (hh a c), fun _ e => ?_⟩
 · rcases k3 x hx with e | e
   · simp at e
   · exact ho x e
 · constructor
   · intro e; simp at e
   · rintro ⟨a, c, x, y, _, h, _⟩
     exact absurd h (hh a c)
theorem nil_own {kv : Nat} : ∀ k, (Value.slice none 0 0).ownBlock = some k → k ≠ kv := fun k hk => by cases hk
theorem start_blk {w8 : World} {B D b n : Nat} {av : Option Addr} {S0 : List Int} {cv : Nat} {vp : Value} {xs : List Value} (o : w8.ownsRow B 3 1 (.slice av S0.length cv) S0.length (S0.map (Value.int .i64))) (po : w8.ownsRow D 79 2 vp n xs) (hb : b < w8.heap.size) (hbD : b < D) : ∃ kv, kv < w8.heap.size ∧ (∀ k, (.slice av S0.length cv : Value).ownBlock = some k → k = kv) ∧ ∀ k, vp.ownBlock = some k → k ≠ kv := by
 rcases h : (.slice av S0.length cv : Value).ownBlock with _ | kv
 · refine ⟨b, hb, fun k e => ?_, fun k hk e => ?_⟩
   · cases e
   · have := (po.lt k hk).1; omega
 · refine ⟨kv, (o.lt kv h).2, fun k e => ?_, fun k hk e => ?_⟩
   · cases e; rfl
   · subst e; exact rows_differ po o (by decide) hk h
theorem p14_of {w9 : World} {g : Nat} {x0 x1 x2 x3 x4 u0 u4 : Value} (z : w9.heap[g]? = some (.cells #[x0, x1, x2, x3, x4] 25 (0, 0))) : Only w9 ((w9.setCell ⟨g, 0, none⟩ u0).setCell ⟨g, 4, none⟩ u4).drew (fun k => k = g) ∧ ((w9.setCell ⟨g, 0, none⟩ u0).setCell ⟨g, 4, none⟩ u4).drew.heap[g]? = some (.cells #[u0, x1, x2, x3, u4] 25 (0, 0)) := by
 have o := (only_set w9 g 0 u0).trans (only_set _ g 4 u4)
 refine ⟨⟨o.os, o.tape, o.output, o.size, o.block⟩, ?_⟩
 show ((w9.setCell ⟨g, 0, none⟩ u0).setCell ⟨g, 4, none⟩ u4).heap[g]? = _
 have := heap_setCell_same _ g 4 _ 25 u4 (heap_setCell_same w9 g 0 _ 25 u0 z)
 simpa using this
theorem p15_of {w9 W14 W : World} {g : Nat} {x0 x1 x2 x4 : Value} {aF : Option Addr} {cF : Nat} {Fn : List Int} (d : Below W14.heap.size W14 W) (z : W.heap[g]? = some (.cells #[x0, x1, x2, .slice none 0 0, x4] 25 (0, 0))) (y : W.ownsRow W14.heap.size 3 1 (.slice aF Fn.length cF) Fn.length (Fn.map (Value.int .i64))) (o : Only w9 W14 (fun k => k = g)) :
 Only w9 (W.setCell ⟨g, 3, none⟩ (.slice aF Fn.length cF)) (fun k => k = g) ∧ (W.setCell ⟨g, 3, none⟩ (.slice aF Fn.length cF)).heap[g]? = some (.cells #[x0, x1, x2, .slice aF Fn.length cF, x4] 25 (0, 0)) ∧ (W.setCell ⟨g, 3, none⟩ (.slice aF Fn.length cF)).ownsRow W14.heap.size 3 1 (.slice aF Fn.length cF) Fn.length (Fn.map (Value.int .i64)) := by
 have o2 := only_set W g 3 (.slice aF Fn.length cF)
 have s := heap_setCell_same W g 3 _ 25 (.slice aF Fn.length cF) z
 refine ⟨(o.trans (Only.ofBelow d)).trans o2, by simpa using s, own_keep y z (by decide) o2⟩
theorem paired_ok (w : World) (N M m : Nat) (bud0 : Int) (a1 a2 a3 o1 o2 o3 : Option Addr) (c1 c2 c3 d1 d2 d3 : Nat) (Sa Fa Sb Fb : List Int) (Ea Eb : List EdT) (hA : Hid (RdA w a1 a2 a3 Sa Fa Ea)) (hB : Hid (RdA w o1 o2 o3 Sb Fb Eb)) (h1 : Sa.length ≤ 2000000) (h2 : Fa.length ≤ 2000000) (h3 : Ea.length ≤ 2000000) (h4 : Sb.length ≤ 2000000) (h5 : Fb.length ≤ 2000000) (h6 : Eb.length ≤ 2000000) (em : mayA (N : Int) (m : Int) Sa Fa Ea = true) (em' : mayA (M : Int) (m : Int) Sb Fb Eb = true) :
 Calls Tryz.prog 57 #[.agg #[.int .i64 (N : Int), .int .i64 (m : Int), .slice a1 Sa.length c1, .slice a2 Fa.length c2, .slice a3 Ea.length c3], .agg #[.int .i64 (M : Int), .int .i64 (m : Int), .slice o1 Sb.length d1, .slice o2 Fb.length d2, .slice o3 Eb.length d3], .int .i64 bud0, .func (.func 58) #[] #[]] w (MeO w (MeetR m N M (riseL Sa) (riseL Fa) (riseE Ea) (riseL Sb) (riseL Fb) (riseE Eb)) (m : Int)) := by
 obtain ⟨W0, hW0⟩ : ∃ W0, ((w.alloc (.cells #[.int .i64 (N : Int), .int .i64 (m : Int), .slice a1 Sa.length c1, .slice a2 Fa.length c2, .slice a3 Ea.length c3] 25)).alloc (.cells #[.int .i64 (M : Int), .int .i64 (m : Int), .slice o1 Sb.length d1, .slice o2 Fb.length d2, .slice o3 Eb.length d3] 25)).alloc (.cells #[.int .i64 0, .int .i64 0, .slice none 0 0, .slice none 0 0, .slice none 0 0] 25) = W0 := ⟨_, rfl⟩
 have HD := hide (box3b w #[.int .i64 (N : Int), .int .i64 (m : Int), .slice a1 Sa.length c1, .slice a2 Fa.length c2, .slice a3 Ea.length c3] #[.int .i64 (M : Int), .int .i64 (m : Int), .slice o1 Sb.length d1, .slice o2 Fb.length d2, .slice o3 Eb.length d3] #[.int .i64 0, .int .i64 0, .slice none 0 0, .slice none 0 0, .slice none 0 0] 25)
 rw [hW0] at HD
 have TB := both_ok W0 (N : Int) (m : Int) (M : Int) a1 a2 a3 o1 o2 o3 c1 c2 c3 d1 d2 d3 Sa Fa Sb Fb Ea Eb (hide (hA.out.on HD.out.1)) (hide (hB.out.on HD.out.1)) (by omega) (by omega) (by omega) (by omega) (by omega) (by omega) em em'
 have hm : m ≤ 128 := by have := (may_parts em).2.1; omega
 have hNM : N ≤ 4096 ∧ M ≤ 4096 := by have := (may_parts em).1; have := (may_parts em').1; omega
 have Hin : Hid ((∀ x ∈ riseL Sa, ∃ q : Nat, q < N ∧ x = (q : Int)) ∧ (∀ x ∈ riseL Fa, ∃ q : Nat, q < N ∧ x = (q : Int)) ∧ (∀ x ∈ riseL Sb, ∃ q : Nat, q < M ∧ x = (q : Int)) ∧ (∀ x ∈ riseL Fb, ∃ q : Nat, q < M ∧ x = (q : Int))) := hide ⟨nat_in (may_st (may_rise em)).1, nat_in (may_st (may_rise em)).2, nat_in (may_st (may_rise em')).1, nat_in (may_st (may_rise em')).2⟩
 have hl : Hid ((riseL Sa).length ≤ 4096 ∧ (riseL Fa).length ≤ 2000000 ∧ (riseE Ea).length ≤ 2000000 ∧ (riseL Sb).length ≤ 4096 ∧ (riseL Fb).length ≤ 2000000 ∧ (riseE Eb).length ≤ 2000000) := hide ⟨Nat.le_trans (upN_rise (may_st em).1).len hNM.1, Nat.le_trans (riseL_len Fa) h2, Nat.le_trans (riseE_len Ea) h3, Nat.le_trans (upN_rise (may_st em').1).len hNM.2, Nat.le_trans (riseL_len Fb) h5, Nat.le_trans (riseE_len Eb) h6⟩
 have HND : Hid ((prsL (riseL Sa) (riseL Sb)).Nodup) := hide (prsL_nd (nd_of (riseL_ss Sa)) (nd_of (riseL_ss Sb)))
 have HQ : Hid (RnQ N m (riseE Ea) ∧ RnQ M m (riseE Eb)) := hide ⟨⟨riseE_ss Ea, fun e he => ((may_parts (may_rise em)).2.2.2.2.2 e he).2.1, fun e he => ((may_parts (may_rise em)).2.2.2.2.2 e he).2.2, hNM.1, hm, by have := hl.out; omega⟩, ⟨riseE_ss Eb, fun e he => ((may_parts (may_rise em')).2.2.2.2.2 e he).2.1, fun e he => ((may_parts (may_rise em')).2.2.2.2.2 e he).2.2, hNM.2, hm, by have := hl.out; omega⟩⟩
 have HFr : Hid ((∀ e ∈ riseE Ea, (0 ≤ e.1 ∧ e.1 < (N : Int)) ∧ 0 ≤ e.2.1 ∧ e.2.1 < (m : Int)) ∧ (∀ e ∈ riseE Eb, (0 ≤ e.1 ∧ e.1 < (M : Int)) ∧ 0 ≤ e.2.1 ∧ e.2.1 < (m : Int))) := hide ⟨fun e he => by have q := (may_parts (may_rise em)).2.2.2.2.2 e he; exact ⟨q.1, q.2.1⟩, fun e he => by have q := (may_parts (may_rise em')).2.2.2.2.2 e he; exact ⟨q.1, q.2.1⟩⟩
 clear em em'
 generalize riseL Sa = S1 at *
 generalize riseL Fa = F1 at *
 generalize riseE Ea = E1 at *
 generalize riseL Sb = S2 at *
 generalize riseL Fb = F2 at *
 generalize riseE Eb = E2 at *
 obtain ⟨cy0, cy1, cy2, cy3, cy4⟩ := zd5 HD.out.2.1 rfl rfl rfl rfl rfl
 obtain ⟨cx0, cx1, cx2, cx3, cx4⟩ := zd5 HD.out.2.2.1 rfl rfl rfl rfl rfl
 go_enter Tryz.func57, Tryz.ntmps57
 go_upto_if 28 with (go_at_call 55; refine TB.mono ?_; rintro e w1 ⟨g1, k1, g2, k2, g3, k3, r1, q1, r2, q2, r3, q3, rfl, H1⟩)
 clear TB cy0 cx0 cy1 cx1 cy2 cx2 cy3 cx3 cy4 cx4
 obtain ⟨W1, hW1⟩ : ∃ W1, (w1.alloc (.cells #[.int .i64 (N : Int), .int .i64 (m : Int), .slice (some ⟨g1, 0, none⟩) S1.length k1, .slice (some ⟨g2, 0, none⟩) F1.length k2, .slice (some ⟨g3, 0, none⟩) E1.length k3] 25)).alloc (.cells #[.int .i64 (M : Int), .int .i64 (m : Int), .slice (some ⟨r1, 0, none⟩) S2.length q1, .slice (some ⟨r2, 0, none⟩) F2.length q2, .slice (some ⟨r3, 0, none⟩) E2.length q3] 25) = W1 := ⟨_, rfl⟩
 have HW : Hid (W1.heap[w1.heap.size]? = some (.cells #[.int .i64 (N : Int), .int .i64 (m : Int), .slice (some ⟨g1, 0, none⟩) S1.length k1, .slice (some ⟨g2, 0, none⟩) F1.length k2, .slice (some ⟨g3, 0, none⟩) E1.length k3] 25 (0, 0)) ∧ W1.heap[w1.heap.size + 1]? = some (.cells #[.int .i64 (M : Int), .int .i64 (m : Int), .slice (some ⟨r1, 0, none⟩) S2.length q1, .slice (some ⟨r2, 0, none⟩) F2.length q2, .slice (some ⟨r3, 0, none⟩) E2.length q3] 25 (0, 0)) ∧ W1.heap[w.heap.size + 1 + 1]? = some (.cells #[.int .i64 0, .int .i64 0, .slice none 0 0, .slice none 0 0, .slice none 0 0] 25 (0, 0)) ∧ w.heap.size + 3 ≤ W1.heap.size ∧ Below w.heap.size w W1) := hide (by
  have q := box2 w1 #[.int .i64 (N : Int), .int .i64 (m : Int), .slice (some ⟨g1, 0, none⟩) S1.length k1, .slice (some ⟨g2, 0, none⟩) F1.length k2, .slice (some ⟨g3, 0, none⟩) E1.length k3] #[.int .i64 (M : Int), .int .i64 (m : Int), .slice (some ⟨r1, 0, none⟩) S2.length q1, .slice (some ⟨r2, 0, none⟩) F2.length q2, .slice (some ⟨r3, 0, none⟩) E2.length q3] 25
  rw [hW1] at q
  have s := HD.out.2.2.2.2
  have d2 := H1.out.2.2.trans (q.1.mono H1.out.2.2.size)
  exact ⟨q.2.1, q.2.2.1, blk_on HD.out.2.2.2.1 d2, by have := d2.size; omega, HD.out.1.trans (d2.mono HD.out.1.size)⟩)
 have HX : Hid (OwnO w.heap.size W1 (.slice (some ⟨g1, 0, none⟩) S1.length k1) (.slice (some ⟨g2, 0, none⟩) F1.length k2) (.slice (some ⟨g3, 0, none⟩) E1.length k3) S1 F1 E1) := hide (by
  have q := box2 w1 #[.int .i64 (N : Int), .int .i64 (m : Int), .slice (some ⟨g1, 0, none⟩) S1.length k1, .slice (some ⟨g2, 0, none⟩) F1.length k2, .slice (some ⟨g3, 0, none⟩) E1.length k3] #[.int .i64 (M : Int), .int .i64 (m : Int), .slice (some ⟨r1, 0, none⟩) S2.length q1, .slice (some ⟨r2, 0, none⟩) F2.length q2, .slice (some ⟨r3, 0, none⟩) E2.length q3] 25
  rw [hW1] at q
  exact (H1.out.1.on q.1).down HD.out.1.size)
 have HY : Hid (OwnO w.heap.size W1 (.slice (some ⟨r1, 0, none⟩) S2.length q1) (.slice (some ⟨r2, 0, none⟩) F2.length q2) (.slice (some ⟨r3, 0, none⟩) E2.length q3) S2 F2 E2) := hide (by
  have q := box2 w1 #[.int .i64 (N : Int), .int .i64 (m : Int), .slice (some ⟨g1, 0, none⟩) S1.length k1, .slice (some ⟨g2, 0, none⟩) F1.length k2, .slice (some ⟨g3, 0, none⟩) E1.length k3] #[.int .i64 (M : Int), .int .i64 (m : Int), .slice (some ⟨r1, 0, none⟩) S2.length q1, .slice (some ⟨r2, 0, none⟩) F2.length q2, .slice (some ⟨r3, 0, none⟩) E2.length q3] 25
  rw [hW1] at q
  exact (H1.out.2.1.on q.1).down HD.out.1.size)
 rw [hW1]
 clear hW1 H1 HD hW0
 go_cut [2] (fun v2 W => ∃ bud : Int, v2 = .int .i64 bud ∧ W = W1)
 case first =>
  by_cases hb : bud0 ≤ 0
  · go_wp2_with fail
    go_meet
    exact ⟨_, rfl, rfl⟩
  · go_wp2_with fail
    go_meet
    exact ⟨_, rfl, rfl⟩
 case rest =>
  rename World => wc
  obtain ⟨bud, rfl, hw⟩ := hcut
  obtain rfl := hw.symm
  clear hw
  have T1 := hide (fun (W : World) (d : Below W1.heap.size W1 W) => newRows_any W N m (some ⟨g1, 0, none⟩) (some ⟨g2, 0, none⟩) (some ⟨g3, 0, none⟩) S1.length F1.length k1 k2 k3 E1 hNM.1 hm (hide (own_rdE (HX.out.on d).e)) (by have := hl.out; omega) (hide HFr.out.1))
  have T2 := hide (fun (W : World) (d : Below W1.heap.size W1 W) => newRows_any W M m (some ⟨r1, 0, none⟩) (some ⟨r2, 0, none⟩) (some ⟨r3, 0, none⟩) S2.length F2.length q1 q2 q3 E2 hNM.2 hm (hide (own_rdE (HY.out.on d).e)) (by have := hl.out; omega) (hide HFr.out.2))
  go_upto_region 6 with fail
  go_cut [14] (fun v14 W => ∃ b bm b1 b2 aX cX gX aY cY gY, v14 = .pointer (some ⟨b, 0, none⟩) ∧ Hid (PrB W1 m (N * m) (M * m) E1 E2 bud b bm b1 b2 aX cX gX aY cY gY W))
  case first =>
   have hmo : MonIL 0 [vI 0 (.func (.func 58) #[] #[]), vI 1 (.agg #[.int .i64 (N : Int), .int .i64 (m : Int), .slice (some ⟨g1, 0, none⟩) S1.length k1, .slice (some ⟨g2, 0, none⟩) F1.length k2, .slice (some ⟨g3, 0, none⟩) E1.length k3]), pI 2 (dRw W1.heap.size m (N * m) E1), vI 3 (.agg #[.int .i64 (M : Int), .int .i64 (m : Int), .slice (some ⟨r1, 0, none⟩) S2.length q1, .slice (some ⟨r2, 0, none⟩) F2.length q2, .slice (some ⟨r3, 0, none⟩) E2.length q3]), pI 4 (dRw W1.heap.size m (M * m) E2), pI 5 (dFn W1.heap.size m (N * m) (M * m) E1 E2), vI 6 (.int .i64 bud), pI 7 (dMp W1.heap.size), pI 8 (dSr W1.heap.size m (N * m) (M * m) E1 E2 bud), pI 9 (dBx W1.heap.size)] := ⟨vI_mono _ _, vI_mono _ _, pI_mono dRw_mono, vI_mono _ _, pI_mono dRw_mono, pI_mono dFn_mono, vI_mono _ _, pI_mono dMp_mono, pI_mono dSr_mono, pI_mono dBx_mono, trivial⟩
   refine wp_region_sl _ (by kernel_rfl) (by kernel_rfl) (by kernel_rfl) (by kernel_rfl) hmo ⟨?o0, ?o1, ?o2, ?o3, ?o4, ?o5, ?o6, ?o7, ?o8, ?o9, trivial⟩ ?fin
   case o0 =>
    intro At yy W hy hb d hd K hK
    obtain ⟨s3, s3'⟩ := zsb (hb 3 rfl : _ = .func (.func 58) #[] #[])
    clear hd hy hb
    go_simp
    exact zkq hK hmo d (if_pos rfl)
   case o1 =>
    intro At yy W hy hb d hd K hK
    obtain ⟨s11, s11'⟩ := zsb (hb 11 rfl : _ = .pointer (some ⟨w1.heap.size, 0, none⟩))
    clear hd hy hb
    have bxX := blk_on HW.out.1 d
    have bxY := blk_on HW.out.2.1 d
    obtain ⟨cx0, cx1, cx2, cx3, cx4⟩ := zd5 bxX rfl rfl rfl rfl rfl
    obtain ⟨cy0, cy1, cy2, cy3, cy4⟩ := zd5 bxY rfl rfl rfl rfl rfl
    clear bxX bxY
    go_simp
    exact zkq hK hmo d (if_pos rfl)
   case o2 =>
    intro At yy W hy hb d hd K hK
    obtain ⟨s30, s30'⟩ := zsg 1 30 .data hy hd rfl
    clear hd hy hb
    go_simp
    go_wp2_with (go_at_call 89; refine (T1.out _ d).mono ?_; rintro e wa ⟨aX, cX, gX, rfl, hR, dR⟩)
    exact hK.out _ wa (stp_of hmo d dR) ⟨aX, cX, gX, if_pos rfl, rwA_low hR.out d.size⟩
   case o3 =>
    intro At yy W hy hb d hd K hK
    obtain ⟨s12, s12'⟩ := zsb (hb 12 rfl : _ = .pointer (some ⟨w1.heap.size + 1, 0, none⟩))
    clear hd hy hb
    have bxX := blk_on HW.out.1 d
    have bxY := blk_on HW.out.2.1 d
    obtain ⟨cx0, cx1, cx2, cx3, cx4⟩ := zd5 bxX rfl rfl rfl rfl rfl
    obtain ⟨cy0, cy1, cy2, cy3, cy4⟩ := zd5 bxY rfl rfl rfl rfl rfl
    clear bxX bxY
    go_simp
    exact zkq hK hmo d (if_pos rfl)
   case o4 =>
    intro At yy W hy hb d hd K hK
    obtain ⟨s32, s32'⟩ := zsg 3 32 .data hy hd rfl
    clear hd hy hb
    go_simp
    go_wp2_with (go_at_call 89; refine (T2.out _ d).mono ?_; rintro e wa ⟨aY, cY, gY, rfl, hR, dR⟩)
    exact hK.out _ wa (stp_of hmo d dR) ⟨aY, cY, gY, if_pos rfl, rwA_low hR.out d.size⟩
   case o5 =>
    intro At yy W hy hb d hd K hK
    have f2 := hd ⟨2, .data⟩ (by simp) rfl rfl
    have f4 := hd ⟨4, .data⟩ (by simp) rfl rfl
    obtain ⟨_, _, _, _, aX, cX, gX, e2, y2⟩ := f2
    obtain ⟨_, _, _, _, aY, cY, gY, e4, y4⟩ := f4
    have HZ := hide (two_box W #[.int .i64 (m : Int), .slice aX E1.length cX, .slice (some ⟨gX, 0, none⟩) (N * m + 1) (N * m + 1)] #[.int .i64 (m : Int), .slice aY E2.length cY, .slice (some ⟨gY, 0, none⟩) (M * m + 1) (M * m + 1)] 93 93)
    obtain ⟨s29, s29'⟩ := zsg 0 29 .data hy hd rfl
    obtain ⟨s31, s31'⟩ := zsb ((hy 2 _ 31 rfl rfl).trans e2)
    obtain ⟨s33, s33'⟩ := zsb ((hy 4 _ 33 rfl rfl).trans e4)
    clear hd hy hb
    go_simp
    go_wp2_with (go_at_call 58; refine (tog_any _ _ _ _ _ _ _).mono ?_; rintro e wa ⟨rfl, hwa⟩; subst hwa)
    exact hK.out _ _ (stp_of hmo d HZ.out.1) ⟨W.heap.size, W.heap.size + 1, aX, cX, gX, aY, cY, gY, if_pos rfl, HZ.out.2.1, HZ.out.2.2.1, y2.on HZ.out.1, y4.on HZ.out.1⟩
   case o6 =>
    intro At yy W hy hb d hd K hK
    obtain ⟨s2, s2'⟩ := zsb (hb 2 rfl : _ = .int .i64 bud)
    clear hd hy hb
    go_simp
    exact zkq hK hmo d (if_pos rfl)
   case o7 =>
    intro At yy W hy hb d hd K hK
    clear hd hy hb
    go_simp
    exact hK.out _ _ (stp_of hmo d ((Below.refl _ _).alloc (Nat.le_refl _) _)) ⟨if_pos rfl, d.size, by simp, World.ownsMap_made _ _ _ _⟩
   case o8 =>
    intro At yy W hy hb d hd K hK
    have f5 := hd ⟨5, .data⟩ (by simp) rfl rfl
    have f7 := hd ⟨7, .data⟩ (by simp) rfl rfl
    obtain ⟨_, _, _, _, b1, b2, aX, cX, gX, aY, cY, gY, e5, y5⟩ := f5
    obtain ⟨l7, _, _, _, e7, y7, _, m7⟩ := f7
    obtain ⟨s34, s34'⟩ := zsb ((hy 5 _ 34 rfl rfl).trans e5)
    obtain ⟨s35, s35'⟩ := zsg 6 35 .data hy hd rfl
    obtain ⟨s36, s36'⟩ := zsb ((hy 7 _ 36 rfl rfl).trans e7)
    clear hd hy hb
    go_simp
    exact zkq hK hmo d ⟨b1, b2, aX, cX, gX, aY, cY, gY, l7, if_pos rfl, y5, y7, m7⟩
   case o9 =>
    intro At yy W hy hb d hd K hK
    clear hd hy hb
    go_simp
    exact hK.out _ _ (stp_of hmo d ((Below.refl _ _).alloc (Nat.le_refl _) _)) ⟨if_pos rfl, d.size, by simp, World.alloc_heap_new _ _⟩
   case fin =>
    intro yy lo hi W hM
    show wpList _ _ _ [_] _ _
    have e0 := hM.v 0 (by simp) rfl rfl rfl
    have e1 := hM.v 1 (by simp) rfl rfl rfl
    have e3 := hM.v 3 (by simp) rfl rfl rfl
    have e6 := hM.v 6 (by simp) rfl rfl rfl
    obtain ⟨b1, b2, aX, cX, gX, aY, cY, gY, bm, e8, y8, l8, m8⟩ := hM.fact 8 (by simp) rfl (notR_all 8 rfl)
    obtain ⟨e9, l9, _, z9⟩ := hM.fact 9 (by simp) rfl (notR_all 9 rfl)
    obtain ⟨_, _, _, e2, _⟩ := hM.fact 2 (by simp) rfl (notR_all 2 rfl)
    obtain ⟨_, _, _, e4, _⟩ := hM.fact 4 (by simp) rfl (notR_all 4 rfl)
    obtain ⟨_, _, _, _, _, _, _, _, e5, _⟩ := hM.fact 5 (by simp) rfl (notR_all 5 rfl)
    obtain ⟨e7, _⟩ := hM.fact 7 (by simp) rfl (notR_all 7 rfl)
    have HDD := hide hM.d
    simp only [fills, Act.put, List.take, List.length, List.setIfInBounds_toArray, List.set_cons_zero, List.set_cons_succ, e0, e1, e3, e6, e2, e4, e5, e7, e8, e9]
    generalize lo 9 = b at z9 l9 ⊢
    clear hM hmo e0 e1 e3 e6 e2 e4 e5 e7 e8 e9
    have HF := hide (prB_of (bud := bud) HDD.out z9 l9 l8 y8 m8)
    obtain ⟨z0, z1, z2, z3, z4, z5⟩ := zd6 z9 rfl rfl rfl rfl rfl rfl
    have f0 : W.frozen? ⟨b, 0, none⟩ = false := fz_of z9
    have f1 : W.frozen? ⟨b, 1, none⟩ = false := fz_of z9
    have f2 : W.frozen? ⟨b, 2, none⟩ = false := fz_of z9
    have f3 : W.frozen? ⟨b, 3, none⟩ = false := fz_of z9
    have f4 : W.frozen? ⟨b, 4, none⟩ = false := fz_of z9
    have f5 : W.frozen? ⟨b, 5, none⟩ = false := fz_of z9
    clear z9 y8 m8
    go_wp2_with fail
    go_meet
    exact ⟨b, bm, b1, b2, aX, cX, gX, aY, cY, gY, rfl, HF⟩
  case rest =>
   rename World => w6
   obtain ⟨b, bm, b1, b2, aX, cX, gX, aY, cY, gY, rfl, HP⟩ := hcut
   clear T1 T2 HFr
   have bxX := blk_on HW.out.1 HP.out.be
   have cx1 : w6.cell? ⟨w1.heap.size, 1, none⟩ = some (.int .i64 (m : Int)) := cell_of bxX rfl
   clear bxX
   go_upto_region 8 with fail
   clear cx1
   obtain ⟨W7, hW7⟩ : ∃ W7, w6.alloc (.cells #[.int .i64 0, .int .i64 (m : Int), .slice none 0 0, .slice none 0 0, .slice none 0 0] 25) = W7 := ⟨_, rfl⟩
   have H7 : Hid (Below w6.heap.size w6 W7 ∧ W7.heap[w6.heap.size]? = some (.cells #[.int .i64 0, .int .i64 (m : Int), .slice none 0 0, .slice none 0 0, .slice none 0 0] 25 (0, 0)) ∧ W7.heap.size = w6.heap.size + 1) := hide (by rw [← hW7]; exact ⟨(Below.refl _ _).alloc (Nat.le_refl _) _, World.alloc_heap_new _ _, by simp⟩)
   rw [hW7]
   clear hW7
   obtain ⟨D, hDe⟩ : ∃ D, W7.heap.size = D := ⟨_, rfl⟩
   have HB7 : Hid (Below W1.heap.size W1 W7) := hide (HP.out.be.trans (H7.out.1.mono HP.out.be.size))
   have HDD : Hid (b < D ∧ bm < D ∧ D ≤ W7.heap.size ∧ w6.heap.size < D ∧ W1.heap.size ≤ w6.heap.size ∧ w6.heap.size ≠ b ∧ w6.heap.size ≠ bm ∧ W1.heap.size ≤ b ∧ W1.heap.size ≤ bm) := hide (by
    have q1 := (Array.getElem?_eq_some_iff.1 HP.out.bx).1
    have q2 := HP.out.mo.lt
    have q3 := H7.out.2.2
    have q4 := HP.out.be.size
    have q5 := HP.out.lb
    have q6 := HP.out.lm
    omega)
   have HSS := hide (HP.out.ss H7.out.1 D)
   have HR1 : Hid (RwT (fun k => k < w6.heap.size ∧ k ≠ b ∧ k ≠ bm) W7 b1 W1.heap.size m (N * m) E1 aX cX gX) := hide (rwT_of HP.out.bx HP.out.mo H7.out.1 (Nat.le_refl _) HP.out.tw.h1 HP.out.tw.r1)
   have HR2 : Hid (RwT (fun k => k < w6.heap.size ∧ k ≠ b ∧ k ≠ bm) W7 b2 W1.heap.size m (M * m) E2 aY cY gY) := hide (rwT_of HP.out.bx HP.out.mo H7.out.1 (Nat.le_refl _) HP.out.tw.h2 HP.out.tw.r2)
   have HA1 : Hid (∀ W', KpT (fun k => k < D ∧ k ≠ b ∧ k ≠ bm) W7 W' → RdN W' (some ⟨g1, 0, none⟩) S1) := hide (fun W' k => own_rdN (row_kp (HX.out.on HB7.out).s k (fun i hi => by have := (HX.out.s.lt i hi).2; have := HDD.out; omega)))
   have HA2 : Hid (∀ W', KpT (fun k => k < D ∧ k ≠ b ∧ k ≠ bm) W7 W' → RdN W' (some ⟨r1, 0, none⟩) S2) := hide (fun W' k => own_rdN (row_kp (HY.out.on HB7.out).s k (fun i hi => by have := (HY.out.s.lt i hi).2; have := HDD.out; omega)))
   have HOK := hide (prsL_ok Hin.out.1 Hin.out.2.2.1)
   have TG := begin_any W7 D b bm (.func (.func 94) #[] #[.pointer (some ⟨b1, 0, none⟩), .pointer (some ⟨b2, 0, none⟩)]) bud (some ⟨g1, 0, none⟩) (some ⟨r1, 0, none⟩) k1 q1 S1 S2 HSS (hide ⟨HDD.out.1, HDD.out.2.1, HDD.out.2.2.1⟩) HA1 HA2 (hide (fun t ht => okPr_of hNM.1 hNM.2 (HOK.out t ht))) hl.out.1 hl.out.2.2.2.1
   have HC8 : Hid (∀ W, Only W7 W (fun k => k = b ∨ k = bm ∨ D ≤ k) → W.heap[w6.heap.size]? = some (.cells #[.int .i64 0, .int .i64 (m : Int), .slice none 0 0, .slice none 0 0, .slice none 0 0] 25 (0, 0))) := hide (fun W o => o.cellK H7.out.2.1 (by have := HDD.out; omega))
   have bxX := blk_on HW.out.1 HB7.out
   have bxY := blk_on HW.out.2.1 HB7.out
   have cx2 : W7.cell? ⟨w1.heap.size, 2, none⟩ = some (.slice (some ⟨g1, 0, none⟩) S1.length k1) := cell_of bxX rfl
   have cy2 : W7.cell? ⟨w1.heap.size + 1, 2, none⟩ = some (.slice (some ⟨r1, 0, none⟩) S2.length q1) := cell_of bxY rfl
   clear bxX bxY
   go_upto_region 9 with (go_at_call 90; refine TG.mono ?_; rintro e w8 ⟨av, nv, cv, er, rfl, HB⟩; have F8 := HC8.out w8 HB.out.on; have z2 : w8.cell? ⟨w6.heap.size, 2, none⟩ = some (.slice none 0 0) := cell_of F8 rfl; have f2 : w8.frozen? ⟨w6.heap.size, 2, none⟩ = false := fz_of F8; clear F8)
   clear TG cx2 cy2 z2 f2
   obtain ⟨W8, hW8⟩ : ∃ W8, w8.setCell ⟨w6.heap.size, 2, none⟩ (.slice av nv cv) = W8 := ⟨_, rfl⟩
   have H8 : Hid (Below w.heap.size w W8 ∧ W8.heap[w.heap.size + 1 + 1]? = some (.cells #[.int .i64 0, .int .i64 0, .slice none 0 0, .slice none 0 0, .slice none 0 0] 25 (0, 0)) ∧ W8.heap[w1.heap.size]? = some (.cells #[.int .i64 (N : Int), .int .i64 (m : Int), .slice (some ⟨g1, 0, none⟩) S1.length k1, .slice (some ⟨g2, 0, none⟩) F1.length k2, .slice (some ⟨g3, 0, none⟩) E1.length k3] 25 (0, 0)) ∧ W8.heap[w1.heap.size + 1]? = some (.cells #[.int .i64 (M : Int), .int .i64 (m : Int), .slice (some ⟨r1, 0, none⟩) S2.length q1, .slice (some ⟨r2, 0, none⟩) F2.length q2, .slice (some ⟨r3, 0, none⟩) E2.length q3] 25 (0, 0)) ∧ W8.heap[w6.heap.size]? = some (.cells #[.int .i64 0, .int .i64 (m : Int), .slice av nv cv, .slice none 0 0, .slice none 0 0] 25 (0, 0)) ∧ Below W1.heap.size W1 W8 ∧ Only w8 W8 (fun k => k = w6.heap.size)) := hide (by
    have o1 := HB.out.on
    have o2 := only_set w8 w6.heap.size 2 (.slice av nv cv)
    rw [hW8] at o2
    have s := heap_setCell_same w8 w6.heap.size 2 _ 25 (.slice av nv cv) (HC8.out w8 o1)
    rw [hW8] at s
    have l := HDD.out
    have d1 : Below W1.heap.size W1 w8 := HB7.out.trans (o1.toBelow HB7.out.size (fun k e => by omega))
    have d2 := d1.trans (o2.toBelow d1.size (fun k e => by omega))
    exact ⟨HW.out.2.2.2.2.trans (d2.mono HW.out.2.2.2.2.size), blk_on HW.out.2.2.1 d2, blk_on HW.out.1 d2, blk_on HW.out.2.1 d2, by simpa using s, d2, o2⟩)
   rw [hW8]
   clear hW8
   by_cases he : er = 0
   · subst he
     obtain ⟨vp, ps0, S0, HG0⟩ : ∃ vp ps ns, BgI W7 D b bm (.func (.func 94) #[] #[.pointer (some ⟨b1, 0, none⟩), .pointer (some ⟨b2, 0, none⟩)]) bud (prsL S1 S2) (prsL S1 S2).length (.slice av nv cv) vp ps ns w8 ∧ metF bud false [] (prsL S1 S2) [] = (0, ps, ns) := by
      rcases HB.out with ⟨q, _⟩ | ⟨_, q⟩
      · exact absurd rfl q
      · exact q
     have HG := hide HG0
     clear HG0 HB
     obtain rfl : nv = S0.length := by
      obtain ⟨_, _, q⟩ := own_slice HG.out.1.ow
      cases q
      rfl
     obtain ⟨kv, HKV0⟩ := start_blk (b := b) HG.out.1.ow HG.out.1.ss.po (by have := HDD.out; have := HG.out.1.on.size; omega) HDD.out.1
     have HKV := hide HKV0
     clear HKV0
     have HS8 : Hid (RnS W8 D b bm kv (.func (.func 94) #[] #[.pointer (some ⟨b1, 0, none⟩), .pointer (some ⟨b2, 0, none⟩)]) bud E1 E2 m N M ps0 0 0 vp (.slice none 0 0) (.slice none 0 0) ps0 [] 0 [] W8) := hide (by
      have l := HDD.out
      refine ⟨HG.out.1.ss.onlyR H8.out.2.2.2.2.2.2 (by omega) (by omega) (fun k hk e => by have := (HG.out.1.ss.po.lt k hk).1; omega) (fun k hk => by cases hk) (fun k hk => by cases hk), ⟨rfl, rfl, rfl, Nat.le_refl _, fun _ _ _ => rfl⟩, rnI_start HG.out.2 HOK.out, HG.out.1.pl, HKV.out.2.2, nil_own, nil_own⟩)
     have HK8 : Hid (KpT (fun k => k < w6.heap.size ∧ k ≠ b ∧ k ≠ bm) W7 W8) := hide ((KpT.ofOnly HG.out.1.on (fun k h1 h2 => by have := HDD.out; omega)).trans (KpT.ofOnly H8.out.2.2.2.2.2.2 (fun k h1 h2 => by omega)))
     have TR := run_any W8 D b bm kv b1 b2 W1.heap.size W1.heap.size m N M E1 E2 aX aY cX cY gX gY bud vp (.slice none 0 0) (.slice none 0 0) ps0 [] 0 [] HS8 (hide ⟨HDD.out.1, HDD.out.2.1, Nat.le_trans HDD.out.2.2.1 HK8.out.size⟩) (Nat.lt_of_lt_of_le HKV.out.1 H8.out.2.2.2.2.2.2.size) (hide ((HR1.out.kp HK8.out).weak (fun k h => by have := HDD.out; omega))) (hide ((HR2.out.kp HK8.out).weak (fun k h => by have := HDD.out; omega))) HQ
     have cx1 : W8.cell? ⟨w1.heap.size, 1, none⟩ = some (.int .i64 (m : Int)) := cell_of H8.out.2.2.1 rfl
     go_upto_region 12 with (go_at_call 91; refine TR.mono ?_; rintro e w9 ⟨er, rfl, HR⟩)
     clear TR cx1
     have HO9 : Hid (Only W8 w9 (fun k => k = b ∨ k = bm ∨ (D ≤ k ∧ k ≠ kv))) := hide (by
      rcases HR.out with ⟨_, q⟩ | ⟨_, _, _, _, _, _, _, _, q, _⟩
      · exact q
      · exact q.on)
     have H9 : Hid (Below w.heap.size w w9 ∧ w9.heap[w.heap.size + 1 + 1]? = some (.cells #[.int .i64 0, .int .i64 0, .slice none 0 0, .slice none 0 0, .slice none 0 0] 25 (0, 0)) ∧ w9.heap[w1.heap.size]? = some (.cells #[.int .i64 (N : Int), .int .i64 (m : Int), .slice (some ⟨g1, 0, none⟩) S1.length k1, .slice (some ⟨g2, 0, none⟩) F1.length k2, .slice (some ⟨g3, 0, none⟩) E1.length k3] 25 (0, 0)) ∧ w9.heap[w1.heap.size + 1]? = some (.cells #[.int .i64 (M : Int), .int .i64 (m : Int), .slice (some ⟨r1, 0, none⟩) S2.length q1, .slice (some ⟨r2, 0, none⟩) F2.length q2, .slice (some ⟨r3, 0, none⟩) E2.length q3] 25 (0, 0)) ∧ w9.heap[w6.heap.size]? = some (.cells #[.int .i64 0, .int .i64 (m : Int), .slice av S0.length cv, .slice none 0 0, .slice none 0 0] 25 (0, 0)) ∧ Below W1.heap.size W1 w9) := hide (by
      have l := HDD.out
      have d2 := H8.out.2.2.2.2.2.1
      have d3 : Below W1.heap.size W1 w9 := d2.trans (HO9.out.toBelow d2.size (fun k e => by omega))
      exact ⟨HW.out.2.2.2.2.trans (d3.mono HW.out.2.2.2.2.size), blk_on HW.out.2.2.1 d3, blk_on HW.out.1 d3, blk_on HW.out.2.1 d3, HO9.out.cellK H8.out.2.2.2.2.1 (by omega), d3⟩)
     by_cases he2 : er = 0
     · subst he2
       obtain ⟨vp9, ve9, vn9, ps, es, nn, xn, HS0, hes⟩ : ∃ vp ve vn ps es nn xn, RnS W8 D b bm kv (.func (.func 94) #[] #[.pointer (some ⟨b1, 0, none⟩), .pointer (some ⟨b2, 0, none⟩)]) bud E1 E2 m N M ps0 ps.length 0 vp ve vn ps es nn xn w9 ∧ es.length ≤ 65536 := by
        rcases HR.out with ⟨q, _⟩ | ⟨_, q⟩
        · exact absurd rfl q
        · exact q
       clear HR
       obtain ⟨ap, cp, hvp⟩ := own_slice HS0.ss.po
       obtain ⟨ae, ce, hve⟩ := own_slice HS0.ss.eo
       subst hvp
       subst hve
       have HS := hide (And.intro HS0 hes)
       clear HS0 hes
       have cc3 : w9.cell? ⟨b, 3, none⟩ = some (.slice ap ps.length cp) := cell_of HS.out.1.ss.bx rfl
       have cc4 : w9.cell? ⟨b, 4, none⟩ = some (.slice ae es.length ce) := cell_of HS.out.1.ss.bx rfl
       obtain ⟨z0, z1, z2, z3, z4⟩ := zd5 H9.out.2.2.2.2.1 rfl rfl rfl rfl rfl
       have f0 : w9.frozen? ⟨w6.heap.size, 0, none⟩ = false := fz_of H9.out.2.2.2.2.1
       have f1 : w9.frozen? ⟨w6.heap.size, 1, none⟩ = false := fz_of H9.out.2.2.2.2.1
       have f2 : w9.frozen? ⟨w6.heap.size, 2, none⟩ = false := fz_of H9.out.2.2.2.2.1
       have f3 : w9.frozen? ⟨w6.heap.size, 3, none⟩ = false := fz_of H9.out.2.2.2.2.1
       have f4 : w9.frozen? ⟨w6.heap.size, 4, none⟩ = false := fz_of H9.out.2.2.2.2.1
       go_upto_region 14 with fail
       go_cut [15] (fun v15 W => v15 = .pointer (some ⟨w6.heap.size, 0, none⟩) ∧ Hid (Only w9 W (fun k => k = w6.heap.size) ∧ W.heap[w6.heap.size]? = some (.cells #[.int .i64 (ps.length : Int), .int .i64 (m : Int), .slice av S0.length cv, .slice none 0 0, .slice ae es.length ce] 25 (0, 0))))
       case first =>
        go_region_with fail
        all_goals
         first | (go_wp2_with fail; go_meet) | go_meet
         exact ⟨rfl, hide (p14_of H9.out.2.2.2.2.1)⟩
       case rest =>
        rename World => W14
        obtain ⟨rfl, H14⟩ := hcut
        clear cc3 cc4 z0 z1 z2 z3 z4 f0 f1 f2 f3 f4
        have HX14 : Hid (W14.heap[w1.heap.size]? = some (.cells #[.int .i64 (N : Int), .int .i64 (m : Int), .slice (some ⟨g1, 0, none⟩) S1.length k1, .slice (some ⟨g2, 0, none⟩) F1.length k2, .slice (some ⟨g3, 0, none⟩) E1.length k3] 25 (0, 0)) ∧ W14.heap[w1.heap.size + 1]? = some (.cells #[.int .i64 (M : Int), .int .i64 (m : Int), .slice (some ⟨r1, 0, none⟩) S2.length q1, .slice (some ⟨r2, 0, none⟩) F2.length q2, .slice (some ⟨r3, 0, none⟩) E2.length q3] 25 (0, 0))) := hide (by
         have l := HDD.out
         have l1 := (Array.getElem?_eq_some_iff.1 HW.out.1).1
         have l2 := (Array.getElem?_eq_some_iff.1 HW.out.2.1).1
         exact ⟨H14.out.1.cellK H9.out.2.2.1 (by omega), H14.out.1.cellK H9.out.2.2.2.1 (by omega)⟩)
        have HB14 : Hid (Below W1.heap.size W1 W14) := hide (H9.out.2.2.2.2.2.trans (H14.out.1.toBelow H9.out.2.2.2.2.2.size (fun k e => by have := HDD.out; omega)))
        have HS14 : Hid (SS D W14 b bm (.func (.func 94) #[] #[.pointer (some ⟨b1, 0, none⟩), .pointer (some ⟨b2, 0, none⟩)]) bud (.slice ap ps.length cp) (.slice ae es.length ce) vn9 ps es nn xn) := hide (by
         have l := HDD.out
         exact HS.out.1.ss.onlyR H14.out.1 (by omega) (by omega) (fun k hk e => by have := (HS.out.1.ss.po.lt k hk).1; omega) (fun k hk e => by have := (HS.out.1.ss.eo.lt k hk).1; omega) (fun k hk e => by have := (HS.out.1.ss.no.lt k hk).1; omega))
        have HBD : Hid (∀ x ∈ ps, (0 ≤ x.1 ∧ x.1 < (N : Int)) ∧ 0 ≤ x.2 ∧ x.2 < (M : Int)) := hide (fun x hx => by
         obtain ⟨p, q, rfl, l1, l2⟩ := HS.out.1.rn.bd x hx
         simp only
         omega)
        have T3 := hide (fun (W : World) (d : Below W14.heap.size W14 W) => finals_any W N (m : Int) (some ⟨g1, 0, none⟩) (some ⟨g2, 0, none⟩) (some ⟨g3, 0, none⟩) k1 k2 k3 S1.length E1.length F1 (hide (own_rdN ((HX.out.on HB14.out).on d).f)) (hide Hin.out.2.1) (by have := hl.out; omega) (by omega))
        have T4 := hide (fun (W : World) (d : Below W14.heap.size W14 W) => finals_any W M (m : Int) (some ⟨r1, 0, none⟩) (some ⟨r2, 0, none⟩) (some ⟨r3, 0, none⟩) q1 q2 q3 S2.length E2.length F2 (hide (own_rdN ((HY.out.on HB14.out).on d).f)) (hide Hin.out.2.2.2) (by have := hl.out; omega) (by omega))
        have T5 := hide (fun (W : World) (d : Below W14.heap.size W14 W) (h1 h2 : Nat) (y1 : Mrw W h1 4 N (fun c => .bool (finB F1 c)) N) (y2 : Mrw W h2 4 M (fun c => .bool (finB F2 c)) M) => ending_any W D b bm (.func (.func 94) #[] #[.pointer (some ⟨b1, 0, none⟩), .pointer (some ⟨b2, 0, none⟩)]) bud (.slice ap ps.length cp) (.slice ae es.length ce) vn9 ps es nn xn h1 h2 N M (finB F1) (finB F2) (hide (HS14.out.on d)) (hide y1) (hide y2) HBD HS.out.1.pl)
        obtain ⟨Fn, hFn⟩ : ∃ Fn, enT (finB F1) (finB F2) ps ps.length = Fn := ⟨_, rfl⟩
        rw [hFn] at T5
        have HFn := hide hFn
        clear hFn
        go_upto_region 15 with fail
        go_cut [15] (fun v15 W => v15 = .pointer (some ⟨w6.heap.size, 0, none⟩) ∧ ∃ aF cF, Hid (Only w9 W (fun k => k = w6.heap.size) ∧ W.heap[w6.heap.size]? = some (.cells #[.int .i64 (ps.length : Int), .int .i64 (m : Int), .slice av S0.length cv, .slice aF Fn.length cF, .slice ae es.length ce] 25 (0, 0)) ∧ W.ownsRow W14.heap.size 3 1 (.slice aF Fn.length cF) Fn.length (Fn.map (Value.int .i64))))
        case first =>
         have hmo : MonIL 0 [vI 0 (.agg #[.int .i64 (N : Int), .int .i64 (m : Int), .slice (some ⟨g1, 0, none⟩) S1.length k1, .slice (some ⟨g2, 0, none⟩) F1.length k2, .slice (some ⟨g3, 0, none⟩) E1.length k3]), pI 1 (dFi (finB F1) N), vI 2 (.agg #[.int .i64 (M : Int), .int .i64 (m : Int), .slice (some ⟨r1, 0, none⟩) S2.length q1, .slice (some ⟨r2, 0, none⟩) F2.length q2, .slice (some ⟨r3, 0, none⟩) E2.length q3]), pI 3 (dFi (finB F2) M), pI 4 (dEn W14.heap.size Fn)] := ⟨vI_mono _ _, pI_mono dFi_mono, vI_mono _ _, pI_mono dFi_mono, pI_mono dEn_mono, trivial⟩
         refine wp_region_sl _ (by kernel_rfl) (by kernel_rfl) (by kernel_rfl) (by kernel_rfl) hmo ⟨?o0, ?o1, ?o2, ?o3, ?o4, trivial⟩ ?fin
         case o0 =>
          intro At yy W hy hb d hd K hK
          obtain ⟨s11, s11'⟩ := zsb (hb 11 rfl : _ = .pointer (some ⟨w1.heap.size, 0, none⟩))
          clear hd hy hb
          have bxX := blk_on HX14.out.1 d
          have bxY := blk_on HX14.out.2 d
          obtain ⟨cx0, cx1, cx2, cx3, cx4⟩ := zd5 bxX rfl rfl rfl rfl rfl
          obtain ⟨cy0, cy1, cy2, cy3, cy4⟩ := zd5 bxY rfl rfl rfl rfl rfl
          clear bxX bxY
          go_simp
          exact zkq hK hmo d (if_pos rfl)
         case o1 =>
          intro At yy W hy hb d hd K hK
          obtain ⟨s68, s68'⟩ := zsg 0 68 .data hy hd rfl
          clear hd hy hb
          go_simp
          go_wp2_with (go_at_call 93; refine (T3.out _ d).mono ?_; rintro e wa ⟨gf, rfl, hR, dR⟩)
          exact hK.out _ wa (stp_of hmo d dR) ⟨gf, if_pos rfl, hR.out.1⟩
         case o2 =>
          intro At yy W hy hb d hd K hK
          obtain ⟨s12, s12'⟩ := zsb (hb 12 rfl : _ = .pointer (some ⟨w1.heap.size + 1, 0, none⟩))
          clear hd hy hb
          have bxX := blk_on HX14.out.1 d
          have bxY := blk_on HX14.out.2 d
          obtain ⟨cx0, cx1, cx2, cx3, cx4⟩ := zd5 bxX rfl rfl rfl rfl rfl
          obtain ⟨cy0, cy1, cy2, cy3, cy4⟩ := zd5 bxY rfl rfl rfl rfl rfl
          clear bxX bxY
          go_simp
          exact zkq hK hmo d (if_pos rfl)
         case o3 =>
          intro At yy W hy hb d hd K hK
          obtain ⟨s70, s70'⟩ := zsg 2 70 .data hy hd rfl
          clear hd hy hb
          go_simp
          go_wp2_with (go_at_call 93; refine (T4.out _ d).mono ?_; rintro e wa ⟨gf, rfl, hR, dR⟩)
          exact hK.out _ wa (stp_of hmo d dR) ⟨gf, if_pos rfl, hR.out.1⟩
         case o4 =>
          intro At yy W hy hb d hd K hK
          have f1 := hd ⟨1, .data⟩ (by simp) rfl rfl
          have f3 := hd ⟨3, .data⟩ (by simp) rfl rfl
          obtain ⟨_, _, _, _, h1, e1, y1⟩ := f1
          obtain ⟨_, _, _, _, h2, e3, y3⟩ := f3
          obtain ⟨s14, s14'⟩ := zsb (hb 14 rfl : _ = .pointer (some ⟨b, 0, none⟩))
          obtain ⟨s69, s69'⟩ := zsb ((hy 1 _ 69 rfl rfl).trans e1)
          obtain ⟨s71, s71'⟩ := zsb ((hy 3 _ 71 rfl rfl).trans e3)
          clear hd hy hb
          go_simp
          go_wp2_with (go_at_call 92; refine (T5.out _ d h1 h2 y1 y3).mono ?_; rintro e wa ⟨v', rfl, hR⟩; obtain ⟨aF, cF, rfl⟩ := own_slice hR.out.1)
          exact hK.out _ wa (stp_of hmo d hR.out.2) ⟨aF, cF, if_pos rfl, owns_down hR.out.1 d.size⟩
         case fin =>
          intro yy lo hi W hM
          show wpList _ _ _ [_, _] _ _
          have e0 := hM.v 0 (by simp) rfl rfl rfl
          have e2 := hM.v 2 (by simp) rfl rfl rfl
          obtain ⟨aF, cF, e4, y4⟩ := hM.fact 4 (by simp) rfl (notR_all 4 rfl)
          obtain ⟨_, e1, _⟩ := hM.fact 1 (by simp) rfl (notR_all 1 rfl)
          obtain ⟨_, e3, _⟩ := hM.fact 3 (by simp) rfl (notR_all 3 rfl)
          have HDD := hide hM.d
          simp only [fills, Act.put, List.take, List.length, List.setIfInBounds_toArray, List.set_cons_zero, List.set_cons_succ, e0, e2, e1, e3, e4]
          clear hM hmo e0 e2 e1 e3 e4
          have z9 := blk_on H14.out.2 HDD.out
          have HF := hide (p15_of HDD.out z9 y4 H14.out.1)
          have z3 : W.cell? ⟨w6.heap.size, 3, none⟩ = some (.slice none 0 0) := cell_of z9 rfl
          have f3 : W.frozen? ⟨w6.heap.size, 3, none⟩ = false := fz_of z9
          clear z9 y4
          go_wp2_with fail
          go_meet
          exact ⟨rfl, aF, cF, HF⟩
        case rest =>
         rename World => W15
         obtain ⟨rfl, aF, cF, H15⟩ := hcut
         clear T3 T4 T5
         have l := HDD.out
         have s3 := HW.out.2.2.2.1
         have cc3 : W15.cell? ⟨b, 3, none⟩ = some (.slice ap ps.length cp) := cell_of (H15.out.1.cellK HS.out.1.ss.bx (by omega)) rfl
         obtain ⟨z0, z1, z2, z3, z4⟩ := zd5 H15.out.2.1 rfl rfl rfl rfl rfl
         have F4 := H15.out.1.cellK H9.out.2.1 (show ¬ w.heap.size + 1 + 1 = w6.heap.size by omega)
         obtain ⟨o0, o1, o2, o3, o4⟩ := zd5 F4 rfl rfl rfl rfl rfl
         have fz0 : W15.frozen? ⟨w.heap.size + 1 + 1, 0, none⟩ = false := fz_of F4
         have fz1 : W15.frozen? ⟨w.heap.size + 1 + 1, 1, none⟩ = false := fz_of F4
         have fz2 : W15.frozen? ⟨w.heap.size + 1 + 1, 2, none⟩ = false := fz_of F4
         have fz3 : W15.frozen? ⟨w.heap.size + 1 + 1, 3, none⟩ = false := fz_of F4
         have fz4 : W15.frozen? ⟨w.heap.size + 1 + 1, 4, none⟩ = false := fz_of F4
         have O6 := hide (And.intro (set5 W15 (w.heap.size + 1 + 1) _ _ _ _ _ (.int .i64 (ps.length : Int)) (.int .i64 (m : Int)) (.slice av S0.length cv) (.slice aF Fn.length cF) (.slice ae es.length ce) 25 F4) (only5 W15 (w.heap.size + 1 + 1) (.int .i64 (ps.length : Int)) (.int .i64 (m : Int)) (.slice av S0.length cv) (.slice aF Fn.length cF) (.slice ae es.length ce)))
         have HF4 := hide F4
         clear F4
         have HRES : Hid (S0.length ≤ 4096 ∧ Fn.length ≤ 4096 ∧ es.length ≤ 65536 ∧ MeetR m N M S1 F1 E1 S2 F2 E2 ps S0 Fn es) := hide (by
          have q : MeetR m N M S1 F1 E1 S2 F2 E2 ps S0 (enT (finB F1) (finB F2) ps ps.length) es := meetR_of HG.out.2 HS.out.1.rn HS.out.2 HS.out.1.pl
          rw [HFn.out] at q
          have e1 := nodup_le HND.out q.sin
          have e2 := HG.out.1.le
          have e3 := HS.out.1.pl
          refine ⟨by omega, ?_, HS.out.2, q⟩
          rw [← HFn.out]
          exact Nat.le_trans (enT_len _ _ _ _) e3)
         have HFIN : Hid (∀ W', Only W15 W' (fun k => k = w.heap.size + 1 + 1) → OwnO w.heap.size W' (.slice av S0.length cv) (.slice aF Fn.length cF) (.slice ae es.length ce) S0 Fn es ∧ Below w.heap.size w W') := hide (fun W' o => by
          have e7 := hDe
          have e8 := HB7.out.size
          have e9 := H14.out.1.size
          have ea := HO9.out.size
          have ec := HG.out.1.on.size
          have eb := H8.out.2.2.2.2.2.2.size
          have lt1 := fun k hk => HG.out.1.ow.lt k hk
          have r1 := row_only HG.out.1.ow H8.out.2.2.2.2.2.2 (fun k hk e => by have := (lt1 k hk).1; omega)
          have r2 := row_only r1 HO9.out (fun k hk e => by have := (lt1 k hk).1; have := HKV.out.2.1 k hk; omega)
          have r3 := row_only r2 H15.out.1 (fun k hk e => by have := (lt1 k hk).1; omega)
          have r4 := row_only r3 o (fun k hk e => by have := (lt1 k hk).1; omega)
          have f4 := row_only H15.out.2.2 o (fun k hk e => by have := (H15.out.2.2.lt k hk).1; omega)
          have g3 := row_only HS.out.1.ss.eo H15.out.1 (fun k hk e => by have := (HS.out.1.ss.eo.lt k hk).1; omega)
          have g4 := row_only g3 o (fun k hk e => by have := (g3.lt k hk).1; omega)
          refine ⟨⟨owns_down r4 (by omega), owns_down f4 (by omega), owns_down g4 (by omega), fun g hg hh => ?_⟩, (H9.out.1.trans (H15.out.1.toBelow H9.out.1.size (fun k e => by omega))).trans (o.toBelow (by have := H9.out.1.size; have := H15.out.1.size; omega) (fun k e => by omega))⟩
          have u1 := (HG.out.1.ow.lt g hg).2
          have u2 := (H15.out.2.2.lt g hh).1
          omega)
         go_upto_region 16 with fail
         go_region_with fail
         all_goals
          go_wp2_with fail
          refine bodyPost_ret (results_c3 (p := 8) (q := 9) (r := 10) (ty := 25) rfl _ _ (w.heap.size + 1 + 1) 25 _ (0, 0) _ _ _ rfl rfl rfl O6.out.1 Tryz.underlying25 rfl (by kernel_rfl)) rfl ?_
          have q := HFIN.out _ (only_drew O6.out.2)
          exact ⟨(ps.length : Int), (m : Int), 0, ps, S0, Fn, es, av, cv, aF, cF, ae, ce, ap, cp, rfl, hide ⟨q.1, .inr ⟨rfl, rfl, rfl, HRES.out⟩⟩, q.2⟩
     · have F4 := H9.out.2.1
       obtain ⟨o0, o1, o2, o3, o4⟩ := zd5 F4 rfl rfl rfl rfl rfl
       have fz0 : w9.frozen? ⟨w.heap.size + 1 + 1, 0, none⟩ = false := fz_of F4
       have fz1 : w9.frozen? ⟨w.heap.size + 1 + 1, 1, none⟩ = false := fz_of F4
       have fz2 : w9.frozen? ⟨w.heap.size + 1 + 1, 2, none⟩ = false := fz_of F4
       have fz3 : w9.frozen? ⟨w.heap.size + 1 + 1, 3, none⟩ = false := fz_of F4
       have fz4 : w9.frozen? ⟨w.heap.size + 1 + 1, 4, none⟩ = false := fz_of F4
       have O6 := hide (And.intro (set5 w9 (w.heap.size + 1 + 1) _ _ _ _ _ (.int .i64 0) (.int .i64 0) (.slice none 0 0) (.slice none 0 0) (.slice none 0 0) 25 F4) (only5 w9 (w.heap.size + 1 + 1) (.int .i64 0) (.int .i64 0) (.slice none 0 0) (.slice none 0 0) (.slice none 0 0)))
       clear F4
       go_wp2_with fail
       refine bodyPost_ret (results_c3 (p := 8) (q := 9) (r := 10) (ty := 25) rfl _ _ (w.heap.size + 1 + 1) 25 _ (0, 0) _ _ _ rfl rfl rfl O6.out.1 Tryz.underlying25 rfl (by kernel_rfl)) rfl ?_
       have s2 := HW.out.2.2.2.1
       have s3 := H9.out.1.size
       exact meO_bad he2 rfl (H9.out.1.trans (O6.out.2.toBelow (by omega) (fun k hk => by omega)))
   · clear HB
     have F4 := H8.out.2.1
     obtain ⟨o0, o1, o2, o3, o4⟩ := zd5 F4 rfl rfl rfl rfl rfl
     have fz0 : W8.frozen? ⟨w.heap.size + 1 + 1, 0, none⟩ = false := fz_of F4
     have fz1 : W8.frozen? ⟨w.heap.size + 1 + 1, 1, none⟩ = false := fz_of F4
     have fz2 : W8.frozen? ⟨w.heap.size + 1 + 1, 2, none⟩ = false := fz_of F4
     have fz3 : W8.frozen? ⟨w.heap.size + 1 + 1, 3, none⟩ = false := fz_of F4
     have fz4 : W8.frozen? ⟨w.heap.size + 1 + 1, 4, none⟩ = false := fz_of F4
     have O6 := hide (And.intro (set5 W8 (w.heap.size + 1 + 1) _ _ _ _ _ (.int .i64 0) (.int .i64 0) (.slice none 0 0) (.slice none 0 0) (.slice none 0 0) 25 F4) (only5 W8 (w.heap.size + 1 + 1) (.int .i64 0) (.int .i64 0) (.slice none 0 0) (.slice none 0 0) (.slice none 0 0)))
     clear F4
     go_wp2_with fail
     refine bodyPost_ret (results_c3 (p := 8) (q := 9) (r := 10) (ty := 25) rfl _ _ (w.heap.size + 1 + 1) 25 _ (0, 0) _ _ _ rfl rfl rfl O6.out.1 Tryz.underlying25 rfl (by kernel_rfl)) rfl ?_
     have s2 := HW.out.2.2.2.1
     have s3 := H8.out.1.size
     exact meO_bad he rfl (H8.out.1.trans (O6.out.2.toBelow (by omega) (fun k hk => by omega)))
def MetQ (n m n' m' : Int) (Sa Fa : List Int) (Ea : List EdT) (Sb Fb : List Int) (Eb : List EdT) (ps : List PrT) (S F : List Int) (E : List EdT) : Prop := mayA n m Sa Fa Ea = true ∧ mayA n' m' Sb Fb Eb = true ∧ m = m' ∧ MeetR m.toNat n.toNat n'.toNat (riseL Sa) (riseL Fa) (riseE Ea) (riseL Sb) (riseL Fb) (riseE Eb) ps S F E
theorem meO_mono {w : World} {R R' : List PrT → List Int → List Int → List EdT → Prop} {m : Int} (h : ∀ ps S F E, R ps S F E → R' ps S F E) {e : Ending} {w' : World} (q : MeO w R m e w') : MeO w R' m e w' := by
 obtain ⟨n, mm, er, ps, S, F, E, x1, y1, x2, y2, x3, y3, xp, yp, he, hq, d⟩ := q
 refine ⟨n, mm, er, ps, S, F, E, x1, y1, x2, y2, x3, y3, xp, yp, he, hide ⟨hq.out.1, ?_⟩, d⟩
 rcases hq.out.2 with h0 | ⟨h0, h1, h2, h3, h4, h5, h6⟩
 · exact .inl h0
 · exact .inr ⟨h0, h1, h2, h3, h4, h5, h _ _ _ _ h6⟩
theorem paired_any (w : World) (n m n' m' bud0 : Int) (a1 a2 a3 b1 b2 b3 : Option Addr) (c1 c2 c3 d1 d2 d3 : Nat) (Sa Fa Sb Fb : List Int) (Ea Eb : List EdT) (hA : Hid (RdA w a1 a2 a3 Sa Fa Ea)) (hB : Hid (RdA w b1 b2 b3 Sb Fb Eb)) (h1 : Sa.length ≤ 2000000) (h2 : Fa.length ≤ 2000000) (h3 : Ea.length ≤ 2000000) (h4 : Sb.length ≤ 2000000) (h5 : Fb.length ≤ 2000000) (h6 : Eb.length ≤ 2000000) : Calls Tryz.prog 57 #[.agg #[.int .i64 n, .int .i64 m, .slice a1 Sa.length c1, .slice a2 Fa.length c2, .slice a3 Ea.length c3], .agg #[.int .i64 n', .int .i64 m', .slice b1 Sb.length d1, .slice b2 Fb.length d2, .slice b3 Eb.length d3], .int .i64 bud0, .func (.func 58) #[] #[]] w (MeO w (MetQ n m n' m' Sa Fa Ea Sb Fb Eb) m) := by
 cases em : mayA n m Sa Fa Ea with
 | false => exact paired_a w n m n' m' bud0 a1 a2 a3 b1 b2 b3 c1 c2 c3 d1 d2 d3 Sa Fa Sb Fb Ea Eb hA hB h1 h2 h3 h4 h5 h6 _ em
 | true =>
  cases em' : mayA n' m' Sb Fb Eb with
  | false => exact paired_b w n m n' m' bud0 a1 a2 a3 b1 b2 b3 c1 c2 c3 d1 d2 d3 Sa Fa Sb Fb Ea Eb hA hB h1 h2 h3 h4 h5 h6 _ em em'
  | true =>
   by_cases hm : m = m'
   · subst hm
     obtain ⟨N, rfl⟩ := Int.eq_ofNat_of_zero_le (show 0 ≤ n by have := (may_parts em).1; omega)
     obtain ⟨M, rfl⟩ := Int.eq_ofNat_of_zero_le (show 0 ≤ n' by have := (may_parts em').1; omega)
     obtain ⟨k, rfl⟩ := Int.eq_ofNat_of_zero_le (show 0 ≤ m by have := (may_parts em).2.1; omega)
     exact (paired_ok w N M k bud0 a1 a2 a3 b1 b2 b3 c1 c2 c3 d1 d2 d3 Sa Fa Sb Fb Ea Eb hA hB h1 h2 h3 h4 h5 h6 em em').mono (fun e w' q => meO_mono (fun ps S F E q => ⟨em, em', rfl, q⟩) q)
   · exact paired_m w n m n' m' bud0 a1 a2 a3 b1 b2 b3 c1 c2 c3 d1 d2 d3 Sa Fa Sb Fb Ea Eb hA hB h1 h2 h3 h4 h5 h6 _ em em' hm
theorem meet_any (w : World) (n m n' m' bud0 : Int) (a1 a2 a3 b1 b2 b3 : Option Addr) (c1 c2 c3 d1 d2 d3 : Nat) (Sa Fa Sb Fb : List Int) (Ea Eb : List EdT) (hA : Hid (RdA w a1 a2 a3 Sa Fa Ea)) (hB : Hid (RdA w b1 b2 b3 Sb Fb Eb)) (h1 : Sa.length ≤ 2000000) (h2 : Fa.length ≤ 2000000) (h3 : Ea.length ≤ 2000000) (h4 : Sb.length ≤ 2000000) (h5 : Fb.length ≤ 2000000) (h6 : Eb.length ≤ 2000000) : Calls Tryz.prog 23 #[.agg #[.int .i64 n, .int .i64 m, .slice a1 Sa.length c1, .slice a2 Fa.length c2, .slice a3 Ea.length c3], .agg #[.int .i64 n', .int .i64 m', .slice b1 Sb.length d1, .slice b2 Fb.length d2, .slice b3 Eb.length d3], .int .i64 bud0] w (MeO w (MetQ n m n' m' Sa Fa Ea Sb Fb Eb) m) := by
 obtain ⟨W0, hW0⟩ : ∃ W0, ((w.alloc (.cells #[.int .i64 n, .int .i64 m, .slice a1 Sa.length c1, .slice a2 Fa.length c2, .slice a3 Ea.length c3] 25)).alloc (.cells #[.int .i64 n', .int .i64 m', .slice b1 Sb.length d1, .slice b2 Fb.length d2, .slice b3 Eb.length d3] 25)).alloc (.cells #[.int .i64 0, .int .i64 0, .slice none 0 0, .slice none 0 0, .slice none 0 0] 25) = W0 := ⟨_, rfl⟩
 have HD := hide (box3b w #[.int .i64 n, .int .i64 m, .slice a1 Sa.length c1, .slice a2 Fa.length c2, .slice a3 Ea.length c3] #[.int .i64 n', .int .i64 m', .slice b1 Sb.length d1, .slice b2 Fb.length d2, .slice b3 Eb.length d3] #[.int .i64 0, .int .i64 0, .slice none 0 0, .slice none 0 0, .slice none 0 0] 25)
 rw [hW0] at HD
 have TB := paired_any W0 n m n' m' bud0 a1 a2 a3 b1 b2 b3 c1 c2 c3 d1 d2 d3 Sa Fa Sb Fb Ea Eb (hide (hA.out.on HD.out.1)) (hide (hB.out.on HD.out.1)) h1 h2 h3 h4 h5 h6
 have HS := hide HD.out.2.2.2.2
 obtain ⟨y0, y1, y2, y3, y4⟩ := zd5 HD.out.2.1 rfl rfl rfl rfl rfl
 obtain ⟨x0, x1, x2, x3, x4⟩ := zd5 HD.out.2.2.1 rfl rfl rfl rfl rfl
 go_enter Tryz.func23, Tryz.ntmps23
 go_wp2_with (go_at_call 57; refine TB.mono ?_; rintro e w1 ⟨n9, m9, er, ps, S, F, E, x1, y1, x2, y2, x3, y3, xp, yp, rfl, H1, D1⟩; have F4 := blk_on HD.out.2.2.2.1 D1; have HD1 := hide D1; obtain ⟨o0, o1, o2, o3, o4⟩ := zd5 F4 rfl rfl rfl rfl rfl; have fz0 : w1.frozen? ⟨w.heap.size + 1 + 1, 0, none⟩ = false := fz_of F4; have fz1 : w1.frozen? ⟨w.heap.size + 1 + 1, 1, none⟩ = false := fz_of F4; have fz2 : w1.frozen? ⟨w.heap.size + 1 + 1, 2, none⟩ = false := fz_of F4; have fz3 : w1.frozen? ⟨w.heap.size + 1 + 1, 3, none⟩ = false := fz_of F4; have fz4 : w1.frozen? ⟨w.heap.size + 1 + 1, 4, none⟩ = false := fz_of F4; have HF4 := hide F4; clear F4 D1)
 have O6 := hide (And.intro (set5 w1 (w.heap.size + 1 + 1) _ _ _ _ _ (.int .i64 n9) (.int .i64 m9) (.slice x1 S.length y1) (.slice x2 F.length y2) (.slice x3 E.length y3) 25 HF4.out) (only5 w1 (w.heap.size + 1 + 1) (.int .i64 n9) (.int .i64 m9) (.slice x1 S.length y1) (.slice x2 F.length y2) (.slice x3 E.length y3)))
 refine bodyPost_ret (results_c3 (p := 6) (q := 7) (r := 8) (ty := 25) rfl _ _ (w.heap.size + 1 + 1) 25 _ (0, 0) _ _ _ rfl rfl rfl O6.out.1 Tryz.underlying25 rfl (by kernel_rfl)) rfl ?_
 have s := HS.out
 exact ⟨n9, m9, er, ps, S, F, E, x1, y1, x2, y2, x3, y3, xp, yp, rfl, hide ⟨(H1.out.1.keep HF4.out O6.out.2).down (by omega), H1.out.2⟩, (HD.out.1.trans (HD1.out.mono HD.out.1.size)).trans (O6.out.2.toBelow (by have := HD1.out.size; omega) (fun k hk => by omega))⟩
end Go.Proofs.YtchoopnjckcohaaGreatDoor
namespace Go.Proofs.YtchoopnjckcohaaGreatDoor
open Go.RowKit Go.Maps
theorem aftL_iff {Ed : List EdT} : ∀ (Wd S : List Int) (x : Int), x ∈ aftL Ed S Wd ↔ ∃ p ∈ S, Rch Ed Wd p x
 | [], S, x => ⟨fun h => ⟨x, h, rfl⟩, fun ⟨p, h, e⟩ => by cases e; exact h⟩
 | y :: W, S, x => by
  show x ∈ aftL Ed (riseL (imgL false Ed S y)) W ↔ _
  rw [aftL_iff W]
  constructor
  · rintro ⟨p, hp, h⟩
    obtain ⟨e, he, rfl, hs, rfl⟩ := imgL_iff.1 ((riseL_iff _ p).1 hp)
    exact ⟨e.1, hs, e.2.2, he, h⟩
  · rintro ⟨p, hp, r, he, h⟩
    exact ⟨r, (riseL_iff _ r).2 (imgL_iff.2 ⟨(p, y, r), he, rfl, hp, rfl⟩), h⟩
theorem tkF_iff {n m : Int} {St Fi : List Int} {Ed : List EdT} {Wd : List Int} : tkF n m St Fi Ed Wd = true ↔ mayA n m St Fi Ed = true ∧ Wd.all (inB m) = true ∧ Tak St Fi Ed Wd := by
 unfold tkF accA aftA
 by_cases e : wordErr n m St Fi Ed Wd = 0
 · rw [if_pos e]
   obtain ⟨h1, h2⟩ := wordErr_zero e
   simp only [decide_true, Bool.and_true, List.any_eq_true, decide_eq_true_eq]
   constructor
   · rintro ⟨x, hx, hf⟩
     obtain ⟨p, hp, hr⟩ := (aftL_iff Wd _ x).1 hx
     exact ⟨h1, h2, p, (riseL_iff St p).1 hp, x, hf, hr⟩
   · rintro ⟨_, _, p, hp, q, hq, hr⟩
     exact ⟨q, (aftL_iff Wd _ q).2 ⟨p, (riseL_iff St p).2 hp, hr⟩, hq⟩
 · rw [if_neg e]
   simp only [List.any_nil, Bool.false_and]
   exact ⟨fun h => (by cases h), fun ⟨h1, h2, _⟩ => absurd (wordErr_iff.2 ⟨h1, h2⟩) e⟩
open Go.Shelf
theorem idx_self {ps : List PrT} (h : ps.Nodup) {a : Nat} {x : PrT} (ha : ps[a]? = some x) : ps.idxOf x = a := by
 obtain ⟨hl, rfl⟩ := List.getElem?_eq_some_iff.1 ha
 have hm : ps[a] ∈ ps := List.getElem_mem hl
 have h1 := List.idxOf_lt_length_of_mem hm
 have h2 := List.getElem_idxOf h1
 exact (List.getElem_inj h).1 h2
theorem idx_of {ps : List PrT} {y : PrT} (h : y ∈ ps) : ps[ps.idxOf y]? = some y := by
 have h1 := List.idxOf_lt_length_of_mem h
 rw [List.getElem?_eq_getElem h1, List.getElem_idxOf h1]
theorem rch_meet {m N M : Nat} {S1 F1 : List Int} {E1 : List EdT} {S2 F2 : List Int} {E2 : List EdT} {ps : List PrT} {S F : List Int} {E : List EdT} (h : MeetR m N M S1 F1 E1 S2 F2 E2 ps S F E) : ∀ (W : List Int) (a : Nat) (x : PrT) (q : Int), (∀ s ∈ W, 0 ≤ s ∧ s < (m : Int)) → ps[a]? = some x → (Rch E W (a : Int) q ↔ ∃ y, y ∈ ps ∧ q = (ps.idxOf y : Int) ∧ Rch E1 W x.1 y.1 ∧ Rch E2 W x.2 y.2)
 | [], a, x, q, _, ha => by
  simp only [Rch]
  constructor
  · rintro rfl
    exact ⟨x, List.mem_of_getElem? ha, by rw [idx_self h.nd ha], rfl, rfl⟩
  · rintro ⟨y, hy, rfl, e1, e2⟩
    obtain rfl : x = y := Prod.ext e1 e2
    rw [idx_self h.nd ha]
 | s :: W, a, x, q, hW, ha => by
  have hW2 : ∀ s ∈ W, 0 ≤ s ∧ s < (m : Int) := fun y hy => hW y (by simp [hy])
  obtain ⟨s0, s1⟩ := hW s (by simp)
  obtain ⟨c, rfl⟩ := Int.eq_ofNat_of_zero_le s0
  simp only [Rch]
  constructor
  · rintro ⟨r, hr, hR⟩
    obtain ⟨a', c', x', y', e1, e2, e3, e4⟩ := (h.ed _).1 hr
    simp only [Prod.mk.injEq] at e4
    obtain ⟨e5, e6, rfl⟩ := e4
    obtain rfl : a' = a := by omega
    obtain rfl : c' = c := by omega
    rw [ha] at e1
    cases e1
    have hy := h.cl _ _ _ _ ha e2 e3
    obtain ⟨y, q1, q2, q3, q4⟩ := (rch_meet h W _ y' q hW2 (idx_of hy)).1 hR
    exact ⟨y, q1, q2, ⟨y'.1, e3.1, q3⟩, ⟨y'.2, e3.2, q4⟩⟩
  · rintro ⟨y, q1, q2, ⟨r1, h1, h2⟩, ⟨r2, h3, h4⟩⟩
    have e3 : stp E1 E2 x c (r1, r2) := ⟨h1, h3⟩
    have hc : c < m := by omega
    have hy := h.cl _ _ _ _ ha hc e3
    exact ⟨_, (h.ed _).2 ⟨a, c, x, (r1, r2), ha, hc, e3, rfl⟩, (rch_meet h W _ (r1, r2) q hW2 (idx_of hy)).2 ⟨y, q1, q2, h2, h4⟩⟩
theorem mem_prsL {X Y : List Int} {t : PrT} : t ∈ prsL X Y ↔ t.1 ∈ X ∧ t.2 ∈ Y := by
 unfold prsL
 rw [List.mem_flatMap]
 constructor
 · rintro ⟨a, ha, h⟩
   obtain ⟨b, hb, rfl⟩ := List.mem_map.1 h
   exact ⟨ha, hb⟩
 · rintro ⟨h1, h2⟩
   exact ⟨t.1, h1, List.mem_map.2 ⟨t.2, h2, rfl⟩⟩
theorem mem_enT {f1 f2 : Nat → Bool} {ps : List PrT} {q : Int} : q ∈ enT f1 f2 ps ps.length ↔ ∃ (j : Nat) (x : PrT), ps[j]? = some x ∧ enP f1 f2 x = true ∧ q = (j : Int) := by
 unfold enT
 simp only [List.mem_map, List.mem_filter, List.mem_range]
 constructor
 · rintro ⟨j, ⟨hj, h⟩, rfl⟩
   rw [List.getElem?_eq_getElem hj] at h
   exact ⟨j, ps[j], List.getElem?_eq_getElem hj, by simpa using h, rfl⟩
 · rintro ⟨j, x, h1, h2, rfl⟩
   have hj := (List.getElem?_eq_some_iff.1 h1).1
   exact ⟨j, ⟨hj, by rw [h1]; simpa using h2⟩, rfl⟩
theorem may_meet {m N M : Nat} {S1 F1 : List Int} {E1 : List EdT} {S2 F2 : List Int} {E2 : List EdT} {ps : List PrT} {S F : List Int} {E : List EdT} (h : MeetR m N M S1 F1 E1 S2 F2 E2 ps S F E) (hm : m ≤ 128) (hE : E.length ≤ 65536) : mayA (ps.length : Int) (m : Int) S F E = true := by
 have hl := h.len
 refine may_of (by omega) (by omega) hE (fun x hx => ?_) (fun x hx => ?_) (fun e he => ?_)
 · obtain ⟨t, ht, rfl⟩ := (h.st x).1 hx
   have := List.idxOf_lt_length_of_mem (h.sin t ht)
   omega
 · rw [h.fi, mem_enT] at hx
   obtain ⟨j, y, h1, _, rfl⟩ := hx
   have := (List.getElem?_eq_some_iff.1 h1).1
   omega
 · obtain ⟨a, c, x, y, h1, h2, h3, rfl⟩ := (h.ed e).1 he
   have q1 := (List.getElem?_eq_some_iff.1 h1).1
   have q2 := List.idxOf_lt_length_of_mem (h.cl _ _ _ _ h1 h2 h3)
   simp only
   omega
theorem all_rng {m : Int} {L : List Int} : L.all (inB m) = true ↔ ∀ x ∈ L, 0 ≤ x ∧ x < m := by
 rw [List.all_eq_true]
 exact forall_congr' fun x => forall_congr' fun _ => inB_iff
theorem rch_rise {E : List EdT} (W : List Int) (p q : Int) : Rch (riseE E) W p q ↔ Rch E W p q := rch_same (fun e => riseE_iff E e) W p q
theorem tak_meet {m N M : Nat} {S1 F1 : List Int} {E1 : List EdT} {S2 F2 : List Int} {E2 : List EdT} {ps : List PrT} {S F : List Int} {E : List EdT} (h : MeetR m N M S1 F1 E1 S2 F2 E2 ps S F E) {W : List Int} (hW : ∀ s ∈ W, 0 ≤ s ∧ s < (m : Int)) : Tak S F E W ↔ Tak S1 F1 E1 W ∧ Tak S2 F2 E2 W := by
 have fin : ∀ y ∈ ps, enP (finB F1) (finB F2) y = true ↔ y.1 ∈ F1 ∧ y.2 ∈ F2 := by
  intro y hy
  obtain ⟨p, q, rfl, _, _⟩ := h.bd y hy
  simp [enP, finB]
 unfold Tak
 constructor
 · rintro ⟨p, hp, q, hq, hr⟩
   obtain ⟨t, ht, rfl⟩ := (h.st p).1 hp
   have ht2 := mem_prsL.1 ht
   obtain ⟨y, hy, rfl, r1, r2⟩ := (rch_meet h W _ t q hW (idx_of (h.sin t ht))).1 hr
   rw [h.fi, mem_enT] at hq
   obtain ⟨j, x, h1, h2, h3⟩ := hq
   have e1 := idx_of hy
   rw [show ps.idxOf y = j by omega, h1] at e1
   have e2 := Option.some.inj e1
   rw [e2] at h2
   obtain ⟨f1, f2⟩ := (fin y hy).1 h2
   exact ⟨⟨t.1, ht2.1, y.1, f1, r1⟩, ⟨t.2, ht2.2, y.2, f2, r2⟩⟩
 · rintro ⟨⟨p1, hp1, q1, hq1, r1⟩, ⟨p2, hp2, q2, hq2, r2⟩⟩
   have ht : (p1, p2) ∈ prsL S1 S2 := mem_prsL.2 ⟨hp1, hp2⟩
   have step : ∀ (W : List Int) (x : PrT), x ∈ ps → (∀ s ∈ W, 0 ≤ s ∧ s < (m : Int)) → ∀ y : PrT, Rch E1 W x.1 y.1 → Rch E2 W x.2 y.2 → y ∈ ps := by
    intro W
    induction W with
    | nil => intro x hx _ y e1 e2; obtain rfl : x = y := Prod.ext e1 e2; exact hx
    | cons s W ih =>
     intro x hx hs y ⟨u1, a1, b1⟩ ⟨u2, a2, b2⟩
     obtain ⟨s0, s1⟩ := hs s (by simp)
     obtain ⟨c, rfl⟩ := Int.eq_ofNat_of_zero_le s0
     exact ih (u1, u2) (h.cl _ c _ (u1, u2) (idx_of hx) (by omega) ⟨a1, a2⟩) (fun z hz => hs z (by simp [hz])) y b1 b2
   have hy := step W (p1, p2) (h.sin _ ht) hW (q1, q2) r1 r2
   refine ⟨_, (h.st _).2 ⟨_, ht, rfl⟩, (ps.idxOf (q1, q2) : Int), ?_, (rch_meet h W _ (p1, p2) _ hW (idx_of (h.sin _ ht))).2 ⟨(q1, q2), hy, rfl, r1, r2⟩⟩
   rw [h.fi, mem_enT]
   exact ⟨_, _, idx_of hy, (fin _ hy).2 ⟨hq1, hq2⟩, rfl⟩
theorem tak_rise {St Fi : List Int} {Ed : List EdT} {W : List Int} : Tak (riseL St) (riseL Fi) (riseE Ed) W ↔ Tak St Fi Ed W := by
 unfold Tak
 simp only [riseL_iff, rch_rise]
theorem tk_meet {n m n' m' : Int} {Sa Fa : List Int} {Ea : List EdT} {Sb Fb : List Int} {Eb : List EdT} {ps : List PrT} {S F : List Int} {E : List EdT} (h : MetQ n m n' m' Sa Fa Ea Sb Fb Eb ps S F E) (hE : E.length ≤ 65536) (W : List Int) : tkF (ps.length : Int) m S F E W = (tkF n m Sa Fa Ea W && tkF n' m' Sb Fb Eb W) := by
 obtain ⟨em, em', rfl, hR⟩ := h
 obtain ⟨k, rfl⟩ := Int.eq_ofNat_of_zero_le (may_parts em).2.1.1
 rw [Int.toNat_natCast] at hR
 have hk : k ≤ 128 := by have := (may_parts em).2.1; omega
 rw [Bool.eq_iff_iff, Bool.and_eq_true, tkF_iff, tkF_iff, tkF_iff]
 constructor
 · rintro ⟨_, hw, ht⟩
   obtain ⟨t1, t2⟩ := (tak_meet hR (all_rng.1 hw)).1 ht
   exact ⟨⟨em, hw, tak_rise.1 t1⟩, ⟨em', hw, tak_rise.1 t2⟩⟩
 · rintro ⟨⟨_, hw, t1⟩, ⟨_, _, t2⟩⟩
   exact ⟨may_meet hR hk hE, hw, (tak_meet hR (all_rng.1 hw)).2 ⟨tak_rise.2 t1, tak_rise.2 t2⟩⟩
end Go.Proofs.YtchoopnjckcohaaGreatDoor
namespace Go.Proofs.YtchoopnjckcohaaGreatDoor
open Go.RowKit Go.Maps Go.Shelf
attribute [local go_sem] Oper.semAt_some
def pairP (u v : Value) : MkP := fun x lo hi W => x = .slice (some ⟨lo, 0, none⟩) 2 2 ∧ lo < hi ∧ W.heap[lo]? = some (.cells #[u, v] 22 (0, 0))
theorem pairP_mono {u v : Value} : MonoP (pairP u v) := fun _ _ _ _ _ hs d ⟨e, l, z⟩ => ⟨e, l, (d.block _ (by omega)).trans z⟩
def agaA (N m : Int) (Sa Fa : List Int) (Br : List EdT) : Ans := if 65536 < Br.length then badA 8 else ⟨N, m, [0] ++ Sa, [0] ++ Fa, Br, 0⟩
theorem again_far (w : World) (N m n1 n2 n3 : Nat) (a1 a2 a3 : Option Addr) (c1 c2 c3 : Nat) (Sa Fa : List Int) (Ea : List EdT) (en : Hid (Sa.length = n1 ∧ Fa.length = n2 ∧ Ea.length = n3)) (hA : Hid (RdA w a1 a2 a3 Sa Fa Ea)) (zA : a1 = none → c1 = 0) (_zF : a2 = none → c2 = 0) (hN : N ≤ 4096) (hm : m ≤ 128) (h1 : n1 ≤ 2000000) (h2 : n2 ≤ 2000000) (h3 : n3 ≤ 2000000) (hS : Hid (SsE Ea)) (hF : Hid (∀ e ∈ Ea, (0 ≤ e.1 ∧ e.1 < (N : Int)) ∧ (0 ≤ e.2.1 ∧ e.2.1 < (m : Int)) ∧ (0 ≤ e.2.2 ∧ e.2.2 < (N : Int)))) (hG : Hid (∀ x ∈ Fa, ∃ q : Nat, q < N ∧ x = (q : Int))) (hbig : 65536 < (brL Ea Fa Sa m N).length) :
 Calls Tryz.prog 49 #[.agg #[.int .i64 (N : Int), .int .i64 (m : Int), .slice a1 n1 c1, .slice a2 n2 c2, .slice a3 n3 c3]] w (AnsO w (badA 8)) := by
 obtain ⟨W0, hW0⟩ : ∃ W0, (w.alloc (.cells #[.int .i64 (N : Int), .int .i64 (m : Int), .slice a1 n1 c1, .slice a2 n2 c2, .slice a3 n3 c3] 25)).alloc (.cells #[.int .i64 0, .int .i64 0, .slice none 0 0, .slice none 0 0, .slice none 0 0] 25) = W0 := ⟨_, rfl⟩
 have HD := hide (box2 w #[.int .i64 (N : Int), .int .i64 (m : Int), .slice a1 n1 c1, .slice a2 n2 c2, .slice a3 n3 c3] #[.int .i64 0, .int .i64 0, .slice none 0 0, .slice none 0 0, .slice none 0 0] 25)
 rw [hW0] at HD
 have TB := bridged_any W0 N m n1 n2 n3 a1 a2 a3 a1 c1 c2 c3 n1 c1 Ea Fa Sa en.out.2.1 en.out.2.2 en.out.1 zA hN hm (hide (hA.out.e.on HD.out.1)) (hide (hA.out.f.on HD.out.1)) (hide (hA.out.s.on HD.out.1)) h2 h3 h1 hS hF hG
 obtain ⟨y0, y1, y2, y3, y4⟩ := zd5 HD.out.2.1 rfl rfl rfl rfl rfl
 unfold BrP at TB
 simp only [if_pos hbig] at TB
 clear hbig
 go_enter Tryz.func49, Tryz.ntmps49
 go_upto_region 3 with (go_at_call 82; refine TB.mono ?_; rintro e w1 ⟨rfl, D1⟩; have H1 := hide D1; clear D1)
 have F4 := blk_on HD.out.2.2.1 H1.out
 obtain ⟨o0, o1, o2, o3, o4⟩ := zd5 F4 rfl rfl rfl rfl rfl
 have fz0 : w1.frozen? ⟨w.heap.size + 1, 0, none⟩ = false := fz_of F4
 have fz1 : w1.frozen? ⟨w.heap.size + 1, 1, none⟩ = false := fz_of F4
 have fz2 : w1.frozen? ⟨w.heap.size + 1, 2, none⟩ = false := fz_of F4
 have fz3 : w1.frozen? ⟨w.heap.size + 1, 3, none⟩ = false := fz_of F4
 have fz4 : w1.frozen? ⟨w.heap.size + 1, 4, none⟩ = false := fz_of F4
 have O6 := hide (And.intro (set5 w1 (w.heap.size + 1) _ _ _ _ _ (.int .i64 0) (.int .i64 0) (.slice none 0 0) (.slice none 0 0) (.slice none 0 0) 25 F4) (only5 w1 (w.heap.size + 1) (.int .i64 0) (.int .i64 0) (.slice none 0 0) (.slice none 0 0) (.slice none 0 0)))
 clear F4
 go_wp2_with fail
 refine bodyPost_ret (results_c1 (p := 2) (q := 3) (ty := 25) rfl _ _ (w.heap.size + 1) 25 _ (0, 0) _ _ rfl rfl O6.out.1 Tryz.underlying25 rfl (by kernel_rfl)) rfl ?_
 have s1 := HD.out.2.2.2
 have s2 := H1.out.size
 exact ansO_bad rfl ((HD.out.1.trans (H1.out.mono HD.out.1.size)).trans (O6.out.2.toBelow (by omega) (fun k hk => by omega)))
theorem again_fit (w : World) (N m n1 n2 n3 : Nat) (a1 a2 a3 : Option Addr) (c1 c2 c3 : Nat) (Sa Fa : List Int) (Ea : List EdT) (en : Hid (Sa.length = n1 ∧ Fa.length = n2 ∧ Ea.length = n3)) (hA : Hid (RdA w a1 a2 a3 Sa Fa Ea)) (zA : a1 = none → c1 = 0) (zF : a2 = none → c2 = 0) (hN : N ≤ 4096) (hm : m ≤ 128) (h1 : n1 ≤ 2000000) (h2 : n2 ≤ 2000000) (h3 : n3 ≤ 2000000) (hS : Hid (SsE Ea)) (hF : Hid (∀ e ∈ Ea, (0 ≤ e.1 ∧ e.1 < (N : Int)) ∧ (0 ≤ e.2.1 ∧ e.2.1 < (m : Int)) ∧ (0 ≤ e.2.2 ∧ e.2.2 < (N : Int)))) (hG : Hid (∀ x ∈ Fa, ∃ q : Nat, q < N ∧ x = (q : Int))) (hle : (brL Ea Fa Sa m N).length ≤ 65536) :
 Calls Tryz.prog 49 #[.agg #[.int .i64 (N : Int), .int .i64 (m : Int), .slice a1 n1 c1, .slice a2 n2 c2, .slice a3 n3 c3]] w (AnsO w ⟨(N : Int), (m : Int), [0] ++ Sa, [0] ++ Fa, brL Ea Fa Sa m N, 0⟩) := by
 obtain ⟨W0, hW0⟩ : ∃ W0, (w.alloc (.cells #[.int .i64 (N : Int), .int .i64 (m : Int), .slice a1 n1 c1, .slice a2 n2 c2, .slice a3 n3 c3] 25)).alloc (.cells #[.int .i64 0, .int .i64 0, .slice none 0 0, .slice none 0 0, .slice none 0 0] 25) = W0 := ⟨_, rfl⟩
 have HD := hide (box2 w #[.int .i64 (N : Int), .int .i64 (m : Int), .slice a1 n1 c1, .slice a2 n2 c2, .slice a3 n3 c3] #[.int .i64 0, .int .i64 0, .slice none 0 0, .slice none 0 0, .slice none 0 0] 25)
 rw [hW0] at HD
 have TB := bridged_any W0 N m n1 n2 n3 a1 a2 a3 a1 c1 c2 c3 n1 c1 Ea Fa Sa en.out.2.1 en.out.2.2 en.out.1 zA hN hm (hide (hA.out.e.on HD.out.1)) (hide (hA.out.f.on HD.out.1)) (hide (hA.out.s.on HD.out.1)) h2 h3 h1 hS hF hG
 obtain ⟨y0, y1, y2, y3, y4⟩ := zd5 HD.out.2.1 rfl rfl rfl rfl rfl
 unfold BrP at TB
 simp only [if_neg (show ¬ 65536 < (brL Ea Fa Sa m N).length by omega)] at TB
 obtain ⟨E, hE⟩ : ∃ E, brL Ea Fa Sa m N = E := ⟨_, rfl⟩
 rw [hE] at TB hle ⊢
 clear hE
 obtain ⟨S1, hS1⟩ : ∃ S, [0] ++ Sa = S := ⟨_, rfl⟩
 obtain ⟨F1, hF1⟩ : ∃ F, [0] ++ Fa = F := ⟨_, rfl⟩
 have HS1 := hide hS1
 have HF1 := hide hF1
 rw [hS1, hF1]
 clear hS1 hF1
 go_enter Tryz.func49, Tryz.ntmps49
 go_upto_region 4 with (go_at_call 82; refine TB.mono ?_; rintro e w1 ⟨v1, rfl, O1, D1⟩; obtain ⟨ae, cf, rfl⟩ := own_slice O1; have H1 := hide (And.intro O1 D1); clear O1 D1)
 clear TB y0 y1 y2 y3 y4
 go_upto_region 5 with fail
 obtain ⟨WB, hWB⟩ : ∃ W, w1.alloc (.cells #[.int .i64 0] 3) = W := ⟨_, rfl⟩
 have HFr : Hid (WB.heap[w1.heap.size]? = some (.cells #[.int .i64 0] 3 (0, 0))) := hide (by rw [← hWB]; exact World.alloc_heap_new _ _)
 have HW : Hid (Below w.heap.size w WB ∧ WB.heap[w.heap.size]? = some (.cells #[.int .i64 (N : Int), .int .i64 (m : Int), .slice a1 n1 c1, .slice a2 n2 c2, .slice a3 n3 c3] 25 (0, 0)) ∧ WB.heap[w.heap.size + 1]? = some (.cells #[.int .i64 0, .int .i64 0, .slice none 0 0, .slice none 0 0, .slice none 0 0] 25 (0, 0)) ∧ WB.ownsRow w.heap.size 61 3 (.slice ae E.length cf) E.length (E.flatMap encE)) := hide (by
  have k : Below w1.heap.size w1 WB := by rw [← hWB]; exact (Below.refl _ _).alloc (Nat.le_refl _) _
  have d2 := H1.out.2.trans (k.mono H1.out.2.size)
  exact ⟨HD.out.1.trans (d2.mono HD.out.1.size), blk_on HD.out.2.1 d2, blk_on HD.out.2.2.1 d2, owns_down (own_below H1.out.1 k) HD.out.1.size⟩)
 have sz : w1.heap.size < WB.heap.size := (Array.getElem?_eq_some_iff.1 HFr.out).1
 have sz2 : w.heap.size + 2 ≤ w1.heap.size := by have := HD.out.2.2.2; have := H1.out.2.size; omega
 rw [hWB]
 clear hWB H1
 have T1 : Hid (∀ W, Below WB.heap.size WB W → ∀ l, W.heap[l]? = some (.cells #[.slice (some ⟨w1.heap.size, 0, none⟩) 1 1, .slice a1 n1 c1] 22 (0, 0)) → Calls Tryz.prog 83 #[.slice (some ⟨l, 0, none⟩) 2 2] W fun e w' => ∃ v, e = .returned v ∧ Hid (w'.ownsRow W.heap.size 3 1 v ([0] ++ Sa).length (([0] ++ Sa).map (Value.int .i64)) ∧ Below W.heap.size W w')) := hide (fun W d l hl => concat_any W l _ a1 1 n1 1 c1 [0] Sa rfl en.out.1 (by omega) (by omega) (fun e => by cases e) zA (hide (rd_one (blk_on HFr.out d))) (hide (hA.out.s.on (HW.out.1.trans (d.mono HW.out.1.size)))) hl)
 have T2 : Hid (∀ W, Below WB.heap.size WB W → ∀ l, W.heap[l]? = some (.cells #[.slice (some ⟨w1.heap.size, 0, none⟩) 1 1, .slice a2 n2 c2] 22 (0, 0)) → Calls Tryz.prog 83 #[.slice (some ⟨l, 0, none⟩) 2 2] W fun e w' => ∃ v, e = .returned v ∧ Hid (w'.ownsRow W.heap.size 3 1 v ([0] ++ Fa).length (([0] ++ Fa).map (Value.int .i64)) ∧ Below W.heap.size W w')) := hide (fun W d l hl => concat_any W l _ a2 1 n2 1 c2 [0] Fa rfl en.out.2.1 (by omega) (by omega) (fun e => by cases e) zF (hide (rd_one (blk_on HFr.out d))) (hide (hA.out.f.on (HW.out.1.trans (d.mono HW.out.1.size)))) hl)
 have hmo : MonIL 0 [vI 0 (.pointer (some ⟨w.heap.size, 0, none⟩)), vI 1 (.int .i64 (N : Int)), vI 2 (.pointer (some ⟨w.heap.size, 1, none⟩)), vI 3 (.int .i64 (m : Int)), vI 4 (.slice (some ⟨w1.heap.size, 0, none⟩) 1 1), vI 5 (.pointer (some ⟨w.heap.size, 2, none⟩)), vI 6 (.slice a1 n1 c1), pI 7 (pairP (.slice (some ⟨w1.heap.size, 0, none⟩) 1 1) (.slice a1 n1 c1)), pI 8 (ownNI ([0] ++ Sa)), vI 9 (.slice (some ⟨w1.heap.size, 0, none⟩) 1 1), vI 10 (.pointer (some ⟨w.heap.size, 3, none⟩)), vI 11 (.slice a2 n2 c2), pI 12 (pairP (.slice (some ⟨w1.heap.size, 0, none⟩) 1 1) (.slice a2 n2 c2)), pI 13 (ownNI ([0] ++ Fa)), vI 14 (.slice ae E.length cf), ⟨[8, 13], [], fun y _ _ _ => y 15 = .agg #[.int .i64 (N : Int), .int .i64 (m : Int), y 8, y 13, .slice ae E.length cf]⟩] := ⟨vI_mono _ _, vI_mono _ _, vI_mono _ _, vI_mono _ _, vI_mono _ _, vI_mono _ _, vI_mono _ _, pI_mono pairP_mono, pI_mono ownNI_mono, vI_mono _ _, vI_mono _ _, vI_mono _ _, pI_mono pairP_mono, pI_mono ownNI_mono, vI_mono _ _, (fun _ _ _ _ _ _ _ _ hy h => by dsimp only at hy h ⊢; rw [hy 15 (Or.inl rfl), hy 8 (Or.inr (by simp)), hy 13 (Or.inr (by simp))]; exact h), trivial⟩
 refine wp_region_sl _ (by kernel_rfl) (by kernel_rfl) (by kernel_rfl) (by kernel_rfl) hmo ⟨?o0, ?o1, ?o2, ?o3, ?o4, ?o5, ?o6, ?o7, ?o8, ?o9, ?o10, ?o11, ?o12, ?o13, ?o14, ?o15, trivial⟩ ?fin
 case o0 | o2 | o5 | o10 =>
  intro At yy W hy hb d hd K hK
  obtain ⟨s1, s1'⟩ := zsb (hb 1 rfl : _ = .pointer (some ⟨w.heap.size, 0, none⟩))
  clear hd hy hb
  go_simp
  exact zkq hK hmo d (if_pos rfl)
 case o1 =>
  intro At yy W hy hb d hd K hK
  obtain ⟨s19, s19'⟩ := zsg 0 19 .data hy hd rfl
  clear hd hy hb
  have bx := blk_on HW.out.2.1 d
  obtain ⟨y0, y1, y2, y3, y4⟩ := zd5 bx rfl rfl rfl rfl rfl
  clear bx
  go_simp
  exact zkq hK hmo d (if_pos rfl)
 case o3 =>
  intro At yy W hy hb d hd K hK
  obtain ⟨s21, s21'⟩ := zsg 2 21 .data hy hd rfl
  clear hd hy hb
  have bx := blk_on HW.out.2.1 d
  obtain ⟨y0, y1, y2, y3, y4⟩ := zd5 bx rfl rfl rfl rfl rfl
  clear bx
  go_simp
  exact zkq hK hmo d (if_pos rfl)
 case o4 | o9 =>
  intro At yy W hy hb d hd K hK
  obtain ⟨s6, s6'⟩ := zsb (hb 6 rfl : _ = .slice (some ⟨w1.heap.size, 0, none⟩) 1 1)
  clear hd hy hb
  go_simp
  exact zkq hK hmo d (if_pos rfl)
 case o6 =>
  intro At yy W hy hb d hd K hK
  obtain ⟨s24, s24'⟩ := zsg 5 24 .data hy hd rfl
  clear hd hy hb
  have bx := blk_on HW.out.2.1 d
  obtain ⟨y0, y1, y2, y3, y4⟩ := zd5 bx rfl rfl rfl rfl rfl
  clear bx
  go_simp
  exact zkq hK hmo d (if_pos rfl)
 case o7 =>
  intro At yy W hy hb d hd K hK
  obtain ⟨s23, s23'⟩ := zsg 4 23 .data hy hd rfl
  obtain ⟨s25, s25'⟩ := zsg 6 25 .data hy hd rfl
  clear hd hy hb
  go_simp
  exact hK.out _ _ (stp_of hmo d ((Below.refl _ _).alloc (Nat.le_refl _) _)) ⟨if_pos rfl, by simp, World.alloc_heap_new _ _⟩
 case o8 =>
  intro At yy W hy hb d hd K hK
  have f7 := hd ⟨7, .data⟩ (by simp) rfl rfl
  obtain ⟨l7, u7, q7, r7, e7, lt7, h7⟩ := f7
  obtain ⟨s26, s26'⟩ := zsb ((hy 7 _ 26 rfl rfl).trans e7)
  clear hd hy hb
  go_simp
  go_wp2_with (go_at_call 83; refine (T1.out _ d l7 h7).mono ?_; rintro e wa ⟨v, rfl, hR⟩)
  exact hK.out _ wa (stp_of hmo d hR.out.2) (ownNI_of (if_pos rfl) hR.out.1)
 case o11 =>
  intro At yy W hy hb d hd K hK
  obtain ⟨s29, s29'⟩ := zsg 10 29 .data hy hd rfl
  clear hd hy hb
  have bx := blk_on HW.out.2.1 d
  obtain ⟨y0, y1, y2, y3, y4⟩ := zd5 bx rfl rfl rfl rfl rfl
  clear bx
  go_simp
  exact zkq hK hmo d (if_pos rfl)
 case o12 =>
  intro At yy W hy hb d hd K hK
  obtain ⟨s28, s28'⟩ := zsg 9 28 .data hy hd rfl
  obtain ⟨s30, s30'⟩ := zsg 11 30 .data hy hd rfl
  clear hd hy hb
  go_simp
  exact hK.out _ _ (stp_of hmo d ((Below.refl _ _).alloc (Nat.le_refl _) _)) ⟨if_pos rfl, by simp, World.alloc_heap_new _ _⟩
 case o13 =>
  intro At yy W hy hb d hd K hK
  have f12 := hd ⟨12, .data⟩ (by simp) rfl rfl
  obtain ⟨l12, u12, q12, r12, e12, lt12, h12⟩ := f12
  obtain ⟨s31, s31'⟩ := zsb ((hy 12 _ 31 rfl rfl).trans e12)
  clear hd hy hb
  go_simp
  go_wp2_with (go_at_call 83; refine (T2.out _ d l12 h12).mono ?_; rintro e wa ⟨v, rfl, hR⟩)
  exact hK.out _ wa (stp_of hmo d hR.out.2) (ownNI_of (if_pos rfl) hR.out.1)
 case o14 =>
  intro At yy W hy hb d hd K hK
  obtain ⟨s4, s4'⟩ := zsb (hb 4 rfl : _ = .slice ae E.length cf)
  clear hd hy hb
  go_simp
  exact zkq hK hmo d (if_pos rfl)
 case o15 =>
  intro At yy W hy hb d hd K hK
  have f8 := hd ⟨8, .data⟩ (by simp) rfl rfl
  have f13 := hd ⟨13, .data⟩ (by simp) rfl rfl
  obtain ⟨_, _, _, _, o8, _⟩ := f8
  obtain ⟨_, _, _, _, o13, _⟩ := f13
  obtain ⟨x8, k8, e8⟩ := own_slice o8
  obtain ⟨x13, k13, e13⟩ := own_slice o13
  obtain ⟨s20, s20'⟩ := zsg 1 20 .data hy hd rfl
  obtain ⟨s22, s22'⟩ := zsg 3 22 .data hy hd rfl
  obtain ⟨s27, s27'⟩ := zsb ((hy 8 _ 27 rfl rfl).trans e8)
  obtain ⟨s32, s32'⟩ := zsb ((hy 13 _ 32 rfl rfl).trans e13)
  obtain ⟨s33, s33'⟩ := zsg 14 33 .data hy hd rfl
  clear hd hy hb
  go_simp
  exact zkq hK hmo d (by show updV yy 15 _ 15 = .agg #[.int .i64 (N : Int), .int .i64 (m : Int), updV yy 15 _ 8, updV yy 15 _ 13, .slice ae E.length cf]; simp [updV, e8, e13])
 case fin =>
  intro yy lo hi W hM
  show wpList _ _ _ [_, _] _ _
  have e0 := hM.v 0 (by simp) rfl rfl rfl
  have e1 := hM.v 1 (by simp) rfl rfl rfl
  have e2 := hM.v 2 (by simp) rfl rfl rfl
  have e3 := hM.v 3 (by simp) rfl rfl rfl
  have e4 := hM.v 4 (by simp) rfl rfl rfl
  have e5 := hM.v 5 (by simp) rfl rfl rfl
  have e6 := hM.v 6 (by simp) rfl rfl rfl
  have e9 := hM.v 9 (by simp) rfl rfl rfl
  have e10 := hM.v 10 (by simp) rfl rfl rfl
  have e11 := hM.v 11 (by simp) rfl rfl rfl
  have e14 := hM.v 14 (by simp) rfl rfl rfl
  have e15 : yy 15 = .agg #[.int .i64 (N : Int), .int .i64 (m : Int), yy 8, yy 13, .slice ae E.length cf] := hM.fact 15 (by simp) rfl (notR_all 15 rfl)
  obtain ⟨o8, l8⟩ := hM.fact 8 (by simp) rfl (notR_all 8 rfl)
  obtain ⟨o13, l13⟩ := hM.fact 13 (by simp) rfl (notR_all 13 rfl)
  obtain ⟨e7, _, _⟩ := hM.fact 7 (by simp) rfl (notR_all 7 rfl)
  obtain ⟨e12, _, _⟩ := hM.fact 12 (by simp) rfl (notR_all 12 rfl)
  have t8 := hM.at' 8 (by simp) rfl
  have t13 := hM.at' 13 (by simp) rfl
  have ap := hM.apart 8 13 (by simp) (by simp) rfl rfl (by decide)
  have dd := hM.d
  have sW := HW.out.1.size
  have HOO : OwnO w.heap.size W (yy 8) (yy 13) (.slice ae E.length cf) ([0] ++ Sa) ([0] ++ Fa) E := ownO_of o8 o13 (own_below HW.out.2.2.2 dd) l8 l13 (by omega) (by omega) (Nat.le_refl _) ap
  obtain ⟨x1, k1, e8⟩ := own_slice o8
  obtain ⟨x2, k2, e13⟩ := own_slice o13
  rw [e8, e13] at HOO e15
  rw [HS1.out] at e8 HOO e15
  rw [HF1.out] at e13 HOO e15
  simp only [fills, Act.put, List.take, List.length, List.setIfInBounds_toArray, List.set_cons_zero, List.set_cons_succ, e0, e1, e2, e3, e4, e5, e6, e9, e10, e11, e14, e7, e8, e12, e13, e15]
  clear hM hmo e0 e1 e2 e3 e4 e5 e6 e9 e10 e11 e14 e7 e8 e12 e13 e15 o8 o13 l8 l13 t8 t13 ap
  have HDD := hide dd
  clear dd
  have F4 := blk_on HW.out.2.2.1 HDD.out
  obtain ⟨o0, o1, o2, o3, o4⟩ := zd5 F4 rfl rfl rfl rfl rfl
  have fz0 : W.frozen? ⟨w.heap.size + 1, 0, none⟩ = false := fz_of F4
  have fz1 : W.frozen? ⟨w.heap.size + 1, 1, none⟩ = false := fz_of F4
  have fz2 : W.frozen? ⟨w.heap.size + 1, 2, none⟩ = false := fz_of F4
  have fz3 : W.frozen? ⟨w.heap.size + 1, 3, none⟩ = false := fz_of F4
  have fz4 : W.frozen? ⟨w.heap.size + 1, 4, none⟩ = false := fz_of F4
  have O6 := hide (And.intro (set5 W (w.heap.size + 1) _ _ _ _ _ (.int .i64 (N : Int)) (.int .i64 (m : Int)) (.slice x1 S1.length k1) (.slice x2 F1.length k2) (.slice ae E.length cf) 25 F4) (only5 W (w.heap.size + 1) (.int .i64 (N : Int)) (.int .i64 (m : Int)) (.slice x1 S1.length k1) (.slice x2 F1.length k2) (.slice ae E.length cf)))
  have HO := hide (HOO.keep F4 O6.out.2)
  clear F4 HOO
  go_wp2_with fail
  refine bodyPost_ret (results_c1 (p := 2) (q := 3) (ty := 25) rfl _ _ (w.heap.size + 1) 25 _ (0, 0) _ _ rfl rfl O6.out.1 Tryz.underlying25 rfl (by kernel_rfl)) rfl ?_
  have s1 := HDD.out.size
  have s3 := HD.out.2.2.2
  have dw := HW.out.1
  exact ⟨x1, k1, x2, k2, ae, cf, rfl, hide HO.out, (dw.trans (HDD.out.mono dw.size)).trans (O6.out.2.toBelow (by omega) (fun k hk => by omega))⟩
theorem movE_ss {E : List EdT} (h : SsE E) (b : Int) : SsE (movE E b) := by
 unfold SsE movE at *
 rw [List.pairwise_map]
 exact h.imp (fun {x y} q => by
  unfold ltE at *
  simp only [decide_eq_true_eq] at *
  omega)
theorem movE_in {N m : Nat} {E : List EdT} {b : Nat} (h : ∀ e ∈ E, (0 ≤ e.1 ∧ e.1 < (N : Int)) ∧ (0 ≤ e.2.1 ∧ e.2.1 < (m : Int)) ∧ (0 ≤ e.2.2 ∧ e.2.2 < (N : Int))) : ∀ e ∈ movE E (b : Int), (0 ≤ e.1 ∧ e.1 < ((N + b : Nat) : Int)) ∧ (0 ≤ e.2.1 ∧ e.2.1 < (m : Int)) ∧ (0 ≤ e.2.2 ∧ e.2.2 < ((N + b : Nat) : Int)) := fun e he => by
 unfold movE at he
 rw [List.mem_map] at he
 obtain ⟨x, hx, rfl⟩ := he
 have := h x hx
 simp only
 omega
theorem star_bad (w : World) (n m : Int) (a1 a2 a3 : Option Addr) (c1 c2 c3 : Nat) (Sa Fa : List Int) (Ea : List EdT) (hA : Hid (RdA w a1 a2 a3 Sa Fa Ea)) (h1 : Sa.length ≤ 2000000) (h2 : Fa.length ≤ 2000000) (h3 : Ea.length ≤ 2000000) (em : mayA n m Sa Fa Ea = false) :
 Calls Tryz.prog 16 #[.agg #[.int .i64 n, .int .i64 m, .slice a1 Sa.length c1, .slice a2 Fa.length c2, .slice a3 Ea.length c3]] w (AnsO w (badA 2)) := by
 obtain ⟨W0, hW0⟩ : ∃ W0, (w.alloc (.cells #[.int .i64 n, .int .i64 m, .slice a1 Sa.length c1, .slice a2 Fa.length c2, .slice a3 Ea.length c3] 25)).alloc (.cells #[.int .i64 0, .int .i64 0, .slice none 0 0, .slice none 0 0, .slice none 0 0] 25) = W0 := ⟨_, rfl⟩
 have HD := hide (box2 w #[.int .i64 n, .int .i64 m, .slice a1 Sa.length c1, .slice a2 Fa.length c2, .slice a3 Ea.length c3] #[.int .i64 0, .int .i64 0, .slice none 0 0, .slice none 0 0, .slice none 0 0] 25)
 rw [hW0] at HD
 obtain ⟨y0, y1, y2, y3, y4⟩ := zd5 HD.out.2.1 rfl rfl rfl rfl rfl
 have TN := normal_bad W0 n m a1 a2 a3 c1 c2 c3 Sa Fa Ea (hide (hA.out.on HD.out.1)) (by omega) (by omega) (by omega) em
 clear em
 go_enter Tryz.func16, Tryz.ntmps16
 go_upto_region 3 with (go_at_call 48; refine TN.mono ?_; rintro e w1 ⟨rfl, D1⟩; have H1 := hide D1; clear D1)
 clear TN y0 y1 y2 y3 y4
 obtain ⟨W1, hW1⟩ : ∃ W, w1.alloc (.cells #[.int .i64 0, .int .i64 0, .slice none 0 0, .slice none 0 0, .slice none 0 0] 25) = W := ⟨_, rfl⟩
 have HW : Hid (W1.heap[w.heap.size + 1]? = some (.cells #[.int .i64 0, .int .i64 0, .slice none 0 0, .slice none 0 0, .slice none 0 0] 25 (0, 0)) ∧ w.heap.size + 2 ≤ W1.heap.size ∧ Below w.heap.size w W1) := hide (by
  have k : Below w1.heap.size w1 W1 := by rw [← hW1]; exact (Below.refl _ _).alloc (Nat.le_refl _) _
  have d2 := H1.out.trans (k.mono H1.out.size)
  have s := HD.out.2.2.2
  exact ⟨blk_on HD.out.2.2.1 d2, by have := d2.size; omega, HD.out.1.trans (d2.mono HD.out.1.size)⟩)
 rw [hW1]
 clear hW1 H1
 have F4 := HW.out.1
 obtain ⟨o0, o1, o2, o3, o4⟩ := zd5 F4 rfl rfl rfl rfl rfl
 have fz0 : W1.frozen? ⟨w.heap.size + 1, 0, none⟩ = false := fz_of F4
 have fz1 : W1.frozen? ⟨w.heap.size + 1, 1, none⟩ = false := fz_of F4
 have fz2 : W1.frozen? ⟨w.heap.size + 1, 2, none⟩ = false := fz_of F4
 have fz3 : W1.frozen? ⟨w.heap.size + 1, 3, none⟩ = false := fz_of F4
 have fz4 : W1.frozen? ⟨w.heap.size + 1, 4, none⟩ = false := fz_of F4
 have O6 := hide (And.intro (set5 W1 (w.heap.size + 1) _ _ _ _ _ (.int .i64 0) (.int .i64 0) (.slice none 0 0) (.slice none 0 0) (.slice none 0 0) 25 F4) (only5 W1 (w.heap.size + 1) (.int .i64 0) (.int .i64 0) (.slice none 0 0) (.slice none 0 0) (.slice none 0 0)))
 clear F4
 go_wp2_with fail
 refine bodyPost_ret (results_c1 (p := 2) (q := 3) (ty := 25) rfl _ _ (w.heap.size + 1) 25 _ (0, 0) _ _ rfl rfl O6.out.1 Tryz.underlying25 rfl (by kernel_rfl)) rfl ?_
 have s2 := HW.out.2.1
 exact ansO_bad rfl (HW.out.2.2.trans (O6.out.2.toBelow (by omega) (fun k hk => by omega)))
theorem star_full (w : World) (N m : Nat) (hN : N = 4096) (a1 a2 a3 : Option Addr) (c1 c2 c3 : Nat) (Sa Fa : List Int) (Ea : List EdT) (hA : Hid (RdA w a1 a2 a3 Sa Fa Ea)) (h1 : Sa.length ≤ 2000000) (h2 : Fa.length ≤ 2000000) (h3 : Ea.length ≤ 2000000) (em : mayA (N : Int) (m : Int) Sa Fa Ea = true) :
 Calls Tryz.prog 16 #[.agg #[.int .i64 (N : Int), .int .i64 (m : Int), .slice a1 Sa.length c1, .slice a2 Fa.length c2, .slice a3 Ea.length c3]] w (AnsO w (badA 8)) := by
 have jn : ((N : Int) == 4096) = true := by subst hN; rfl
 clear hN
 obtain ⟨W0, hW0⟩ : ∃ W0, (w.alloc (.cells #[.int .i64 (N : Int), .int .i64 (m : Int), .slice a1 Sa.length c1, .slice a2 Fa.length c2, .slice a3 Ea.length c3] 25)).alloc (.cells #[.int .i64 0, .int .i64 0, .slice none 0 0, .slice none 0 0, .slice none 0 0] 25) = W0 := ⟨_, rfl⟩
 have HD := hide (box2 w #[.int .i64 (N : Int), .int .i64 (m : Int), .slice a1 Sa.length c1, .slice a2 Fa.length c2, .slice a3 Ea.length c3] #[.int .i64 0, .int .i64 0, .slice none 0 0, .slice none 0 0, .slice none 0 0] 25)
 rw [hW0] at HD
 obtain ⟨y0, y1, y2, y3, y4⟩ := zd5 HD.out.2.1 rfl rfl rfl rfl rfl
 have TN := normal_ok W0 (N : Int) (m : Int) a1 a2 a3 c1 c2 c3 Sa Fa Ea (hide (hA.out.on HD.out.1)) (by omega) (by omega) (by omega) em
 clear em
 generalize riseL Sa = S1 at *
 generalize riseL Fa = F1 at *
 generalize riseE Ea = E1 at *
 go_enter Tryz.func16, Tryz.ntmps16
 go_upto_region 4 with (go_at_call 48; refine TN.mono ?_; rintro e w1 ⟨g1, k1, g2, k2, g3, k3, rfl, O1, D1⟩; have H1 := hide (And.intro O1 D1); clear O1 D1)
 clear TN y0 y1 y2 y3 y4
 obtain ⟨W1, hW1⟩ : ∃ W, w1.alloc (.cells #[.int .i64 (N : Int), .int .i64 (m : Int), .slice (some ⟨g1, 0, none⟩) S1.length k1, .slice (some ⟨g2, 0, none⟩) F1.length k2, .slice (some ⟨g3, 0, none⟩) E1.length k3] 25) = W := ⟨_, rfl⟩
 have HW : Hid (W1.heap[w1.heap.size]? = some (.cells #[.int .i64 (N : Int), .int .i64 (m : Int), .slice (some ⟨g1, 0, none⟩) S1.length k1, .slice (some ⟨g2, 0, none⟩) F1.length k2, .slice (some ⟨g3, 0, none⟩) E1.length k3] 25 (0, 0)) ∧ OwnO w.heap.size W1 (.slice (some ⟨g1, 0, none⟩) S1.length k1) (.slice (some ⟨g2, 0, none⟩) F1.length k2) (.slice (some ⟨g3, 0, none⟩) E1.length k3) S1 F1 E1 ∧ W1.heap[w.heap.size + 1]? = some (.cells #[.int .i64 0, .int .i64 0, .slice none 0 0, .slice none 0 0, .slice none 0 0] 25 (0, 0)) ∧ w.heap.size + 2 ≤ W1.heap.size ∧ Below w.heap.size w W1) := hide (by
  have k : Below w1.heap.size w1 W1 := by rw [← hW1]; exact (Below.refl _ _).alloc (Nat.le_refl _) _
  have z := World.alloc_heap_new w1 (.cells #[.int .i64 (N : Int), .int .i64 (m : Int), .slice (some ⟨g1, 0, none⟩) S1.length k1, .slice (some ⟨g2, 0, none⟩) F1.length k2, .slice (some ⟨g3, 0, none⟩) E1.length k3] 25)
  rw [hW1] at z
  have d2 := H1.out.2.trans (k.mono H1.out.2.size)
  have s := HD.out.2.2.2
  exact ⟨z, ((ownO_own H1.out.1).on k).down HD.out.1.size, blk_on HD.out.2.2.1 d2, by have := d2.size; omega, HD.out.1.trans (d2.mono HD.out.1.size)⟩)
 rw [hW1]
 clear hW1 H1
 obtain ⟨x0, x1, x2, x3, x4⟩ := zd5 HW.out.1 rfl rfl rfl rfl rfl
 have F4 := HW.out.2.2.1
 obtain ⟨o0, o1, o2, o3, o4⟩ := zd5 F4 rfl rfl rfl rfl rfl
 have fz0 : W1.frozen? ⟨w.heap.size + 1, 0, none⟩ = false := fz_of F4
 have fz1 : W1.frozen? ⟨w.heap.size + 1, 1, none⟩ = false := fz_of F4
 have fz2 : W1.frozen? ⟨w.heap.size + 1, 2, none⟩ = false := fz_of F4
 have fz3 : W1.frozen? ⟨w.heap.size + 1, 3, none⟩ = false := fz_of F4
 have fz4 : W1.frozen? ⟨w.heap.size + 1, 4, none⟩ = false := fz_of F4
 have O6 := hide (And.intro (set5 W1 (w.heap.size + 1) _ _ _ _ _ (.int .i64 0) (.int .i64 0) (.slice none 0 0) (.slice none 0 0) (.slice none 0 0) 25 F4) (only5 W1 (w.heap.size + 1) (.int .i64 0) (.int .i64 0) (.slice none 0 0) (.slice none 0 0) (.slice none 0 0)))
 clear F4
 go_wp2_with fail
 refine bodyPost_ret (results_c1 (p := 2) (q := 3) (ty := 25) rfl _ _ (w.heap.size + 1) 25 _ (0, 0) _ _ rfl rfl O6.out.1 Tryz.underlying25 rfl (by kernel_rfl)) rfl ?_
 have s2 := HW.out.2.2.2.1
 exact ansO_bad rfl (HW.out.2.2.2.2.trans (O6.out.2.toBelow (by omega) (fun k hk => by omega)))
theorem star_fit (w : World) (N m : Nat) (hN : N < 4096) (a1 a2 a3 : Option Addr) (c1 c2 c3 : Nat) (Sa Fa : List Int) (Ea : List EdT) (hA : Hid (RdA w a1 a2 a3 Sa Fa Ea)) (h1 : Sa.length ≤ 2000000) (h2 : Fa.length ≤ 2000000) (h3 : Ea.length ≤ 2000000) (em : mayA (N : Int) (m : Int) Sa Fa Ea = true) :
 Calls Tryz.prog 16 #[.agg #[.int .i64 (N : Int), .int .i64 (m : Int), .slice a1 Sa.length c1, .slice a2 Fa.length c2, .slice a3 Ea.length c3]] w (AnsO w (agaA ((N : Int) + 1) (m : Int) (movN (riseL Sa) 1) (movN (riseL Fa) 1) (brL (movE (riseE Ea) 1) (movN (riseL Fa) 1) (movN (riseL Sa) 1) m (N + 1)))) := by
 obtain ⟨W0, hW0⟩ : ∃ W0, (w.alloc (.cells #[.int .i64 (N : Int), .int .i64 (m : Int), .slice a1 Sa.length c1, .slice a2 Fa.length c2, .slice a3 Ea.length c3] 25)).alloc (.cells #[.int .i64 0, .int .i64 0, .slice none 0 0, .slice none 0 0, .slice none 0 0] 25) = W0 := ⟨_, rfl⟩
 have HD := hide (box2 w #[.int .i64 (N : Int), .int .i64 (m : Int), .slice a1 Sa.length c1, .slice a2 Fa.length c2, .slice a3 Ea.length c3] #[.int .i64 0, .int .i64 0, .slice none 0 0, .slice none 0 0, .slice none 0 0] 25)
 rw [hW0] at HD
 obtain ⟨y0, y1, y2, y3, y4⟩ := zd5 HD.out.2.1 rfl rfl rfl rfl rfl
 have TN := normal_ok W0 (N : Int) (m : Int) a1 a2 a3 c1 c2 c3 Sa Fa Ea (hide (hA.out.on HD.out.1)) (by omega) (by omega) (by omega) em
 have Hin : Hid ((∀ x ∈ riseL Sa, ∃ q : Nat, q < N ∧ x = (q : Int)) ∧ (∀ x ∈ riseL Fa, ∃ q : Nat, q < N ∧ x = (q : Int)) ∧ SsE (riseE Ea) ∧ (∀ e ∈ riseE Ea, (0 ≤ e.1 ∧ e.1 < (N : Int)) ∧ (0 ≤ e.2.1 ∧ e.2.1 < (m : Int)) ∧ (0 ≤ e.2.2 ∧ e.2.2 < (N : Int)))) := hide ⟨nat_in (may_st (may_rise em)).1, nat_in (may_st (may_rise em)).2, riseE_ss Ea, (may_parts (may_rise em)).2.2.2.2.2⟩
 have hl : Hid ((riseL Sa).length ≤ 2000000 ∧ (riseL Fa).length ≤ 2000000 ∧ (riseE Ea).length ≤ 2000000) := hide ⟨Nat.le_trans (riseL_len Sa) h1, Nat.le_trans (riseL_len Fa) h2, Nat.le_trans (riseE_len Ea) h3⟩
 have hm : m ≤ 128 := by have := (may_parts em).2.1; omega
 clear em
 generalize riseL Sa = S1 at *
 generalize riseL Fa = F1 at *
 generalize riseE Ea = E1 at *
 have jn : ((N : Int) == 4096) = false := by
  rw [beq_eq_false_iff_ne]
  omega
 obtain ⟨R, hR⟩ : ∃ R, agaA ((N : Int) + 1) (m : Int) (movN S1 1) (movN F1 1) (brL (movE E1 1) (movN F1 1) (movN S1 1) m (N + 1)) = R := ⟨_, rfl⟩
 rw [hR]
 have HR := hide hR
 clear hR
 obtain ⟨rn, rm, rs, rf, re, rr⟩ := R
 go_enter Tryz.func16, Tryz.ntmps16
 go_upto_region 4 with (go_at_call 48; refine TN.mono ?_; rintro e w1 ⟨g1, k1, g2, k2, g3, k3, rfl, O1, D1⟩; have H1 := hide (And.intro O1 D1); clear O1 D1)
 clear TN y0 y1 y2 y3 y4
 obtain ⟨W1, hW1⟩ : ∃ W, w1.alloc (.cells #[.int .i64 (N : Int), .int .i64 (m : Int), .slice (some ⟨g1, 0, none⟩) S1.length k1, .slice (some ⟨g2, 0, none⟩) F1.length k2, .slice (some ⟨g3, 0, none⟩) E1.length k3] 25) = W := ⟨_, rfl⟩
 have HW : Hid (W1.heap[w1.heap.size]? = some (.cells #[.int .i64 (N : Int), .int .i64 (m : Int), .slice (some ⟨g1, 0, none⟩) S1.length k1, .slice (some ⟨g2, 0, none⟩) F1.length k2, .slice (some ⟨g3, 0, none⟩) E1.length k3] 25 (0, 0)) ∧ OwnO w.heap.size W1 (.slice (some ⟨g1, 0, none⟩) S1.length k1) (.slice (some ⟨g2, 0, none⟩) F1.length k2) (.slice (some ⟨g3, 0, none⟩) E1.length k3) S1 F1 E1 ∧ W1.heap[w.heap.size + 1]? = some (.cells #[.int .i64 0, .int .i64 0, .slice none 0 0, .slice none 0 0, .slice none 0 0] 25 (0, 0)) ∧ w.heap.size + 2 ≤ W1.heap.size ∧ Below w.heap.size w W1) := hide (by
  have k : Below w1.heap.size w1 W1 := by rw [← hW1]; exact (Below.refl _ _).alloc (Nat.le_refl _) _
  have z := World.alloc_heap_new w1 (.cells #[.int .i64 (N : Int), .int .i64 (m : Int), .slice (some ⟨g1, 0, none⟩) S1.length k1, .slice (some ⟨g2, 0, none⟩) F1.length k2, .slice (some ⟨g3, 0, none⟩) E1.length k3] 25)
  rw [hW1] at z
  have d2 := H1.out.2.trans (k.mono H1.out.2.size)
  have s := HD.out.2.2.2
  exact ⟨z, ((ownO_own H1.out.1).on k).down HD.out.1.size, blk_on HD.out.2.2.1 d2, by have := d2.size; omega, HD.out.1.trans (d2.mono HD.out.1.size)⟩)
 rw [hW1]
 clear hW1 H1
 obtain ⟨x0, x1, x2, x3, x4⟩ := zd5 HW.out.1 rfl rfl rfl rfl rfl
 have T4 := moved_any W1 N S1.length F1.length E1.length (m : Int) 1 _ _ _ k1 k2 k3 S1 F1 E1 rfl rfl rfl (hide HW.out.2.1.rd) hl.out.1 hl.out.2.1 hl.out.2.2 (by omega) (by omega) (hide (fun x hx => by obtain ⟨q, h, rfl⟩ := Hin.out.1 x hx; omega)) (hide (fun x hx => by obtain ⟨q, h, rfl⟩ := Hin.out.2.1 x hx; omega)) (hide (fun e he => by have := Hin.out.2.2.2 e he; omega))
 have T5 : Hid (∀ W t1 u1 t2 u2 t3 u3, OwnO W1.heap.size W (.slice t1 S1.length u1) (.slice t2 F1.length u2) (.slice t3 E1.length u3) (movN S1 1) (movN F1 1) (movE E1 1) → Calls Tryz.prog 49 #[.agg #[.int .i64 ((N : Int) + 1), .int .i64 (m : Int), .slice t1 S1.length u1, .slice t2 F1.length u2, .slice t3 E1.length u3]] W fun e w' => ∃ x1 y1 x2 y2 x3 y3, e = .returned (.tuple #[.agg #[.int .i64 rn, .int .i64 rm, .slice x1 rs.length y1, .slice x2 rf.length y2, .slice x3 re.length y3], .int .i64 rr]) ∧ Hid (OwnO W.heap.size w' (.slice x1 rs.length y1) (.slice x2 rf.length y2) (.slice x3 re.length y3) rs rf re) ∧ Below W.heap.size W w') := hide (fun W t1 u1 t2 u2 t3 u3 ho => by
  have L1 := movN_len S1 1
  have L2 := movN_len F1 1
  have L3 := movE_len E1 1
  have rd : RdA W t1 t2 t3 (movN S1 1) (movN F1 1) (movE E1 1) := by
   have q := ho
   rw [← L1, ← L2, ← L3] at q
   exact q.rd
  have i1 := movE_in (b := 1) Hin.out.2.2.2
  have i2 := mov_in (N := 1) Hin.out.2.1
  have zA : t1 = none → u1 = 0 := fun e => none_zero (by have q := ho.s; rw [L1] at q; exact q) e
  have zF : t2 = none → u2 = 0 := fun e => none_zero (by have q := ho.f; rw [L2] at q; exact q) e
  have ec : ((N + 1 : Nat) : Int) = (N : Int) + 1 := by omega
  by_cases hbig : 65536 < (brL (movE E1 1) (movN F1 1) (movN S1 1) m (N + 1)).length
  · have T := again_far W (N + 1) m S1.length F1.length E1.length t1 t2 t3 u1 u2 u3 (movN S1 1) (movN F1 1) (movE E1 1) (hide ⟨L1, L2, L3⟩) (hide rd) zA zF (by omega) hm hl.out.1 hl.out.2.1 hl.out.2.2 (hide (movE_ss Hin.out.2.2.1 1)) (hide i1) (hide i2) hbig
    have e : badA 8 = ⟨rn, rm, rs, rf, re, rr⟩ := by rw [← HR.out]; unfold agaA; rw [if_pos hbig]
    rw [e, ec] at T
    exact T
  · have T := again_fit W (N + 1) m S1.length F1.length E1.length t1 t2 t3 u1 u2 u3 (movN S1 1) (movN F1 1) (movE E1 1) (hide ⟨L1, L2, L3⟩) (hide rd) zA zF (by omega) hm hl.out.1 hl.out.2.1 hl.out.2.2 (hide (movE_ss Hin.out.2.2.1 1)) (hide i1) (hide i2) (by omega)
    have e : (⟨(N : Int) + 1, (m : Int), [0] ++ movN S1 1, [0] ++ movN F1 1, brL (movE E1 1) (movN F1 1) (movN S1 1) m (N + 1), 0⟩ : Ans) = ⟨rn, rm, rs, rf, re, rr⟩ := by rw [← HR.out]; unfold agaA; rw [if_neg hbig]
    rw [ec, e] at T
    exact T)
 go_upto_region 6 with fail
 go_wp2_with (first | (go_at_call 50; refine T4.mono ?_; rintro e w4 ⟨t1, u1, t2, u2, t3, u3, rfl, H4⟩) | (go_at_call 49; refine (T5.out _ t1 u1 t2 u2 t3 u3 H4.out.1).mono ?_; rintro e w5 ⟨x1, y1, x2, y2, x3, y3, rfl, O5, D5⟩; have H5 := hide (And.intro (O5.out.down (Nat.le_trans HW.out.2.2.2.2.size H4.out.2.size)) (H4.out.2.trans (D5.mono H4.out.2.size))); clear O5 D5; have F4 := blk_on HW.out.2.2.1 H5.out.2; obtain ⟨o0, o1, o2, o3, o4⟩ := zd5 F4 rfl rfl rfl rfl rfl; have fz0 : w5.frozen? ⟨w.heap.size + 1, 0, none⟩ = false := fz_of F4; have fz1 : w5.frozen? ⟨w.heap.size + 1, 1, none⟩ = false := fz_of F4; have fz2 : w5.frozen? ⟨w.heap.size + 1, 2, none⟩ = false := fz_of F4; have fz3 : w5.frozen? ⟨w.heap.size + 1, 3, none⟩ = false := fz_of F4; have fz4 : w5.frozen? ⟨w.heap.size + 1, 4, none⟩ = false := fz_of F4; have O6 := hide (And.intro (set5 w5 (w.heap.size + 1) _ _ _ _ _ (.int .i64 rn) (.int .i64 rm) (.slice x1 rs.length y1) (.slice x2 rf.length y2) (.slice x3 re.length y3) 25 F4) (only5 w5 (w.heap.size + 1) (.int .i64 rn) (.int .i64 rm) (.slice x1 rs.length y1) (.slice x2 rf.length y2) (.slice x3 re.length y3))); have HO := hide (H5.out.1.keep F4 O6.out.2); clear F4))
 refine bodyPost_ret (results_c1 (p := 2) (q := 3) (ty := 25) rfl _ _ (w.heap.size + 1) 25 _ (0, 0) _ _ rfl rfl O6.out.1 Tryz.underlying25 rfl (by kernel_rfl)) rfl ?_
 have s2 := HW.out.2.2.2.1
 have s3 := H5.out.2.size
 have dw := HW.out.2.2.2.2
 exact ⟨x1, y1, x2, y2, x3, y3, rfl, HO, (dw.trans (H5.out.2.mono dw.size)).trans (O6.out.2.toBelow (by omega) (fun k hk => by omega))⟩
theorem itl_ss (N X : Nat) : (itl (elems N X)).Pairwise (· < ·) := by
 unfold itl
 rw [List.pairwise_map]
 exact (elems_sorted N X).imp fun h => by omega
theorem mem_el {N X : Nat} {x : Int} : x ∈ itl (elems N X) ↔ (0 ≤ x ∧ x < (N : Int)) ∧ X.testBit x.toNat = true := by
 rw [mem_itl]
 constructor
 · rintro ⟨i, hi, rfl⟩
   have := mem_elems.1 hi
   exact ⟨⟨by omega, by omega⟩, by simpa using this.2⟩
 · rintro ⟨⟨h0, h1⟩, h2⟩
   exact ⟨x.toNat, mem_elems.2 ⟨by omega, h2⟩, by omega⟩
theorem ends_in {N : Nat} {Ed : List EdT} (hi : ∀ x ∈ Ed, (0 ≤ x.1 ∧ x.1 < (N : Int)) ∧ 0 ≤ x.2.2 ∧ x.2.2 < (N : Int)) {back : Bool} {e : EdT} (he : e ∈ Ed) : (0 ≤ (ends back e).1 ∧ (ends back e).1 < (N : Int)) ∧ 0 ≤ (ends back e).2 ∧ (ends back e).2 < (N : Int) := by
 have := hi e he
 cases back
 · exact this
 · exact ⟨this.2, this.1⟩
theorem img_step {N X : Nat} {Ed : List EdT} (hi : ∀ x ∈ Ed, (0 ≤ x.1 ∧ x.1 < (N : Int)) ∧ 0 ≤ x.2.2 ∧ x.2.2 < (N : Int)) (back : Bool) (y : Int) : itl (elems N (imgF back X y Ed)) = riseL (imgL back Ed (itl (elems N X)) y) := ssI_eq (itl_ss _ _) (riseL_ss _) fun x => by
 rw [riseL_iff, imgL_iff, mem_el, imgF_test]
 constructor
 · rintro ⟨⟨h0, h1⟩, e, he, hs, hb, hq⟩
   have k := ends_in hi (back := back) he
   exact ⟨e, he, hs, mem_el.2 ⟨k.1, (hasB_nat hb).2⟩, by omega⟩
 · rintro ⟨e, he, hs, hm, rfl⟩
   have k := ends_in hi (back := back) he
   exact ⟨k.2, e, he, hs, hasB_of k.1.1 (mem_el.1 hm).2, rfl⟩
theorem set_step {N : Nat} {Q : List Int} (h : Q.all (inB N) = true) : itl (elems N (setI N Q)) = riseL Q := ssI_eq (itl_ss _ _) (riseL_ss _) fun x => by
 rw [riseL_iff, mem_el, setI_test]
 constructor
 · rintro ⟨⟨h0, h1⟩, i, hi, h2, h3⟩
   obtain rfl : i = x := by omega
   exact hi
 · intro hx
   have k := inB_iff.1 (List.all_eq_true.1 h x hx)
   exact ⟨k, x, hx, k, rfl⟩
theorem aft_step {N : Nat} {Ed : List EdT} (hi : ∀ x ∈ Ed, (0 ≤ x.1 ∧ x.1 < (N : Int)) ∧ 0 ≤ x.2.2 ∧ x.2.2 < (N : Int)) : ∀ (Wd : List Int) (X : Nat), itl (elems N (wordF Ed X Wd)) = aftL Ed (itl (elems N X)) Wd
 | [], _ => rfl
 | y :: W, X => by
  show itl (elems N (wordF Ed (imgF false X y Ed) W)) = aftL Ed (riseL (imgL false Ed (itl (elems N X)) y)) W
  rw [aft_step hi W, img_step hi]
theorem lans_of {w w' : World} {L : List Nat} {R : List Int} {gl cl : Nat} {e : Ending} (E : itl L = R) (he : e = .returned (.tuple #[.slice (some ⟨gl, 0, none⟩) L.length cl, .int .i64 0])) (ho : w'.ownsRow w.heap.size 3 1 (.slice (some ⟨gl, 0, none⟩) L.length cl) L.length (intV L)) (d : Below w.heap.size w w') : LAns w (R, 0) e w' := by
 have l : L.length = R.length := by rw [← E, itl_len]
 rw [intV_itl, E, l] at ho
 rw [l] at he
 exact ⟨_, cl, he, hide ho, d⟩
theorem after_lans (w : World) (n m : Int) (a1 a2 a3 aw : Option Addr) (c1 c2 c3 cw : Nat) (St Fi : List Int) (Ed : List EdT) (Wd : List Int) (hA : Hid (RdA w a1 a2 a3 St Fi Ed)) (hU : Hid (RdN w aw Wd)) (hT : Hid (TabAt w ∧ 0 < w.heap.size)) (h1 : St.length ≤ 4194304) (h2 : Fi.length ≤ 4194304) (h3 : Ed.length ≤ 4194304) (hw : Wd.length ≤ 4194304) (e0 : wordErr n m St Fi Ed Wd = 0) :
 Calls Tryz.prog 51 #[.agg #[.int .i64 n, .int .i64 m, .slice a1 St.length c1, .slice a2 Fi.length c2, .slice a3 Ed.length c3], .slice aw Wd.length cw] w (LAns w (aftL Ed (riseL St) Wd, 0)) := by
 have em := (wordErr_zero e0).1
 obtain ⟨N, rfl⟩ : ∃ N : Nat, n = (N : Int) := ⟨n.toNat, by have := (may_parts em).1; omega⟩
 have E : itl (elems N (wordF Ed (setI N St) Wd)) = aftL Ed (riseL St) Wd := by rw [aft_step (may_in em), set_step (may_parts em).2.2.2.1]
 refine (After_ok w N m a1 a2 a3 aw c1 c2 c3 cw St Fi Ed Wd hA hU hT h1 h2 h3 hw e0).mono ?_
 rintro e w' ⟨gl, capl, rfl, ho, d⟩
 exact lans_of E rfl ho.out d
theorem starting_own (w : World) (n m : Int) (a1 a2 a3 : Option Addr) (c1 c2 c3 : Nat) (St Fi : List Int) (Ed : List EdT) (hA : Hid (RdA w a1 a2 a3 St Fi Ed)) (h1 : St.length ≤ 4194304) (h2 : Fi.length ≤ 4194304) (h3 : Ed.length ≤ 4194304) (em : mayA n m St Fi Ed = true) (av : Option Addr) (L : List Int) (cv B : Nat) (hB : B ≤ w.heap.size) (hL : Hid (w.ownsRow B 3 1 (.slice av L.length cv) L.length (L.map (Value.int .i64)))) :
 Calls Tryz.prog 40 #[.agg #[.int .i64 n, .int .i64 m, .slice a1 St.length c1, .slice a2 Fi.length c2, .slice a3 Ed.length c3], .slice av L.length cv, .int .i64 0] w fun e w' => ∃ x1 y1 x2 y2 x3 y3, e = .returned (.tuple #[.agg #[.int .i64 n, .int .i64 m, .slice x1 L.length y1, .slice x2 (riseL Fi).length y2, .slice x3 (riseE Ed).length y3], .int .i64 0]) ∧ Hid (OwnO B w' (.slice x1 L.length y1) (.slice x2 (riseL Fi).length y2) (.slice x3 (riseE Ed).length y3) L (riseL Fi) (riseE Ed) ∧ Below w.heap.size w w') := by
 refine (starting_ok w n m a1 a2 a3 c1 c2 c3 St Fi Ed hA h1 h2 h3 em av L cv B hL).mono ?_
 rintro e w' ⟨g1, k1, g3, k3, rfl, hR⟩
 obtain ⟨h1', h2', h3', d⟩ := hR.out
 exact ⟨_, _, _, _, _, _, rfl, hide ⟨⟨h3', owns_down h1' hB, owns_down h2' hB, fun g hg hh => by have q1 := (h1'.lt g hh).1; have q2 := (hL.out.lt g hg).2; omega⟩, d⟩⟩
theorem left_good (w : World) (n m : Int) (a1 a2 a3 : Option Addr) (c1 c2 c3 : Nat) (St Fi : List Int) (Ed : List EdT) (hA : Hid (RdA w a1 a2 a3 St Fi Ed)) (h1 : St.length ≤ 4194304) (h2 : Fi.length ≤ 4194304) (h3 : Ed.length ≤ 4194304) (aw : Option Addr) (cw : Nat) (Wd : List Int) (hU : Hid (RdN w aw Wd)) (hw : Wd.length ≤ 4194304) (hT : Hid (TabAt w ∧ 0 < w.heap.size)) (e0 : wordErr n m St Fi Ed Wd = 0) :
 Calls Tryz.prog 17 #[.slice aw Wd.length cw, .agg #[.int .i64 n, .int .i64 m, .slice a1 St.length c1, .slice a2 Fi.length c2, .slice a3 Ed.length c3]] w (AnsO w ⟨n, m, (aftL Ed (riseL St) Wd), (riseL Fi), (riseE Ed), 0⟩) := by
 obtain ⟨W0, hW0⟩ : ∃ W0, (w.alloc (.cells #[.int .i64 n, .int .i64 m, .slice a1 St.length c1, .slice a2 Fi.length c2, .slice a3 Ed.length c3] 25)).alloc (.cells #[.int .i64 0, .int .i64 0, .slice none 0 0, .slice none 0 0, .slice none 0 0] 25) = W0 := ⟨_, rfl⟩
 have HD := hide (box2 w #[.int .i64 n, .int .i64 m, .slice a1 St.length c1, .slice a2 Fi.length c2, .slice a3 Ed.length c3] #[.int .i64 0, .int .i64 0, .slice none 0 0, .slice none 0 0, .slice none 0 0] 25)
 rw [hW0] at HD
 have HT0 : Hid (TabAt W0 ∧ 0 < W0.heap.size) := hide ⟨hT.out.1.below HD.out.1 hT.out.2, Nat.lt_of_lt_of_le hT.out.2 HD.out.1.size⟩
 have TC := after_lans W0 n m a1 a2 a3 aw c1 c2 c3 cw St Fi Ed Wd (hide (hA.out.on HD.out.1)) (hide (hU.out.on HD.out.1)) HT0 h1 h2 h3 hw e0
 have em := (wordErr_zero e0).1
 clear e0
 obtain ⟨LX, hLX⟩ : ∃ L, (aftL Ed (riseL St) Wd) = L := ⟨_, rfl⟩
 rw [hLX] at TC ⊢
 clear hLX
 have EM := hide em
 clear em
 obtain ⟨y0, y1, y2, y3, y4⟩ := zd5 HD.out.2.1 rfl rfl rfl rfl rfl
 go_enter Tryz.func17, Tryz.ntmps17
 go_upto_region 2 with (go_at_call 51; refine TC.mono ?_; rintro e w1 ⟨av, cv, rfl, hv, D1⟩; have H1 := hide (And.intro hv.out D1); clear hv D1)
 clear TC y0 y1 y2 y3 y4
 have TE := starting_own w1 n m a1 a2 a3 c1 c2 c3 St Fi Ed (hide ((hA.out.on HD.out.1).on H1.out.2)) h1 h2 h3 EM.out av LX cv W0.heap.size H1.out.2.size (hide H1.out.1)
 obtain ⟨y0, y1, y2, y3, y4⟩ := zd5 (blk_on HD.out.2.1 H1.out.2) rfl rfl rfl rfl rfl
 go_wp2_with (go_at_call 40; refine TE.mono ?_; rintro e w2 ⟨x1, y1, x2, y2, x3, y3, rfl, H2⟩; have F4 := blk_on (blk_on HD.out.2.2.1 H1.out.2) H2.out.2; obtain ⟨o0, o1, o2, o3, o4⟩ := zd5 F4 rfl rfl rfl rfl rfl; have fz0 : w2.frozen? ⟨w.heap.size + 1, 0, none⟩ = false := fz_of F4; have fz1 : w2.frozen? ⟨w.heap.size + 1, 1, none⟩ = false := fz_of F4; have fz2 : w2.frozen? ⟨w.heap.size + 1, 2, none⟩ = false := fz_of F4; have fz3 : w2.frozen? ⟨w.heap.size + 1, 3, none⟩ = false := fz_of F4; have fz4 : w2.frozen? ⟨w.heap.size + 1, 4, none⟩ = false := fz_of F4; have O6 := hide (And.intro (set5 w2 (w.heap.size + 1) _ _ _ _ _ (.int .i64 n) (.int .i64 m) (.slice x1 LX.length y1) (.slice x2 (riseL Fi).length y2) (.slice x3 (riseE Ed).length y3) 25 F4) (only5 w2 (w.heap.size + 1) (.int .i64 n) (.int .i64 m) (.slice x1 LX.length y1) (.slice x2 (riseL Fi).length y2) (.slice x3 (riseE Ed).length y3))); have HO := hide (H2.out.1.keep F4 O6.out.2); clear F4)
 refine bodyPost_ret (results_c1 (p := 4) (q := 5) (ty := 25) rfl _ _ (w.heap.size + 1) 25 _ (0, 0) _ _ rfl rfl O6.out.1 Tryz.underlying25 rfl (by kernel_rfl)) rfl ?_
 have s1 := HD.out.2.2.2
 have d1 := HD.out.1.trans (H1.out.2.mono HD.out.1.size)
 have d2 := d1.trans (H2.out.2.mono d1.size)
 have s2 := H1.out.2.size
 have s3 := H2.out.2.size
 exact ⟨x1, y1, x2, y2, x3, y3, rfl, hide (HO.out.down HD.out.1.size), d2.trans (O6.out.2.toBelow d2.size (fun k hk => by omega))⟩
theorem left_err (w : World) (n m : Int) (a1 a2 a3 : Option Addr) (c1 c2 c3 : Nat) (St Fi : List Int) (Ed : List EdT) (hA : Hid (RdA w a1 a2 a3 St Fi Ed)) (h1 : St.length ≤ 4194304) (h2 : Fi.length ≤ 4194304) (h3 : Ed.length ≤ 4194304) (aw : Option Addr) (cw : Nat) (Wd : List Int) (hU : Hid (RdN w aw Wd)) (hw : Wd.length ≤ 4194304) (er : Int) (e0 : er ≠ 0) (he : wordErr n m St Fi Ed Wd = er) :
 Calls Tryz.prog 17 #[.slice aw Wd.length cw, .agg #[.int .i64 n, .int .i64 m, .slice a1 St.length c1, .slice a2 Fi.length c2, .slice a3 Ed.length c3]] w (AnsO w (badA er)) := by
 obtain ⟨W0, hW0⟩ : ∃ W0, (w.alloc (.cells #[.int .i64 n, .int .i64 m, .slice a1 St.length c1, .slice a2 Fi.length c2, .slice a3 Ed.length c3] 25)).alloc (.cells #[.int .i64 0, .int .i64 0, .slice none 0 0, .slice none 0 0, .slice none 0 0] 25) = W0 := ⟨_, rfl⟩
 have HD := hide (box2 w #[.int .i64 n, .int .i64 m, .slice a1 St.length c1, .slice a2 Fi.length c2, .slice a3 Ed.length c3] #[.int .i64 0, .int .i64 0, .slice none 0 0, .slice none 0 0, .slice none 0 0] 25)
 rw [hW0] at HD
 have TC := After_bad W0 n m a1 a2 a3 aw c1 c2 c3 cw St Fi Ed Wd (hide (hA.out.on HD.out.1)) (hide (hU.out.on HD.out.1)) h1 h2 h3 hw (by rw [he]; exact e0)
 rw [he] at TC
 clear he
 obtain ⟨y0, y1, y2, y3, y4⟩ := zd5 HD.out.2.1 rfl rfl rfl rfl rfl
 go_enter Tryz.func17, Tryz.ntmps17
 go_upto_region 2 with (go_at_call 51; refine TC.mono ?_; rintro e w1 ⟨rfl, D1⟩; have H1 := hide D1; clear D1)
 clear TC y0 y1 y2 y3 y4
 have TE := starting_bad w1 n m a1 a2 a3 c1 c2 c3 St Fi Ed (hide ((hA.out.on HD.out.1).on H1.out)) h1 h2 h3 (.slice none 0 0) er e0
 obtain ⟨y0, y1, y2, y3, y4⟩ := zd5 (blk_on HD.out.2.1 H1.out) rfl rfl rfl rfl rfl
 go_wp2_with (go_at_call 40; refine TE.mono ?_; rintro e w2 ⟨rfl, D2⟩; have H2 := hide D2; clear D2; have F4 := blk_on (blk_on HD.out.2.2.1 H1.out) H2.out; obtain ⟨o0, o1, o2, o3, o4⟩ := zd5 F4 rfl rfl rfl rfl rfl; have fz0 : w2.frozen? ⟨w.heap.size + 1, 0, none⟩ = false := fz_of F4; have fz1 : w2.frozen? ⟨w.heap.size + 1, 1, none⟩ = false := fz_of F4; have fz2 : w2.frozen? ⟨w.heap.size + 1, 2, none⟩ = false := fz_of F4; have fz3 : w2.frozen? ⟨w.heap.size + 1, 3, none⟩ = false := fz_of F4; have fz4 : w2.frozen? ⟨w.heap.size + 1, 4, none⟩ = false := fz_of F4; have O6 := hide (And.intro (set5 w2 (w.heap.size + 1) _ _ _ _ _ (.int .i64 0) (.int .i64 0) (.slice none 0 0) (.slice none 0 0) (.slice none 0 0) 25 F4) (only5 w2 (w.heap.size + 1) (.int .i64 0) (.int .i64 0) (.slice none 0 0) (.slice none 0 0) (.slice none 0 0))); clear F4)
 refine bodyPost_ret (results_c1 (p := 4) (q := 5) (ty := 25) rfl _ _ (w.heap.size + 1) 25 _ (0, 0) _ _ rfl rfl O6.out.1 Tryz.underlying25 rfl (by kernel_rfl)) rfl ?_
 have s1 := HD.out.2.2.2
 have d1 := HD.out.1.trans (H1.out.mono HD.out.1.size)
 have d2 := d1.trans (H2.out.mono d1.size)
 have s2 := H1.out.size
 have s3 := H2.out.size
 exact ansO_bad rfl (d2.trans (O6.out.2.toBelow d2.size (fun k hk => by omega)))
end Go.Proofs.YtchoopnjckcohaaGreatDoor
