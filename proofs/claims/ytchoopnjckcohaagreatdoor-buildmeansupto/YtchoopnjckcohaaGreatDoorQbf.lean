import Derived.Test.YtchoopnjckcohaaGreatDoorQbe
set_option maxRecDepth 100000
set_option maxHeartbeats 40000000
namespace Go.Proofs.YtchoopnjckcohaaGreatDoor
open Go.RowKit Go.Maps Go.Shelf
attribute [local go_sem] Oper.semAt_some
theorem movE_ss {E : List EdT} (h : SsE E) (b : Int) : SsE (movE E b) := by
 unfold SsE movE at *
 rw [List.pairwise_map]
 exact h.imp (fun {x y} q => by
  unfold ltE at *
  simp only [decide_eq_true_eq] at *
  omega)
theorem movE_in {N m : Nat} {E : List EdT} {b : Nat} (h : ∀ e ∈ E, (0 ≤ e.1 ∧ e.1 < (N : Int)) ∧ (0 ≤ e.2.1 ∧ e.2.1 < (m : Int)) ∧ (0 ≤ e.2.2 ∧ e.2.2 < (N : Int))) : ∀ e ∈ movE E (b : Int), (0 ≤ e.1 ∧ e.1 < ((N + b : Nat) : Int)) ∧ (0 ≤ e.2.1 ∧ e.2.1 < (m : Int)) ∧ (0 ≤ e.2.2 ∧ e.2.2 < ((N + b : Nat) : Int)) := fun e he => by
 unfold movE at he
 rw [List.mem_map] at he
 obtain ⟨x, hx, rfl⟩ := he
 have := h x hx
 simp only
 omega
theorem star_bad (w : World) (n m : Int) (a1 a2 a3 : Option Addr) (c1 c2 c3 : Nat) (Sa Fa : List Int) (Ea : List EdT) (hA : Hid (RdA w a1 a2 a3 Sa Fa Ea)) (h1 : Sa.length ≤ 2000000) (h2 : Fa.length ≤ 2000000) (h3 : Ea.length ≤ 2000000) (em : mayA n m Sa Fa Ea = false) :
 Calls Tryz.prog 16 #[.agg #[.int .i64 n, .int .i64 m, .slice a1 Sa.length c1, .slice a2 Fa.length c2, .slice a3 Ea.length c3]] w (AnsO w (badA 2)) := by
 obtain ⟨W0, hW0⟩ : ∃ W0, (w.alloc (.cells #[.int .i64 n, .int .i64 m, .slice a1 Sa.length c1, .slice a2 Fa.length c2, .slice a3 Ea.length c3] 25)).alloc (.cells #[.int .i64 0, .int .i64 0, .slice none 0 0, .slice none 0 0, .slice none 0 0] 25) = W0 := ⟨_, rfl⟩
 have HD := hide (box2 w #[.int .i64 n, .int .i64 m, .slice a1 Sa.length c1, .slice a2 Fa.length c2, .slice a3 Ea.length c3] #[.int .i64 0, .int .i64 0, .slice none 0 0, .slice none 0 0, .slice none 0 0] 25)
 rw [hW0] at HD
 obtain ⟨y0, y1, y2, y3, y4⟩ := zd5 HD.out.2.1 rfl rfl rfl rfl rfl
 have TN := normal_bad W0 n m a1 a2 a3 c1 c2 c3 Sa Fa Ea (hide (hA.out.on HD.out.1)) (by omega) (by omega) (by omega) em
 clear em
 go_enter Tryz.func16, Tryz.ntmps16
 go_upto_region 3 with (go_at_call 48; refine TN.mono ?_; rintro e w1 ⟨rfl, D1⟩; have H1 := hide D1; clear D1)
 clear TN y0 y1 y2 y3 y4
 obtain ⟨W1, hW1⟩ : ∃ W, w1.alloc (.cells #[.int .i64 0, .int .i64 0, .slice none 0 0, .slice none 0 0, .slice none 0 0] 25) = W := ⟨_, rfl⟩
 have HW : Hid (W1.heap[w.heap.size + 1]? = some (.cells #[.int .i64 0, .int .i64 0, .slice none 0 0, .slice none 0 0, .slice none 0 0] 25 (0, 0)) ∧ w.heap.size + 2 ≤ W1.heap.size ∧ Below w.heap.size w W1) := hide (by
  have k : Below w1.heap.size w1 W1 := by rw [← hW1]; exact (Below.refl _ _).alloc (Nat.le_refl _) _
  have d2 := H1.out.trans (k.mono H1.out.size)
  have s := HD.out.2.2.2
  exact ⟨blk_on HD.out.2.2.1 d2, by have := d2.size; omega, HD.out.1.trans (d2.mono HD.out.1.size)⟩)
 rw [hW1]
 clear hW1 H1
 have F4 := HW.out.1
 obtain ⟨o0, o1, o2, o3, o4⟩ := zd5 F4 rfl rfl rfl rfl rfl
 have fz0 : W1.frozen? ⟨w.heap.size + 1, 0, none⟩ = false := fz_of F4
 have fz1 : W1.frozen? ⟨w.heap.size + 1, 1, none⟩ = false := fz_of F4
 have fz2 : W1.frozen? ⟨w.heap.size + 1, 2, none⟩ = false := fz_of F4
 have fz3 : W1.frozen? ⟨w.heap.size + 1, 3, none⟩ = false := fz_of F4
 have fz4 : W1.frozen? ⟨w.heap.size + 1, 4, none⟩ = false := fz_of F4
 have O6 := hide (And.intro (set5 W1 (w.heap.size + 1) _ _ _ _ _ (.int .i64 0) (.int .i64 0) (.slice none 0 0) (.slice none 0 0) (.slice none 0 0) 25 F4) (only5 W1 (w.heap.size + 1) (.int .i64 0) (.int .i64 0) (.slice none 0 0) (.slice none 0 0) (.slice none 0 0)))
 clear F4
 go_wp2_with fail
 refine bodyPost_ret (results_c1 (p := 2) (q := 3) (ty := 25) rfl _ _ (w.heap.size + 1) 25 _ (0, 0) _ _ rfl rfl O6.out.1 Tryz.underlying25 rfl (by kernel_rfl)) rfl ?_
 have s2 := HW.out.2.1
 exact ansO_bad rfl (HW.out.2.2.trans (O6.out.2.toBelow (by omega) (fun k hk => by omega)))
theorem star_full (w : World) (N m : Nat) (hN : N = 4096) (a1 a2 a3 : Option Addr) (c1 c2 c3 : Nat) (Sa Fa : List Int) (Ea : List EdT) (hA : Hid (RdA w a1 a2 a3 Sa Fa Ea)) (h1 : Sa.length ≤ 2000000) (h2 : Fa.length ≤ 2000000) (h3 : Ea.length ≤ 2000000) (em : mayA (N : Int) (m : Int) Sa Fa Ea = true) :
 Calls Tryz.prog 16 #[.agg #[.int .i64 (N : Int), .int .i64 (m : Int), .slice a1 Sa.length c1, .slice a2 Fa.length c2, .slice a3 Ea.length c3]] w (AnsO w (badA 8)) := by
 have jn : ((N : Int) == 4096) = true := by subst hN; rfl
 clear hN
 obtain ⟨W0, hW0⟩ : ∃ W0, (w.alloc (.cells #[.int .i64 (N : Int), .int .i64 (m : Int), .slice a1 Sa.length c1, .slice a2 Fa.length c2, .slice a3 Ea.length c3] 25)).alloc (.cells #[.int .i64 0, .int .i64 0, .slice none 0 0, .slice none 0 0, .slice none 0 0] 25) = W0 := ⟨_, rfl⟩
 have HD := hide (box2 w #[.int .i64 (N : Int), .int .i64 (m : Int), .slice a1 Sa.length c1, .slice a2 Fa.length c2, .slice a3 Ea.length c3] #[.int .i64 0, .int .i64 0, .slice none 0 0, .slice none 0 0, .slice none 0 0] 25)
 rw [hW0] at HD
 obtain ⟨y0, y1, y2, y3, y4⟩ := zd5 HD.out.2.1 rfl rfl rfl rfl rfl
 have TN := normal_ok W0 (N : Int) (m : Int) a1 a2 a3 c1 c2 c3 Sa Fa Ea (hide (hA.out.on HD.out.1)) (by omega) (by omega) (by omega) em
 clear em
 generalize riseL Sa = S1 at *
 generalize riseL Fa = F1 at *
 generalize riseE Ea = E1 at *
 go_enter Tryz.func16, Tryz.ntmps16
 go_upto_region 4 with (go_at_call 48; refine TN.mono ?_; rintro e w1 ⟨g1, k1, g2, k2, g3, k3, rfl, O1, D1⟩; have H1 := hide (And.intro O1 D1); clear O1 D1)
 clear TN y0 y1 y2 y3 y4
 obtain ⟨W1, hW1⟩ : ∃ W, w1.alloc (.cells #[.int .i64 (N : Int), .int .i64 (m : Int), .slice (some ⟨g1, 0, none⟩) S1.length k1, .slice (some ⟨g2, 0, none⟩) F1.length k2, .slice (some ⟨g3, 0, none⟩) E1.length k3] 25) = W := ⟨_, rfl⟩
 have HW : Hid (W1.heap[w1.heap.size]? = some (.cells #[.int .i64 (N : Int), .int .i64 (m : Int), .slice (some ⟨g1, 0, none⟩) S1.length k1, .slice (some ⟨g2, 0, none⟩) F1.length k2, .slice (some ⟨g3, 0, none⟩) E1.length k3] 25 (0, 0)) ∧ OwnO w.heap.size W1 (.slice (some ⟨g1, 0, none⟩) S1.length k1) (.slice (some ⟨g2, 0, none⟩) F1.length k2) (.slice (some ⟨g3, 0, none⟩) E1.length k3) S1 F1 E1 ∧ W1.heap[w.heap.size + 1]? = some (.cells #[.int .i64 0, .int .i64 0, .slice none 0 0, .slice none 0 0, .slice none 0 0] 25 (0, 0)) ∧ w.heap.size + 2 ≤ W1.heap.size ∧ Below w.heap.size w W1) := hide (by
  have k : Below w1.heap.size w1 W1 := by rw [← hW1]; exact (Below.refl _ _).alloc (Nat.le_refl _) _
  have z := World.alloc_heap_new w1 (.cells #[.int .i64 (N : Int), .int .i64 (m : Int), .slice (some ⟨g1, 0, none⟩) S1.length k1, .slice (some ⟨g2, 0, none⟩) F1.length k2, .slice (some ⟨g3, 0, none⟩) E1.length k3] 25)
  rw [hW1] at z
  have d2 := H1.out.2.trans (k.mono H1.out.2.size)
  have s := HD.out.2.2.2
  exact ⟨z, ((ownO_own H1.out.1).on k).down HD.out.1.size, blk_on HD.out.2.2.1 d2, by have := d2.size; omega, HD.out.1.trans (d2.mono HD.out.1.size)⟩)
 rw [hW1]
 clear hW1 H1
 obtain ⟨x0, x1, x2, x3, x4⟩ := zd5 HW.out.1 rfl rfl rfl rfl rfl
 have F4 := HW.out.2.2.1
 obtain ⟨o0, o1, o2, o3, o4⟩ := zd5 F4 rfl rfl rfl rfl rfl
 have fz0 : W1.frozen? ⟨w.heap.size + 1, 0, none⟩ = false := fz_of F4
 have fz1 : W1.frozen? ⟨w.heap.size + 1, 1, none⟩ = false := fz_of F4
 have fz2 : W1.frozen? ⟨w.heap.size + 1, 2, none⟩ = false := fz_of F4
 have fz3 : W1.frozen? ⟨w.heap.size + 1, 3, none⟩ = false := fz_of F4
 have fz4 : W1.frozen? ⟨w.heap.size + 1, 4, none⟩ = false := fz_of F4
 have O6 := hide (And.intro (set5 W1 (w.heap.size + 1) _ _ _ _ _ (.int .i64 0) (.int .i64 0) (.slice none 0 0) (.slice none 0 0) (.slice none 0 0) 25 F4) (only5 W1 (w.heap.size + 1) (.int .i64 0) (.int .i64 0) (.slice none 0 0) (.slice none 0 0) (.slice none 0 0)))
 clear F4
 go_wp2_with fail
 refine bodyPost_ret (results_c1 (p := 2) (q := 3) (ty := 25) rfl _ _ (w.heap.size + 1) 25 _ (0, 0) _ _ rfl rfl O6.out.1 Tryz.underlying25 rfl (by kernel_rfl)) rfl ?_
 have s2 := HW.out.2.2.2.1
 exact ansO_bad rfl (HW.out.2.2.2.2.trans (O6.out.2.toBelow (by omega) (fun k hk => by omega)))
theorem star_fit (w : World) (N m : Nat) (hN : N < 4096) (a1 a2 a3 : Option Addr) (c1 c2 c3 : Nat) (Sa Fa : List Int) (Ea : List EdT) (hA : Hid (RdA w a1 a2 a3 Sa Fa Ea)) (h1 : Sa.length ≤ 2000000) (h2 : Fa.length ≤ 2000000) (h3 : Ea.length ≤ 2000000) (em : mayA (N : Int) (m : Int) Sa Fa Ea = true) :
 Calls Tryz.prog 16 #[.agg #[.int .i64 (N : Int), .int .i64 (m : Int), .slice a1 Sa.length c1, .slice a2 Fa.length c2, .slice a3 Ea.length c3]] w (AnsO w (agaA ((N : Int) + 1) (m : Int) (movN (riseL Sa) 1) (movN (riseL Fa) 1) (brL (movE (riseE Ea) 1) (movN (riseL Fa) 1) (movN (riseL Sa) 1) m (N + 1)))) := by
 obtain ⟨W0, hW0⟩ : ∃ W0, (w.alloc (.cells #[.int .i64 (N : Int), .int .i64 (m : Int), .slice a1 Sa.length c1, .slice a2 Fa.length c2, .slice a3 Ea.length c3] 25)).alloc (.cells #[.int .i64 0, .int .i64 0, .slice none 0 0, .slice none 0 0, .slice none 0 0] 25) = W0 := ⟨_, rfl⟩
 have HD := hide (box2 w #[.int .i64 (N : Int), .int .i64 (m : Int), .slice a1 Sa.length c1, .slice a2 Fa.length c2, .slice a3 Ea.length c3] #[.int .i64 0, .int .i64 0, .slice none 0 0, .slice none 0 0, .slice none 0 0] 25)
 rw [hW0] at HD
 obtain ⟨y0, y1, y2, y3, y4⟩ := zd5 HD.out.2.1 rfl rfl rfl rfl rfl
 have TN := normal_ok W0 (N : Int) (m : Int) a1 a2 a3 c1 c2 c3 Sa Fa Ea (hide (hA.out.on HD.out.1)) (by omega) (by omega) (by omega) em
 have Hin : Hid ((∀ x ∈ riseL Sa, ∃ q : Nat, q < N ∧ x = (q : Int)) ∧ (∀ x ∈ riseL Fa, ∃ q : Nat, q < N ∧ x = (q : Int)) ∧ SsE (riseE Ea) ∧ (∀ e ∈ riseE Ea, (0 ≤ e.1 ∧ e.1 < (N : Int)) ∧ (0 ≤ e.2.1 ∧ e.2.1 < (m : Int)) ∧ (0 ≤ e.2.2 ∧ e.2.2 < (N : Int)))) := hide ⟨nat_in (may_st (may_rise em)).1, nat_in (may_st (may_rise em)).2, riseE_ss Ea, (may_parts (may_rise em)).2.2.2.2.2⟩
 have hl : Hid ((riseL Sa).length ≤ 2000000 ∧ (riseL Fa).length ≤ 2000000 ∧ (riseE Ea).length ≤ 2000000) := hide ⟨Nat.le_trans (riseL_len Sa) h1, Nat.le_trans (riseL_len Fa) h2, Nat.le_trans (riseE_len Ea) h3⟩
 have hm : m ≤ 128 := by have := (may_parts em).2.1; omega
 clear em
 generalize riseL Sa = S1 at *
 generalize riseL Fa = F1 at *
 generalize riseE Ea = E1 at *
 have jn : ((N : Int) == 4096) = false := by
  rw [beq_eq_false_iff_ne]
  omega
 obtain ⟨R, hR⟩ : ∃ R, agaA ((N : Int) + 1) (m : Int) (movN S1 1) (movN F1 1) (brL (movE E1 1) (movN F1 1) (movN S1 1) m (N + 1)) = R := ⟨_, rfl⟩
 rw [hR]
 have HR := hide hR
 clear hR
 obtain ⟨rn, rm, rs, rf, re, rr⟩ := R
 go_enter Tryz.func16, Tryz.ntmps16
 go_upto_region 4 with (go_at_call 48; refine TN.mono ?_; rintro e w1 ⟨g1, k1, g2, k2, g3, k3, rfl, O1, D1⟩; have H1 := hide (And.intro O1 D1); clear O1 D1)
 clear TN y0 y1 y2 y3 y4
 obtain ⟨W1, hW1⟩ : ∃ W, w1.alloc (.cells #[.int .i64 (N : Int), .int .i64 (m : Int), .slice (some ⟨g1, 0, none⟩) S1.length k1, .slice (some ⟨g2, 0, none⟩) F1.length k2, .slice (some ⟨g3, 0, none⟩) E1.length k3] 25) = W := ⟨_, rfl⟩
 have HW : Hid (W1.heap[w1.heap.size]? = some (.cells #[.int .i64 (N : Int), .int .i64 (m : Int), .slice (some ⟨g1, 0, none⟩) S1.length k1, .slice (some ⟨g2, 0, none⟩) F1.length k2, .slice (some ⟨g3, 0, none⟩) E1.length k3] 25 (0, 0)) ∧ OwnO w.heap.size W1 (.slice (some ⟨g1, 0, none⟩) S1.length k1) (.slice (some ⟨g2, 0, none⟩) F1.length k2) (.slice (some ⟨g3, 0, none⟩) E1.length k3) S1 F1 E1 ∧ W1.heap[w.heap.size + 1]? = some (.cells #[.int .i64 0, .int .i64 0, .slice none 0 0, .slice none 0 0, .slice none 0 0] 25 (0, 0)) ∧ w.heap.size + 2 ≤ W1.heap.size ∧ Below w.heap.size w W1) := hide (by
  have k : Below w1.heap.size w1 W1 := by rw [← hW1]; exact (Below.refl _ _).alloc (Nat.le_refl _) _
  have z := World.alloc_heap_new w1 (.cells #[.int .i64 (N : Int), .int .i64 (m : Int), .slice (some ⟨g1, 0, none⟩) S1.length k1, .slice (some ⟨g2, 0, none⟩) F1.length k2, .slice (some ⟨g3, 0, none⟩) E1.length k3] 25)
  rw [hW1] at z
  have d2 := H1.out.2.trans (k.mono H1.out.2.size)
  have s := HD.out.2.2.2
  exact ⟨z, ((ownO_own H1.out.1).on k).down HD.out.1.size, blk_on HD.out.2.2.1 d2, by have := d2.size; omega, HD.out.1.trans (d2.mono HD.out.1.size)⟩)
 rw [hW1]
 clear hW1 H1
 obtain ⟨x0, x1, x2, x3, x4⟩ := zd5 HW.out.1 rfl rfl rfl rfl rfl
 have T4 := moved_any W1 N S1.length F1.length E1.length (m : Int) 1 _ _ _ k1 k2 k3 S1 F1 E1 rfl rfl rfl (hide HW.out.2.1.rd) hl.out.1 hl.out.2.1 hl.out.2.2 (by omega) (by omega) (hide (fun x hx => by obtain ⟨q, h, rfl⟩ := Hin.out.1 x hx; omega)) (hide (fun x hx => by obtain ⟨q, h, rfl⟩ := Hin.out.2.1 x hx; omega)) (hide (fun e he => by have := Hin.out.2.2.2 e he; omega))
 have T5 : Hid (∀ W t1 u1 t2 u2 t3 u3, OwnO W1.heap.size W (.slice t1 S1.length u1) (.slice t2 F1.length u2) (.slice t3 E1.length u3) (movN S1 1) (movN F1 1) (movE E1 1) → Calls Tryz.prog 49 #[.agg #[.int .i64 ((N : Int) + 1), .int .i64 (m : Int), .slice t1 S1.length u1, .slice t2 F1.length u2, .slice t3 E1.length u3]] W fun e w' => ∃ x1 y1 x2 y2 x3 y3, e = .returned (.tuple #[.agg #[.int .i64 rn, .int .i64 rm, .slice x1 rs.length y1, .slice x2 rf.length y2, .slice x3 re.length y3], .int .i64 rr]) ∧ Hid (OwnO W.heap.size w' (.slice x1 rs.length y1) (.slice x2 rf.length y2) (.slice x3 re.length y3) rs rf re) ∧ Below W.heap.size W w') := hide (fun W t1 u1 t2 u2 t3 u3 ho => by
  have L1 := movN_len S1 1
  have L2 := movN_len F1 1
  have L3 := movE_len E1 1
  have rd : RdA W t1 t2 t3 (movN S1 1) (movN F1 1) (movE E1 1) := by
   have q := ho
   rw [← L1, ← L2, ← L3] at q
   exact q.rd
  have i1 := movE_in (b := 1) Hin.out.2.2.2
  have i2 := mov_in (N := 1) Hin.out.2.1
  have zA : t1 = none → u1 = 0 := fun e => none_zero (by have q := ho.s; rw [L1] at q; exact q) e
  have zF : t2 = none → u2 = 0 := fun e => none_zero (by have q := ho.f; rw [L2] at q; exact q) e
  have ec : ((N + 1 : Nat) : Int) = (N : Int) + 1 := by omega
  by_cases hbig : 65536 < (brL (movE E1 1) (movN F1 1) (movN S1 1) m (N + 1)).length
  · have T := again_far W (N + 1) m S1.length F1.length E1.length t1 t2 t3 u1 u2 u3 (movN S1 1) (movN F1 1) (movE E1 1) (hide ⟨L1, L2, L3⟩) (hide rd) zA zF (by omega) hm hl.out.1 hl.out.2.1 hl.out.2.2 (hide (movE_ss Hin.out.2.2.1 1)) (hide i1) (hide i2) hbig
    have e : badA 8 = ⟨rn, rm, rs, rf, re, rr⟩ := by rw [← HR.out]; unfold agaA; rw [if_pos hbig]
    rw [e, ec] at T
    exact T
  · have T := again_fit W (N + 1) m S1.length F1.length E1.length t1 t2 t3 u1 u2 u3 (movN S1 1) (movN F1 1) (movE E1 1) (hide ⟨L1, L2, L3⟩) (hide rd) zA zF (by omega) hm hl.out.1 hl.out.2.1 hl.out.2.2 (hide (movE_ss Hin.out.2.2.1 1)) (hide i1) (hide i2) (by omega)
    have e : (⟨(N : Int) + 1, (m : Int), [0] ++ movN S1 1, [0] ++ movN F1 1, brL (movE E1 1) (movN F1 1) (movN S1 1) m (N + 1), 0⟩ : Ans) = ⟨rn, rm, rs, rf, re, rr⟩ := by rw [← HR.out]; unfold agaA; rw [if_neg hbig]
    rw [ec, e] at T
    exact T)
 go_upto_region 6 with fail
 go_wp2_with (first | (go_at_call 50; refine T4.mono ?_; rintro e w4 ⟨t1, u1, t2, u2, t3, u3, rfl, H4⟩) | (go_at_call 49; refine (T5.out _ t1 u1 t2 u2 t3 u3 H4.out.1).mono ?_; rintro e w5 ⟨x1, y1, x2, y2, x3, y3, rfl, O5, D5⟩; have H5 := hide (And.intro (O5.out.down (Nat.le_trans HW.out.2.2.2.2.size H4.out.2.size)) (H4.out.2.trans (D5.mono H4.out.2.size))); clear O5 D5; have F4 := blk_on HW.out.2.2.1 H5.out.2; obtain ⟨o0, o1, o2, o3, o4⟩ := zd5 F4 rfl rfl rfl rfl rfl; have fz0 : w5.frozen? ⟨w.heap.size + 1, 0, none⟩ = false := fz_of F4; have fz1 : w5.frozen? ⟨w.heap.size + 1, 1, none⟩ = false := fz_of F4; have fz2 : w5.frozen? ⟨w.heap.size + 1, 2, none⟩ = false := fz_of F4; have fz3 : w5.frozen? ⟨w.heap.size + 1, 3, none⟩ = false := fz_of F4; have fz4 : w5.frozen? ⟨w.heap.size + 1, 4, none⟩ = false := fz_of F4; have O6 := hide (And.intro (set5 w5 (w.heap.size + 1) _ _ _ _ _ (.int .i64 rn) (.int .i64 rm) (.slice x1 rs.length y1) (.slice x2 rf.length y2) (.slice x3 re.length y3) 25 F4) (only5 w5 (w.heap.size + 1) (.int .i64 rn) (.int .i64 rm) (.slice x1 rs.length y1) (.slice x2 rf.length y2) (.slice x3 re.length y3))); have HO := hide (H5.out.1.keep F4 O6.out.2); clear F4))
 refine bodyPost_ret (results_c1 (p := 2) (q := 3) (ty := 25) rfl _ _ (w.heap.size + 1) 25 _ (0, 0) _ _ rfl rfl O6.out.1 Tryz.underlying25 rfl (by kernel_rfl)) rfl ?_
 have s2 := HW.out.2.2.2.1
 have s3 := H5.out.2.size
 have dw := HW.out.2.2.2.2
 exact ⟨x1, y1, x2, y2, x3, y3, rfl, HO, (dw.trans (H5.out.2.mono dw.size)).trans (O6.out.2.toBelow (by omega) (fun k hk => by omega))⟩
theorem itl_ss (N X : Nat) : (itl (elems N X)).Pairwise (· < ·) := by
 unfold itl
 rw [List.pairwise_map]
 exact (elems_sorted N X).imp fun h => by omega
theorem mem_el {N X : Nat} {x : Int} : x ∈ itl (elems N X) ↔ (0 ≤ x ∧ x < (N : Int)) ∧ X.testBit x.toNat = true := by
 rw [mem_itl]
 constructor
 · rintro ⟨i, hi, rfl⟩
   have := mem_elems.1 hi
   exact ⟨⟨by omega, by omega⟩, by simpa using this.2⟩
 · rintro ⟨⟨h0, h1⟩, h2⟩
   exact ⟨x.toNat, mem_elems.2 ⟨by omega, h2⟩, by omega⟩
theorem ends_in {N : Nat} {Ed : List EdT} (hi : ∀ x ∈ Ed, (0 ≤ x.1 ∧ x.1 < (N : Int)) ∧ 0 ≤ x.2.2 ∧ x.2.2 < (N : Int)) {back : Bool} {e : EdT} (he : e ∈ Ed) : (0 ≤ (ends back e).1 ∧ (ends back e).1 < (N : Int)) ∧ 0 ≤ (ends back e).2 ∧ (ends back e).2 < (N : Int) := by
 have := hi e he
 cases back
 · exact this
 · exact ⟨this.2, this.1⟩
theorem img_step {N X : Nat} {Ed : List EdT} (hi : ∀ x ∈ Ed, (0 ≤ x.1 ∧ x.1 < (N : Int)) ∧ 0 ≤ x.2.2 ∧ x.2.2 < (N : Int)) (back : Bool) (y : Int) : itl (elems N (imgF back X y Ed)) = riseL (imgL back Ed (itl (elems N X)) y) := ssI_eq (itl_ss _ _) (riseL_ss _) fun x => by
 rw [riseL_iff, imgL_iff, mem_el, imgF_test]
 constructor
 · rintro ⟨⟨h0, h1⟩, e, he, hs, hb, hq⟩
   have k := ends_in hi (back := back) he
   exact ⟨e, he, hs, mem_el.2 ⟨k.1, (hasB_nat hb).2⟩, by omega⟩
 · rintro ⟨e, he, hs, hm, rfl⟩
   have k := ends_in hi (back := back) he
   exact ⟨k.2, e, he, hs, hasB_of k.1.1 (mem_el.1 hm).2, rfl⟩
theorem set_step {N : Nat} {Q : List Int} (h : Q.all (inB N) = true) : itl (elems N (setI N Q)) = riseL Q := ssI_eq (itl_ss _ _) (riseL_ss _) fun x => by
 rw [riseL_iff, mem_el, setI_test]
 constructor
 · rintro ⟨⟨h0, h1⟩, i, hi, h2, h3⟩
   obtain rfl : i = x := by omega
   exact hi
 · intro hx
   have k := inB_iff.1 (List.all_eq_true.1 h x hx)
   exact ⟨k, x, hx, k, rfl⟩
theorem aft_step {N : Nat} {Ed : List EdT} (hi : ∀ x ∈ Ed, (0 ≤ x.1 ∧ x.1 < (N : Int)) ∧ 0 ≤ x.2.2 ∧ x.2.2 < (N : Int)) : ∀ (Wd : List Int) (X : Nat), itl (elems N (wordF Ed X Wd)) = aftL Ed (itl (elems N X)) Wd
 | [], _ => rfl
 | y :: W, X => by
  show itl (elems N (wordF Ed (imgF false X y Ed) W)) = aftL Ed (riseL (imgL false Ed (itl (elems N X)) y)) W
  rw [aft_step hi W, img_step hi]
theorem lans_of {w w' : World} {L : List Nat} {R : List Int} {gl cl : Nat} {e : Ending} (E : itl L = R) (he : e = .returned (.tuple #[.slice (some ⟨gl, 0, none⟩) L.length cl, .int .i64 0])) (ho : w'.ownsRow w.heap.size 3 1 (.slice (some ⟨gl, 0, none⟩) L.length cl) L.length (intV L)) (d : Below w.heap.size w w') : LAns w (R, 0) e w' := by
 have l : L.length = R.length := by rw [← E, itl_len]
 rw [intV_itl, E, l] at ho
 rw [l] at he
 exact ⟨_, cl, he, hide ho, d⟩
theorem after_lans (w : World) (n m : Int) (a1 a2 a3 aw : Option Addr) (c1 c2 c3 cw : Nat) (St Fi : List Int) (Ed : List EdT) (Wd : List Int) (hA : Hid (RdA w a1 a2 a3 St Fi Ed)) (hU : Hid (RdN w aw Wd)) (hT : Hid (TabAt w ∧ 0 < w.heap.size)) (h1 : St.length ≤ 4194304) (h2 : Fi.length ≤ 4194304) (h3 : Ed.length ≤ 4194304) (hw : Wd.length ≤ 4194304) (e0 : wordErr n m St Fi Ed Wd = 0) :
 Calls Tryz.prog 51 #[.agg #[.int .i64 n, .int .i64 m, .slice a1 St.length c1, .slice a2 Fi.length c2, .slice a3 Ed.length c3], .slice aw Wd.length cw] w (LAns w (aftL Ed (riseL St) Wd, 0)) := by
 have em := (wordErr_zero e0).1
 obtain ⟨N, rfl⟩ : ∃ N : Nat, n = (N : Int) := ⟨n.toNat, by have := (may_parts em).1; omega⟩
 have E : itl (elems N (wordF Ed (setI N St) Wd)) = aftL Ed (riseL St) Wd := by rw [aft_step (may_in em), set_step (may_parts em).2.2.2.1]
 refine (After_ok w N m a1 a2 a3 aw c1 c2 c3 cw St Fi Ed Wd hA hU hT h1 h2 h3 hw e0).mono ?_
 rintro e w' ⟨gl, capl, rfl, ho, d⟩
 exact lans_of E rfl ho.out d
theorem ending_own (w : World) (n m : Int) (a1 a2 a3 : Option Addr) (c1 c2 c3 : Nat) (St Fi : List Int) (Ed : List EdT) (hA : Hid (RdA w a1 a2 a3 St Fi Ed)) (h1 : St.length ≤ 4194304) (h2 : Fi.length ≤ 4194304) (h3 : Ed.length ≤ 4194304) (em : mayA n m St Fi Ed = true) (av : Option Addr) (L : List Int) (cv B : Nat) (hB : B ≤ w.heap.size) (hL : Hid (w.ownsRow B 3 1 (.slice av L.length cv) L.length (L.map (Value.int .i64)))) :
 Calls Tryz.prog 38 #[.agg #[.int .i64 n, .int .i64 m, .slice a1 St.length c1, .slice a2 Fi.length c2, .slice a3 Ed.length c3], .slice av L.length cv, .int .i64 0] w fun e w' => ∃ x1 y1 x2 y2 x3 y3, e = .returned (.tuple #[.agg #[.int .i64 n, .int .i64 m, .slice x1 (riseL St).length y1, .slice x2 L.length y2, .slice x3 (riseE Ed).length y3], .int .i64 0]) ∧ Hid (OwnO B w' (.slice x1 (riseL St).length y1) (.slice x2 L.length y2) (.slice x3 (riseE Ed).length y3) (riseL St) L (riseE Ed) ∧ Below w.heap.size w w') := by
 refine (ending_ok w n m a1 a2 a3 c1 c2 c3 St Fi Ed hA h1 h2 h3 em av L cv B hL).mono ?_
 rintro e w' ⟨g1, k1, g3, k3, rfl, hR⟩
 obtain ⟨h1', h2', h3', d⟩ := hR.out
 exact ⟨_, _, _, _, _, _, rfl, hide ⟨⟨owns_down h1' hB, h3', owns_down h2' hB, fun g hg hh => by have q1 := (h1'.lt g hg).1; have q2 := (hL.out.lt g hh).2; omega⟩, d⟩⟩
theorem starting_own (w : World) (n m : Int) (a1 a2 a3 : Option Addr) (c1 c2 c3 : Nat) (St Fi : List Int) (Ed : List EdT) (hA : Hid (RdA w a1 a2 a3 St Fi Ed)) (h1 : St.length ≤ 4194304) (h2 : Fi.length ≤ 4194304) (h3 : Ed.length ≤ 4194304) (em : mayA n m St Fi Ed = true) (av : Option Addr) (L : List Int) (cv B : Nat) (hB : B ≤ w.heap.size) (hL : Hid (w.ownsRow B 3 1 (.slice av L.length cv) L.length (L.map (Value.int .i64)))) :
 Calls Tryz.prog 40 #[.agg #[.int .i64 n, .int .i64 m, .slice a1 St.length c1, .slice a2 Fi.length c2, .slice a3 Ed.length c3], .slice av L.length cv, .int .i64 0] w fun e w' => ∃ x1 y1 x2 y2 x3 y3, e = .returned (.tuple #[.agg #[.int .i64 n, .int .i64 m, .slice x1 L.length y1, .slice x2 (riseL Fi).length y2, .slice x3 (riseE Ed).length y3], .int .i64 0]) ∧ Hid (OwnO B w' (.slice x1 L.length y1) (.slice x2 (riseL Fi).length y2) (.slice x3 (riseE Ed).length y3) L (riseL Fi) (riseE Ed) ∧ Below w.heap.size w w') := by
 refine (starting_ok w n m a1 a2 a3 c1 c2 c3 St Fi Ed hA h1 h2 h3 em av L cv B hL).mono ?_
 rintro e w' ⟨g1, k1, g3, k3, rfl, hR⟩
 obtain ⟨h1', h2', h3', d⟩ := hR.out
 exact ⟨_, _, _, _, _, _, rfl, hide ⟨⟨h3', owns_down h1' hB, owns_down h2' hB, fun g hg hh => by have q1 := (h1'.lt g hh).1; have q2 := (hL.out.lt g hg).2; omega⟩, d⟩⟩
theorem left_good (w : World) (n m : Int) (a1 a2 a3 : Option Addr) (c1 c2 c3 : Nat) (St Fi : List Int) (Ed : List EdT) (hA : Hid (RdA w a1 a2 a3 St Fi Ed)) (h1 : St.length ≤ 4194304) (h2 : Fi.length ≤ 4194304) (h3 : Ed.length ≤ 4194304) (aw : Option Addr) (cw : Nat) (Wd : List Int) (hU : Hid (RdN w aw Wd)) (hw : Wd.length ≤ 4194304) (hT : Hid (TabAt w ∧ 0 < w.heap.size)) (e0 : wordErr n m St Fi Ed Wd = 0) :
 Calls Tryz.prog 17 #[.slice aw Wd.length cw, .agg #[.int .i64 n, .int .i64 m, .slice a1 St.length c1, .slice a2 Fi.length c2, .slice a3 Ed.length c3]] w (AnsO w ⟨n, m, (aftL Ed (riseL St) Wd), (riseL Fi), (riseE Ed), 0⟩) := by
 obtain ⟨W0, hW0⟩ : ∃ W0, (w.alloc (.cells #[.int .i64 n, .int .i64 m, .slice a1 St.length c1, .slice a2 Fi.length c2, .slice a3 Ed.length c3] 25)).alloc (.cells #[.int .i64 0, .int .i64 0, .slice none 0 0, .slice none 0 0, .slice none 0 0] 25) = W0 := ⟨_, rfl⟩
 have HD := hide (box2 w #[.int .i64 n, .int .i64 m, .slice a1 St.length c1, .slice a2 Fi.length c2, .slice a3 Ed.length c3] #[.int .i64 0, .int .i64 0, .slice none 0 0, .slice none 0 0, .slice none 0 0] 25)
 rw [hW0] at HD
 have HT0 : Hid (TabAt W0 ∧ 0 < W0.heap.size) := hide ⟨hT.out.1.below HD.out.1 hT.out.2, Nat.lt_of_lt_of_le hT.out.2 HD.out.1.size⟩
 have TC := after_lans W0 n m a1 a2 a3 aw c1 c2 c3 cw St Fi Ed Wd (hide (hA.out.on HD.out.1)) (hide (hU.out.on HD.out.1)) HT0 h1 h2 h3 hw e0
 have em := (wordErr_zero e0).1
 clear e0
 obtain ⟨LX, hLX⟩ : ∃ L, (aftL Ed (riseL St) Wd) = L := ⟨_, rfl⟩
 rw [hLX] at TC ⊢
 clear hLX
 have EM := hide em
 clear em
 obtain ⟨y0, y1, y2, y3, y4⟩ := zd5 HD.out.2.1 rfl rfl rfl rfl rfl
 go_enter Tryz.func17, Tryz.ntmps17
 go_upto_region 2 with (go_at_call 51; refine TC.mono ?_; rintro e w1 ⟨av, cv, rfl, hv, D1⟩; have H1 := hide (And.intro hv.out D1); clear hv D1)
 clear TC y0 y1 y2 y3 y4
 have TE := starting_own w1 n m a1 a2 a3 c1 c2 c3 St Fi Ed (hide ((hA.out.on HD.out.1).on H1.out.2)) h1 h2 h3 EM.out av LX cv W0.heap.size H1.out.2.size (hide H1.out.1)
 obtain ⟨y0, y1, y2, y3, y4⟩ := zd5 (blk_on HD.out.2.1 H1.out.2) rfl rfl rfl rfl rfl
 go_wp2_with (go_at_call 40; refine TE.mono ?_; rintro e w2 ⟨x1, y1, x2, y2, x3, y3, rfl, H2⟩; have F4 := blk_on (blk_on HD.out.2.2.1 H1.out.2) H2.out.2; obtain ⟨o0, o1, o2, o3, o4⟩ := zd5 F4 rfl rfl rfl rfl rfl; have fz0 : w2.frozen? ⟨w.heap.size + 1, 0, none⟩ = false := fz_of F4; have fz1 : w2.frozen? ⟨w.heap.size + 1, 1, none⟩ = false := fz_of F4; have fz2 : w2.frozen? ⟨w.heap.size + 1, 2, none⟩ = false := fz_of F4; have fz3 : w2.frozen? ⟨w.heap.size + 1, 3, none⟩ = false := fz_of F4; have fz4 : w2.frozen? ⟨w.heap.size + 1, 4, none⟩ = false := fz_of F4; have O6 := hide (And.intro (set5 w2 (w.heap.size + 1) _ _ _ _ _ (.int .i64 n) (.int .i64 m) (.slice x1 LX.length y1) (.slice x2 (riseL Fi).length y2) (.slice x3 (riseE Ed).length y3) 25 F4) (only5 w2 (w.heap.size + 1) (.int .i64 n) (.int .i64 m) (.slice x1 LX.length y1) (.slice x2 (riseL Fi).length y2) (.slice x3 (riseE Ed).length y3))); have HO := hide (H2.out.1.keep F4 O6.out.2); clear F4)
 refine bodyPost_ret (results_c1 (p := 4) (q := 5) (ty := 25) rfl _ _ (w.heap.size + 1) 25 _ (0, 0) _ _ rfl rfl O6.out.1 Tryz.underlying25 rfl (by kernel_rfl)) rfl ?_
 have s1 := HD.out.2.2.2
 have d1 := HD.out.1.trans (H1.out.2.mono HD.out.1.size)
 have d2 := d1.trans (H2.out.2.mono d1.size)
 have s2 := H1.out.2.size
 have s3 := H2.out.2.size
 exact ⟨x1, y1, x2, y2, x3, y3, rfl, hide (HO.out.down HD.out.1.size), d2.trans (O6.out.2.toBelow d2.size (fun k hk => by omega))⟩
theorem left_err (w : World) (n m : Int) (a1 a2 a3 : Option Addr) (c1 c2 c3 : Nat) (St Fi : List Int) (Ed : List EdT) (hA : Hid (RdA w a1 a2 a3 St Fi Ed)) (h1 : St.length ≤ 4194304) (h2 : Fi.length ≤ 4194304) (h3 : Ed.length ≤ 4194304) (aw : Option Addr) (cw : Nat) (Wd : List Int) (hU : Hid (RdN w aw Wd)) (hw : Wd.length ≤ 4194304) (er : Int) (e0 : er ≠ 0) (he : wordErr n m St Fi Ed Wd = er) :
 Calls Tryz.prog 17 #[.slice aw Wd.length cw, .agg #[.int .i64 n, .int .i64 m, .slice a1 St.length c1, .slice a2 Fi.length c2, .slice a3 Ed.length c3]] w (AnsO w (badA er)) := by
 obtain ⟨W0, hW0⟩ : ∃ W0, (w.alloc (.cells #[.int .i64 n, .int .i64 m, .slice a1 St.length c1, .slice a2 Fi.length c2, .slice a3 Ed.length c3] 25)).alloc (.cells #[.int .i64 0, .int .i64 0, .slice none 0 0, .slice none 0 0, .slice none 0 0] 25) = W0 := ⟨_, rfl⟩
 have HD := hide (box2 w #[.int .i64 n, .int .i64 m, .slice a1 St.length c1, .slice a2 Fi.length c2, .slice a3 Ed.length c3] #[.int .i64 0, .int .i64 0, .slice none 0 0, .slice none 0 0, .slice none 0 0] 25)
 rw [hW0] at HD
 have TC := After_bad W0 n m a1 a2 a3 aw c1 c2 c3 cw St Fi Ed Wd (hide (hA.out.on HD.out.1)) (hide (hU.out.on HD.out.1)) h1 h2 h3 hw (by rw [he]; exact e0)
 rw [he] at TC
 clear he
 obtain ⟨y0, y1, y2, y3, y4⟩ := zd5 HD.out.2.1 rfl rfl rfl rfl rfl
 go_enter Tryz.func17, Tryz.ntmps17
 go_upto_region 2 with (go_at_call 51; refine TC.mono ?_; rintro e w1 ⟨rfl, D1⟩; have H1 := hide D1; clear D1)
 clear TC y0 y1 y2 y3 y4
 have TE := starting_bad w1 n m a1 a2 a3 c1 c2 c3 St Fi Ed (hide ((hA.out.on HD.out.1).on H1.out)) h1 h2 h3 (.slice none 0 0) er e0
 obtain ⟨y0, y1, y2, y3, y4⟩ := zd5 (blk_on HD.out.2.1 H1.out) rfl rfl rfl rfl rfl
 go_wp2_with (go_at_call 40; refine TE.mono ?_; rintro e w2 ⟨rfl, D2⟩; have H2 := hide D2; clear D2; have F4 := blk_on (blk_on HD.out.2.2.1 H1.out) H2.out; obtain ⟨o0, o1, o2, o3, o4⟩ := zd5 F4 rfl rfl rfl rfl rfl; have fz0 : w2.frozen? ⟨w.heap.size + 1, 0, none⟩ = false := fz_of F4; have fz1 : w2.frozen? ⟨w.heap.size + 1, 1, none⟩ = false := fz_of F4; have fz2 : w2.frozen? ⟨w.heap.size + 1, 2, none⟩ = false := fz_of F4; have fz3 : w2.frozen? ⟨w.heap.size + 1, 3, none⟩ = false := fz_of F4; have fz4 : w2.frozen? ⟨w.heap.size + 1, 4, none⟩ = false := fz_of F4; have O6 := hide (And.intro (set5 w2 (w.heap.size + 1) _ _ _ _ _ (.int .i64 0) (.int .i64 0) (.slice none 0 0) (.slice none 0 0) (.slice none 0 0) 25 F4) (only5 w2 (w.heap.size + 1) (.int .i64 0) (.int .i64 0) (.slice none 0 0) (.slice none 0 0) (.slice none 0 0))); clear F4)
 refine bodyPost_ret (results_c1 (p := 4) (q := 5) (ty := 25) rfl _ _ (w.heap.size + 1) 25 _ (0, 0) _ _ rfl rfl O6.out.1 Tryz.underlying25 rfl (by kernel_rfl)) rfl ?_
 have s1 := HD.out.2.2.2
 have d1 := HD.out.1.trans (H1.out.mono HD.out.1.size)
 have d2 := d1.trans (H2.out.mono d1.size)
 have s2 := H1.out.size
 have s3 := H2.out.size
 exact ansO_bad rfl (d2.trans (O6.out.2.toBelow d2.size (fun k hk => by omega)))
end Go.Proofs.YtchoopnjckcohaaGreatDoor
