import Derived.Test.YtchoopnjckcohaaGreatDoorQag
set_option maxRecDepth 100000
set_option maxHeartbeats 40000000
namespace Go.Proofs.YtchoopnjckcohaaGreatDoor
open Go.RowKit Go.Maps Go.Shelf
attribute [local go_sem] Oper.semAt_some
theorem none_zero {w : World} {B n k sz : Nat} {e : TypeId} {b : Option Addr} {xs : List Value} (h : w.ownsRow B e sz (.slice b n k) n xs) (hb : b = none) : k = 0 := by
 rcases h.2 with ⟨hv, _⟩ | ⟨g, cap, cur, hv, _⟩
 · cases hv; rfl
 · cases hv; cases hb
theorem rd_mov {W : World} {B u : Nat} {b : Int} {t : Option Addr} {F : List Int} (h : W.ownsRow B 3 1 (.slice t F.length u) F.length ((movN F b).map (Value.int .i64))) : RdN W t (movN F b) := by
 rw [← movN_len F b] at h
 exact own_rdN h
def cMv (N M m : Nat) (S F : List Int) (E : List EdT) : MkP := fun x _ _ W => ∃ t1 u1 t2 u2 t3 u3, x = .agg #[.int .i64 ((M : Int) + (N : Int)), .int .i64 (m : Int), .slice t1 S.length u1, .slice t2 F.length u2, .slice t3 E.length u3] ∧ OwnO 0 W (.slice t1 S.length u1) (.slice t2 F.length u2) (.slice t3 E.length u3) (movN S N) (movN F N) (movE E N)
theorem cMv_mono {N M m : Nat} {S F : List Int} {E : List EdT} : MonoP (cMv N M m S F E) := fun _ _ _ _ _ _ d ⟨t1, u1, t2, u2, t3, u3, e, h⟩ => ⟨t1, u1, t2, u2, t3, u3, e, h.on d⟩
def cBh (N M m g1 k1 n1 : Nat) (F : List Int) (EE : List EdT) : MkP := fun x _ _ W => ∃ t2 u2 z5 d5, x = .tuple #[.agg #[.int .i64 ((M : Int) + (N : Int)), .int .i64 (m : Int), .slice (some ⟨g1, 0, none⟩) n1 k1, .slice t2 F.length u2, .slice z5 EE.length d5], .int .i64 0] ∧ W.ownsRow 0 3 1 (.slice t2 F.length u2) F.length ((movN F N).map (Value.int .i64)) ∧ W.ownsRow 0 61 3 (.slice z5 EE.length d5) EE.length (EE.flatMap encE)
theorem cBh_mono {N M m g1 k1 n1 : Nat} {F : List Int} {EE : List EdT} : MonoP (cBh N M m g1 k1 n1 F EE) := fun _ _ _ _ _ _ d ⟨t2, u2, z5, d5, e, h, h'⟩ => ⟨t2, u2, z5, d5, e, own_below h d, own_below h' d⟩
def cEx (N M m g1 k1 n1 : Nat) (F : List Int) (EE : List EdT) : MkP := fun x _ _ W => ∃ t2 u2 z5 d5, x = .agg #[.int .i64 ((M : Int) + (N : Int)), .int .i64 (m : Int), .slice (some ⟨g1, 0, none⟩) n1 k1, .slice t2 F.length u2, .slice z5 EE.length d5] ∧ W.ownsRow 0 3 1 (.slice t2 F.length u2) F.length ((movN F N).map (Value.int .i64)) ∧ W.ownsRow 0 61 3 (.slice z5 EE.length d5) EE.length (EE.flatMap encE)
theorem cEx_mono {N M m g1 k1 n1 : Nat} {F : List Int} {EE : List EdT} : MonoP (cEx N M m g1 k1 n1 F EE) := fun _ _ _ _ _ _ d ⟨t2, u2, z5, d5, e, h, h'⟩ => ⟨t2, u2, z5, d5, e, own_below h d, own_below h' d⟩
theorem concat_no (w : World) (N M m : Nat) (a1 a2 a3 b1 b2 b3 : Option Addr) (c1 c2 c3 d1 d2 d3 : Nat) (Sa Fa Sb Fb : List Int) (Ea Eb : List EdT) (hA : Hid (RdA w a1 a2 a3 Sa Fa Ea)) (hB : Hid (RdA w b1 b2 b3 Sb Fb Eb)) (h1 : Sa.length ≤ 2000000) (h2 : Fa.length ≤ 2000000) (h3 : Ea.length ≤ 2000000) (h4 : Sb.length ≤ 2000000) (h5 : Fb.length ≤ 2000000) (h6 : Eb.length ≤ 2000000) (em : mayA (N : Int) (m : Int) Sa Fa Ea = true) (em' : mayA (M : Int) (m : Int) Sb Fb Eb = true) (hNM : N + M ≤ 4096) (hm : m ≤ 128)
 (hl : Hid ((riseL Sa).length ≤ 2000000 ∧ (riseL Fa).length ≤ 2000000 ∧ (riseE Ea).length ≤ 2000000 ∧ (riseL Sb).length ≤ 2000000 ∧ (riseL Fb).length ≤ 2000000 ∧ (riseE Eb).length ≤ 2000000))
 (hS : Hid (SsE (riseE Ea))) (hF : Hid (∀ e ∈ riseE Ea, (0 ≤ e.1 ∧ e.1 < (N : Int)) ∧ (0 ≤ e.2.1 ∧ e.2.1 < (m : Int)) ∧ (0 ≤ e.2.2 ∧ e.2.2 < (N : Int)))) (hSa : Hid (∀ x ∈ riseL Sa, ∃ q : Nat, q < N ∧ x = (q : Int))) (hFa : Hid (∀ x ∈ riseL Fa, ∃ q : Nat, q < N ∧ x = (q : Int))) (hSb : Hid (∀ x ∈ riseL Sb, ∃ q : Nat, q < M ∧ x = (q : Int))) (hFb : Hid (∀ x ∈ riseL Fb, ∃ q : Nat, q < M ∧ x = (q : Int))) (hEb : Hid (∀ e ∈ riseE Eb, (0 ≤ e.1 ∧ e.1 ≤ 4096) ∧ 0 ≤ e.2.2 ∧ e.2.2 ≤ 4096))
 (hle : (brL (riseE Ea) (riseL Fa) (movN (riseL Sb) N) m N).length + (riseE Eb).length ≤ 65536) (emA : Hid (emptB (riseL Sa) (riseL Fa) = false)) (emB : Hid (emptB (movN (riseL Sb) N) (movN (riseL Fb) N) = false)) :
 Calls Tryz.prog 21 #[.agg #[.int .i64 (N : Int), .int .i64 (m : Int), .slice a1 Sa.length c1, .slice a2 Fa.length c2, .slice a3 Ea.length c3], .agg #[.int .i64 (M : Int), .int .i64 (m : Int), .slice b1 Sb.length d1, .slice b2 Fb.length d2, .slice b3 Eb.length d3]] w fun e w' => ∃ g1 k1 t2 u2 z5 d5, e = .returned (.tuple #[.agg #[.int .i64 ((M : Int) + (N : Int)), .int .i64 (m : Int), .slice (some ⟨g1, 0, none⟩) (riseL Sa).length k1, .slice t2 (riseL Fb).length u2, .slice z5 (brL (riseE Ea) (riseL Fa) (movN (riseL Sb) N) m N ++ movE (riseE Eb) N).length d5], .int .i64 0]) ∧ Hid (RdA w' (some ⟨g1, 0, none⟩) t2 z5 (riseL Sa) (movN (riseL Fb) N) (brL (riseE Ea) (riseL Fa) (movN (riseL Sb) N) m N ++ movE (riseE Eb) N) ∧ Below w.heap.size w w') := by
 obtain ⟨W0, hW0⟩ : ∃ W0, ((w.alloc (.cells #[.int .i64 (N : Int), .int .i64 (m : Int), .slice a1 Sa.length c1, .slice a2 Fa.length c2, .slice a3 Ea.length c3] 25)).alloc (.cells #[.int .i64 (M : Int), .int .i64 (m : Int), .slice b1 Sb.length d1, .slice b2 Fb.length d2, .slice b3 Eb.length d3] 25)).alloc (.cells #[.int .i64 0, .int .i64 0, .slice none 0 0, .slice none 0 0, .slice none 0 0] 25) = W0 := ⟨_, rfl⟩
 have HD := hide (box3b w #[.int .i64 (N : Int), .int .i64 (m : Int), .slice a1 Sa.length c1, .slice a2 Fa.length c2, .slice a3 Ea.length c3] #[.int .i64 (M : Int), .int .i64 (m : Int), .slice b1 Sb.length d1, .slice b2 Fb.length d2, .slice b3 Eb.length d3] #[.int .i64 0, .int .i64 0, .slice none 0 0, .slice none 0 0, .slice none 0 0] 25)
 rw [hW0] at HD
 have TB := both_ok W0 (N : Int) (m : Int) (M : Int) a1 a2 a3 b1 b2 b3 c1 c2 c3 d1 d2 d3 Sa Fa Sb Fb Ea Eb (hide (hA.out.on HD.out.1)) (hide (hB.out.on HD.out.1)) (by omega) (by omega) (by omega) (by omega) (by omega) (by omega) em em'
 clear em em'
 generalize riseL Sa = S1 at *
 generalize riseL Fa = F1 at *
 generalize riseE Ea = E1 at *
 generalize riseL Sb = S2 at *
 generalize riseL Fb = F2 at *
 generalize riseE Eb = E2 at *
 obtain ⟨EE, hEE⟩ : ∃ EE, brL E1 F1 (movN S2 N) m N ++ movE E2 N = EE := ⟨_, rfl⟩
 rw [hEE]
 have HE := hide hEE
 clear hEE
 have jn : ¬ (4096 : Int) < (N : Int) + (M : Int) := by omega
 have ew : IntKind.i64.wrap ((N : Int) + (M : Int)) = (N : Int) + (M : Int) := by rw [IntKind.wrap_i64]; omega
 obtain ⟨y0, y1, y2, y3, y4⟩ := zd5 HD.out.2.1 rfl rfl rfl rfl rfl
 obtain ⟨x0, x1, x2, x3, x4⟩ := zd5 HD.out.2.2.1 rfl rfl rfl rfl rfl
 go_enter Tryz.func21, Tryz.ntmps21
 go_upto_region 4 with (go_at_call 55; refine TB.mono ?_; rintro e w1 ⟨g1, k1, g2, k2, g3, k3, r1, q1, r2, q2, r3, q3, rfl, H1⟩)
 clear TB y0 x0 y1 x1 y2 x2 y3 x3 y4 x4
 obtain ⟨W1, hW1⟩ : ∃ W1, (w1.alloc (.cells #[.int .i64 (N : Int), .int .i64 (m : Int), .slice (some ⟨g1, 0, none⟩) S1.length k1, .slice (some ⟨g2, 0, none⟩) F1.length k2, .slice (some ⟨g3, 0, none⟩) E1.length k3] 25)).alloc (.cells #[.int .i64 (M : Int), .int .i64 (m : Int), .slice (some ⟨r1, 0, none⟩) S2.length q1, .slice (some ⟨r2, 0, none⟩) F2.length q2, .slice (some ⟨r3, 0, none⟩) E2.length q3] 25) = W1 := ⟨_, rfl⟩
 have HW : Hid (W1.heap[w1.heap.size]? = some (.cells #[.int .i64 (N : Int), .int .i64 (m : Int), .slice (some ⟨g1, 0, none⟩) S1.length k1, .slice (some ⟨g2, 0, none⟩) F1.length k2, .slice (some ⟨g3, 0, none⟩) E1.length k3] 25 (0, 0)) ∧ W1.heap[w1.heap.size + 1]? = some (.cells #[.int .i64 (M : Int), .int .i64 (m : Int), .slice (some ⟨r1, 0, none⟩) S2.length q1, .slice (some ⟨r2, 0, none⟩) F2.length q2, .slice (some ⟨r3, 0, none⟩) E2.length q3] 25 (0, 0)) ∧ W1.heap[w.heap.size + 1 + 1]? = some (.cells #[.int .i64 0, .int .i64 0, .slice none 0 0, .slice none 0 0, .slice none 0 0] 25 (0, 0)) ∧ w.heap.size + 3 ≤ W1.heap.size ∧ Below w.heap.size w W1) := hide (by
  have q := box2 w1 #[.int .i64 (N : Int), .int .i64 (m : Int), .slice (some ⟨g1, 0, none⟩) S1.length k1, .slice (some ⟨g2, 0, none⟩) F1.length k2, .slice (some ⟨g3, 0, none⟩) E1.length k3] #[.int .i64 (M : Int), .int .i64 (m : Int), .slice (some ⟨r1, 0, none⟩) S2.length q1, .slice (some ⟨r2, 0, none⟩) F2.length q2, .slice (some ⟨r3, 0, none⟩) E2.length q3] 25
  rw [hW1] at q
  have s := HD.out.2.2.2.2
  have d2 := H1.out.2.2.trans (q.1.mono H1.out.2.2.size)
  exact ⟨q.2.1, q.2.2.1, blk_on HD.out.2.2.2.1 d2, by have := d2.size; omega, HD.out.1.trans (d2.mono HD.out.1.size)⟩)
 have HX : Hid (OwnO 0 W1 (.slice (some ⟨g1, 0, none⟩) S1.length k1) (.slice (some ⟨g2, 0, none⟩) F1.length k2) (.slice (some ⟨g3, 0, none⟩) E1.length k3) S1 F1 E1) := hide (by
  have q := box2 w1 #[.int .i64 (N : Int), .int .i64 (m : Int), .slice (some ⟨g1, 0, none⟩) S1.length k1, .slice (some ⟨g2, 0, none⟩) F1.length k2, .slice (some ⟨g3, 0, none⟩) E1.length k3] #[.int .i64 (M : Int), .int .i64 (m : Int), .slice (some ⟨r1, 0, none⟩) S2.length q1, .slice (some ⟨r2, 0, none⟩) F2.length q2, .slice (some ⟨r3, 0, none⟩) E2.length q3] 25
  rw [hW1] at q
  exact (H1.out.1.on q.1).down (Nat.zero_le _))
 have HY : Hid (OwnO 0 W1 (.slice (some ⟨r1, 0, none⟩) S2.length q1) (.slice (some ⟨r2, 0, none⟩) F2.length q2) (.slice (some ⟨r3, 0, none⟩) E2.length q3) S2 F2 E2) := hide (by
  have q := box2 w1 #[.int .i64 (N : Int), .int .i64 (m : Int), .slice (some ⟨g1, 0, none⟩) S1.length k1, .slice (some ⟨g2, 0, none⟩) F1.length k2, .slice (some ⟨g3, 0, none⟩) E1.length k3] #[.int .i64 (M : Int), .int .i64 (m : Int), .slice (some ⟨r1, 0, none⟩) S2.length q1, .slice (some ⟨r2, 0, none⟩) F2.length q2, .slice (some ⟨r3, 0, none⟩) E2.length q3] 25
  rw [hW1] at q
  exact (H1.out.2.1.on q.1).down (Nat.zero_le _))
 rw [hW1]
 clear hW1 H1
 obtain ⟨x0, x1, x2, x3, x4⟩ := zd5 HW.out.1 rfl rfl rfl rfl rfl
 obtain ⟨y0, y1, y2, y3, y4⟩ := zd5 HW.out.2.1 rfl rfl rfl rfl rfl
 go_upto_region 6 with fail
 clear y0 x0 y1 x1 y2 x2 y3 x3 y4 x4
 have T4 : Hid (∀ W, Below W1.heap.size W1 W → Calls Tryz.prog 50 #[.agg #[.int .i64 (M : Int), .int .i64 (m : Int), .slice (some ⟨r1, 0, none⟩) S2.length q1, .slice (some ⟨r2, 0, none⟩) F2.length q2, .slice (some ⟨r3, 0, none⟩) E2.length q3], .int .i64 (N : Int)] W fun e w' => ∃ t1 u1 t2 u2 t3 u3, e = .returned (.agg #[.int .i64 ((M : Int) + (N : Int)), .int .i64 (m : Int), .slice t1 S2.length u1, .slice t2 F2.length u2, .slice t3 E2.length u3]) ∧ Hid (OwnO W.heap.size w' (.slice t1 S2.length u1) (.slice t2 F2.length u2) (.slice t3 E2.length u3) (movN S2 N) (movN F2 N) (movE E2 N) ∧ Below W.heap.size W w')) := hide (fun W d => moved_any W M S2.length F2.length E2.length (m : Int) (N : Int) _ _ _ q1 q2 q3 S2 F2 E2 rfl rfl rfl (hide (HY.out.on d).rd) hl.out.2.2.2.1 hl.out.2.2.2.2.1 hl.out.2.2.2.2.2 (by omega) (by omega) (hide (fun x hx => by obtain ⟨q, h, rfl⟩ := hSb.out x hx; omega)) (hide (fun x hx => by obtain ⟨q, h, rfl⟩ := hFb.out x hx; omega)) hEb)
 have T5 : Hid (∀ W, Below W1.heap.size W1 W → ∀ t1 u1 t2 u2 t3 u3, OwnO 0 W (.slice t1 S2.length u1) (.slice t2 F2.length u2) (.slice t3 E2.length u3) (movN S2 N) (movN F2 N) (movE E2 N) → Calls Tryz.prog 56 #[.agg #[.int .i64 (N : Int), .int .i64 (m : Int), .slice (some ⟨g1, 0, none⟩) S1.length k1, .slice (some ⟨g2, 0, none⟩) F1.length k2, .slice (some ⟨g3, 0, none⟩) E1.length k3], .agg #[.int .i64 ((M : Int) + (N : Int)), .int .i64 (m : Int), .slice t1 S2.length u1, .slice t2 F2.length u2, .slice t3 E2.length u3]] W fun e w' => ∃ z5 d5, e = .returned (.tuple #[.agg #[.int .i64 ((M : Int) + (N : Int)), .int .i64 (m : Int), .slice (some ⟨g1, 0, none⟩) S1.length k1, .slice t2 F2.length u2, .slice z5 EE.length d5], .int .i64 0]) ∧ Hid (w'.ownsRow W.heap.size 61 3 (.slice z5 EE.length d5) EE.length (EE.flatMap encE) ∧ Below W.heap.size W w')) := hide (fun W d t1 u1 t2 u2 t3 u3 ho => by
  have L1 := movN_len S2 (N : Int)
  have L2 := movN_len F2 (N : Int)
  have L3 := movE_len E2 (N : Int)
  have rd : RdA W t1 t2 t3 (movN S2 N) (movN F2 N) (movE E2 N) := by
   have q := ho
   rw [← L1, ← L2, ← L3] at q
   exact q.rd
  have mvb : ∀ {L : List Int}, (∀ x ∈ L, ∃ q : Nat, q < M ∧ x = (q : Int)) → ∀ x ∈ movN L (N : Int), ∃ q : Nat, q < M + N ∧ x = (q : Int) := fun h x hx => by
   unfold movN at hx
   rw [List.mem_map] at hx
   obtain ⟨y, hy, rfl⟩ := hx
   obtain ⟨q, hq, rfl⟩ := h y hy
   exact ⟨q + N, by omega, by omega⟩
  have T := behind_no W N m S1.length F1.length E1.length S2.length F2.length E2.length ((M : Int) + (N : Int)) (m : Int) _ _ _ t1 t2 t3 k1 k2 k3 u1 u2 u3 S1 F1 (movN S2 N) (movN F2 N) E1 (movE E2 N) (hide ⟨rfl, rfl, rfl, L1, L2, L3⟩) (hide (HX.out.on d).rd) (hide rd) (fun e => none_zero (by have q := ho.s; rw [L1] at q; exact q) e) (by omega) hm hl.out.1 hl.out.2.1 hl.out.2.2.1 hl.out.2.2.2.1 hl.out.2.2.2.2.1 hl.out.2.2.2.2.2 hS hF hFa (fun e => none_zero (by have q := ho.e; rw [L3] at q; exact q) e) (by omega) hle hSa (M + N) (hide (by omega)) (by omega) (hide (mvb hSb.out)) (hide (mvb hFb.out)) emA emB
  rw [HE.out] at T
  exact T)
 have hmo : MonIL 0 [vI 0 (.agg #[.int .i64 (N : Int), .int .i64 (m : Int), .slice (some ⟨g1, 0, none⟩) S1.length k1, .slice (some ⟨g2, 0, none⟩) F1.length k2, .slice (some ⟨g3, 0, none⟩) E1.length k3]), vI 1 (.agg #[.int .i64 (M : Int), .int .i64 (m : Int), .slice (some ⟨r1, 0, none⟩) S2.length q1, .slice (some ⟨r2, 0, none⟩) F2.length q2, .slice (some ⟨r3, 0, none⟩) E2.length q3]), vI 2 (.pointer (some ⟨w1.heap.size, 0, none⟩)), vI 3 (.int .i64 (N : Int)), pI 4 (cMv N M m S2 F2 E2), pI 5 (cBh N M m g1 k1 S1.length F2 EE), pI 6 (cEx N M m g1 k1 S1.length F2 EE), vI 7 (.int .i64 0)] := ⟨vI_mono _ _, vI_mono _ _, vI_mono _ _, vI_mono _ _, pI_mono cMv_mono, pI_mono cBh_mono, pI_mono cEx_mono, vI_mono _ _, trivial⟩
 refine wp_region_sl _ (by kernel_rfl) (by kernel_rfl) (by kernel_rfl) (by kernel_rfl) hmo ⟨?o0, ?o1, ?o2, ?o3, ?o4, ?o5, ?o6, ?o7, trivial⟩ ?fin
 case o0 =>
  intro At yy W hy hb d hd K hK
  obtain ⟨s6, s6'⟩ := zsb (hb 6 rfl : _ = .pointer (some ⟨w1.heap.size, 0, none⟩))
  clear hd hy hb
  have bxX := blk_on HW.out.1 d
  have bxY := blk_on HW.out.2.1 d
  obtain ⟨x0, x1, x2, x3, x4⟩ := zd5 bxX rfl rfl rfl rfl rfl
  obtain ⟨y0, y1, y2, y3, y4⟩ := zd5 bxY rfl rfl rfl rfl rfl
  clear bxX bxY
  go_simp
  exact zkq hK hmo d (if_pos rfl)
 case o1 =>
  intro At yy W hy hb d hd K hK
  obtain ⟨s7, s7'⟩ := zsb (hb 7 rfl : _ = .pointer (some ⟨w1.heap.size + 1, 0, none⟩))
  clear hd hy hb
  have bxX := blk_on HW.out.1 d
  have bxY := blk_on HW.out.2.1 d
  obtain ⟨x0, x1, x2, x3, x4⟩ := zd5 bxX rfl rfl rfl rfl rfl
  obtain ⟨y0, y1, y2, y3, y4⟩ := zd5 bxY rfl rfl rfl rfl rfl
  clear bxX bxY
  go_simp
  exact zkq hK hmo d (if_pos rfl)
 case o2 =>
  intro At yy W hy hb d hd K hK
  obtain ⟨s6, s6'⟩ := zsb (hb 6 rfl : _ = .pointer (some ⟨w1.heap.size, 0, none⟩))
  clear hd hy hb
  go_simp
  exact zkq hK hmo d (if_pos rfl)
 case o3 =>
  intro At yy W hy hb d hd K hK
  obtain ⟨s29, s29'⟩ := zsg 2 29 .data hy hd rfl
  clear hd hy hb
  have bxX := blk_on HW.out.1 d
  have bxY := blk_on HW.out.2.1 d
  obtain ⟨x0, x1, x2, x3, x4⟩ := zd5 bxX rfl rfl rfl rfl rfl
  obtain ⟨y0, y1, y2, y3, y4⟩ := zd5 bxY rfl rfl rfl rfl rfl
  clear bxX bxY
  go_simp
  exact zkq hK hmo d (if_pos rfl)
 case o4 =>
  intro At yy W hy hb d hd K hK
  obtain ⟨s28, s28'⟩ := zsg 1 28 .data hy hd rfl
  obtain ⟨s30, s30'⟩ := zsg 3 30 .data hy hd rfl
  clear hd hy hb
  go_simp
  go_wp2_with (go_at_call 50; refine (T4.out _ d).mono ?_; rintro e wa ⟨t1, u1, t2, u2, t3, u3, rfl, hR⟩)
  exact hK.out _ wa (stp_of hmo d hR.out.2) ⟨t1, u1, t2, u2, t3, u3, if_pos rfl, hR.out.1.down (Nat.zero_le _)⟩
 case o5 =>
  intro At yy W hy hb d hd K hK
  have f4 := hd ⟨4, .data⟩ (by simp) rfl rfl
  obtain ⟨_, _, _, _, t1, u1, t2, u2, t3, u3, e4, h4⟩ := f4
  obtain ⟨s27, s27'⟩ := zsg 0 27 .data hy hd rfl
  obtain ⟨s31, s31'⟩ := zsb ((hy 4 _ 31 rfl rfl).trans e4)
  clear hd hy hb
  go_simp
  go_wp2_with (go_at_call 56; refine (T5.out _ d t1 u1 t2 u2 t3 u3 h4).mono ?_; rintro e wa ⟨z5, d5, rfl, hR⟩)
  exact hK.out _ wa (stp_of hmo d hR.out.2) ⟨t2, u2, z5, d5, if_pos rfl, own_below (by have q := h4.f; rw [movN_len] at q; exact q) hR.out.2, owns_down hR.out.1 (Nat.zero_le _)⟩
 case o6 =>
  intro At yy W hy hb d hd K hK
  have f5 := hd ⟨5, .data⟩ (by simp) rfl rfl
  obtain ⟨_, _, _, _, t2, u2, z5, d5, e5, h5, h5'⟩ := f5
  obtain ⟨s32, s32'⟩ := zsb ((hy 5 _ 32 rfl rfl).trans e5)
  clear hd hy hb
  go_simp
  exact zkq hK hmo d ⟨t2, u2, z5, d5, if_pos rfl, h5, h5'⟩
 case o7 =>
  intro At yy W hy hb d hd K hK
  have f5 := hd ⟨5, .data⟩ (by simp) rfl rfl
  obtain ⟨_, _, _, _, t2, u2, z5, d5, e5, _, _⟩ := f5
  obtain ⟨s32, s32'⟩ := zsb ((hy 5 _ 32 rfl rfl).trans e5)
  clear hd hy hb
  go_simp
  exact zkq hK hmo d (if_pos rfl)
 case fin =>
  intro yy lo hi W hM
  show wpList _ _ _ [_, _] _ _
  have e0 := hM.v 0 (by simp) rfl rfl rfl
  have e1 := hM.v 1 (by simp) rfl rfl rfl
  have e2 := hM.v 2 (by simp) rfl rfl rfl
  have e3 := hM.v 3 (by simp) rfl rfl rfl
  have e7 := hM.v 7 (by simp) rfl rfl rfl
  obtain ⟨t2, u2, z5, d5, e6, h6, h6'⟩ := hM.fact 6 (by simp) rfl (notR_all 6 rfl)
  obtain ⟨t1', u1', t2', u2', t3', u3', e4, _⟩ := hM.fact 4 (by simp) rfl (notR_all 4 rfl)
  obtain ⟨t2', u2', z5', d5', e5, _, _⟩ := hM.fact 5 (by simp) rfl (notR_all 5 rfl)
  have HDD := hide hM.d
  simp only [fills, Act.put, List.take, List.length, List.setIfInBounds_toArray, List.set_cons_zero, List.set_cons_succ, e0, e1, e2, e3, e7, e4, e5, e6]
  clear hM hmo e0 e1 e2 e3 e7 e4 e5 e6
  have F4 := blk_on HW.out.2.2.1 HDD.out
  obtain ⟨o0, o1, o2, o3, o4⟩ := zd5 F4 rfl rfl rfl rfl rfl
  have g0' : W.frozen? ⟨w.heap.size + 1 + 1, 0, none⟩ = false := fz_of F4
  have g1' : W.frozen? ⟨w.heap.size + 1 + 1, 1, none⟩ = false := fz_of F4
  have g2' : W.frozen? ⟨w.heap.size + 1 + 1, 2, none⟩ = false := fz_of F4
  have g3' : W.frozen? ⟨w.heap.size + 1 + 1, 3, none⟩ = false := fz_of F4
  have g4' : W.frozen? ⟨w.heap.size + 1 + 1, 4, none⟩ = false := fz_of F4
  have O6 := hide (And.intro (set5 W (w.heap.size + 1 + 1) _ _ _ _ _ (.int .i64 ((M : Int) + (N : Int))) (.int .i64 (m : Int)) (.slice (some ⟨g1, 0, none⟩) S1.length k1) (.slice t2 F2.length u2) (.slice z5 EE.length d5) 25 F4) (only5 W (w.heap.size + 1 + 1) (.int .i64 ((M : Int) + (N : Int))) (.int .i64 (m : Int)) (.slice (some ⟨g1, 0, none⟩) S1.length k1) (.slice t2 F2.length u2) (.slice z5 EE.length d5)))
  have HO := hide (And.intro (own_keep h6 F4 (by decide) O6.out.2) (And.intro (own_keep h6' F4 (by decide) O6.out.2) (own_keep (own_below HX.out.s HDD.out) F4 (by decide) O6.out.2)))
  clear F4 h6 h6'
  go_wp2_with fail
  refine bodyPost_ret (results_c1 (p := 4) (q := 5) (ty := 25) rfl _ _ (w.heap.size + 1 + 1) 25 _ (0, 0) _ _ rfl rfl O6.out.1 Tryz.underlying25 rfl (by kernel_rfl)) rfl ?_
  have s1 := HDD.out.size
  have s2 := HW.out.2.2.2.1
  have dw := HW.out.2.2.2.2
  exact ⟨g1, k1, t2, u2, z5, d5, rfl, hide ⟨⟨own_rdN HO.out.2.2, rd_mov HO.out.1, own_rdE HO.out.2.1⟩, (dw.trans (HDD.out.mono dw.size)).trans (O6.out.2.toBelow (by omega) (fun k hk => by omega))⟩⟩
structure OwnD (B : Nat) (w : World) (v1 v2 v3 : Value) (S F : List Int) (E : List EdT) : Prop where
 s : w.ownsRow B 3 1 v1 S.length (S.map (Value.int .i64))
 f : w.ownsRow B 3 1 v2 F.length (F.map (Value.int .i64))
 e : w.ownsRow B 61 3 v3 E.length (E.flatMap encE)
theorem OwnD.rd {B : Nat} {w : World} {b1 b2 b3 : Option Addr} {k1 k2 k3 : Nat} {S F : List Int} {E : List EdT} (h : OwnD B w (.slice b1 S.length k1) (.slice b2 F.length k2) (.slice b3 E.length k3) S F E) : RdA w b1 b2 b3 S F E := ⟨own_rdN h.s, own_rdN h.f, own_rdE h.e⟩
def unErr (n m n' m' : Int) (St Fi : List Int) (Ed : List EdT) (St' Fi' : List Int) (Ed' : List EdT) : Int :=
 if mayA n m St Fi Ed = false ∨ mayA n' m' St' Fi' Ed' = false then 2 else if m ≠ m' then 6 else if 4096 < n + n' then 8 else if 65536 < (riseE Ed).length + (riseE Ed').length then 8 else 0
def UnP (w : World) (n m n' m' : Int) (St Fi : List Int) (Ed : List EdT) (St' Fi' : List Int) (Ed' : List EdT) (e : Ending) (w' : World) : Prop :=
 ((unErr n m n' m' St Fi Ed St' Fi' Ed' ≠ 0 ∧ e = .returned (.tuple #[.agg #[.int .i64 0, .int .i64 0, .slice none 0 0, .slice none 0 0, .slice none 0 0], .int .i64 (unErr n m n' m' St Fi Ed St' Fi' Ed')])) ∨ (unErr n m n' m' St Fi Ed St' Fi' Ed' = 0 ∧ ∃ r1 q1 r2 q2 r3 q3, e = .returned (.tuple #[.agg #[.int .i64 (n + n'), .int .i64 m, .slice (some ⟨r1, 0, none⟩) (riseL St ++ shL n (riseL St')).length q1, .slice (some ⟨r2, 0, none⟩) (riseL Fi ++ shL n (riseL Fi')).length q2, .slice (some ⟨r3, 0, none⟩) (riseE Ed ++ shEs n (riseE Ed')).length q3], .int .i64 0]) ∧ Own w.heap.size w' r1 q1 r2 q2 r3 q3 (riseL St ++ shL n (riseL St')) (riseL Fi ++ shL n (riseL Fi')) (riseE Ed ++ shEs n (riseE Ed')))) ∧ Below w.heap.size w w'
theorem union_any (w : World) (n m n' m' : Int) (a1 a2 a3 b1 b2 b3 : Option Addr) (xa1 xa2 xa3 xb1 xb2 xb3 : Nat) (St Fi : List Int) (Ed : List EdT) (St' Fi' : List Int) (Ed' : List EdT) (hA : Hid (RdA w a1 a2 a3 St Fi Ed)) (hB : Hid (RdA w b1 b2 b3 St' Fi' Ed')) (h1 : St.length ≤ 4194304) (h2 : Fi.length ≤ 4194304) (h3 : Ed.length ≤ 4194304) (h4 : St'.length ≤ 4194304) (h5 : Fi'.length ≤ 4194304) (h6 : Ed'.length ≤ 4194304) :
 Calls Tryz.prog 59 #[.agg #[.int .i64 n, .int .i64 m, .slice a1 St.length xa1, .slice a2 Fi.length xa2, .slice a3 Ed.length xa3], .agg #[.int .i64 n', .int .i64 m', .slice b1 St'.length xb1, .slice b2 Fi'.length xb2, .slice b3 Ed'.length xb3]] w (UnP w n m n' m' St Fi Ed St' Fi' Ed') := by
 have HD := hide (box3z w #[.int .i64 n, .int .i64 m, .slice a1 St.length xa1, .slice a2 Fi.length xa2, .slice a3 Ed.length xa3] #[.int .i64 n', .int .i64 m', .slice b1 St'.length xb1, .slice b2 Fi'.length xb2, .slice b3 Ed'.length xb3] #[.int .i64 0, .int .i64 0, .slice none 0 0, .slice none 0 0, .slice none 0 0] 25)
 obtain ⟨W0, hW0⟩ : ∃ W0, ((w.alloc (.cells #[.int .i64 n, .int .i64 m, .slice a1 St.length xa1, .slice a2 Fi.length xa2, .slice a3 Ed.length xa3] 25)).alloc (.cells #[.int .i64 n', .int .i64 m', .slice b1 St'.length xb1, .slice b2 Fi'.length xb2, .slice b3 Ed'.length xb3] 25)).alloc (.cells #[.int .i64 0, .int .i64 0, .slice none 0 0, .slice none 0 0, .slice none 0 0] 25) = W0 := ⟨_, rfl⟩
 rw [hW0] at HD
 have SK : Hid (∀ W, Below W0.heap.size W0 W → (fun W => (W.cell? ⟨w.heap.size, 0, none⟩ = some (.int .i64 n) ∧ W.cell? ⟨w.heap.size, 1, none⟩ = some (.int .i64 m) ∧ W.cell? ⟨w.heap.size, 2, none⟩ = some (.slice a1 St.length xa1) ∧ W.cell? ⟨w.heap.size, 3, none⟩ = some (.slice a2 Fi.length xa2) ∧ W.cell? ⟨w.heap.size, 4, none⟩ = some (.slice a3 Ed.length xa3) ∧ W.cell? ⟨w.heap.size + 1, 0, none⟩ = some (.int .i64 n') ∧ W.cell? ⟨w.heap.size + 1, 1, none⟩ = some (.int .i64 m') ∧ W.cell? ⟨w.heap.size + 1, 2, none⟩ = some (.slice b1 St'.length xb1) ∧ W.cell? ⟨w.heap.size + 1, 3, none⟩ = some (.slice b2 Fi'.length xb2) ∧ W.cell? ⟨w.heap.size + 1, 4, none⟩ = some (.slice b3 Ed'.length xb3) ∧ Hid (Below W0.heap.size W0 W))) W) := hide (fun W d => by
  have e := blk_on HD.out.2.1 d
  have f := blk_on HD.out.2.2.1 d
  exact ⟨cell_of e rfl, cell_of e rfl, cell_of e rfl, cell_of e rfl, cell_of e rfl, cell_of f rfl, cell_of f rfl, cell_of f rfl, cell_of f rfl, cell_of f rfl, hide d⟩)
 have SD : Hid (∀ W, (fun W => (W.cell? ⟨w.heap.size, 0, none⟩ = some (.int .i64 n) ∧ W.cell? ⟨w.heap.size, 1, none⟩ = some (.int .i64 m) ∧ W.cell? ⟨w.heap.size, 2, none⟩ = some (.slice a1 St.length xa1) ∧ W.cell? ⟨w.heap.size, 3, none⟩ = some (.slice a2 Fi.length xa2) ∧ W.cell? ⟨w.heap.size, 4, none⟩ = some (.slice a3 Ed.length xa3) ∧ W.cell? ⟨w.heap.size + 1, 0, none⟩ = some (.int .i64 n') ∧ W.cell? ⟨w.heap.size + 1, 1, none⟩ = some (.int .i64 m') ∧ W.cell? ⟨w.heap.size + 1, 2, none⟩ = some (.slice b1 St'.length xb1) ∧ W.cell? ⟨w.heap.size + 1, 3, none⟩ = some (.slice b2 Fi'.length xb2) ∧ W.cell? ⟨w.heap.size + 1, 4, none⟩ = some (.slice b3 Ed'.length xb3) ∧ Hid (Below W0.heap.size W0 W))) W → Below W0.heap.size W0 W) := hide (fun W h => h.2.2.2.2.2.2.2.2.2.2.out)
 have SA : Hid (∀ W o, (fun W => (W.cell? ⟨w.heap.size, 0, none⟩ = some (.int .i64 n) ∧ W.cell? ⟨w.heap.size, 1, none⟩ = some (.int .i64 m) ∧ W.cell? ⟨w.heap.size, 2, none⟩ = some (.slice a1 St.length xa1) ∧ W.cell? ⟨w.heap.size, 3, none⟩ = some (.slice a2 Fi.length xa2) ∧ W.cell? ⟨w.heap.size, 4, none⟩ = some (.slice a3 Ed.length xa3) ∧ W.cell? ⟨w.heap.size + 1, 0, none⟩ = some (.int .i64 n') ∧ W.cell? ⟨w.heap.size + 1, 1, none⟩ = some (.int .i64 m') ∧ W.cell? ⟨w.heap.size + 1, 2, none⟩ = some (.slice b1 St'.length xb1) ∧ W.cell? ⟨w.heap.size + 1, 3, none⟩ = some (.slice b2 Fi'.length xb2) ∧ W.cell? ⟨w.heap.size + 1, 4, none⟩ = some (.slice b3 Ed'.length xb3) ∧ Hid (Below W0.heap.size W0 W))) W → (fun W => (W.cell? ⟨w.heap.size, 0, none⟩ = some (.int .i64 n) ∧ W.cell? ⟨w.heap.size, 1, none⟩ = some (.int .i64 m) ∧ W.cell? ⟨w.heap.size, 2, none⟩ = some (.slice a1 St.length xa1) ∧ W.cell? ⟨w.heap.size, 3, none⟩ = some (.slice a2 Fi.length xa2) ∧ W.cell? ⟨w.heap.size, 4, none⟩ = some (.slice a3 Ed.length xa3) ∧ W.cell? ⟨w.heap.size + 1, 0, none⟩ = some (.int .i64 n') ∧ W.cell? ⟨w.heap.size + 1, 1, none⟩ = some (.int .i64 m') ∧ W.cell? ⟨w.heap.size + 1, 2, none⟩ = some (.slice b1 St'.length xb1) ∧ W.cell? ⟨w.heap.size + 1, 3, none⟩ = some (.slice b2 Fi'.length xb2) ∧ W.cell? ⟨w.heap.size + 1, 4, none⟩ = some (.slice b3 Ed'.length xb3) ∧ Hid (Below W0.heap.size W0 W))) (W.alloc o)) := hide (fun W o h => SK.out _ ((SD.out W h).alloc (SD.out W h).size o))
 have SB : Hid (∀ (W : World) (o : Obj), (fun W => (W.cell? ⟨w.heap.size, 0, none⟩ = some (.int .i64 n) ∧ W.cell? ⟨w.heap.size, 1, none⟩ = some (.int .i64 m) ∧ W.cell? ⟨w.heap.size, 2, none⟩ = some (.slice a1 St.length xa1) ∧ W.cell? ⟨w.heap.size, 3, none⟩ = some (.slice a2 Fi.length xa2) ∧ W.cell? ⟨w.heap.size, 4, none⟩ = some (.slice a3 Ed.length xa3) ∧ W.cell? ⟨w.heap.size + 1, 0, none⟩ = some (.int .i64 n') ∧ W.cell? ⟨w.heap.size + 1, 1, none⟩ = some (.int .i64 m') ∧ W.cell? ⟨w.heap.size + 1, 2, none⟩ = some (.slice b1 St'.length xb1) ∧ W.cell? ⟨w.heap.size + 1, 3, none⟩ = some (.slice b2 Fi'.length xb2) ∧ W.cell? ⟨w.heap.size + 1, 4, none⟩ = some (.slice b3 Ed'.length xb3) ∧ Hid (Below W0.heap.size W0 W))) W.drew → (fun W => (W.cell? ⟨w.heap.size, 0, none⟩ = some (.int .i64 n) ∧ W.cell? ⟨w.heap.size, 1, none⟩ = some (.int .i64 m) ∧ W.cell? ⟨w.heap.size, 2, none⟩ = some (.slice a1 St.length xa1) ∧ W.cell? ⟨w.heap.size, 3, none⟩ = some (.slice a2 Fi.length xa2) ∧ W.cell? ⟨w.heap.size, 4, none⟩ = some (.slice a3 Ed.length xa3) ∧ W.cell? ⟨w.heap.size + 1, 0, none⟩ = some (.int .i64 n') ∧ W.cell? ⟨w.heap.size + 1, 1, none⟩ = some (.int .i64 m') ∧ W.cell? ⟨w.heap.size + 1, 2, none⟩ = some (.slice b1 St'.length xb1) ∧ W.cell? ⟨w.heap.size + 1, 3, none⟩ = some (.slice b2 Fi'.length xb2) ∧ W.cell? ⟨w.heap.size + 1, 4, none⟩ = some (.slice b3 Ed'.length xb3) ∧ Hid (Below W0.heap.size W0 W))) (W.alloc o).drew) := hide (fun W o h => SK.out _ (((undrew2 (SD.out _ h)).alloc (SD.out _ h).size o).drew))
 have SS : Hid (∀ W q u0 u1 u2 u3 u4, W0.heap.size ≤ q → (fun W => (W.cell? ⟨w.heap.size, 0, none⟩ = some (.int .i64 n) ∧ W.cell? ⟨w.heap.size, 1, none⟩ = some (.int .i64 m) ∧ W.cell? ⟨w.heap.size, 2, none⟩ = some (.slice a1 St.length xa1) ∧ W.cell? ⟨w.heap.size, 3, none⟩ = some (.slice a2 Fi.length xa2) ∧ W.cell? ⟨w.heap.size, 4, none⟩ = some (.slice a3 Ed.length xa3) ∧ W.cell? ⟨w.heap.size + 1, 0, none⟩ = some (.int .i64 n') ∧ W.cell? ⟨w.heap.size + 1, 1, none⟩ = some (.int .i64 m') ∧ W.cell? ⟨w.heap.size + 1, 2, none⟩ = some (.slice b1 St'.length xb1) ∧ W.cell? ⟨w.heap.size + 1, 3, none⟩ = some (.slice b2 Fi'.length xb2) ∧ W.cell? ⟨w.heap.size + 1, 4, none⟩ = some (.slice b3 Ed'.length xb3) ∧ Hid (Below W0.heap.size W0 W))) W → (fun W => (W.cell? ⟨w.heap.size, 0, none⟩ = some (.int .i64 n) ∧ W.cell? ⟨w.heap.size, 1, none⟩ = some (.int .i64 m) ∧ W.cell? ⟨w.heap.size, 2, none⟩ = some (.slice a1 St.length xa1) ∧ W.cell? ⟨w.heap.size, 3, none⟩ = some (.slice a2 Fi.length xa2) ∧ W.cell? ⟨w.heap.size, 4, none⟩ = some (.slice a3 Ed.length xa3) ∧ W.cell? ⟨w.heap.size + 1, 0, none⟩ = some (.int .i64 n') ∧ W.cell? ⟨w.heap.size + 1, 1, none⟩ = some (.int .i64 m') ∧ W.cell? ⟨w.heap.size + 1, 2, none⟩ = some (.slice b1 St'.length xb1) ∧ W.cell? ⟨w.heap.size + 1, 3, none⟩ = some (.slice b2 Fi'.length xb2) ∧ W.cell? ⟨w.heap.size + 1, 4, none⟩ = some (.slice b3 Ed'.length xb3) ∧ Hid (Below W0.heap.size W0 W))) (((((W.setCell ⟨q, 0, none⟩ u0).setCell ⟨q, 1, none⟩ u1).setCell ⟨q, 2, none⟩ u2).setCell ⟨q, 3, none⟩ u3).setCell ⟨q, 4, none⟩ u4)) := hide (fun W q u0 u1 u2 u3 u4 hq h => SK.out _ ((SD.out W h).trans ((only5 W q u0 u1 u2 u3 u4).toBelow (SD.out W h).size (fun k hk => by omega))))
 have TV : Hid (∀ W, Below W0.heap.size W0 W → Calls Tryz.prog 75 #[.agg #[.int .i64 n, .int .i64 m, .slice a1 St.length xa1, .slice a2 Fi.length xa2, .slice a3 Ed.length xa3]] W fun e w' => e = .returned (.int .i64 (if mayA n m St Fi Ed then 0 else 2)) ∧ Below W0.heap.size W0 w') := hide (fun W d => (valid_any W n m a1 a2 a3 xa1 xa2 xa3 St Fi Ed (hide ((hA.out.on HD.out.1).on d)) h1 h2 h3).mono fun e w' ⟨he, dd⟩ => ⟨he, d.trans (dd.mono d.size)⟩)
 have TW : Hid (∀ W, Below W0.heap.size W0 W → Calls Tryz.prog 75 #[.agg #[.int .i64 n', .int .i64 m', .slice b1 St'.length xb1, .slice b2 Fi'.length xb2, .slice b3 Ed'.length xb3]] W fun e w' => e = .returned (.int .i64 (if mayA n' m' St' Fi' Ed' then 0 else 2)) ∧ Below W0.heap.size W0 w') := hide (fun W d => (valid_any W n' m' b1 b2 b3 xb1 xb2 xb3 St' Fi' Ed' (hide ((hB.out.on HD.out.1).on d)) h4 h5 h6).mono fun e w' ⟨he, dd⟩ => ⟨he, d.trans (dd.mono d.size)⟩)
 have TA : Hid (∀ W, Below W0.heap.size W0 W → Calls Tryz.prog 81 #[.agg #[.int .i64 n, .int .i64 m, .slice a1 St.length xa1, .slice a2 Fi.length xa2, .slice a3 Ed.length xa3]] W fun e w' => ∃ g1 k1 g2 k2 g3 k3, e = .returned (.agg #[.int .i64 n, .int .i64 m, .slice (some ⟨g1, 0, none⟩) (riseL St).length k1, .slice (some ⟨g2, 0, none⟩) (riseL Fi).length k2, .slice (some ⟨g3, 0, none⟩) (riseE Ed).length k3]) ∧ Own W.heap.size w' g1 k1 g2 k2 g3 k3 (riseL St) (riseL Fi) (riseE Ed) ∧ Below W.heap.size W w' ∧ Below W0.heap.size W0 w') := hide (fun W d => by
  refine (inOrder_any W n m a1 a2 a3 xa1 xa2 xa3 St Fi Ed (hide ((hA.out.on HD.out.1).on d)) h1 h2 h3).mono ?_
  rintro e w' ⟨g1, k1, g2, k2, g3, k3, he, ho, dd⟩
  exact ⟨g1, k1, g2, k2, g3, k3, he, ho, dd, d.trans (dd.mono d.size)⟩)
 have TB : Hid (∀ W, Below W0.heap.size W0 W → Calls Tryz.prog 81 #[.agg #[.int .i64 n', .int .i64 m', .slice b1 St'.length xb1, .slice b2 Fi'.length xb2, .slice b3 Ed'.length xb3]] W fun e w' => ∃ g1 k1 g2 k2 g3 k3, e = .returned (.agg #[.int .i64 n', .int .i64 m', .slice (some ⟨g1, 0, none⟩) (riseL St').length k1, .slice (some ⟨g2, 0, none⟩) (riseL Fi').length k2, .slice (some ⟨g3, 0, none⟩) (riseE Ed').length k3]) ∧ Own W.heap.size w' g1 k1 g2 k2 g3 k3 (riseL St') (riseL Fi') (riseE Ed') ∧ Below W.heap.size W w' ∧ Below W0.heap.size W0 w') := hide (fun W d => by
  refine (inOrder_any W n' m' b1 b2 b3 xb1 xb2 xb3 St' Fi' Ed' (hide ((hB.out.on HD.out.1).on d)) h4 h5 h6).mono ?_
  rintro e w' ⟨g1, k1, g2, k2, g3, k3, he, ho, dd⟩
  exact ⟨g1, k1, g2, k2, g3, k3, he, ho, dd, d.trans (dd.mono d.size)⟩)
 have S0 := SK.out W0 (Below.refl _ _)
 obtain ⟨y0, y1, y2, y3, y4, z0, z1, z2, z3, z4, _⟩ := S0
 go_enter Tryz.func59, Tryz.ntmps59
 by_cases ea : mayA n m St Fi Ed = true
 · by_cases eb : mayA n' m' St' Fi' Ed' = true
   · have HM := hide (And.intro (may_parts ea) (And.intro (may_parts eb) (And.intro (may_rise eb) (may_rise ea))))
     have TV : Hid (∀ W, Below W0.heap.size W0 W → Calls Tryz.prog 75 #[.agg #[.int .i64 n, .int .i64 m, .slice a1 St.length xa1, .slice a2 Fi.length xa2, .slice a3 Ed.length xa3]] W fun e w' => e = .returned (.int .i64 0) ∧ Below W0.heap.size W0 w') := hide (fun W d => by have t := TV.out W d; rw [ea] at t; exact t)
     have TW : Hid (∀ W, Below W0.heap.size W0 W → Calls Tryz.prog 75 #[.agg #[.int .i64 n', .int .i64 m', .slice b1 St'.length xb1, .slice b2 Fi'.length xb2, .slice b3 Ed'.length xb3]] W fun e w' => e = .returned (.int .i64 0) ∧ Below W0.heap.size W0 w') := hide (fun W d => by have t := TW.out W d; rw [eb] at t; exact t)
     have HU : Hid (unErr n m n' m' St Fi Ed St' Fi' Ed' = if m ≠ m' then 6 else if 4096 < n + n' then 8 else if 65536 < (riseE Ed).length + (riseE Ed').length then 8 else 0) := hide (by unfold unErr; rw [if_neg (by rw [ea, eb]; simp)])
     by_cases em : m = m'
     · have e0 : (m != m') = false := by simp [em]
       have EM := hide em
       clear em
       have hb1 := HM.out.1.1
       have hb2 := HM.out.2.1.1
       have iw : IntKind.i64.wrap (n + n') = n + n' := by rw [IntKind.wrap_i64]; omega
       by_cases en : 4096 < n + n'
       · go_upto_region 6 with (first
          | (go_at_call_of 75 a1; refine (TV.out _ (Below.refl _ _)).mono ?_; rintro e wa ⟨rfl, D1⟩; obtain ⟨p0, p1, p2, p3, p4, q0, q1, q2, q3, q4, _⟩ := SK.out wa D1)
          | (go_at_call_of 75 b1; refine (TW.out _ D1).mono ?_; rintro e wb ⟨rfl, D2⟩; have DB := hide D2; obtain ⟨r0, r1, r2, r3, r4, t0, t1, t2, t3, t4, _⟩ := SK.out wb D2))
         have F3 := blk_on HD.out.2.2.2.1 DB.out
         obtain ⟨o0, o1, o2, o3, o4⟩ := zd5 F3 rfl rfl rfl rfl rfl
         have f0 : wb.frozen? ⟨w.heap.size + 1 + 1, 0, none⟩ = false := fz_of F3
         have f1 : wb.frozen? ⟨w.heap.size + 1 + 1, 1, none⟩ = false := fz_of F3
         have f2 : wb.frozen? ⟨w.heap.size + 1 + 1, 2, none⟩ = false := fz_of F3
         have f3 : wb.frozen? ⟨w.heap.size + 1 + 1, 3, none⟩ = false := fz_of F3
         have f4 : wb.frozen? ⟨w.heap.size + 1 + 1, 4, none⟩ = false := fz_of F3
         have O6 := hide (And.intro (set5 wb (w.heap.size + 1 + 1) _ _ _ _ _ (.int .i64 0) (.int .i64 0) (.slice none 0 0) (.slice none 0 0) (.slice none 0 0) 25 F3) (only5 wb (w.heap.size + 1 + 1) (.int .i64 0) (.int .i64 0) (.slice none 0 0) (.slice none 0 0) (.slice none 0 0)))
         clear F3
         go_wp2_with fail
         refine bodyPost_ret (results_c1 (p := 4) (q := 5) (ty := 25) rfl _ _ (w.heap.size + 1 + 1) 25 _ (0, 0) _ _ rfl rfl O6.out.1 Tryz.underlying25 rfl (by kernel_rfl)) rfl ?_
         have z0 := HD.out.2.2.2.2
         have z1 := DB.out.size
         have he : unErr n m n' m' St Fi Ed St' Fi' Ed' = 8 := by rw [HU.out, if_neg (by simp [EM.out]), if_pos en]
         exact ⟨Or.inl ⟨by rw [he]; decide, by rw [he]; rfl⟩, (HD.out.1.trans (DB.out.mono (by omega))).trans (O6.out.2.toBelow (by omega) (fun k hk => by omega))⟩
       · have EN := hide en
         clear en
         have en : ¬ 4096 < n + n' := EN.out
         go_upto_region 7 with (first
          | (go_at_call_of 75 a1; refine (TV.out _ (Below.refl _ _)).mono ?_; rintro e wa ⟨rfl, D1⟩; obtain ⟨p0, p1, p2, p3, p4, q0, q1, q2, q3, q4, _⟩ := SK.out wa D1)
          | (go_at_call_of 75 b1; refine (TW.out _ D1).mono ?_; rintro e wb ⟨rfl, D2⟩; have DB := hide D2; obtain ⟨r0, r1, r2, r3, r4, t0, t1, t2, t3, t4, _⟩ := SK.out wb D2))
         clear y0 y1 y2 y3 y4 z0 z1 z2 z3 z4 p0 p1 p2 p3 p4 q0 q1 q2 q3 q4 r0 r1 r2 r3 r4 t0 t1 t2 t3 t4 D1 D2 TV TW
         go_cut [6, 7] from 6 to 33 (fun p q W => ∃ b5 b6 g1 k1 g2 k2 g3 k3 h1 c1 h2 c2 h3 c3, p = .pointer (some ⟨b5, 0, none⟩) ∧ q = .pointer (some ⟨b6, 0, none⟩) ∧ Hid (Lai W0 W b5 b6 n m n' m' g1 k1 g2 k2 g3 k3 h1 c1 h2 c2 h3 c3 (riseL St) (riseL Fi) (riseE Ed) (riseL St') (riseL Fi') (riseE Ed')))
         case first =>
          rename World => wx
          have Edr := hide DB.out
          refine wp_region_mkL [isV (.agg #[.int .i64 n, .int .i64 m, .slice a1 St.length xa1, .slice a2 Fi.length xa2, .slice a3 Ed.length xa3]), ownP n m (riseL St) (riseL Fi) (riseE Ed), isV (.agg #[.int .i64 n', .int .i64 m', .slice b1 St'.length xb1, .slice b2 Fi'.length xb2, .slice b3 Ed'.length xb3]), ownP n' m' (riseL St') (riseL Fi') (riseE Ed'), boxP, boxP] (by kernel_rfl) (by kernel_rfl) ⟨isV_mono _, ownP_mono, isV_mono _, ownP_mono, boxP_mono, boxP_mono, trivial⟩ ?go
          case go =>
           intro F hF
           simp only [fills, Act.put, List.take, List.length, List.setIfInBounds_toArray, List.set_cons_zero, List.set_cons_succ, Nat.reduceAdd] at hF
           refine ⟨⟨?o0, ?o1, ?o2, ?o3, ?o4, ?o5, trivial⟩, ?fin⟩
           case o0 =>
            intro y W d hd K hK
            clear hd
            simp only [hF]
            have S := SK.out W (Edr.out.trans (d.mono Edr.out.size))
            obtain ⟨y0, y1, y2, y3, y4, z0, z1, z2, z3, z4, _⟩ := S
            go_simp
            refine hK.out _ _ W (Below.refl _ _) rfl (by simp only [hF, updV, Nat.reduceEqDiff, reduceIte])
           case o1 =>
            intro y W d hd K hK
            have e0 : y 0 = .agg #[.int .i64 n, .int .i64 m, .slice a1 St.length xa1, .slice a2 Fi.length xa2, .slice a3 Ed.length xa3] := by obtain ⟨_, _, _, e⟩ := hd ⟨0, .data⟩ (by simp) rfl; exact e
            clear hd
            rw [hF]
            simp only [e0]
            go_wp2_with (go_at_call 81; refine (TA.out _ (Edr.out.trans (d.mono Edr.out.size))).mono ?_; rintro e wa ⟨g1, k1, g2, k2, g3, k3, rfl, o1, d1, D1⟩)
            refine hK.out _ _ wa d1 (ownP_of o1) (by simp only [hF, updV, Nat.reduceAdd, Nat.reduceEqDiff, reduceIte, e0])
           case o2 =>
            intro y W d hd K hK
            clear hd
            simp only [hF]
            have S := SK.out W (Edr.out.trans (d.mono Edr.out.size))
            obtain ⟨y0, y1, y2, y3, y4, z0, z1, z2, z3, z4, _⟩ := S
            go_simp
            refine hK.out _ _ W (Below.refl _ _) rfl (by simp only [hF, updV, Nat.reduceAdd, Nat.reduceEqDiff, reduceIte])
           case o3 =>
            intro y W d hd K hK
            have e2 : y 2 = .agg #[.int .i64 n', .int .i64 m', .slice b1 St'.length xb1, .slice b2 Fi'.length xb2, .slice b3 Ed'.length xb3] := by obtain ⟨_, _, _, e⟩ := hd ⟨2, .data⟩ (by simp) rfl; exact e
            clear hd
            rw [hF]
            simp only [e2]
            go_wp2_with (go_at_call 81; refine (TB.out _ (Edr.out.trans (d.mono Edr.out.size))).mono ?_; rintro e wa ⟨g1, k1, g2, k2, g3, k3, rfl, o1, d1, D1⟩)
            refine hK.out _ _ wa d1 (ownP_of o1) (by simp only [hF, updV, Nat.reduceAdd, Nat.reduceEqDiff, reduceIte, e2])
           case o4 | o5 =>
            intro y W d hd K hK
            clear hd
            simp only [hF]
            go_simp
            refine hK.out _ _ _ ((Below.refl _ _).alloc (Nat.le_refl _) _) (boxP_of _) (by simp only [hF, updV, Nat.reduceAdd, Nat.reduceEqDiff, reduceIte])
           case fin =>
            intro y lo hi W hM
            have e0 : y 0 = .agg #[.int .i64 n, .int .i64 m, .slice a1 St.length xa1, .slice a2 Fi.length xa2, .slice a3 Ed.length xa3] := hM.fact 0 (by simp) rfl
            have e2 : y 2 = .agg #[.int .i64 n', .int .i64 m', .slice b1 St'.length xb1, .slice b2 Fi'.length xb2, .slice b3 Ed'.length xb3] := hM.fact 2 (by simp) rfl
            obtain ⟨p, q, g1, k1, g2, k2, g3, k3, h1, c1, h2, c2, h3, c3, e1, e3, e4, e5, HP⟩ := two_pre Edr.out (by simp) hM (hM.order 3 _ ⟨1, .chain⟩ (by simp) rfl rfl (by simp) rfl)
            simp only [hF, e0, e2, e1, e3, e4, e5]
            have HL := hide (HP.lai n m n' m')
            obtain ⟨⟨u0, u1, u2, u3, u4⟩, v0, v1, v2, v3, v4⟩ := zero_cells HP.zp
            obtain ⟨⟨ua0, ua1, ua2, ua3, ua4⟩, va0, va1, va2, va3, va4⟩ := zero_cells (HP.zq1 n m)
            have ne := HP.ne
            clear hM hF e0 e2 e1 e3 e4 e5
            clear HP
            go_wp2_with fail
            go_meet
            exact ⟨_, _, _, _, _, _, _, _, _, _, _, _, _, _, rfl, rfl, HL⟩
         case rest =>
          obtain ⟨b5, b6, g1, k1, g2, k2, g3, k3, g4, k4, g5, k5, g6, k6, rfl, rfl, HL⟩ := hcut
          rename World => wy
          have le1 := riseE_len Ed
          have le2 := riseE_len Ed'
          have bl1 : wy.cell? ⟨b5, 4, none⟩ = some (.slice (some ⟨g3, 0, none⟩) (riseE Ed).length k3) := cell_of HL.out.bp rfl
          have bl2 : wy.cell? ⟨b6, 4, none⟩ = some (.slice (some ⟨g6, 0, none⟩) (riseE Ed').length k6) := cell_of HL.out.bq rfl
          have iw2 : IntKind.i64.wrap (((riseE Ed).length : Int) + ((riseE Ed').length : Int)) = ((riseE Ed).length : Int) + ((riseE Ed').length : Int) := by rw [IntKind.wrap_i64]; omega
          by_cases el : 65536 < (riseE Ed).length + (riseE Ed').length
          · have el2 : (65536 : Int) < ((riseE Ed).length : Int) + ((riseE Ed').length : Int) := by omega
            have DY := hide HL.out.d
            have EL := hide el
            clear el
            go_upto_region 9 with fail
            have F3 := blk_on HD.out.2.2.2.1 DY.out
            obtain ⟨o0, o1, o2, o3, o4⟩ := zd5 F3 rfl rfl rfl rfl rfl
            have f0 : wy.frozen? ⟨w.heap.size + 1 + 1, 0, none⟩ = false := fz_of F3
            have f1 : wy.frozen? ⟨w.heap.size + 1 + 1, 1, none⟩ = false := fz_of F3
            have f2 : wy.frozen? ⟨w.heap.size + 1 + 1, 2, none⟩ = false := fz_of F3
            have f3 : wy.frozen? ⟨w.heap.size + 1 + 1, 3, none⟩ = false := fz_of F3
            have f4 : wy.frozen? ⟨w.heap.size + 1 + 1, 4, none⟩ = false := fz_of F3
            have O6 := hide (And.intro (set5 wy (w.heap.size + 1 + 1) _ _ _ _ _ (.int .i64 0) (.int .i64 0) (.slice none 0 0) (.slice none 0 0) (.slice none 0 0) 25 F3) (only5 wy (w.heap.size + 1 + 1) (.int .i64 0) (.int .i64 0) (.slice none 0 0) (.slice none 0 0) (.slice none 0 0)))
            clear F3
            go_wp2_with fail
            refine bodyPost_ret (results_c1 (p := 4) (q := 5) (ty := 25) rfl _ _ (w.heap.size + 1 + 1) 25 _ (0, 0) _ _ rfl rfl O6.out.1 Tryz.underlying25 rfl (by kernel_rfl)) rfl ?_
            have z0 := HD.out.2.2.2.2
            have z1 := DY.out.size
            have he : unErr n m n' m' St Fi Ed St' Fi' Ed' = 8 := by rw [HU.out, if_neg (by simp [EM.out]), if_neg (by have := EN.out; omega), if_pos EL.out]
            exact ⟨Or.inl ⟨by rw [he]; decide, by rw [he]; rfl⟩, (HD.out.1.trans (DY.out.mono (by omega))).trans (O6.out.2.toBelow (by omega) (fun k hk => by omega))⟩
          · have el2 : ¬ (65536 : Int) < ((riseE Ed).length : Int) + ((riseE Ed').length : Int) := by omega
            have EL := hide el
            clear el
            go_upto_region 10 with fail
            clear bl1 bl2
            obtain ⟨y0, y1, y2, y3, y4⟩ := zd5 HL.out.bp rfl rfl rfl rfl rfl
            obtain ⟨z0, z1, z2, z3, z4⟩ := zd5 HL.out.bq rfl rfl rfl rfl rfl
            obtain ⟨C, hC⟩ := HL.out.lt
            have T68 := beside_any wy W0.heap.size C n n' m m' g1 k1 g2 k2 g3 k3 g4 k4 g5 k5 g6 k6 (riseL St) (riseL Fi) (riseL St') (riseL Fi') (riseE Ed) (riseE Ed') (hide HL.out.o1) (hide HL.out.o2) (hide hC) HL.out.d.size hb1 hb2 (hide fun x hx => by have := (may_st HM.out.2.2.1).1 x hx; omega) (hide fun x hx => by have := (may_st HM.out.2.2.1).2 x hx; omega) (hide fun e he => by have := (may_parts HM.out.2.2.1).2.2.2.2.2 e he; omega) (Nat.le_trans (riseL_len St) h1) (Nat.le_trans (riseL_len Fi) h2) (Nat.le_trans le1 h3) (Nat.le_trans (riseL_len St') h4) (Nat.le_trans (riseL_len Fi') h5) (Nat.le_trans le2 h6)
            obtain ⟨XS, hXS⟩ : ∃ X, riseL St ++ shL n (riseL St') = X := ⟨_, rfl⟩
            obtain ⟨XF, hXF⟩ : ∃ X, riseL Fi ++ shL n (riseL Fi') = X := ⟨_, rfl⟩
            obtain ⟨XE, hXE⟩ : ∃ X, riseE Ed ++ shEs n (riseE Ed') = X := ⟨_, rfl⟩
            rw [hXS, hXF, hXE] at T68
            have HX := hide (And.intro hXS (And.intro hXF hXE))
            clear hXS hXF hXE hC
            go_wp2_with (go_at_call 97; refine T68.mono ?_; rintro e wz ⟨r1, q1, r2, q2, r3, q3, rfl, hO, dz⟩; have HZ := hide (And.intro hO (HL.out.d.trans dz)); clear hO dz; have F3 := blk_on HD.out.2.2.2.1 HZ.out.2; obtain ⟨o0, o1, o2, o3, o4⟩ := zd5 F3 rfl rfl rfl rfl rfl; have f0 : wz.frozen? ⟨w.heap.size + 1 + 1, 0, none⟩ = false := fz_of F3; have f1 : wz.frozen? ⟨w.heap.size + 1 + 1, 1, none⟩ = false := fz_of F3; have f2 : wz.frozen? ⟨w.heap.size + 1 + 1, 2, none⟩ = false := fz_of F3; have f3 : wz.frozen? ⟨w.heap.size + 1 + 1, 3, none⟩ = false := fz_of F3; have f4 : wz.frozen? ⟨w.heap.size + 1 + 1, 4, none⟩ = false := fz_of F3; have O6 := hide (And.intro (set5 wz (w.heap.size + 1 + 1) _ _ _ _ _ (.int .i64 (n + n')) (.int .i64 m) (.slice (some ⟨r1, 0, none⟩) XS.length q1) (.slice (some ⟨r2, 0, none⟩) XF.length q2) (.slice (some ⟨r3, 0, none⟩) XE.length q3) 25 F3) (only5 wz (w.heap.size + 1 + 1) (.int .i64 (n + n')) (.int .i64 m) (.slice (some ⟨r1, 0, none⟩) XS.length q1) (.slice (some ⟨r2, 0, none⟩) XF.length q2) (.slice (some ⟨r3, 0, none⟩) XE.length q3))); clear F3)
            refine bodyPost_ret (results_c1 (p := 4) (q := 5) (ty := 25) rfl _ _ (w.heap.size + 1 + 1) 25 _ (0, 0) _ _ rfl rfl O6.out.1 Tryz.underlying25 rfl (by kernel_rfl)) rfl ?_
            have z0 := HD.out.2.2.2.2
            have z1 := HZ.out.2.size
            have q1 := own_at HZ.out.1.s
            have q2 := own_at HZ.out.1.f
            have q3 := own_at HZ.out.1.e
            have he : unErr n m n' m' St Fi Ed St' Fi' Ed' = 0 := by rw [HU.out, if_neg (by simp [EM.out]), if_neg (by have := EN.out; omega), if_neg EL.out]
            unfold UnP
            rw [HX.out.1, HX.out.2.1, HX.out.2.2]
            refine ⟨Or.inr ⟨he, r1, _, r2, _, r3, _, rfl, ⟨own_only (owns_down HZ.out.1.s (by omega)) O6.out.2 (by omega), own_only (owns_down HZ.out.1.f (by omega)) O6.out.2 (by omega), own_only (owns_down HZ.out.1.e (by omega)) O6.out.2 (by omega), HZ.out.1.n12, HZ.out.1.n13, HZ.out.1.n23⟩⟩, (HD.out.1.trans (HZ.out.2.mono (by omega))).trans (O6.out.2.toBelow (by omega) (fun k hk => by omega))⟩
     · have e0 : (m != m') = true := by simpa using em
       have EM := hide em
       clear em
       go_upto_region 4 with (first
        | (go_at_call_of 75 a1; refine (TV.out _ (Below.refl _ _)).mono ?_; rintro e wa ⟨rfl, D1⟩; obtain ⟨p0, p1, p2, p3, p4, q0, q1, q2, q3, q4, _⟩ := SK.out wa D1)
        | (go_at_call_of 75 b1; refine (TW.out _ D1).mono ?_; rintro e wb ⟨rfl, D2⟩; have DB := hide D2; obtain ⟨r0, r1, r2, r3, r4, t0, t1, t2, t3, t4, _⟩ := SK.out wb D2))
       have F3 := blk_on HD.out.2.2.2.1 DB.out
       obtain ⟨o0, o1, o2, o3, o4⟩ := zd5 F3 rfl rfl rfl rfl rfl
       have f0 : wb.frozen? ⟨w.heap.size + 1 + 1, 0, none⟩ = false := fz_of F3
       have f1 : wb.frozen? ⟨w.heap.size + 1 + 1, 1, none⟩ = false := fz_of F3
       have f2 : wb.frozen? ⟨w.heap.size + 1 + 1, 2, none⟩ = false := fz_of F3
       have f3 : wb.frozen? ⟨w.heap.size + 1 + 1, 3, none⟩ = false := fz_of F3
       have f4 : wb.frozen? ⟨w.heap.size + 1 + 1, 4, none⟩ = false := fz_of F3
       have O6 := hide (And.intro (set5 wb (w.heap.size + 1 + 1) _ _ _ _ _ (.int .i64 0) (.int .i64 0) (.slice none 0 0) (.slice none 0 0) (.slice none 0 0) 25 F3) (only5 wb (w.heap.size + 1 + 1) (.int .i64 0) (.int .i64 0) (.slice none 0 0) (.slice none 0 0) (.slice none 0 0)))
       clear F3
       go_wp2_with fail
       refine bodyPost_ret (results_c1 (p := 4) (q := 5) (ty := 25) rfl _ _ (w.heap.size + 1 + 1) 25 _ (0, 0) _ _ rfl rfl O6.out.1 Tryz.underlying25 rfl (by kernel_rfl)) rfl ?_
       have z0 := HD.out.2.2.2.2
       have z1 := DB.out.size
       have he : unErr n m n' m' St Fi Ed St' Fi' Ed' = 6 := by rw [HU.out, if_pos EM.out]
       exact ⟨Or.inl ⟨by rw [he]; decide, by rw [he]; rfl⟩, (HD.out.1.trans (DB.out.mono (by omega))).trans (O6.out.2.toBelow (by omega) (fun k hk => by omega))⟩
   · have eb : mayA n' m' St' Fi' Ed' = false := by simpa using eb
     have TV : Hid (∀ W, Below W0.heap.size W0 W → Calls Tryz.prog 75 #[.agg #[.int .i64 n, .int .i64 m, .slice a1 St.length xa1, .slice a2 Fi.length xa2, .slice a3 Ed.length xa3]] W fun e w' => e = .returned (.int .i64 0) ∧ Below W0.heap.size W0 w') := hide (fun W d => by have t := TV.out W d; rw [ea] at t; exact t)
     have TW : Hid (∀ W, Below W0.heap.size W0 W → Calls Tryz.prog 75 #[.agg #[.int .i64 n', .int .i64 m', .slice b1 St'.length xb1, .slice b2 Fi'.length xb2, .slice b3 Ed'.length xb3]] W fun e w' => e = .returned (.int .i64 2) ∧ Below W0.heap.size W0 w') := hide (fun W d => by have t := TW.out W d; rw [eb] at t; exact t)
     go_upto_region 2 with (first
      | (go_at_call_of 75 a1; refine (TV.out _ (Below.refl _ _)).mono ?_; rintro e wa ⟨rfl, D1⟩; obtain ⟨p0, p1, p2, p3, p4, q0, q1, q2, q3, q4, _⟩ := SK.out wa D1)
      | (go_at_call_of 75 b1; refine (TW.out _ D1).mono ?_; rintro e wb ⟨rfl, D2⟩; have DB := hide D2; obtain ⟨r0, r1, r2, r3, r4, t0, t1, t2, t3, t4, _⟩ := SK.out wb D2))
     have F3 := blk_on HD.out.2.2.2.1 DB.out
     obtain ⟨o0, o1, o2, o3, o4⟩ := zd5 F3 rfl rfl rfl rfl rfl
     have f0 : wb.frozen? ⟨w.heap.size + 1 + 1, 0, none⟩ = false := fz_of F3
     have f1 : wb.frozen? ⟨w.heap.size + 1 + 1, 1, none⟩ = false := fz_of F3
     have f2 : wb.frozen? ⟨w.heap.size + 1 + 1, 2, none⟩ = false := fz_of F3
     have f3 : wb.frozen? ⟨w.heap.size + 1 + 1, 3, none⟩ = false := fz_of F3
     have f4 : wb.frozen? ⟨w.heap.size + 1 + 1, 4, none⟩ = false := fz_of F3
     have O6 := hide (And.intro (set5 wb (w.heap.size + 1 + 1) _ _ _ _ _ (.int .i64 0) (.int .i64 0) (.slice none 0 0) (.slice none 0 0) (.slice none 0 0) 25 F3) (only5 wb (w.heap.size + 1 + 1) (.int .i64 0) (.int .i64 0) (.slice none 0 0) (.slice none 0 0) (.slice none 0 0)))
     clear F3
     go_wp2_with fail
     refine bodyPost_ret (results_c1 (p := 4) (q := 5) (ty := 25) rfl _ _ (w.heap.size + 1 + 1) 25 _ (0, 0) _ _ rfl rfl O6.out.1 Tryz.underlying25 rfl (by kernel_rfl)) rfl ?_
     have z0 := HD.out.2.2.2.2
     have z1 := DB.out.size
     have he : unErr n m n' m' St Fi Ed St' Fi' Ed' = 2 := by unfold unErr; rw [if_pos (Or.inr eb)]
     exact ⟨Or.inl ⟨by rw [he]; decide, by rw [he]; rfl⟩, (HD.out.1.trans (DB.out.mono (by omega))).trans (O6.out.2.toBelow (by omega) (fun k hk => by omega))⟩
 · have ea : mayA n m St Fi Ed = false := by simpa using ea
   have TV : Hid (∀ W, Below W0.heap.size W0 W → Calls Tryz.prog 75 #[.agg #[.int .i64 n, .int .i64 m, .slice a1 St.length xa1, .slice a2 Fi.length xa2, .slice a3 Ed.length xa3]] W fun e w' => e = .returned (.int .i64 2) ∧ Below W0.heap.size W0 w') := hide (fun W d => by have t := TV.out W d; rw [ea] at t; exact t)
   go_upto_region 2 with (go_at_call_of 75 a1; refine (TV.out _ (Below.refl _ _)).mono ?_; rintro e wa ⟨rfl, D1⟩; have DB := hide D1)
   have F3 := blk_on HD.out.2.2.2.1 DB.out
   obtain ⟨o0, o1, o2, o3, o4⟩ := zd5 F3 rfl rfl rfl rfl rfl
   have f0 : wa.frozen? ⟨w.heap.size + 1 + 1, 0, none⟩ = false := fz_of F3
   have f1 : wa.frozen? ⟨w.heap.size + 1 + 1, 1, none⟩ = false := fz_of F3
   have f2 : wa.frozen? ⟨w.heap.size + 1 + 1, 2, none⟩ = false := fz_of F3
   have f3 : wa.frozen? ⟨w.heap.size + 1 + 1, 3, none⟩ = false := fz_of F3
   have f4 : wa.frozen? ⟨w.heap.size + 1 + 1, 4, none⟩ = false := fz_of F3
   have O6 := hide (And.intro (set5 wa (w.heap.size + 1 + 1) _ _ _ _ _ (.int .i64 0) (.int .i64 0) (.slice none 0 0) (.slice none 0 0) (.slice none 0 0) 25 F3) (only5 wa (w.heap.size + 1 + 1) (.int .i64 0) (.int .i64 0) (.slice none 0 0) (.slice none 0 0) (.slice none 0 0)))
   clear F3
   go_wp2_with fail
   refine bodyPost_ret (results_c1 (p := 4) (q := 5) (ty := 25) rfl _ _ (w.heap.size + 1 + 1) 25 _ (0, 0) _ _ rfl rfl O6.out.1 Tryz.underlying25 rfl (by kernel_rfl)) rfl ?_
   have z0 := HD.out.2.2.2.2
   have z1 := DB.out.size
   have he : unErr n m n' m' St Fi Ed St' Fi' Ed' = 2 := by unfold unErr; rw [if_pos (Or.inl ea)]
   exact ⟨Or.inl ⟨by rw [he]; decide, by rw [he]; rfl⟩, (HD.out.1.trans (DB.out.mono (by omega))).trans (O6.out.2.toBelow (by omega) (fun k hk => by omega))⟩
end Go.Proofs.YtchoopnjckcohaaGreatDoor
namespace Go.Proofs.YtchoopnjckcohaaGreatDoor
open Go.RowKit Go.Maps Go.Shelf
structure Ans where
 n : Int
 m : Int
 s : List Int
 f : List Int
 e : List EdT
 er : Int
def badA (er : Int) : Ans := ⟨0, 0, [], [], [], er⟩
theorem Own.o {B : Nat} {w : World} {g1 k1 g2 k2 g3 k3 : Nat} {S F : List Int} {E : List EdT} (h : Own B w g1 k1 g2 k2 g3 k3 S F E) : OwnO B w (.slice (some ⟨g1, 0, none⟩) S.length k1) (.slice (some ⟨g2, 0, none⟩) F.length k2) (.slice (some ⟨g3, 0, none⟩) E.length k3) S F E :=
 ⟨h.s, h.f, h.e, fun g q q' => h.n12 (by simp only [Value.ownBlock, Option.some.injEq] at q q'; rw [q, q'])⟩
def AnsO (w : World) (r : Ans) (e : Ending) (w' : World) : Prop := ∃ b1 k1 b2 k2 b3 k3, e = .returned (.tuple #[.agg #[.int .i64 r.n, .int .i64 r.m, .slice b1 r.s.length k1, .slice b2 r.f.length k2, .slice b3 r.e.length k3], .int .i64 r.er]) ∧ Hid (OwnO w.heap.size w' (.slice b1 r.s.length k1) (.slice b2 r.f.length k2) (.slice b3 r.e.length k3) r.s r.f r.e) ∧ Below w.heap.size w w'
def AnsRN (w : World) (r : Ans) (e : Ending) (w' : World) : Prop := ∃ b1 k1 b2 k2 b3 k3, e = .returned (.tuple #[.agg #[.int .i64 r.n, .int .i64 r.m, .slice b1 r.s.length k1, .slice b2 r.f.length k2, .slice b3 r.e.length k3], .int .i64 r.er]) ∧ Hid (OwnD w.heap.size w' (.slice b1 r.s.length k1) (.slice b2 r.f.length k2) (.slice b3 r.e.length k3) r.s r.f r.e) ∧ Below w.heap.size w w'
theorem ansO_bad {w w' : World} {er : Int} {e : Ending} (he : e = .returned (.tuple #[.agg #[.int .i64 0, .int .i64 0, .slice none 0 0, .slice none 0 0, .slice none 0 0], .int .i64 er])) (d : Below w.heap.size w w') : AnsO w (badA er) e w' :=
 ⟨none, 0, none, 0, none, 0, he, hide ⟨⟨rfl, .inl ⟨rfl, rfl⟩⟩, ⟨rfl, .inl ⟨rfl, rfl⟩⟩, ⟨rfl, .inl ⟨rfl, rfl⟩⟩, fun g q => by cases q⟩, d⟩
theorem AnsO.r {w w' : World} {r : Ans} {e : Ending} (h : AnsO w r e w') : AnsRN w r e w' := by
 obtain ⟨b1, k1, b2, k2, b3, k3, he, ho, d⟩ := h
 exact ⟨b1, k1, b2, k2, b3, k3, he, hide ⟨ho.out.s, ho.out.f, ho.out.e⟩, d⟩
def normAns (n m : Int) (St Fi : List Int) (Ed : List EdT) : Ans := if mayA n m St Fi Ed = true then ⟨n, m, riseL St, riseL Fi, riseE Ed, 0⟩ else badA 2
def uniAns (n m n' m' : Int) (St Fi : List Int) (Ed : List EdT) (St' Fi' : List Int) (Ed' : List EdT) : Ans := if unErr n m n' m' St Fi Ed St' Fi' Ed' = 0 then ⟨n + n', m, riseL St ++ shL n (riseL St'), riseL Fi ++ shL n (riseL Fi'), riseE Ed ++ shEs n (riseE Ed'), 0⟩ else badA (unErr n m n' m' St Fi Ed St' Fi' Ed')
theorem rnormal_ans (w : World) (n m : Int) (a1 a2 a3 : Option Addr) (c1 c2 c3 : Nat) (St Fi : List Int) (Ed : List EdT) (hA : Hid (RdA w a1 a2 a3 St Fi Ed)) (h1 : St.length ≤ 4194304) (h2 : Fi.length ≤ 4194304) (h3 : Ed.length ≤ 4194304) (hc : Ed.length ≤ c3) : Calls Tryz.prog 26 #[.agg #[.int .i64 n, .int .i64 m, .slice a1 St.length c1, .slice a2 Fi.length c2, .slice a3 Ed.length c3]] w (AnsRN w (normAns n m St Fi Ed)) := by
 unfold normAns
 by_cases em : mayA n m St Fi Ed = true
 · rw [if_pos em]
   exact (rnormal_ok w n m a1 a2 a3 c1 c2 c3 St Fi Ed hA h1 h2 h3 hc em).mono fun e w' ⟨g1, k1, g2, k2, g3, k3, he, ho, d⟩ => ⟨_, k1, _, k2, _, k3, he, hide ⟨ho.out.s, ho.out.f, ho.out.e⟩, d⟩
 · rw [if_neg em]
   exact (rnormal_bad w n m a1 a2 a3 c1 c2 c3 St Fi Ed hA h1 h2 h3 (by simpa using em)).mono fun e w' ⟨he, d⟩ => (ansO_bad he d).r
theorem union_ans (w : World) (n m n' m' : Int) (a1 a2 a3 b1 b2 b3 : Option Addr) (c1 c2 c3 d1 d2 d3 : Nat) (St Fi : List Int) (Ed : List EdT) (St' Fi' : List Int) (Ed' : List EdT) (hA : Hid (RdA w a1 a2 a3 St Fi Ed)) (hB : Hid (RdA w b1 b2 b3 St' Fi' Ed')) (h1 : St.length ≤ 4194304) (h2 : Fi.length ≤ 4194304) (h3 : Ed.length ≤ 4194304) (h4 : St'.length ≤ 4194304) (h5 : Fi'.length ≤ 4194304) (h6 : Ed'.length ≤ 4194304) : Calls Tryz.prog 59 #[.agg #[.int .i64 n, .int .i64 m, .slice a1 St.length c1, .slice a2 Fi.length c2, .slice a3 Ed.length c3], .agg #[.int .i64 n', .int .i64 m', .slice b1 St'.length d1, .slice b2 Fi'.length d2, .slice b3 Ed'.length d3]] w (AnsO w (uniAns n m n' m' St Fi Ed St' Fi' Ed')) := by
 refine (union_any w n m n' m' a1 a2 a3 b1 b2 b3 c1 c2 c3 d1 d2 d3 St Fi Ed St' Fi' Ed' hA hB h1 h2 h3 h4 h5 h6).mono fun e w' h => ?_
 unfold uniAns
 rcases h with ⟨⟨h0, he⟩ | ⟨h0, g1, k1, g2, k2, g3, k3, he, ho⟩, d⟩
 · rw [if_neg h0]
   exact ansO_bad he d
 · rw [if_pos h0]
   exact ⟨_, k1, _, k2, _, k3, he, hide ho.o, d⟩
end Go.Proofs.YtchoopnjckcohaaGreatDoor
namespace Go.Proofs.YtchoopnjckcohaaGreatDoor
open Go.RowKit Go.Maps Go.Shelf
attribute [local go_sem] Oper.semAt_some
def eqB (n m n' m' : Int) (St Fi : List Int) (Ed : List EdT) (St' Fi' : List Int) (Ed' : List EdT) : Bool := decide (n = n' ∧ m = m' ∧ St = St' ∧ Fi = Fi' ∧ Ed = Ed')
theorem requal_any (w : World) (n m n' m' : Int) (a1 a2 a3 b1 b2 b3 : Option Addr) (c1 c2 c3 d1 d2 d3 : Nat) (St Fi : List Int) (Ed : List EdT) (St' Fi' : List Int) (Ed' : List EdT) (hA : Hid (RdA w a1 a2 a3 St Fi Ed)) (hB : Hid (RdA w b1 b2 b3 St' Fi' Ed')) (h1 : St.length ≤ 4194304) (h2 : Fi.length ≤ 4194304) (h3 : Ed.length ≤ 4194304) (h4 : St'.length ≤ 4194304) (h5 : Fi'.length ≤ 4194304) (_h6 : Ed'.length ≤ 4194304) :
 Calls Tryz.prog 19 #[.agg #[.int .i64 n, .int .i64 m, .slice a1 St.length c1, .slice a2 Fi.length c2, .slice a3 Ed.length c3], .agg #[.int .i64 n', .int .i64 m', .slice b1 St'.length d1, .slice b2 Fi'.length d2, .slice b3 Ed'.length d3]] w fun e w' => e = .returned (.bool (eqB n m n' m' St Fi Ed St' Fi' Ed')) ∧ Below w.heap.size w w' := by
 obtain ⟨W0, hW0⟩ : ∃ W0, (w.alloc (.cells #[.int .i64 n, .int .i64 m, .slice a1 St.length c1, .slice a2 Fi.length c2, .slice a3 Ed.length c3] 25)).alloc (.cells #[.int .i64 n', .int .i64 m', .slice b1 St'.length d1, .slice b2 Fi'.length d2, .slice b3 Ed'.length d3] 25) = W0 := ⟨_, rfl⟩
 have HD := hide (box3 w #[.int .i64 n, .int .i64 m, .slice a1 St.length c1, .slice a2 Fi.length c2, .slice a3 Ed.length c3] #[.int .i64 n', .int .i64 m', .slice b1 St'.length d1, .slice b2 Fi'.length d2, .slice b3 Ed'.length d3] 25 25)
 rw [hW0] at HD
 have SK : Hid (∀ W, Below W0.heap.size W0 W → ((W.cell? ⟨w.heap.size, 0, none⟩ = some (.int .i64 n) ∧ W.cell? ⟨w.heap.size, 1, none⟩ = some (.int .i64 m) ∧ W.cell? ⟨w.heap.size, 2, none⟩ = some (.slice a1 St.length c1) ∧ W.cell? ⟨w.heap.size, 3, none⟩ = some (.slice a2 Fi.length c2) ∧ W.cell? ⟨w.heap.size, 4, none⟩ = some (.slice a3 Ed.length c3)) ∧ (W.cell? ⟨w.heap.size + 1, 0, none⟩ = some (.int .i64 n') ∧ W.cell? ⟨w.heap.size + 1, 1, none⟩ = some (.int .i64 m') ∧ W.cell? ⟨w.heap.size + 1, 2, none⟩ = some (.slice b1 St'.length d1) ∧ W.cell? ⟨w.heap.size + 1, 3, none⟩ = some (.slice b2 Fi'.length d2) ∧ W.cell? ⟨w.heap.size + 1, 4, none⟩ = some (.slice b3 Ed'.length d3)))) := hide (fun W d => by
  have e := blk_on HD.out.2.1 d
  have f := blk_on HD.out.2.2.1 d
  exact ⟨⟨cell_of e rfl, cell_of e rfl, cell_of e rfl, cell_of e rfl, cell_of e rfl⟩, cell_of f rfl, cell_of f rfl, cell_of f rfl, cell_of f rfl, cell_of f rfl⟩)
 have TS : Hid (∀ W, Below W0.heap.size W0 W → Calls Tryz.prog 28 #[.slice a1 St.length c1, .slice b1 St'.length d1] W fun e w' => e = .returned (.bool (decide (St = St'))) ∧ Below W.heap.size W w') := hide (fun W d => by
  have d2 := HD.out.1.trans (d.mono HD.out.1.size)
  exact sameInts_any W a1 b1 St St' c1 d1 (hide (hA.out.s.on d2)) (hide (hB.out.s.on d2)) h1 h4)
 have TF : Hid (∀ W, Below W0.heap.size W0 W → Calls Tryz.prog 28 #[.slice a2 Fi.length c2, .slice b2 Fi'.length d2] W fun e w' => e = .returned (.bool (decide (Fi = Fi'))) ∧ Below W.heap.size W w') := hide (fun W d => by
  have dd := HD.out.1.trans (d.mono HD.out.1.size)
  exact sameInts_any W a2 b2 Fi Fi' c2 d2 (hide (hA.out.f.on dd)) (hide (hB.out.f.on dd)) h2 h5)
 obtain ⟨⟨y0, y1, y2, y3, y4⟩, z0, z1, z2, z3, z4⟩ := SK.out W0 (Below.refl _ _)
 rcases Classical.em (n = n') with e0 | e0
 rotate_left
 · have HE : Hid (eqB n m n' m' St Fi Ed St' Fi' Ed' = false) := hide (decide_eq_false fun h => e0 h.1)
   have k0 : (n != n') = true := by simpa using e0
   clear e0
   go_enter Tryz.func19, Tryz.ntmps19
   go_wp2_with fail
   refine bodyPost_ret (results_tmp rfl _ _ _) rfl ?_
   exact ⟨by rw [HE.out]; rfl, HD.out.1⟩
 have k0 : (n != n') = false := by simpa using e0
 rcases Classical.em (m = m') with e1 | e1
 rotate_left
 · have HE : Hid (eqB n m n' m' St Fi Ed St' Fi' Ed' = false) := hide (decide_eq_false fun h => e1 h.2.1)
   have k1 : (m != m') = true := by simpa using e1
   clear e0 e1
   go_enter Tryz.func19, Tryz.ntmps19
   go_wp2_with fail
   refine bodyPost_ret (results_tmp rfl _ _ _) rfl ?_
   exact ⟨by rw [HE.out]; rfl, HD.out.1⟩
 have k1 : (m != m') = false := by simpa using e1
 rcases Classical.em (St = St') with e2 | e2
 rotate_left
 · have HE : Hid (eqB n m n' m' St Fi Ed St' Fi' Ed' = false) := hide (decide_eq_false fun h => e2 h.2.2.1)
   rw [decide_eq_false e2] at TS
   clear e0 e1 e2
   go_enter Tryz.func19, Tryz.ntmps19
   go_wp2_with (first
    | (go_at_call_of 28 a1; refine (TS.out _ (Below.refl _ _)).mono ?_; rintro e w1 ⟨rfl, q1⟩; have H1 := hide q1; clear q1 y0 y1 y2 y3 y4 z0 z1 z2 z3 z4; have ⟨⟨y0, y1, y2, y3, y4⟩, z0, z1, z2, z3, z4⟩ := SK.out w1 (H1.out)))
   refine bodyPost_ret (results_tmp rfl _ _ _) rfl ?_
   exact ⟨by rw [HE.out]; rfl, HD.out.1.trans (H1.out.mono HD.out.1.size)⟩
 rw [decide_eq_true e2] at TS
 rcases Classical.em (Fi = Fi') with e3 | e3
 rotate_left
 · have HE : Hid (eqB n m n' m' St Fi Ed St' Fi' Ed' = false) := hide (decide_eq_false fun h => e3 h.2.2.2.1)
   rw [decide_eq_false e3] at TF
   clear e0 e1 e2 e3
   go_enter Tryz.func19, Tryz.ntmps19
   go_wp2_with (first
    | (go_at_call_of 28 a1; refine (TS.out _ (Below.refl _ _)).mono ?_; rintro e w1 ⟨rfl, q1⟩; have H1 := hide q1; clear q1 y0 y1 y2 y3 y4 z0 z1 z2 z3 z4; have ⟨⟨y0, y1, y2, y3, y4⟩, z0, z1, z2, z3, z4⟩ := SK.out w1 (H1.out))
    | (go_at_call_of 28 a2; refine (TF.out w1 H1.out).mono ?_; rintro e w2 ⟨rfl, q2⟩; have H2 := hide (H1.out.trans (q2.mono H1.out.size)); clear q2 y0 y1 y2 y3 y4 z0 z1 z2 z3 z4; have ⟨⟨y0, y1, y2, y3, y4⟩, z0, z1, z2, z3, z4⟩ := SK.out w2 (H2.out)))
   refine bodyPost_ret (results_tmp rfl _ _ _) rfl ?_
   exact ⟨by rw [HE.out]; rfl, HD.out.1.trans (H2.out.mono HD.out.1.size)⟩
 rw [decide_eq_true e3] at TF
 rcases Classical.em (Ed.length = Ed'.length) with e4 | e4
 rotate_left
 · have HE : Hid (eqB n m n' m' St Fi Ed St' Fi' Ed' = false) := hide (decide_eq_false fun h => e4 (by rw [h.2.2.2.2]))
   have k4 : ((Ed.length : Int) != (Ed'.length : Int)) = true := by simp; omega
   clear e0 e1 e2 e3 e4
   go_enter Tryz.func19, Tryz.ntmps19
   go_wp2_with (first
    | (go_at_call_of 28 a1; refine (TS.out _ (Below.refl _ _)).mono ?_; rintro e w1 ⟨rfl, q1⟩; have H1 := hide q1; clear q1 y0 y1 y2 y3 y4 z0 z1 z2 z3 z4; have ⟨⟨y0, y1, y2, y3, y4⟩, z0, z1, z2, z3, z4⟩ := SK.out w1 (H1.out))
    | (go_at_call_of 28 a2; refine (TF.out w1 H1.out).mono ?_; rintro e w2 ⟨rfl, q2⟩; have H2 := hide (H1.out.trans (q2.mono H1.out.size)); clear q2 y0 y1 y2 y3 y4 z0 z1 z2 z3 z4; have ⟨⟨y0, y1, y2, y3, y4⟩, z0, z1, z2, z3, z4⟩ := SK.out w2 (H2.out)))
   refine bodyPost_ret (results_tmp rfl _ _ _) rfl ?_
   exact ⟨by rw [HE.out]; rfl, HD.out.1.trans (H2.out.mono HD.out.1.size)⟩
 have k4 : ((Ed.length : Int) != (Ed'.length : Int)) = false := by simp; omega
 have HEQ : Hid (Ed = Ed' → eqB n m n' m' St Fi Ed St' Fi' Ed' = true) := hide (fun h => decide_eq_true ⟨e0, e1, e2, e3, h⟩)
 have HLE := hide e4
 clear e0 e1 e2 e3 e4
 go_enter Tryz.func19, Tryz.ntmps19
 go_wp2_with (first
  | (go_at_call_of 28 a1; refine (TS.out _ (Below.refl _ _)).mono ?_; rintro e w1 ⟨rfl, q1⟩; have H1 := hide q1; clear q1 y0 y1 y2 y3 y4 z0 z1 z2 z3 z4; have ⟨⟨y0, y1, y2, y3, y4⟩, z0, z1, z2, z3, z4⟩ := SK.out w1 (H1.out))
  | (go_at_call_of 28 a2; refine (TF.out w1 H1.out).mono ?_; rintro e w2 ⟨rfl, q2⟩; have H2 := hide (H1.out.trans (q2.mono H1.out.size)); clear q2 y0 y1 y2 y3 y4 z0 z1 z2 z3 z4; have ⟨⟨y0, y1, y2, y3, y4⟩, z0, z1, z2, z3, z4⟩ := SK.out w2 (H2.out)))
 clear y0 y1 y2 y3 y4 z0 z1 z2 z3 z4 H1 TS TF hW0
 go_loopw [5] (fun iv wr => ∃ i : Nat, i ≤ Ed.length ∧ iv = .int .i64 i ∧ Hid (Below W0.heap.size W0 wr ∧ ∀ t (h : t < Ed.length) (h' : t < Ed'.length), t < i → Ed[t] = Ed'[t])) (fun iv _ => Ed.length - (intOf iv).toNat)
 case atStart => exact ⟨0, Nat.zero_le _, rfl, hide ⟨H2.out, fun t _ _ h => by omega⟩⟩
 case round =>
  obtain ⟨i, hi, rfl, HY⟩ := hrel
  obtain ⟨⟨y0, y1, y2, y3, y4⟩, z0, z1, z2, z3, z4⟩ := SK.out wr (HY.out.1)
  have HDW := hide (HD.out.1.trans (HY.out.1.mono HD.out.1.size))
  by_cases hlt : i < Ed.length
  · have i0 : (i : Int) < (Ed.length : Int) := by omega
    have i1 : (0 : Int) ≤ (i : Int) := by omega
    have hlt' : i < Ed'.length := by have := HLE.out; omega
    have i2 : (i : Int) < (Ed'.length : Int) := by omega
    have iw : IntKind.i64.wrap ((i : Int) + 1) = (i : Int) + 1 := by rw [IntKind.wrap_i64]; omega
    obtain ⟨g, o, hao, q0, q1, q2⟩ := (hA.out.e.on HDW.out) i hlt
    obtain ⟨g', o', hbo, r0, r1, r2⟩ := (hB.out.e.on HDW.out) i hlt'
    subst hao hbo
    have HNE : Hid (Ed[i] ≠ Ed'[i] → eqB n m n' m' St Fi Ed St' Fi' Ed' = false) := hide (fun h => decide_eq_false fun k => h (by simp only [k.2.2.2.2]))
    have HNX : Hid (Ed[i] = Ed'[i] → ∀ t (h : t < Ed.length) (h' : t < Ed'.length), t < i + 1 → Ed[t] = Ed'[t]) := hide (fun he t h h' ht => by
     rcases Nat.lt_or_ge t i with h3 | h3
     · exact HY.out.2 t h h' h3
     · obtain rfl : t = i := by omega
       exact he)
    generalize Ed[i] = u at q0 q1 q2 HNE HNX
    generalize Ed'[i] = v at r0 r1 r2 HNE HNX
    obtain ⟨u1, u2, u3⟩ := u
    obtain ⟨v1, v2, v3⟩ := v
    simp only at q0 q1 q2 r0 r1 r2
    clear hlt'
    by_cases f1 : u1 = v1
    · by_cases f2 : u2 = v2
      · by_cases f3 : u3 = v3
        · have HN := hide (HNX.out (by rw [f1, f2, f3]))
          subst f1 f2 f3
          clear HNE HNX
          go_upto_region 6 with fail
          refine wp_region_phase 10 #[true, true, true, true, true, true, true, true, true, true, false] (by kernel_rfl) (by kernel_rfl) ?_
          simp only [List.take_succ_cons, List.take_zero, List.drop_succ_cons, List.drop_zero]
          repeat (go_big_quiet_step (fail))
          refine wpQuiet_nil ?_
          intro wz hzz
          obtain ⟨nq, rfl⟩ := hzz
          go_wp2_with fail
          go_roundw
          case rel => exact ⟨i + 1, by omega, by go_num, hide ⟨below_drewN2 HY.out.1 nq, HN.out⟩⟩
          case measure => simp [intOf]; omega
        · have HE := hide (HNE.out (by intro h; cases h; exact f3 rfl))
          have p1 : (u1 == v1) = true := by simpa using f1
          have p2 : (u2 == v2) = true := by simpa using f2
          have p3 : (u3 == v3) = false := by simpa using f3
          clear f1 f2 f3 HNE HNX
          go_upto_region 6 with fail
          refine wp_region_phase 10 #[true, true, true, true, true, true, true, true, true, true, false] (by kernel_rfl) (by kernel_rfl) ?_
          simp only [List.take_succ_cons, List.take_zero, List.drop_succ_cons, List.drop_zero]
          repeat (go_big_quiet_step (fail))
          refine wpQuiet_nil ?_
          intro wz hzz
          obtain ⟨nq, rfl⟩ := hzz
          go_wp2_with fail
          refine bodyPost_ret (results_tmp rfl _ _ _) rfl ?_
          exact ⟨by rw [HE.out]; rfl, below_drewN2 HDW.out nq⟩
      · have HE := hide (HNE.out (by intro h; cases h; exact f2 rfl))
        have p1 : (u1 == v1) = true := by simpa using f1
        have p2 : (u2 == v2) = false := by simpa using f2
        clear f1 f2 HNE HNX
        go_upto_region 6 with fail
        refine wp_region_phase 10 #[true, true, true, true, true, true, true, true, true, true, false] (by kernel_rfl) (by kernel_rfl) ?_
        simp only [List.take_succ_cons, List.take_zero, List.drop_succ_cons, List.drop_zero]
        repeat (go_big_quiet_step (fail))
        refine wpQuiet_nil ?_
        intro wz hzz
        obtain ⟨nq, rfl⟩ := hzz
        go_wp2_with fail
        refine bodyPost_ret (results_tmp rfl _ _ _) rfl ?_
        exact ⟨by rw [HE.out]; rfl, below_drewN2 HDW.out nq⟩
    · have HE := hide (HNE.out (by intro h; cases h; exact f1 rfl))
      have p1 : (u1 == v1) = false := by simpa using f1
      clear f1 HNE HNX
      go_upto_region 6 with fail
      refine wp_region_phase 10 #[true, true, true, true, true, true, true, true, true, true, false] (by kernel_rfl) (by kernel_rfl) ?_
      simp only [List.take_succ_cons, List.take_zero, List.drop_succ_cons, List.drop_zero]
      repeat (go_big_quiet_step (fail))
      refine wpQuiet_nil ?_
      intro wz hzz
      obtain ⟨nq, rfl⟩ := hzz
      go_wp2_with fail
      refine bodyPost_ret (results_tmp rfl _ _ _) rfl ?_
      exact ⟨by rw [HE.out]; rfl, below_drewN2 HDW.out nq⟩
  · have i0 : ¬ (i : Int) < (Ed.length : Int) := by omega
    have HE := hide (HEQ.out (List.ext_getElem HLE.out fun t h h' => HY.out.2 t h h' (by omega)))
    go_wp2_with fail
    refine bodyPost_ret (results_tmp rfl _ _ _) rfl ?_
    exact ⟨by rw [HE.out]; rfl, HDW.out⟩
theorem rd_one {W : World} {b : Nat} {x : Int} {t : TypeId} {fr : Nat × Nat} (h : W.heap[b]? = some (.cells #[.int .i64 x] t fr)) : RdN W (some ⟨b, 0, none⟩) [x] := fun j hj => by
 obtain rfl : j = 0 := by simpa using hj
 exact ⟨b, 0, rfl, cell_of h rfl⟩
theorem rdE_want {W : World} {b : Nat} {t : TypeId} {fr : Nat × Nat} (h : W.heap[b]? = some (.cells #[.int .i64 0, .int .i64 0, .int .i64 1, .int .i64 0, .int .i64 0, .int .i64 2, .int .i64 2, .int .i64 1, .int .i64 3] t fr)) : RdE W (some ⟨b, 0, none⟩) [(0, 0, 1), (0, 0, 2), (2, 1, 3)] := fun j hj => by
 have hj' : j < 3 := by simpa using hj
 obtain rfl | rfl | rfl : j = 0 ∨ j = 1 ∨ j = 2 := by omega
 · exact ⟨b, 0, rfl, cell_of h rfl, cell_of h rfl, cell_of h rfl⟩
 · exact ⟨b, 0, rfl, cell_of h rfl, cell_of h rfl, cell_of h rfl⟩
 · exact ⟨b, 0, rfl, cell_of h rfl, cell_of h rfl, cell_of h rfl⟩
theorem box33 (w : World) (A B C : Array Value) (t u v : TypeId) : Below w.heap.size w (((w.alloc (.cells A t)).alloc (.cells B u)).alloc (.cells C v)) ∧ (((w.alloc (.cells A t)).alloc (.cells B u)).alloc (.cells C v)).heap[w.heap.size]? = some (.cells A t (0, 0)) ∧ (((w.alloc (.cells A t)).alloc (.cells B u)).alloc (.cells C v)).heap[w.heap.size + 1]? = some (.cells B u (0, 0)) ∧ (((w.alloc (.cells A t)).alloc (.cells B u)).alloc (.cells C v)).heap[w.heap.size + 2]? = some (.cells C v (0, 0)) ∧ (((w.alloc (.cells A t)).alloc (.cells B u)).alloc (.cells C v)).heap.size = w.heap.size + 3 := by
 have z1 : (w.alloc (.cells A t)).heap.size = w.heap.size + 1 := by simp
 have z2 : ((w.alloc (.cells A t)).alloc (.cells B u)).heap.size = w.heap.size + 2 := by simp
 refine ⟨((((Below.refl _ _).alloc (Nat.le_refl _) _).alloc (by omega) _).alloc (by omega) _), ?_, ?_, ?_, by simp⟩
 · exact ((Below.heap_alloc _ _ _ (by omega)).trans (Below.heap_alloc _ _ _ (by omega))).trans (World.alloc_heap_new _ _)
 · have := World.alloc_heap_new (w.alloc (.cells A t)) (.cells B u)
   rw [z1] at this
   exact (Below.heap_alloc _ _ _ (by omega)).trans this
 · have := World.alloc_heap_new ((w.alloc (.cells A t)).alloc (.cells B u)) (.cells C v)
   rw [z2] at this
   exact this
theorem rise_up {L : List Int} (h : L.Pairwise (· < ·)) : riseL L = L := ssL_eq _ _ (riseL_ss L) h fun x => riseL_iff L x
theorem l_may (s : Int) (h : 0 ≤ s ∧ s < 2) : mayA 2 2 [0] [1] [(0, s, 1)] = true := by
 obtain rfl | rfl : s = 0 ∨ s = 1 := by omega
 · decide
 · decide
theorem l_br : brL [(0, 0, 1)] [1] (movN [0] 2) 2 2 = [(0, 0, 1), (0, 0, 2)] := by
 have r1 : riseL [(1 : Int), 2] = [1, 2] := rise_up (by simp)
 have r0 := rise_nil
 have e00 : celL [(0, 0, 1)] [1] (movN [0] 2) 0 0 = [(0, 0, 1), (0, 0, 2)] := by
  unfold celL
  rw [show endL [(0, 0, 1)] [1] (movN [0] 2) 0 0 = [1, 2] by decide, r1]
  rfl
 have e01 : celL [(0, 0, 1)] [1] (movN [0] 2) 0 1 = [] := by
  unfold celL
  rw [show endL [(0, 0, 1)] [1] (movN [0] 2) 0 1 = [] by decide, r0]
  rfl
 have e10 : celL [(0, 0, 1)] [1] (movN [0] 2) 1 0 = [] := by
  unfold celL
  rw [show endL [(0, 0, 1)] [1] (movN [0] 2) 1 0 = [] by decide, r0]
  rfl
 have e11 : celL [(0, 0, 1)] [1] (movN [0] 2) 1 1 = [] := by
  unfold celL
  rw [show endL [(0, 0, 1)] [1] (movN [0] 2) 1 1 = [] by decide, r0]
  rfl
 rw [show (2 : Nat) = 0 + 1 + 1 from rfl, brL_next, brL_next]
 simp [brL, rowL, List.range_succ, e00, e01, e10, e11]
theorem one_sym (w : World) (g : Nat) (s : Int) (hs : 0 ≤ s ∧ s < 2) (h : w.heap[g]? = some (.cells #[.int .i64 s] 3 (0, 0))) :
 Calls Tryz.prog 20 #[.slice (some ⟨g, 0, none⟩) 1 1, .int .i64 2] w fun e w' => ∃ b1 k1 b2 k2 b3 k3, e = .returned (.tuple #[.agg #[.int .i64 2, .int .i64 2, .slice b1 1 k1, .slice b2 1 k2, .slice b3 1 k3], .int .i64 0]) ∧ Hid (OwnO w.heap.size w' (.slice b1 1 k1) (.slice b2 1 k2) (.slice b3 1 k3) [0] [1] [(0, s, 1)] ∧ Below w.heap.size w w') :=
 one_ok w (some ⟨g, 0, none⟩) 1 1 2 [s] (hide rfl) (hide (rd_one h)) (by omega) (by omega) (hide (fun x hx => by rw [List.mem_singleton] at hx; subst hx; exact hs))
theorem concat_two (w : World) (a1 a2 a3 b1 b2 b3 : Option Addr) (c1 c2 c3 d1 d2 d3 : Nat) (hA : Hid (RdA w a1 a2 a3 [0] [1] [(0, 0, 1)])) (hB : Hid (RdA w b1 b2 b3 [0] [1] [(0, 1, 1)])) :
 Calls Tryz.prog 21 #[.agg #[.int .i64 2, .int .i64 2, .slice a1 1 c1, .slice a2 1 c2, .slice a3 1 c3], .agg #[.int .i64 2, .int .i64 2, .slice b1 1 d1, .slice b2 1 d2, .slice b3 1 d3]] w fun e w' => ∃ g1 k1 t2 u2 z5 d5, e = .returned (.tuple #[.agg #[.int .i64 4, .int .i64 2, .slice (some ⟨g1, 0, none⟩) 1 k1, .slice t2 1 u2, .slice z5 3 d5], .int .i64 0]) ∧ Hid (RdA w' (some ⟨g1, 0, none⟩) t2 z5 [0] [3] [(0, 0, 1), (0, 0, 2), (2, 1, 3)] ∧ Below w.heap.size w w') := by
 have T := concat_no w 2 2 2 a1 a2 a3 b1 b2 b3 c1 c2 c3 d1 d2 d3 [0] [1] [0] [1] [(0, 0, 1)] [(0, 1, 1)] hA hB (by decide) (by decide) (by decide) (by decide) (by decide) (by decide) (l_may 0 (by omega)) (l_may 1 (by omega)) (by decide) (by decide)
 rw [rise_one, rise_one, riseE_one (L := [(0, 0, 1)]) (by decide), riseE_one (L := [(0, 1, 1)]) (by decide)] at T
 have T2 := T (hide (by decide)) (hide (by have q := riseE_ss [((0 : Int), (0 : Int), (1 : Int))]; rwa [riseE_one (by decide)] at q)) (hide (by decide)) (hide (fun x hx => ⟨0, by omega, by simpa using hx⟩)) (hide (fun x hx => ⟨1, by omega, by simpa using hx⟩)) (hide (fun x hx => ⟨0, by omega, by simpa using hx⟩)) (hide (fun x hx => ⟨1, by omega, by simpa using hx⟩)) (hide (by decide))
 rw [show ((2 : Nat) : Int) = 2 from rfl, l_br] at T2
 exact T2 (by decide) (hide (by decide)) (hide (by decide))
theorem lives_any (w : World) : Calls Tryz.prog 7 #[] w fun e w' => e = .returned (.bool true) ∧ Below w.heap.size w w' := by
 obtain ⟨A, hA⟩ : ∃ A, w.alloc (.cells #[.int .i64 0] 3) = A := ⟨_, rfl⟩
 have HA : Hid (A.heap[w.heap.size]? = some (.cells #[.int .i64 0] 3 (0, 0)) ∧ Below w.heap.size w A) := hide (by rw [← hA]; exact ⟨World.alloc_heap_new _ _, (Below.refl _ _).alloc (Nat.le_refl _) _⟩)
 have TA := one_sym A w.heap.size 0 (by omega) HA.out.1
 go_enter Tryz.func7, Tryz.ntmps7
 go_upto_region 2 with (go_at_call 20; refine TA.mono ?_; rintro e w1 ⟨x1, k1, x2, k2, x3, k3, rfl, H1⟩)
 clear TA
 obtain ⟨B, hB⟩ : ∃ B, (w1.alloc (.cells #[.int .i64 2, .int .i64 2, .slice x1 1 k1, .slice x2 1 k2, .slice x3 1 k3] 25)).alloc (.cells #[.int .i64 1] 3) = B := ⟨_, rfl⟩
 have HB : Hid (B.heap[w1.heap.size]? = some (.cells #[.int .i64 2, .int .i64 2, .slice x1 1 k1, .slice x2 1 k2, .slice x3 1 k3] 25 (0, 0)) ∧ B.heap[w1.heap.size + 1]? = some (.cells #[.int .i64 1] 3 (0, 0)) ∧ Below w1.heap.size w1 B) := hide (by
  have hk1 := (Below.refl w1.heap.size w1).alloc (Nat.le_refl _) (.cells #[.int .i64 2, .int .i64 2, .slice x1 1 k1, .slice x2 1 k2, .slice x3 1 k3] 25)
  have z1 := World.alloc_heap_new w1 (.cells #[.int .i64 2, .int .i64 2, .slice x1 1 k1, .slice x2 1 k2, .slice x3 1 k3] 25)
  have s1 : (w1.alloc (.cells #[.int .i64 2, .int .i64 2, .slice x1 1 k1, .slice x2 1 k2, .slice x3 1 k3] 25)).heap.size = w1.heap.size + 1 := by simp
  generalize w1.alloc (.cells #[.int .i64 2, .int .i64 2, .slice x1 1 k1, .slice x2 1 k2, .slice x3 1 k3] 25) = Z at hk1 z1 s1 hB
  have hk2 := (Below.refl Z.heap.size Z).alloc (Nat.le_refl _) (.cells #[.int .i64 1] 3)
  have z2 := World.alloc_heap_new Z (.cells #[.int .i64 1] 3)
  rw [hB] at hk2 z2
  rw [s1] at z2
  exact ⟨blk_on z1 hk2, z2, hk1.trans (hk2.mono hk1.size)⟩)
 have TB := one_sym B (w1.heap.size + 1) 1 (by omega) HB.out.2.1
 go_upto_region 3 with (go_at_call 20; refine TB.mono ?_; rintro e w2 ⟨y1, j1, y2, j2, y3, j3, rfl, H2⟩)
 clear TB hB hA
 obtain ⟨Cw, hC⟩ : ∃ C, w2.alloc (.cells #[.int .i64 2, .int .i64 2, .slice y1 1 j1, .slice y2 1 j2, .slice y3 1 j3] 25) = C := ⟨_, rfl⟩
 have HC : Hid (Cw.heap[w2.heap.size]? = some (.cells #[.int .i64 2, .int .i64 2, .slice y1 1 j1, .slice y2 1 j2, .slice y3 1 j3] 25 (0, 0)) ∧ Below w2.heap.size w2 Cw) := hide (by rw [← hC]; exact ⟨World.alloc_heap_new _ _, (Below.refl _ _).alloc (Nat.le_refl _) _⟩)
 rw [hC]
 clear hC
 have HX : Hid (Cw.heap[w1.heap.size]? = some (.cells #[.int .i64 2, .int .i64 2, .slice x1 1 k1, .slice x2 1 k2, .slice x3 1 k3] 25 (0, 0)) ∧ RdA Cw x1 x2 x3 [0] [1] [(0, 0, 1)] ∧ RdA Cw y1 y2 y3 [0] [1] [(0, 1, 1)] ∧ Below w.heap.size w Cw) := hide (by
  have dA := HA.out.2.trans (H1.out.2.mono HA.out.2.size)
  have dB := HB.out.2.2.trans (H2.out.2.mono HB.out.2.2.size)
  have dC := dB.trans (HC.out.2.mono dB.size)
  refine ⟨blk_on (blk_on HB.out.1 H2.out.2) HC.out.2, ?_, ?_, dA.trans (dC.mono dA.size)⟩
  · exact (OwnO.rd H1.out.1).on dC
  · exact (OwnO.rd H2.out.1).on HC.out.2)
 have TC := concat_two Cw x1 x2 x3 y1 y2 y3 k1 k2 k3 j1 j2 j3 (hide HX.out.2.1) (hide HX.out.2.2.1)
 obtain ⟨p0, p1, p2, p3, p4⟩ := zd5 HX.out.1 rfl rfl rfl rfl rfl
 obtain ⟨q0, q1, q2, q3, q4⟩ := zd5 HC.out.1 rfl rfl rfl rfl rfl
 go_upto_region 4 with (go_at_call 21; refine TC.mono ?_; rintro e w3 ⟨g1, e1, t2, u2, z5, d5, rfl, H3⟩)
 clear TC p0 q0 p1 q1 p2 q2 p3 q3 p4 q4
 have HD3 : Hid (Below w.heap.size w w3) := hide (HX.out.2.2.2.trans (H3.out.2.mono HX.out.2.2.2.size))
 clear HX HC HB HA H1 H2
 go_upto_region 5 with fail
 obtain ⟨W5, hW5⟩ : ∃ W, ((((w3.alloc (.cells #[.int .i64 4, .int .i64 2, .slice (some ⟨g1, 0, none⟩) 1 e1, .slice t2 1 u2, .slice z5 3 d5] 25)).alloc (.cells #[.int .i64 0] 3)).alloc (.cells #[.int .i64 3] 3)).alloc (.cells #[.int .i64 0, .int .i64 0, .int .i64 1, .int .i64 0, .int .i64 0, .int .i64 2, .int .i64 2, .int .i64 1, .int .i64 3] 61)).alloc (.cells #[.int .i64 4, .int .i64 2, .slice (some ⟨w3.heap.size + 1, 0, none⟩) 1 1, .slice (some ⟨w3.heap.size + 1 + 1, 0, none⟩) 1 1, .slice (some ⟨w3.heap.size + 1 + 1 + 1, 0, none⟩) 3 3] 25) = W := ⟨_, rfl⟩
 rw [hW5]
 have HW : Hid (W5.heap[w3.heap.size]? = some (.cells #[.int .i64 4, .int .i64 2, .slice (some ⟨g1, 0, none⟩) 1 e1, .slice t2 1 u2, .slice z5 3 d5] 25 (0, 0)) ∧ W5.heap[w3.heap.size + 1 + 1 + 1 + 1]? = some (.cells #[.int .i64 4, .int .i64 2, .slice (some ⟨w3.heap.size + 1, 0, none⟩) 1 1, .slice (some ⟨w3.heap.size + 1 + 1, 0, none⟩) 1 1, .slice (some ⟨w3.heap.size + 1 + 1 + 1, 0, none⟩) 3 3] 25 (0, 0)) ∧ RdA W5 (some ⟨w3.heap.size + 1, 0, none⟩) (some ⟨w3.heap.size + 1 + 1, 0, none⟩) (some ⟨w3.heap.size + 1 + 1 + 1, 0, none⟩) [0] [3] [(0, 0, 1), (0, 0, 2), (2, 1, 3)] ∧ Below w3.heap.size w3 W5) := hide (by
  have h1 := (Below.refl w3.heap.size w3).alloc (Nat.le_refl _) (.cells #[.int .i64 4, .int .i64 2, .slice (some ⟨g1, 0, none⟩) 1 e1, .slice t2 1 u2, .slice z5 3 d5] 25)
  have z1 := World.alloc_heap_new w3 (.cells #[.int .i64 4, .int .i64 2, .slice (some ⟨g1, 0, none⟩) 1 e1, .slice t2 1 u2, .slice z5 3 d5] 25)
  have s1 : (w3.alloc (.cells #[.int .i64 4, .int .i64 2, .slice (some ⟨g1, 0, none⟩) 1 e1, .slice t2 1 u2, .slice z5 3 d5] 25)).heap.size = w3.heap.size + 1 := by simp
  generalize w3.alloc (.cells #[.int .i64 4, .int .i64 2, .slice (some ⟨g1, 0, none⟩) 1 e1, .slice t2 1 u2, .slice z5 3 d5] 25) = Z at h1 z1 s1 hW5
  have hb := box33 Z #[.int .i64 0] #[.int .i64 3] #[.int .i64 0, .int .i64 0, .int .i64 1, .int .i64 0, .int .i64 0, .int .i64 2, .int .i64 2, .int .i64 1, .int .i64 3] 3 3 61
  generalize ((Z.alloc (.cells #[.int .i64 0] 3)).alloc (.cells #[.int .i64 3] 3)).alloc (.cells #[.int .i64 0, .int .i64 0, .int .i64 1, .int .i64 0, .int .i64 0, .int .i64 2, .int .i64 2, .int .i64 1, .int .i64 3] 61) = V at hb hW5
  have h2 := (Below.refl V.heap.size V).alloc (Nat.le_refl _) (.cells #[.int .i64 4, .int .i64 2, .slice (some ⟨w3.heap.size + 1, 0, none⟩) 1 1, .slice (some ⟨w3.heap.size + 1 + 1, 0, none⟩) 1 1, .slice (some ⟨w3.heap.size + 1 + 1 + 1, 0, none⟩) 3 3] 25)
  have z2 := World.alloc_heap_new V (.cells #[.int .i64 4, .int .i64 2, .slice (some ⟨w3.heap.size + 1, 0, none⟩) 1 1, .slice (some ⟨w3.heap.size + 1 + 1, 0, none⟩) 1 1, .slice (some ⟨w3.heap.size + 1 + 1 + 1, 0, none⟩) 3 3] 25)
  rw [hW5] at h2 z2
  rw [hb.2.2.2.2, s1] at z2
  rw [s1] at hb
  have dZ : Below Z.heap.size Z W5 := by
   have q := hb.1
   rw [← s1] at q
   exact q.trans (h2.mono q.size)
  exact ⟨blk_on z1 dZ, z2, ⟨rd_one (blk_on hb.2.1 h2), rd_one (blk_on hb.2.2.1 h2), rdE_want (blk_on hb.2.2.2.1 h2)⟩, h1.trans (dZ.mono h1.size)⟩)
 clear hW5
 have TE := requal_any W5 4 2 4 2 (some ⟨g1, 0, none⟩) t2 z5 (some ⟨w3.heap.size + 1, 0, none⟩) (some ⟨w3.heap.size + 1 + 1, 0, none⟩) (some ⟨w3.heap.size + 1 + 1 + 1, 0, none⟩) e1 u2 d5 1 1 3 [0] [3] [(0, 0, 1), (0, 0, 2), (2, 1, 3)] [0] [3] [(0, 0, 1), (0, 0, 2), (2, 1, 3)] (hide (H3.out.1.on HW.out.2.2.2)) (hide HW.out.2.2.1) (by decide) (by decide) (by decide) (by decide) (by decide) (by decide)
 rw [show eqB 4 2 4 2 [0] [3] [(0, 0, 1), (0, 0, 2), (2, 1, 3)] [0] [3] [(0, 0, 1), (0, 0, 2), (2, 1, 3)] = true by decide] at TE
 obtain ⟨p0, p1, p2, p3, p4⟩ := zd5 HW.out.1 rfl rfl rfl rfl rfl
 obtain ⟨q0, q1, q2, q3, q4⟩ := zd5 HW.out.2.1 rfl rfl rfl rfl rfl
 go_wp2_with (go_at_call 19; refine TE.mono ?_; rintro e w6 ⟨rfl, D6⟩; have H6 := hide D6; clear D6)
 go_ret
 have d5 := HD3.out.trans (HW.out.2.2.2.mono HD3.out.size)
 exact ⟨rfl, d5.trans (H6.out.mono d5.size)⟩
theorem starting_bad (w : World) (n m : Int) (a1 a2 a3 : Option Addr) (c1 c2 c3 : Nat) (St Fi : List Int) (Ed : List EdT) (_hA : Hid (RdA w a1 a2 a3 St Fi Ed)) (_h1 : St.length ≤ 4194304) (_h2 : Fi.length ≤ 4194304) (_h3 : Ed.length ≤ 4194304) (v : Value) (x : Int) (hx : x ≠ 0) :
 Calls Tryz.prog 40 #[.agg #[.int .i64 n, .int .i64 m, .slice a1 St.length c1, .slice a2 Fi.length c2, .slice a3 Ed.length c3], v, .int .i64 x] w fun e w' => e = .returned (.tuple #[.agg #[.int .i64 0, .int .i64 0, .slice none 0 0, .slice none 0 0, .slice none 0 0], .int .i64 x]) ∧ Below w.heap.size w w' := by
 obtain ⟨W0, hW0⟩ : ∃ W0, (w.alloc (.cells #[.int .i64 n, .int .i64 m, .slice a1 St.length c1, .slice a2 Fi.length c2, .slice a3 Ed.length c3] 25)).alloc (.cells #[.int .i64 0, .int .i64 0, .slice none 0 0, .slice none 0 0, .slice none 0 0] 25) = W0 := ⟨_, rfl⟩
 have HD := hide (box2 w #[.int .i64 n, .int .i64 m, .slice a1 St.length c1, .slice a2 Fi.length c2, .slice a3 Ed.length c3] #[.int .i64 0, .int .i64 0, .slice none 0 0, .slice none 0 0, .slice none 0 0] 25)
 rw [hW0] at HD
 have hx2 : (x == 0) = false := by simpa using hx
 have F4 := HD.out.2.2.1
 obtain ⟨o0, o1, o2, o3, o4⟩ := zd5 F4 rfl rfl rfl rfl rfl
 have fz0 : W0.frozen? ⟨w.heap.size + 1, 0, none⟩ = false := fz_of F4
 have fz1 : W0.frozen? ⟨w.heap.size + 1, 1, none⟩ = false := fz_of F4
 have fz2 : W0.frozen? ⟨w.heap.size + 1, 2, none⟩ = false := fz_of F4
 have fz3 : W0.frozen? ⟨w.heap.size + 1, 3, none⟩ = false := fz_of F4
 have fz4 : W0.frozen? ⟨w.heap.size + 1, 4, none⟩ = false := fz_of F4
 have O6 := hide (And.intro (set5 W0 (w.heap.size + 1) _ _ _ _ _ (.int .i64 0) (.int .i64 0) (.slice none 0 0) (.slice none 0 0) (.slice none 0 0) 25 F4) (only5 W0 (w.heap.size + 1) (.int .i64 0) (.int .i64 0) (.slice none 0 0) (.slice none 0 0) (.slice none 0 0)))
 clear F4
 go_enter Tryz.func40, Tryz.ntmps40
 go_wp2_with fail
 refine bodyPost_ret (results_c1 (p := 6) (q := 7) (ty := 25) rfl _ _ (w.heap.size + 1) 25 _ (0, 0) _ _ rfl rfl O6.out.1 Tryz.underlying25 rfl (by kernel_rfl)) rfl ?_
 have s1 := HD.out.2.2.2
 exact ⟨rfl, HD.out.1.trans (O6.out.2.toBelow (by omega) (fun k hk => by omega))⟩
theorem starting_ok (w : World) (n m : Int) (a1 a2 a3 : Option Addr) (c1 c2 c3 : Nat) (St Fi : List Int) (Ed : List EdT) (hA : Hid (RdA w a1 a2 a3 St Fi Ed)) (h1 : St.length ≤ 4194304) (h2 : Fi.length ≤ 4194304) (h3 : Ed.length ≤ 4194304) (em : mayA n m St Fi Ed = true) (av : Option Addr) (L : List Int) (cv B : Nat) (hL : Hid (w.ownsRow B 3 1 (.slice av L.length cv) L.length (L.map (Value.int .i64)))) :
 Calls Tryz.prog 40 #[.agg #[.int .i64 n, .int .i64 m, .slice a1 St.length c1, .slice a2 Fi.length c2, .slice a3 Ed.length c3], .slice av L.length cv, .int .i64 0] w fun e w' => ∃ g2 k2 g3 k3, e = .returned (.tuple #[.agg #[.int .i64 n, .int .i64 m, .slice av L.length cv, .slice (some ⟨g2, 0, none⟩) (riseL Fi).length k2, .slice (some ⟨g3, 0, none⟩) (riseE Ed).length k3], .int .i64 0]) ∧ Hid (w'.ownsRow w.heap.size 3 1 (.slice (some ⟨g2, 0, none⟩) (riseL Fi).length k2) (riseL Fi).length ((riseL Fi).map (Value.int .i64)) ∧ w'.ownsRow w.heap.size 61 3 (.slice (some ⟨g3, 0, none⟩) (riseE Ed).length k3) (riseE Ed).length ((riseE Ed).flatMap encE) ∧ w'.ownsRow B 3 1 (.slice av L.length cv) L.length (L.map (Value.int .i64)) ∧ Below w.heap.size w w') := by
 obtain ⟨W0, hW0⟩ : ∃ W0, (w.alloc (.cells #[.int .i64 n, .int .i64 m, .slice a1 St.length c1, .slice a2 Fi.length c2, .slice a3 Ed.length c3] 25)).alloc (.cells #[.int .i64 0, .int .i64 0, .slice none 0 0, .slice none 0 0, .slice none 0 0] 25) = W0 := ⟨_, rfl⟩
 have HD := hide (box2 w #[.int .i64 n, .int .i64 m, .slice a1 St.length c1, .slice a2 Fi.length c2, .slice a3 Ed.length c3] #[.int .i64 0, .int .i64 0, .slice none 0 0, .slice none 0 0, .slice none 0 0] 25)
 rw [hW0] at HD
 have TN := normal_ok W0 n m a1 a2 a3 c1 c2 c3 St Fi Ed (hide (hA.out.on HD.out.1)) h1 h2 h3 em
 clear em
 generalize riseL St = S1 at *
 generalize riseL Fi = F1 at *
 generalize riseE Ed = E1 at *
 obtain ⟨y0, y1, y2, y3, y4⟩ := zd5 HD.out.2.1 rfl rfl rfl rfl rfl
 go_enter Tryz.func40, Tryz.ntmps40
 go_upto_region 4 with (go_at_call 48; refine TN.mono ?_; rintro e w1 ⟨g1, k1, g2, k2, g3, k3, rfl, O1, D1⟩; have H1 := hide (And.intro O1 D1); clear O1 D1)
 clear TN y0 y1 y2 y3 y4
 obtain ⟨W1, hW1⟩ : ∃ W, w1.alloc (.cells #[.int .i64 n, .int .i64 m, .slice (some ⟨g1, 0, none⟩) S1.length k1, .slice (some ⟨g2, 0, none⟩) F1.length k2, .slice (some ⟨g3, 0, none⟩) E1.length k3] 25) = W := ⟨_, rfl⟩
 have HW : Hid (W1.heap[w1.heap.size]? = some (.cells #[.int .i64 n, .int .i64 m, .slice (some ⟨g1, 0, none⟩) S1.length k1, .slice (some ⟨g2, 0, none⟩) F1.length k2, .slice (some ⟨g3, 0, none⟩) E1.length k3] 25 (0, 0)) ∧ Below w1.heap.size w1 W1) := hide (by rw [← hW1]; exact ⟨World.alloc_heap_new _ _, (Below.refl _ _).alloc (Nat.le_refl _) _⟩)
 rw [hW1]
 clear hW1
 have z0 : W1.cell? ⟨w1.heap.size, 2, none⟩ = some (.slice (some ⟨g1, 0, none⟩) S1.length k1) := cell_of HW.out.1 rfl
 have z1 : W1.frozen? ⟨w1.heap.size, 2, none⟩ = false := fz_of HW.out.1
 go_upto_region 5 with fail
 clear z0 z1
 obtain ⟨W2, hW2⟩ : ∃ W, W1.setCell ⟨w1.heap.size, 2, none⟩ (.slice av L.length cv) = W := ⟨_, rfl⟩
 have HW2 : Hid (W2.heap[w1.heap.size]? = some (.cells #[.int .i64 n, .int .i64 m, .slice av L.length cv, .slice (some ⟨g2, 0, none⟩) F1.length k2, .slice (some ⟨g3, 0, none⟩) E1.length k3] 25 (0, 0)) ∧ W2.heap[w.heap.size + 1]? = some (.cells #[.int .i64 0, .int .i64 0, .slice none 0 0, .slice none 0 0, .slice none 0 0] 25 (0, 0)) ∧ OwnO w.heap.size W2 (.slice (some ⟨g1, 0, none⟩) S1.length k1) (.slice (some ⟨g2, 0, none⟩) F1.length k2) (.slice (some ⟨g3, 0, none⟩) E1.length k3) S1 F1 E1 ∧ Below w.heap.size w W2 ∧ w.heap.size + 2 ≤ W2.heap.size) := hide (by
  have o := only_set W1 w1.heap.size 2 (.slice av L.length cv)
  rw [hW2] at o
  have q : W2.heap[w1.heap.size]? = some (.cells #[.int .i64 n, .int .i64 m, .slice av L.length cv, .slice (some ⟨g2, 0, none⟩) F1.length k2, .slice (some ⟨g3, 0, none⟩) E1.length k3] 25 (0, 0)) := by
   rw [← hW2]
   exact heap_setCell_same _ _ 2 _ 25 _ HW.out.1
  have s0 := HD.out.2.2.2
  have s1 := H1.out.2.size
  have s2 := HW.out.2.size
  have s3 := o.size
  have dd := (HD.out.1.trans (H1.out.2.mono HD.out.1.size))
  have d3 := dd.trans (HW.out.2.mono dd.size)
  exact ⟨q, (o.block _ (by omega) (by omega)).trans (blk_on (blk_on HD.out.2.2.1 H1.out.2) HW.out.2), (((ownO_own H1.out.1).on HW.out.2).keep HW.out.1 o).down (by omega), d3.trans (o.toBelow d3.size (fun k hk => by omega)), by omega⟩)
 rw [hW2]
 clear hW2 HW H1
 have F3 := HW2.out.1
 have F4 := HW2.out.2.1
 obtain ⟨p0, p1, p2, p3, p4⟩ := zd5 F3 rfl rfl rfl rfl rfl
 obtain ⟨o0, o1, o2, o3, o4⟩ := zd5 F4 rfl rfl rfl rfl rfl
 have fz0 : W2.frozen? ⟨w.heap.size + 1, 0, none⟩ = false := fz_of F4
 have fz1 : W2.frozen? ⟨w.heap.size + 1, 1, none⟩ = false := fz_of F4
 have fz2 : W2.frozen? ⟨w.heap.size + 1, 2, none⟩ = false := fz_of F4
 have fz3 : W2.frozen? ⟨w.heap.size + 1, 3, none⟩ = false := fz_of F4
 have fz4 : W2.frozen? ⟨w.heap.size + 1, 4, none⟩ = false := fz_of F4
 have O6 := hide (And.intro (set5 W2 (w.heap.size + 1) _ _ _ _ _ (.int .i64 n) (.int .i64 m) (.slice av L.length cv) (.slice (some ⟨g2, 0, none⟩) F1.length k2) (.slice (some ⟨g3, 0, none⟩) E1.length k3) 25 F4) (only5 W2 (w.heap.size + 1) (.int .i64 n) (.int .i64 m) (.slice av L.length cv) (.slice (some ⟨g2, 0, none⟩) F1.length k2) (.slice (some ⟨g3, 0, none⟩) E1.length k3)))
 have HO := hide (HW2.out.2.2.1.keep F4 O6.out.2)
 clear F3 F4
 go_wp2_with fail
 refine bodyPost_ret (results_c1 (p := 6) (q := 7) (ty := 25) rfl _ _ (w.heap.size + 1) 25 _ (0, 0) _ _ rfl rfl O6.out.1 Tryz.underlying25 rfl (by kernel_rfl)) rfl ?_
 have dw := HW2.out.2.2.2.1
 have sz := HW2.out.2.2.2.2
 have dq : Below w.heap.size W2 _ := O6.out.2.toBelow (B := w.heap.size) (by omega) (fun k hk => by omega)
 have F4 := HW2.out.2.1
 exact ⟨g2, k2, g3, k3, rfl, hide ⟨HO.out.f, HO.out.e, own_keep (own_below hL.out dw) F4 (by decide) O6.out.2, dw.trans dq⟩⟩
theorem ssI_eq : ∀ {A B : List Int}, A.Pairwise (· < ·) → B.Pairwise (· < ·) → (∀ x, x ∈ A ↔ x ∈ B) → A = B
 | [], [], _, _, _ => rfl
 | [], b :: B, _, _, h => by have := (h b).2 List.mem_cons_self; cases this
 | a :: A, [], _, _, h => by have := (h a).1 List.mem_cons_self; cases this
 | a :: A, b :: B, hA, hB, h => by
  rw [List.pairwise_cons] at hA hB
  have e : a = b := by
   have h1 := (h a).1 List.mem_cons_self
   have h2 := (h b).2 List.mem_cons_self
   rcases List.mem_cons.1 h1 with e | h1
   · exact e
   · rcases List.mem_cons.1 h2 with e | h2
     · exact e.symm
     · have := hB.1 a h1
       have := hA.1 b h2
       omega
  subst e
  refine congrArg (a :: ·) (ssI_eq hA.2 hB.2 fun x => ⟨fun hx => ?_, fun hx => ?_⟩)
  · rcases List.mem_cons.1 ((h x).1 (List.mem_cons_of_mem _ hx)) with e | h1
    · subst e; exact absurd (hA.1 x hx) (by omega)
    · exact h1
  · rcases List.mem_cons.1 ((h x).2 (List.mem_cons_of_mem _ hx)) with e | h1
    · subst e; exact absurd (hB.1 x hx) (by omega)
    · exact h1
theorem rise_old {L : List Int} {x : Int} (h : x ∈ riseL L) : riseL (L ++ [x]) = riseL L := ssI_eq (riseL_ss _) (riseL_ss _) fun y => by
 rw [riseL_iff, riseL_iff, List.mem_append, List.mem_singleton]
 rw [riseL_iff] at h
 exact ⟨fun k => k.elim id (fun e => e ▸ h), Or.inl⟩
def imgL (back : Bool) (Ed : List EdT) (Q : List Int) (sym : Int) : List Int := (Ed.filter fun e => decide (e.2.1 = sym ∧ (ends back e).1 ∈ Q)).map fun e => (ends back e).2
theorem imgL_iff {back : Bool} {Ed : List EdT} {Q : List Int} {sym x : Int} : x ∈ imgL back Ed Q sym ↔ ∃ e ∈ Ed, e.2.1 = sym ∧ (ends back e).1 ∈ Q ∧ (ends back e).2 = x := by
 unfold imgL
 simp only [List.mem_map, List.mem_filter, decide_eq_true_eq]
 exact ⟨fun ⟨e, ⟨h, a, b⟩, c⟩ => ⟨e, h, a, b, c⟩, fun ⟨e, h, a, b, c⟩ => ⟨e, ⟨h, a, b⟩, c⟩⟩
theorem imgL_len (back : Bool) (Ed : List EdT) (Q : List Int) (sym : Int) : (imgL back Ed Q sym).length ≤ Ed.length := by
 unfold imgL
 rw [List.length_map]
 exact List.length_filter_le _ _
theorem imgL_take {back : Bool} {Ed : List EdT} {Q : List Int} {sym : Int} {i : Nat} (h : i < Ed.length) : imgL back (Ed.take (i + 1)) Q sym = if Ed[i].2.1 = sym ∧ (ends back Ed[i]).1 ∈ Q then imgL back (Ed.take i) Q sym ++ [(ends back Ed[i]).2] else imgL back (Ed.take i) Q sym := by
 unfold imgL
 rw [List.take_succ_eq_append_getElem h, List.filter_append, List.map_append]
 by_cases k : Ed[i].2.1 = sym ∧ (ends back Ed[i]).1 ∈ Q
 · rw [if_pos k, List.filter_cons_of_pos (by simpa using k)]; rfl
 · rw [if_neg k, List.filter_cons_of_neg (by simpa using k)]; simp
theorem rnext_any (w : World) (n m : Int) (a1 a2 a3 q1 : Option Addr) (c1 c2 c3 cq : Nat) (St Fi : List Int) (Ed : List EdT) (Q : List Int) (sym : Int) (hA : Hid (RdA w a1 a2 a3 St Fi Ed)) (hQ : Hid (RdN w q1 Q)) (h3 : Ed.length ≤ 4194304) (hq : Q.length ≤ 4194304) :
 Calls Tryz.prog 45 #[.agg #[.int .i64 n, .int .i64 m, .slice a1 St.length c1, .slice a2 Fi.length c2, .slice a3 Ed.length c3], .slice q1 Q.length cq, .int .i64 sym] w fun e w' => ∃ b c, e = .returned (.slice b (riseL (imgL false Ed Q sym)).length c) ∧ Hid (w'.ownsRow w.heap.size 3 1 (.slice b (riseL (imgL false Ed Q sym)).length c) (riseL (imgL false Ed Q sym)).length ((riseL (imgL false Ed Q sym)).map (Value.int .i64))) ∧ Below w.heap.size w w' := by
 obtain ⟨W0, hW0⟩ : ∃ W0, w.alloc (.cells #[.int .i64 n, .int .i64 m, .slice a1 St.length c1, .slice a2 Fi.length c2, .slice a3 Ed.length c3] 25) = W0 := ⟨_, rfl⟩
 have H0 : Hid (Below w.heap.size w W0 ∧ W0.heap[w.heap.size]? = some (.cells #[.int .i64 n, .int .i64 m, .slice a1 St.length c1, .slice a2 Fi.length c2, .slice a3 Ed.length c3] 25 (0, 0))) := hide ⟨by rw [← hW0]; exact alloc_below _ _, by rw [← hW0]; exact World.alloc_heap_new _ _⟩
 go_enter Tryz.func45, Tryz.ntmps45
 go_wp2_with fail
 clear hW0
 go_loopw [7, 8] (fun ov iv wr => ∃ i b c, i ≤ Ed.length ∧ ov = .slice b (riseL (imgL false (Ed.take i) Q sym)).length c ∧ iv = .int .i64 (i : Nat) ∧ Hid (wr.ownsRow w.heap.size 3 1 (.slice b (riseL (imgL false (Ed.take i) Q sym)).length c) (riseL (imgL false (Ed.take i) Q sym)).length ((riseL (imgL false (Ed.take i) Q sym)).map (Value.int .i64)) ∧ Below W0.heap.size W0 wr)) (fun _ iv _ => Ed.length - (intOf iv).toNat)
 case atStart => exact ⟨0, none, 0, Nat.zero_le _, by rw [List.take_zero, show imgL false [] Q sym = [] from rfl, rise_nil]; rfl, rfl, hide ⟨by rw [List.take_zero, show imgL false [] Q sym = [] from rfl, rise_nil]; exact World.ownsRow_nil _ _ _ _, Below.refl _ _⟩⟩
 case round =>
  obtain ⟨i, b, c, hi, rfl, rfl, HY⟩ := hrel
  have eb := blk_on H0.out.2 HY.out.2
  have y4 : wr.cell? ⟨w.heap.size, 4, none⟩ = some (.slice a3 Ed.length c3) := cell_of eb rfl
  have dw := H0.out.1.trans (HY.out.2.mono H0.out.1.size)
  clear eb
  by_cases hlt : i < Ed.length
  · have i0 : (i : Int) < (Ed.length : Int) := by omega
    have i1 : (0 : Int) ≤ (i : Int) := by omega
    have iw : IntKind.i64.wrap ((i : Int) + 1) = (i : Int) + 1 := by rw [IntKind.wrap_i64]; omega
    obtain ⟨g, o, hao, q0, q1', q2⟩ := (hA.out.e.on dw) i hlt
    subst hao
    have hlen : (riseL (imgL false (Ed.take i) Q sym)).length ≤ 4194304 := Nat.le_trans (riseL_len _) (Nat.le_trans (imgL_len _ _ _ _) (by rw [List.length_take]; omega))
    have HT := hide (imgL_take (back := false) (Q := Q) (sym := sym) hlt)
    generalize Ed[i] = x at q0 q1' q2 HT
    obtain ⟨x1, x2, x3⟩ := x
    simp only [ends] at HT
    simp only [if_false, Bool.false_eq_true] at HT
    obtain ⟨w1, hw1⟩ : ∃ w1, wr.alloc (.cells #[.int .i64 x1, .int .i64 x2, .int .i64 x3] 61) = w1 := ⟨_, rfl⟩
    have H1 : Hid (Below wr.heap.size wr w1 ∧ w1.heap[wr.heap.size]? = some (.cells #[.int .i64 x1, .int .i64 x2, .int .i64 x3] 61 (0, 0))) := hide ⟨by rw [← hw1]; exact alloc_below _ _, by rw [← hw1]; exact World.alloc_heap_new _ _⟩
    have HY1 : Hid (w1.ownsRow w.heap.size 3 1 (.slice b (riseL (imgL false (Ed.take i) Q sym)).length c) (riseL (imgL false (Ed.take i) Q sym)).length ((riseL (imgL false (Ed.take i) Q sym)).map (Value.int .i64)) ∧ Below W0.heap.size W0 w1) := hide ⟨own_below HY.out.1 H1.out.1, HY.out.2.trans (H1.out.1.mono HY.out.2.size)⟩
    have HQ1 : Hid (RdN w1 q1 Q) := hide (hQ.out.on (dw.trans (H1.out.1.mono dw.size)))
    have HSZ : Hid (w.heap.size ≤ w1.heap.size) := hide (Nat.le_trans dw.size H1.out.1.size)
    have T := with_any w1 b (riseL (imgL false (Ed.take i) Q sym)) c x3 (hide (own_rdN HY1.out.1)) hlen
    rw [with_rise] at T
    obtain ⟨z0, z1, z2⟩ := zd3 H1.out.2 rfl rfl rfl
    clear HY dw
    have HN : Hid (∀ x, x ∈ riseL (imgL false (Ed.take i) Q sym) → riseL (imgL false (Ed.take i) Q sym ++ [x]) = riseL (imgL false (Ed.take i) Q sym)) := hide fun x h => rise_old h
    go_upto_region 6 with fail
    clear hw1 q0 q1' q2 y4
    generalize wr.heap.size = pe at z0 z1 z2 H1 ⊢
    by_cases e1 : x2 = sym
    · by_cases e2 : x1 ∈ Q
      · rw [if_pos ⟨e1, e2⟩] at HT
        have k1 : (x2 == sym) = true := by simpa using e1
        have k2 : decide (x1 ∈ Q) = true := by simpa using e2
        by_cases e3 : x3 ∈ riseL (imgL false (Ed.take i) Q sym)
        · have HE : Hid (riseL (imgL false (Ed.take (i + 1)) Q sym) = riseL (imgL false (Ed.take i) Q sym)) := hide (by rw [HT.out]; exact HN.out _ e3)
          have k3 : decide (x3 ∈ riseL (imgL false (Ed.take i) Q sym)) = true := by simpa using e3
          clear e1 e2 e3 HT HN T
          generalize riseL (imgL false (Ed.take i) Q sym) = X at HY1 HE k3 hlen ⊢
          go_wp2_with (first
           | (go_at_call_of 80 q1; refine (in60 w1 q1 Q cq x1 (hide HQ1.out) (by omega)).mono ?_; rintro e w' ⟨rfl, hw'⟩; obtain rfl := hw'.symm; clear hw'; rw [k2])
           | (go_at_call_of 80 b; refine (in60 w1 b X c x3 (hide (own_rdN HY1.out.1)) hlen).mono ?_; rintro e w' ⟨rfl, hw'⟩; obtain rfl := hw'.symm; clear hw'; rw [k3]))
          go_roundw
          case rel => exact ⟨i + 1, b, c, by omega, by rw [HE.out], by go_num, hide ⟨by rw [HE.out]; exact HY1.out.1, HY1.out.2⟩⟩
          case measure => simp [intOf]; omega
        · have k3 : decide (x3 ∈ riseL (imgL false (Ed.take i) Q sym)) = false := by simpa using e3
          have HE := hide (congrArg riseL HT.out)
          generalize riseL (imgL false (Ed.take i) Q sym ++ [x3]) = Y at T HE
          clear e1 e2 e3 HT HN
          generalize riseL (imgL false (Ed.take i) Q sym) = X at HY1 k3 hlen T ⊢
          go_wp2_with (first
           | (go_at_call_of 80 q1; refine (in60 w1 q1 Q cq x1 (hide HQ1.out) (by omega)).mono ?_; rintro e w' ⟨rfl, hw'⟩; obtain rfl := hw'.symm; clear hw'; rw [k2])
           | (go_at_call_of 80 b; refine (in60 w1 b X c x3 (hide (own_rdN HY1.out.1)) hlen).mono ?_; rintro e w' ⟨rfl, hw'⟩; obtain rfl := hw'.symm; clear hw'; rw [k3])
           | (go_at_call 79; refine T.mono ?_; rintro e w2 ⟨b2, c2, rfl, HR, d2⟩; have HD := hide (HY1.out.2.trans (d2.mono HY1.out.2.size)); have HR2 := hide (owns_down HR.out HSZ.out); clear d2 HR))
          go_roundw
          case rel => exact ⟨i + 1, b2, c2, by omega, by rw [HE.out], by go_num, hide ⟨by rw [HE.out]; exact HR2.out, HD.out⟩⟩
          case measure => simp [intOf]; omega
      · have HE : Hid (riseL (imgL false (Ed.take (i + 1)) Q sym) = riseL (imgL false (Ed.take i) Q sym)) := hide (by rw [HT.out, if_neg fun h => e2 h.2])
        have k1 : (x2 == sym) = true := by simpa using e1
        have k2 : decide (x1 ∈ Q) = false := by simpa using e2
        clear e1 e2 HT HN T
        generalize riseL (imgL false (Ed.take i) Q sym) = X at HY1 HE hlen ⊢
        go_wp2_with (first
         | (go_at_call_of 80 q1; refine (in60 w1 q1 Q cq x1 (hide HQ1.out) (by omega)).mono ?_; rintro e w' ⟨rfl, hw'⟩; obtain rfl := hw'.symm; clear hw'; rw [k2]))
        go_roundw
        case rel => exact ⟨i + 1, b, c, by omega, by rw [HE.out], by go_num, hide ⟨by rw [HE.out]; exact HY1.out.1, HY1.out.2⟩⟩
        case measure => simp [intOf]; omega
    · have HE : Hid (riseL (imgL false (Ed.take (i + 1)) Q sym) = riseL (imgL false (Ed.take i) Q sym)) := hide (by rw [HT.out, if_neg fun h => e1 h.1])
      have k1 : (x2 == sym) = false := by simpa using e1
      clear e1 HT HN T
      generalize riseL (imgL false (Ed.take i) Q sym) = X at HY1 HE hlen ⊢
      go_wp2_with fail
      go_roundw
      case rel => exact ⟨i + 1, b, c, by omega, by rw [HE.out], by go_num, hide ⟨by rw [HE.out]; exact HY1.out.1, HY1.out.2⟩⟩
      case measure => simp [intOf]; omega
  · have i0 : ¬ (i : Int) < (Ed.length : Int) := by omega
    have etk : Ed.take i = Ed := List.take_of_length_le (by omega)
    rw [etk] at HY ⊢
    go_wp2_with fail
    refine bodyPost_ret (results_tmp rfl _ _ _) rfl ?_
    exact ⟨b, c, rfl, hide HY.out.1, dw⟩
def LAns (w : World) (r : List Int × Int) (e : Ending) (w' : World) : Prop := ∃ b c, e = .returned (.tuple #[.slice b r.1.length c, .int .i64 r.2]) ∧ Hid (w'.ownsRow w.heap.size 3 1 (.slice b r.1.length c) r.1.length (r.1.map (Value.int .i64))) ∧ Below w.heap.size w w'
theorem lans_bad {w w' : World} {er : Int} {e : Ending} (he : e = .returned (.tuple #[.slice none 0 0, .int .i64 er])) (d : Below w.heap.size w w') : LAns w ([], er) e w' :=
 ⟨none, 0, he, hide (World.ownsRow_nil _ _ _ _), d⟩
theorem rword_any (w : World) (n m : Int) (a1 a2 a3 : Option Addr) (c1 c2 c3 : Nat) (St Fi : List Int) (Ed : List EdT) (u1 : Option Addr) (cw : Nat) (Wd : List Int) (hA : Hid (RdA w a1 a2 a3 St Fi Ed)) (hU : Hid (RdN w u1 Wd)) (h1 : St.length ≤ 4194304) (h2 : Fi.length ≤ 4194304) (h3 : Ed.length ≤ 4194304) (hw : Wd.length ≤ 4194304) :
 Calls Tryz.prog 43 #[.agg #[.int .i64 n, .int .i64 m, .slice a1 St.length c1, .slice a2 Fi.length c2, .slice a3 Ed.length c3], .slice u1 Wd.length cw] w fun e w' => e = .returned (.int .i64 (wordErr n m St Fi Ed Wd)) ∧ Below w.heap.size w w' := by
 obtain ⟨W0, hW0⟩ : ∃ W0, w.alloc (.cells #[.int .i64 n, .int .i64 m, .slice a1 St.length c1, .slice a2 Fi.length c2, .slice a3 Ed.length c3] 25) = W0 := ⟨_, rfl⟩
 have H0 : Hid (Below w.heap.size w W0 ∧ W0.heap[w.heap.size]? = some (.cells #[.int .i64 n, .int .i64 m, .slice a1 St.length c1, .slice a2 Fi.length c2, .slice a3 Ed.length c3] 25 (0, 0))) := hide ⟨by rw [← hW0]; exact alloc_below _ _, by rw [← hW0]; exact World.alloc_heap_new _ _⟩
 obtain ⟨y0, y1, y2, y3, y4⟩ := zd5 H0.out.2 rfl rfl rfl rfl rfl
 have TV := rvalid_any W0 n m a1 a2 a3 c1 c2 c3 St Fi Ed (hide (hA.out.on H0.out.1)) h1 h2 h3
 by_cases em : mayA n m St Fi Ed = true
 · rw [if_pos em] at TV
   have TB : Hid (∀ W, Below w.heap.size w W → Calls Tryz.prog 41 #[.slice u1 Wd.length cw, .int .i64 m] W fun e w' => e = .returned (.bool (Wd.all (inB m))) ∧ w' = W) := hide (fun W d => below_any W u1 Wd cw m (hide (hU.out.on d)) hw)
   have HE : Hid (wordErr n m St Fi Ed Wd = if Wd.all (inB m) then 0 else 7) := hide (by unfold wordErr; rw [if_pos em])
   clear em
   generalize Wd.all (inB m) = r at TB HE
   obtain ⟨er, he⟩ : ∃ er, wordErr n m St Fi Ed Wd = er := ⟨_, rfl⟩
   rw [he] at HE ⊢
   clear he
   cases r
   · go_enter Tryz.func43, Tryz.ntmps43
     go_wp2_with (first
      | (go_at_call 10; refine TV.mono ?_; rintro e w1 ⟨rfl, d1⟩; have H1 := hide (And.intro (H0.out.1.trans (d1.mono H0.out.1.size)) (blk_on H0.out.2 d1)); clear d1 y0 y1 y2 y3 y4; obtain ⟨y0, y1, y2, y3⟩ := zd4 H1.out.2 rfl rfl rfl rfl; have y4 : w1.cell? ⟨w.heap.size, 4, none⟩ = some (.slice a3 Ed.length c3) := cell_of H1.out.2 rfl)
      | (go_at_call 41; refine (TB.out w1 H1.out.1).mono ?_; rintro e w2 ⟨rfl, hw2⟩; obtain rfl := hw2.symm; clear hw2))
     refine bodyPost_ret (results_tmp rfl _ _ _) rfl ?_
     exact ⟨by rw [HE.out]; rfl, H1.out.1⟩
   · go_enter Tryz.func43, Tryz.ntmps43
     go_wp2_with (first
      | (go_at_call 10; refine TV.mono ?_; rintro e w1 ⟨rfl, d1⟩; have H1 := hide (And.intro (H0.out.1.trans (d1.mono H0.out.1.size)) (blk_on H0.out.2 d1)); clear d1 y0 y1 y2 y3 y4; obtain ⟨y0, y1, y2, y3⟩ := zd4 H1.out.2 rfl rfl rfl rfl; have y4 : w1.cell? ⟨w.heap.size, 4, none⟩ = some (.slice a3 Ed.length c3) := cell_of H1.out.2 rfl)
      | (go_at_call 41; refine (TB.out w1 H1.out.1).mono ?_; rintro e w2 ⟨rfl, hw2⟩; obtain rfl := hw2.symm; clear hw2))
     refine bodyPost_ret (results_tmp rfl _ _ _) rfl ?_
     exact ⟨by rw [HE.out]; rfl, H1.out.1⟩
 · rw [if_neg em] at TV
   have HE : Hid (wordErr n m St Fi Ed Wd = 2) := hide (by unfold wordErr; rw [if_neg em])
   clear em
   go_enter Tryz.func43, Tryz.ntmps43
   go_wp2_with (go_at_call 10; refine TV.mono ?_; rintro e w1 ⟨rfl, d1⟩; have H1 := hide d1; clear d1)
   refine bodyPost_ret (results_tmp rfl _ _ _) rfl ?_
   exact ⟨by rw [HE.out]; rfl, H0.out.1.trans (H1.out.mono H0.out.1.size)⟩
def aftL (Ed : List EdT) (S : List Int) (Wd : List Int) : List Int := Wd.foldl (fun S y => riseL (imgL false Ed S y)) S
theorem aftL_take {Ed : List EdT} {S Wd : List Int} {i : Nat} (h : i < Wd.length) : aftL Ed S (Wd.take (i + 1)) = riseL (imgL false Ed (aftL Ed S (Wd.take i)) Wd[i]) := by
 unfold aftL
 rw [List.take_succ_eq_append_getElem h, List.foldl_append]
 rfl
theorem aftL_len {Ed : List EdT} {S Wd : List Int} (hs : S.length ≤ 4194304) (h3 : Ed.length ≤ 4194304) : (aftL Ed S Wd).length ≤ 4194304 := by
 rcases Wd.eq_nil_or_concat with rfl | ⟨l, y, rfl⟩
 · exact hs
 · unfold aftL
   rw [List.concat_eq_append, List.foldl_append]
   exact Nat.le_trans (riseL_len _) (Nat.le_trans (imgL_len _ _ _ _) h3)
def aftA (n m : Int) (St Fi : List Int) (Ed : List EdT) (Wd : List Int) : List Int × Int := if wordErr n m St Fi Ed Wd = 0 then (aftL Ed (riseL St) Wd, 0) else ([], wordErr n m St Fi Ed Wd)
theorem rafter_any (w : World) (n m : Int) (a1 a2 a3 : Option Addr) (c1 c2 c3 : Nat) (St Fi : List Int) (Ed : List EdT) (u1 : Option Addr) (cw : Nat) (Wd : List Int) (hA : Hid (RdA w a1 a2 a3 St Fi Ed)) (hU : Hid (RdN w u1 Wd)) (h1 : St.length ≤ 4194304) (h2 : Fi.length ≤ 4194304) (h3 : Ed.length ≤ 4194304) (hw : Wd.length ≤ 4194304) :
 Calls Tryz.prog 13 #[.agg #[.int .i64 n, .int .i64 m, .slice a1 St.length c1, .slice a2 Fi.length c2, .slice a3 Ed.length c3], .slice u1 Wd.length cw] w (LAns w (aftA n m St Fi Ed Wd)) := by
 obtain ⟨W0, hW0⟩ : ∃ W0, w.alloc (.cells #[.int .i64 n, .int .i64 m, .slice a1 St.length c1, .slice a2 Fi.length c2, .slice a3 Ed.length c3] 25) = W0 := ⟨_, rfl⟩
 have H0 : Hid (Below w.heap.size w W0 ∧ W0.heap[w.heap.size]? = some (.cells #[.int .i64 n, .int .i64 m, .slice a1 St.length c1, .slice a2 Fi.length c2, .slice a3 Ed.length c3] 25 (0, 0))) := hide ⟨by rw [← hW0]; exact alloc_below _ _, by rw [← hW0]; exact World.alloc_heap_new _ _⟩
 obtain ⟨y0, y1, y2, y3, y4⟩ := zd5 H0.out.2 rfl rfl rfl rfl rfl
 have TA := rword_any W0 n m a1 a2 a3 c1 c2 c3 St Fi Ed u1 cw Wd (hide (hA.out.on H0.out.1)) (hide (hU.out.on H0.out.1)) h1 h2 h3 hw
 unfold aftA
 by_cases e0 : wordErr n m St Fi Ed Wd = 0
 · rw [if_pos e0]
   rw [e0] at TA
   clear e0
   have TN : Hid (∀ W b c X x, Below w.heap.size w W → RdN W b X → X.length ≤ 4194304 → Calls Tryz.prog 45 #[.agg #[.int .i64 n, .int .i64 m, .slice a1 St.length c1, .slice a2 Fi.length c2, .slice a3 Ed.length c3], .slice b X.length c, .int .i64 x] W fun e w' => ∃ b c, e = .returned (.slice b (riseL (imgL false Ed X x)).length c) ∧ Hid (w'.ownsRow W.heap.size 3 1 (.slice b (riseL (imgL false Ed X x)).length c) (riseL (imgL false Ed X x)).length ((riseL (imgL false Ed X x)).map (Value.int .i64))) ∧ Below W.heap.size W w') := hide (fun W b c X x d hx hl => rnext_any W n m a1 a2 a3 b c1 c2 c3 c St Fi Ed X x (hide (hA.out.on d)) (hide hx) h3 hl)
   have HRS : Hid ((riseL St).length ≤ 4194304) := hide (Nat.le_trans (riseL_len St) h1)
   have SB : Hid (∀ W, Below W0.heap.size W0 W → (fun W => W.cell? ⟨w.heap.size, 0, none⟩ = some (.int .i64 n) ∧ W.cell? ⟨w.heap.size, 1, none⟩ = some (.int .i64 m) ∧ W.cell? ⟨w.heap.size, 2, none⟩ = some (.slice a1 St.length c1) ∧ W.cell? ⟨w.heap.size, 3, none⟩ = some (.slice a2 Fi.length c2) ∧ W.cell? ⟨w.heap.size, 4, none⟩ = some (.slice a3 Ed.length c3)) W) := hide (fun W d => by
    have e := blk_on H0.out.2 d
    exact ⟨cell_of e rfl, cell_of e rfl, cell_of e rfl, cell_of e rfl, cell_of e rfl⟩)
   go_enter Tryz.func13, Tryz.ntmps13
   go_wp2_with (first
    | (go_at_call 43; refine TA.mono ?_; rintro e w1 ⟨rfl, d1⟩; have H1 := hide d1; clear d1 y0 y1 y2 y3 y4; obtain ⟨y0, y1, y2, y3, y4⟩ := SB.out w1 H1.out)
    | (go_at_call 44; refine (set_any w1 a1 St c1 (hide (hA.out.s.on (H0.out.1.trans (H1.out.mono H0.out.1.size)))) h1).mono ?_; rintro e w2 ⟨b0, c0, rfl, HO, d2⟩; have H2 := hide (And.intro (owns_down HO.out (Nat.le_trans H0.out.1.size H1.out.size)) (H1.out.trans (d2.mono H1.out.size))); clear d2 HO y0 y1 y2 y3 y4))
   clear hW0
   go_loopw [7, 8] (fun ov iv wr => ∃ i b c, i ≤ Wd.length ∧ ov = .slice b (aftL Ed (riseL St) (Wd.take i)).length c ∧ iv = .int .i64 (i : Nat) ∧ Hid (wr.ownsRow w.heap.size 3 1 (.slice b (aftL Ed (riseL St) (Wd.take i)).length c) (aftL Ed (riseL St) (Wd.take i)).length ((aftL Ed (riseL St) (Wd.take i)).map (Value.int .i64)) ∧ Below W0.heap.size W0 wr)) (fun _ iv _ => Wd.length - (intOf iv).toNat)
   case atStart => exact ⟨0, b0, c0, Nat.zero_le _, rfl, rfl, hide ⟨H2.out.1, H2.out.2⟩⟩
   case round =>
    obtain ⟨i, b, c, hi, rfl, rfl, HY⟩ := hrel
    by_cases hlt : i < Wd.length
    · have i0 : (i : Int) < (Wd.length : Int) := by omega
      have i1 : (0 : Int) ≤ (i : Int) := by omega
      have iw : IntKind.i64.wrap ((i : Int) + 1) = (i : Int) + 1 := by rw [IntKind.wrap_i64]; omega
      have HDW := hide (H0.out.1.trans (HY.out.2.mono H0.out.1.size))
      obtain ⟨gu, ou, hao, q⟩ := (hU.out.on HDW.out) i hlt
      subst hao
      have hlen : (aftL Ed (riseL St) (Wd.take i)).length ≤ 4194304 := aftL_len HRS.out h3
      have HE := hide (aftL_take (Ed := Ed) (S := riseL St) hlt)
      generalize Wd[i] = x at q HE
      generalize aftL Ed (riseL St) (Wd.take i) = X at HY hlen HE ⊢
      have SQ : Hid (∀ W, Below wr.heap.size wr W → W.cell? ⟨gu, ou + i, none⟩ = some (.int .i64 x)) := hide (fun W d => (d.cell (p := ⟨gu, ou + i, none⟩) (World.block_lt_of_cell? wr _ q)).trans q)
      have SX : Hid (∀ W, Below wr.heap.size wr W → (fun W => (fun W => W.cell? ⟨w.heap.size, 0, none⟩ = some (.int .i64 n) ∧ W.cell? ⟨w.heap.size, 1, none⟩ = some (.int .i64 m) ∧ W.cell? ⟨w.heap.size, 2, none⟩ = some (.slice a1 St.length c1) ∧ W.cell? ⟨w.heap.size, 3, none⟩ = some (.slice a2 Fi.length c2) ∧ W.cell? ⟨w.heap.size, 4, none⟩ = some (.slice a3 Ed.length c3)) W ∧ W.cell? ⟨gu, ou + i, none⟩ = some (.int .i64 x)) W) := hide (fun W d => ⟨SB.out W (HY.out.2.trans (d.mono HY.out.2.size)), SQ.out W d⟩)
      have HX := hide (own_rdN HY.out.1)
      have S0 := SX.out wr.drew (Below.refl _ _).drew
      clear q
      go_upto_region 8 with fail
      go_region_held3 (fun W => (fun W => W.cell? ⟨w.heap.size, 0, none⟩ = some (.int .i64 n) ∧ W.cell? ⟨w.heap.size, 1, none⟩ = some (.int .i64 m) ∧ W.cell? ⟨w.heap.size, 2, none⟩ = some (.slice a1 St.length c1) ∧ W.cell? ⟨w.heap.size, 3, none⟩ = some (.slice a2 Fi.length c2) ∧ W.cell? ⟨w.heap.size, 4, none⟩ = some (.slice a3 Ed.length c3)) W ∧ W.cell? ⟨gu, ou + i, none⟩ = some (.int .i64 x))
       (with_reducible assumption)
       ((go_at_call 45; refine (TN.out _ _ _ _ _ HDW.out.drew (HX.out.on (Below.refl _ wr).drew) hlen).mono ?_; rintro e w3 ⟨b2, c2, rfl, HO, d3⟩; have D3 : Below wr.heap.size wr w3 := ⟨d3.os, d3.tape, d3.output, d3.size, d3.block⟩; have S3 := SX.out w3 D3; have HD3 := hide D3; clear d3 D3))
      clear S0 S3
      go_wp2_with fail
      go_roundw
      case rel => exact ⟨i + 1, b2, c2, by omega, by rw [HE.out], by go_num, hide ⟨by rw [HE.out]; exact owns_down HO.out HDW.out.size, HY.out.2.trans (HD3.out.mono HY.out.2.size)⟩⟩
      case measure => simp [intOf]; omega
    · have i0 : ¬ (i : Int) < (Wd.length : Int) := by omega
      have etk : Wd.take i = Wd := List.take_of_length_le (by omega)
      rw [etk] at HY ⊢
      go_wp2_with fail
      go_ret2
      exact ⟨b, c, rfl, hide HY.out.1, H0.out.1.trans (HY.out.2.mono H0.out.1.size)⟩
 · rw [if_neg e0]
   generalize wordErr n m St Fi Ed Wd = er at e0 TA ⊢
   have e1 : (er != 0) = true := by simpa using e0
   clear e0
   go_enter Tryz.func13, Tryz.ntmps13
   go_wp2_with (go_at_call 43; refine TA.mono ?_; rintro e w1 ⟨rfl, d1⟩; have H1 := hide (H0.out.1.trans (d1.mono H0.out.1.size)); clear d1)
   go_ret2
   exact lans_bad rfl H1.out
def accA (n m : Int) (St Fi : List Int) (Ed : List EdT) (Wd : List Int) : Bool × Int := ((aftA n m St Fi Ed Wd).1.any fun x => decide (x ∈ Fi), (aftA n m St Fi Ed Wd).2)
theorem aftA_len {n m : Int} {St Fi : List Int} {Ed : List EdT} {Wd : List Int} (h1 : St.length ≤ 4194304) (h3 : Ed.length ≤ 4194304) : (aftA n m St Fi Ed Wd).1.length ≤ 4194304 := by
 unfold aftA
 by_cases e0 : wordErr n m St Fi Ed Wd = 0
 · rw [if_pos e0]; exact aftL_len (Nat.le_trans (riseL_len St) h1) h3
 · rw [if_neg e0]; exact Nat.zero_le _
theorem raccepts_any (w : World) (n m : Int) (a1 a2 a3 : Option Addr) (c1 c2 c3 : Nat) (St Fi : List Int) (Ed : List EdT) (u1 : Option Addr) (cw : Nat) (Wd : List Int) (hA : Hid (RdA w a1 a2 a3 St Fi Ed)) (hU : Hid (RdN w u1 Wd)) (h1 : St.length ≤ 4194304) (h2 : Fi.length ≤ 4194304) (h3 : Ed.length ≤ 4194304) (hw : Wd.length ≤ 4194304) :
 Calls Tryz.prog 42 #[.agg #[.int .i64 n, .int .i64 m, .slice a1 St.length c1, .slice a2 Fi.length c2, .slice a3 Ed.length c3], .slice u1 Wd.length cw] w fun e w' => e = .returned (.tuple #[.bool (accA n m St Fi Ed Wd).1, .int .i64 (accA n m St Fi Ed Wd).2]) ∧ Below w.heap.size w w' := by
 obtain ⟨W0, hW0⟩ : ∃ W0, w.alloc (.cells #[.int .i64 n, .int .i64 m, .slice a1 St.length c1, .slice a2 Fi.length c2, .slice a3 Ed.length c3] 25) = W0 := ⟨_, rfl⟩
 have H0 : Hid (Below w.heap.size w W0 ∧ W0.heap[w.heap.size]? = some (.cells #[.int .i64 n, .int .i64 m, .slice a1 St.length c1, .slice a2 Fi.length c2, .slice a3 Ed.length c3] 25 (0, 0))) := hide ⟨by rw [← hW0]; exact alloc_below _ _, by rw [← hW0]; exact World.alloc_heap_new _ _⟩
 obtain ⟨y0, y1, y2, y3, y4⟩ := zd5 H0.out.2 rfl rfl rfl rfl rfl
 have TA := rafter_any W0 n m a1 a2 a3 c1 c2 c3 St Fi Ed u1 cw Wd (hide (hA.out.on H0.out.1)) (hide (hU.out.on H0.out.1)) h1 h2 h3 hw
 have hlen := aftA_len (n := n) (m := m) (Fi := Fi) (Wd := Wd) h1 h3
 unfold accA
 generalize aftA n m St Fi Ed Wd = r at TA hlen ⊢
 obtain ⟨L, er⟩ := r
 have HF : Hid (∀ W, Below w.heap.size w W → RdN W a2 Fi) := hide (fun W d => hA.out.f.on d)
 obtain ⟨k, hk⟩ : ∃ k, (L.any fun x => decide (x ∈ Fi)) = k := ⟨_, rfl⟩
 have HK := hide hk
 simp only [hk]
 clear hk
 go_enter Tryz.func42, Tryz.ntmps42
 go_wp2_with (first
  | (go_at_call 13; refine TA.mono ?_; rintro e w1 ⟨b, c, rfl, HO, d1⟩; have H1 := hide (And.intro (H0.out.1.trans (d1.mono H0.out.1.size)) (blk_on H0.out.2 d1)); clear d1 y0 y1 y2 y3 y4; obtain ⟨y0, y1, y2, y3⟩ := zd4 H1.out.2 rfl rfl rfl rfl; have y4 : w1.cell? ⟨w.heap.size, 4, none⟩ = some (.slice a3 Ed.length c3) := cell_of H1.out.2 rfl)
  | (go_at_call 47; refine (meets18 w1 b a2 L Fi c c2 (hide (own_rdN HO.out)) (hide (HF.out w1 H1.out.1)) hlen h2).mono ?_; rintro e w2 ⟨rfl, hw2⟩; obtain rfl := hw2.symm; clear hw2; rw [HK.out]))
 go_ret2
 exact ⟨rfl, H1.out.1⟩
def tkF (n m : Int) (St Fi : List Int) (Ed : List EdT) (Wd : List Int) : Bool := (accA n m St Fi Ed Wd).1 && decide ((accA n m St Fi Ed Wd).2 = 0)
theorem ltakes_any (w : World) (n m : Int) (a1 a2 a3 : Option Addr) (c1 c2 c3 : Nat) (St Fi : List Int) (Ed : List EdT) (u1 : Option Addr) (cw : Nat) (Wd : List Int) (hA : Hid (RdA w a1 a2 a3 St Fi Ed)) (hU : Hid (RdN w u1 Wd)) (h1 : St.length ≤ 4194304) (h2 : Fi.length ≤ 4194304) (h3 : Ed.length ≤ 4194304) (hw : Wd.length ≤ 4194304) :
 Calls Tryz.prog 11 #[.agg #[.int .i64 n, .int .i64 m, .slice a1 St.length c1, .slice a2 Fi.length c2, .slice a3 Ed.length c3], .slice u1 Wd.length cw] w fun e w' => e = .returned (.bool (tkF n m St Fi Ed Wd)) ∧ Below w.heap.size w w' := by
 obtain ⟨W0, hW0⟩ : ∃ W0, w.alloc (.cells #[.int .i64 n, .int .i64 m, .slice a1 St.length c1, .slice a2 Fi.length c2, .slice a3 Ed.length c3] 25) = W0 := ⟨_, rfl⟩
 have HB : Hid (W0.heap[w.heap.size]? = some (.cells #[.int .i64 n, .int .i64 m, .slice a1 St.length c1, .slice a2 Fi.length c2, .slice a3 Ed.length c3] 25 (0, 0)) ∧ Below w.heap.size w W0) := hide (by rw [← hW0]; exact ⟨World.alloc_heap_new _ _, (Below.refl _ _).alloc (Nat.le_refl _) _⟩)
 have T := raccepts_any W0 n m a1 a2 a3 c1 c2 c3 St Fi Ed u1 cw Wd (hide (hA.out.on HB.out.2)) (hide (hU.out.on HB.out.2)) h1 h2 h3 hw
 unfold tkF
 generalize accA n m St Fi Ed Wd = r at T ⊢
 obtain ⟨bb, er⟩ := r
 simp only at T ⊢
 obtain ⟨y0, y1, y2, y3, y4⟩ := zd5 HB.out.1 rfl rfl rfl rfl rfl
 cases bb
 · go_enter Tryz.func11, Tryz.ntmps11
   go_wp2_with (go_at_call 42; refine T.mono ?_; rintro e w1 ⟨rfl, D1⟩; have H1 := hide D1; clear D1)
   go_ret
   exact ⟨rfl, HB.out.2.trans (H1.out.mono HB.out.2.size)⟩
 · by_cases he : er = 0
   · subst he
     go_enter Tryz.func11, Tryz.ntmps11
     go_wp2_with (go_at_call 42; refine T.mono ?_; rintro e w1 ⟨rfl, D1⟩; have H1 := hide D1; clear D1)
     go_ret
     exact ⟨rfl, HB.out.2.trans (H1.out.mono HB.out.2.size)⟩
   · have he2 : (er == 0) = false := by simpa using he
     have HE := hide (decide_eq_false he)
     clear he
     go_enter Tryz.func11, Tryz.ntmps11
     go_wp2_with (go_at_call 42; refine T.mono ?_; rintro e w1 ⟨rfl, D1⟩; have H1 := hide D1; clear D1)
     go_ret
     exact ⟨by rw [HE.out]; rfl, HB.out.2.trans (H1.out.mono HB.out.2.size)⟩
theorem lsyms_any (w : World) (u1 : Option Addr) (cw : Nat) (L : List Int) (m : Int) (hr : Hid (RdN w u1 L)) (hl : L.length ≤ 4194304) :
 Calls Tryz.prog 12 #[.slice u1 L.length cw, .int .i64 m] w fun e w' => e = .returned (.bool (L.all (inB m))) ∧ Below w.heap.size w w' := by
 obtain ⟨n, hn⟩ : ∃ n, n = L.length := ⟨_, rfl⟩
 have HL := hide hn
 rw [← hn]
 rw [← hn] at hl
 clear hn
 go_enter Tryz.func12, Tryz.ntmps12
 go_wp2_with fail
 go_loopw [8] (fun iv wr => ∃ i : Nat, i ≤ n ∧ iv = .int .i64 i ∧ Hid ((L.take i).all (inB m) = true ∧ Below w.heap.size w wr)) (fun iv _ => n - (intOf iv).toNat)
 case atStart => exact ⟨0, Nat.zero_le _, rfl, hide ⟨by simp, Below.refl _ _⟩⟩
 case round =>
  obtain ⟨i, hi, rfl, HY⟩ := hrel
  by_cases hil : i < n
  · have i0 : (0 : Int) ≤ (i : Int) := by omega
    have i1 : (i : Int) < (n : Int) := by omega
    have hi2 : i < L.length := by rw [← HL.out]; exact hil
    obtain ⟨g, o, rfl, c⟩ := (hr.out.on HY.out.2) i hi2
    have HT := hide (show L.take (i + 1) = L.take i ++ [L[i]] by rw [List.take_add_one, List.getElem?_eq_getElem hi2]; rfl)
    have HM := hide (List.getElem_mem hi2)
    generalize L[i] = x at c HT HM
    by_cases x0 : x < 0
    · have JN : Hid (L.all (inB m) = false) := hide (List.all_eq_false.2 ⟨x, HM.out, by rw [inB_not.2 (by omega)]; simp⟩)
      go_wp2_with fail
      go_ret
      exact ⟨by rw [JN.out]; rfl, HY.out.2⟩
    · by_cases x1 : m ≤ x
      · have JN : Hid (L.all (inB m) = false) := hide (List.all_eq_false.2 ⟨x, HM.out, by rw [inB_not.2 (by omega)]; simp⟩)
        go_wp2_with fail
        go_ret
        exact ⟨by rw [JN.out]; rfl, HY.out.2⟩
      · have JY : Hid (inB m x = true) := hide (inB_iff.2 (by omega))
        go_wp2_with fail
        go_roundw
        case rel => exact ⟨i + 1, by omega, by go_num, hide ⟨by rw [HT.out, List.all_append, HY.out.1]; simp [JY.out], HY.out.2⟩⟩
        case measure => simp [intOf]; omega
  · have i1 : ¬ (i : Int) < (n : Int) := by omega
    have J : Hid (L.all (inB m) = true) := hide (by
     have := HY.out.1
     rwa [List.take_of_length_le (by have := HL.out; omega)] at this)
    go_wp2_with fail
    go_ret
    exact ⟨by rw [J.out]; rfl, HY.out.2⟩
def UpN (N : Nat) (l : List Int) : Prop := l.Pairwise (· < ·) ∧ ∀ x ∈ l, 0 ≤ x ∧ x < (N : Int)
theorem up_len : ∀ (l : List Int) (a b : Int), l.Pairwise (· < ·) → (∀ x ∈ l, a ≤ x ∧ x < b) → l.length ≤ (b - a).toNat
 | [], _, _, _, _ => Nat.zero_le _
 | x :: l, a, b, hp, hx => by
  have h1 := hx x (by simp)
  have h2 := up_len l (x + 1) b (List.pairwise_cons.1 hp).2 (fun y hy => ⟨(List.pairwise_cons.1 hp).1 y hy, (hx y (by simp [hy])).2⟩)
  rw [List.length_cons]
  omega
theorem UpN.len {N : Nat} {l : List Int} (h : UpN N l) : l.length ≤ N := by
 have := up_len l 0 N h.1 h.2
 omega
theorem upN_rise {N : Nat} {L : List Int} (h : ∀ x ∈ L, 0 ≤ x ∧ x < (N : Int)) : UpN N (riseL L) := ⟨riseL_ss L, fun x hx => h x ((riseL_iff L x).1 hx)⟩
theorem own_zero {W : World} {B g : Nat} (h : W.heap[g]? = some (.cells #[] 3 (0, 0))) (hB : B ≤ g) : W.ownsRow B 3 1 (.slice (some ⟨g, 0, none⟩) 0 0) ([] : List Int).length (([] : List Int).map (Value.int .i64)) :=
 ⟨by simp, .inr ⟨g, 0, #[], rfl, hB, h, Nat.le_refl _, Nat.zero_le _, by simp, by simp⟩⟩
def behA (n m : Int) (SL FL : List Int) (Br Eb : List EdT) : Ans := if 65536 < Br.length + Eb.length then badA 8 else ⟨n, m, SL, FL, Br ++ Eb, 0⟩
theorem behind_ans (w : World) (N m n1 n2 n3 l1 l2 l3 : Nat) (n' m' : Int) (a1 a2 a3 b1 b2 b3 : Option Addr) (c1 c2 c3 d1 d2 d3 : Nat) (Sa Fa Sb Fb : List Int) (Ea Eb : List EdT) (en : Hid (Sa.length = n1 ∧ Fa.length = n2 ∧ Ea.length = n3 ∧ Sb.length = l1 ∧ Fb.length = l2 ∧ Eb.length = l3)) (hA : Hid (RdA w a1 a2 a3 Sa Fa Ea)) (hB : Hid (RdA w b1 b2 b3 Sb Fb Eb)) (zB : b1 = none → d1 = 0) (hN : N ≤ 4096) (hm : m ≤ 128) (h1 : n1 ≤ 2000000) (h2 : n2 ≤ 2000000) (h3 : n3 ≤ 2000000) (h4 : l1 ≤ 2000000) (h5 : l2 ≤ 2000000) (h6 : l3 ≤ 2000000) (hS : Hid (SsE Ea)) (hF : Hid (∀ e ∈ Ea, (0 ≤ e.1 ∧ e.1 < (N : Int)) ∧ (0 ≤ e.2.1 ∧ e.2.1 < (m : Int)) ∧ (0 ≤ e.2.2 ∧ e.2.2 < (N : Int)))) (hG : Hid (∀ x ∈ Fa, ∃ q : Nat, q < N ∧ x = (q : Int))) (zB3 : b3 = none → d3 = 0) (hSa : Hid (∀ x ∈ Sa, ∃ q : Nat, q < N ∧ x = (q : Int))) (M : Nat) (eM : Hid (n' = (M : Int))) (hM : M ≤ 8192) (hSb : Hid (∀ x ∈ Sb, ∃ q : Nat, q < M ∧ x = (q : Int))) (hFb : Hid (∀ x ∈ Fb, ∃ q : Nat, q < M ∧ x = (q : Int))) (B0 : Nat) (hB0 : B0 ≤ w.heap.size) (oA : Hid (w.ownsRow B0 3 1 (.slice a1 n1 c1) Sa.length (Sa.map (Value.int .i64)))) (oB : Hid (w.ownsRow B0 3 1 (.slice b2 l2 d2) Fb.length (Fb.map (Value.int .i64)))) (hap : Hid (∀ g, (Value.slice a1 n1 c1).ownBlock = some g → (Value.slice b2 l2 d2).ownBlock ≠ some g)) (zA : a1 = none → c1 = 0) (zA2 : a2 = none → c2 = 0) (zB2 : b2 = none → d2 = 0) (SL FL : List Int) (hSL : Hid (SL = if emptB Sa Fa then Sa ++ Sb else Sa)) (hFL : Hid (FL = if emptB Sb Fb then Fa ++ Fb else Fb)) :
 Calls Tryz.prog 56 #[.agg #[.int .i64 (N : Int), .int .i64 (m : Int), .slice a1 n1 c1, .slice a2 n2 c2, .slice a3 n3 c3], .agg #[.int .i64 n', .int .i64 m', .slice b1 l1 d1, .slice b2 l2 d2, .slice b3 l3 d3]] w fun e w' => ∃ x1 y1 x2 y2 x3 y3, e = .returned (.tuple #[.agg #[.int .i64 (behA n' (m : Int) SL FL (brL Ea Fa Sb m N) Eb).n, .int .i64 (behA n' (m : Int) SL FL (brL Ea Fa Sb m N) Eb).m, .slice x1 (behA n' (m : Int) SL FL (brL Ea Fa Sb m N) Eb).s.length y1, .slice x2 (behA n' (m : Int) SL FL (brL Ea Fa Sb m N) Eb).f.length y2, .slice x3 (behA n' (m : Int) SL FL (brL Ea Fa Sb m N) Eb).e.length y3], .int .i64 (behA n' (m : Int) SL FL (brL Ea Fa Sb m N) Eb).er]) ∧ Hid (OwnO B0 w' (.slice x1 (behA n' (m : Int) SL FL (brL Ea Fa Sb m N) Eb).s.length y1) (.slice x2 (behA n' (m : Int) SL FL (brL Ea Fa Sb m N) Eb).f.length y2) (.slice x3 (behA n' (m : Int) SL FL (brL Ea Fa Sb m N) Eb).e.length y3) (behA n' (m : Int) SL FL (brL Ea Fa Sb m N) Eb).s (behA n' (m : Int) SL FL (brL Ea Fa Sb m N) Eb).f (behA n' (m : Int) SL FL (brL Ea Fa Sb m N) Eb).e ∧ Below w.heap.size w w') := by
 unfold behA
 by_cases hbig : 65536 < (brL Ea Fa Sb m N).length + Eb.length
 · rw [if_pos hbig]
   have hb2 : 65536 < (brL Ea Fa Sb m N).length + l3 := by have := en.out.2.2.2.2.2; omega
   have bad : ∀ (e : Ending) (w' : World), (e = .returned (.tuple #[.agg #[.int .i64 0, .int .i64 0, .slice none 0 0, .slice none 0 0, .slice none 0 0], .int .i64 8]) ∧ Below w.heap.size w w') → ∃ x1 y1 x2 y2 x3 y3, e = .returned (.tuple #[.agg #[.int .i64 (badA 8).n, .int .i64 (badA 8).m, .slice x1 (badA 8).s.length y1, .slice x2 (badA 8).f.length y2, .slice x3 (badA 8).e.length y3], .int .i64 (badA 8).er]) ∧ Hid (OwnO B0 w' (.slice x1 (badA 8).s.length y1) (.slice x2 (badA 8).f.length y2) (.slice x3 (badA 8).e.length y3) (badA 8).s (badA 8).f (badA 8).e ∧ Below w.heap.size w w') := fun e w' ⟨he, d⟩ => ⟨none, 0, none, 0, none, 0, he, hide ⟨⟨⟨rfl, .inl ⟨rfl, rfl⟩⟩, ⟨rfl, .inl ⟨rfl, rfl⟩⟩, ⟨rfl, .inl ⟨rfl, rfl⟩⟩, fun g q => by cases q⟩, d⟩⟩
   by_cases hle : (brL Ea Fa Sb m N).length ≤ 65536
   · exact (behind_big w N m n1 n2 n3 l1 l2 l3 n' m' a1 a2 a3 b1 b2 b3 c1 c2 c3 d1 d2 d3 Sa Fa Sb Fb Ea Eb en hA hB zB hN hm h1 h2 h3 h4 h5 h6 hS hF hG hle hb2).mono bad
   · exact (behind_far w N m n1 n2 n3 l1 l2 l3 n' m' a1 a2 a3 b1 b2 b3 c1 c2 c3 d1 d2 d3 Sa Fa Sb Fb Ea Eb en hA hB zB hN hm h1 h2 h3 h4 h5 h6 hS hF hG (by omega)).mono bad
 · rw [if_neg hbig]
   exact behind_ok w N m n1 n2 n3 l1 l2 l3 n' m' a1 a2 a3 b1 b2 b3 c1 c2 c3 d1 d2 d3 Sa Fa Sb Fb Ea Eb en hA hB zB hN hm h1 h2 h3 h4 h5 h6 hS hF hG zB3 (by omega) (by have := en.out.2.2.2.2.2; omega) hSa M eM hM hSb hFb B0 hB0 oA oB hap zA zA2 zB2 SL FL hSL hFL
def dMv (B N M m : Nat) (S F : List Int) (E : List EdT) : MkP := fun x _ _ W => ∃ t1 u1 t2 u2 t3 u3, x = .agg #[.int .i64 ((M : Int) + (N : Int)), .int .i64 (m : Int), .slice t1 S.length u1, .slice t2 F.length u2, .slice t3 E.length u3] ∧ OwnO B W (.slice t1 S.length u1) (.slice t2 F.length u2) (.slice t3 E.length u3) (movN S N) (movN F N) (movE E N)
theorem dMv_mono {B N M m : Nat} {S F : List Int} {E : List EdT} : MonoP (dMv B N M m S F E) := fun _ _ _ _ _ _ d ⟨t1, u1, t2, u2, t3, u3, e, h⟩ => ⟨t1, u1, t2, u2, t3, u3, e, h.on d⟩
def dBh (B : Nat) (rn rm : Int) (rs rf : List Int) (re : List EdT) (rr : Int) : MkP := fun x _ _ W => ∃ x1 y1 x2 y2 x3 y3, x = .tuple #[.agg #[.int .i64 rn, .int .i64 rm, .slice x1 rs.length y1, .slice x2 rf.length y2, .slice x3 re.length y3], .int .i64 rr] ∧ OwnO B W (.slice x1 rs.length y1) (.slice x2 rf.length y2) (.slice x3 re.length y3) rs rf re
theorem dBh_mono {B : Nat} {rn rm : Int} {rs rf : List Int} {re : List EdT} {rr : Int} : MonoP (dBh B rn rm rs rf re rr) := fun _ _ _ _ _ _ d ⟨x1, y1, x2, y2, x3, y3, e, h⟩ => ⟨x1, y1, x2, y2, x3, y3, e, h.on d⟩
def dEx (B : Nat) (rn rm : Int) (rs rf : List Int) (re : List EdT) : MkP := fun x _ _ W => ∃ x1 y1 x2 y2 x3 y3, x = .agg #[.int .i64 rn, .int .i64 rm, .slice x1 rs.length y1, .slice x2 rf.length y2, .slice x3 re.length y3] ∧ OwnO B W (.slice x1 rs.length y1) (.slice x2 rf.length y2) (.slice x3 re.length y3) rs rf re
theorem dEx_mono {B : Nat} {rn rm : Int} {rs rf : List Int} {re : List EdT} : MonoP (dEx B rn rm rs rf re) := fun _ _ _ _ _ _ d ⟨x1, y1, x2, y2, x3, y3, e, h⟩ => ⟨x1, y1, x2, y2, x3, y3, e, h.on d⟩
theorem concat_a (w : World) (n m n' m' : Int) (a1 a2 a3 b1 b2 b3 : Option Addr) (c1 c2 c3 d1 d2 d3 : Nat) (Sa Fa Sb Fb : List Int) (Ea Eb : List EdT) (hA : Hid (RdA w a1 a2 a3 Sa Fa Ea)) (hB : Hid (RdA w b1 b2 b3 Sb Fb Eb)) (h1 : Sa.length ≤ 2000000) (h2 : Fa.length ≤ 2000000) (h3 : Ea.length ≤ 2000000) (h4 : Sb.length ≤ 2000000) (h5 : Fb.length ≤ 2000000) (h6 : Eb.length ≤ 2000000) (em : mayA n m Sa Fa Ea = false) :
 Calls Tryz.prog 21 #[.agg #[.int .i64 n, .int .i64 m, .slice a1 Sa.length c1, .slice a2 Fa.length c2, .slice a3 Ea.length c3], .agg #[.int .i64 n', .int .i64 m', .slice b1 Sb.length d1, .slice b2 Fb.length d2, .slice b3 Eb.length d3]] w (AnsO w (badA 2)) := by
 obtain ⟨W0, hW0⟩ : ∃ W0, ((w.alloc (.cells #[.int .i64 n, .int .i64 m, .slice a1 Sa.length c1, .slice a2 Fa.length c2, .slice a3 Ea.length c3] 25)).alloc (.cells #[.int .i64 n', .int .i64 m', .slice b1 Sb.length d1, .slice b2 Fb.length d2, .slice b3 Eb.length d3] 25)).alloc (.cells #[.int .i64 0, .int .i64 0, .slice none 0 0, .slice none 0 0, .slice none 0 0] 25) = W0 := ⟨_, rfl⟩
 have HD := hide (box3b w #[.int .i64 n, .int .i64 m, .slice a1 Sa.length c1, .slice a2 Fa.length c2, .slice a3 Ea.length c3] #[.int .i64 n', .int .i64 m', .slice b1 Sb.length d1, .slice b2 Fb.length d2, .slice b3 Eb.length d3] #[.int .i64 0, .int .i64 0, .slice none 0 0, .slice none 0 0, .slice none 0 0] 25)
 rw [hW0] at HD
 have TB := both_a W0 n m n' m' a1 a2 a3 b1 b2 b3 c1 c2 c3 d1 d2 d3 Sa Fa Sb Fb Ea Eb (hide (hA.out.on HD.out.1)) (hide (hB.out.on HD.out.1)) (by omega) (by omega) (by omega) (by omega) (by omega) (by omega) em
 obtain ⟨y0, y1, y2, y3, y4⟩ := zd5 HD.out.2.1 rfl rfl rfl rfl rfl
 obtain ⟨x0, x1, x2, x3, x4⟩ := zd5 HD.out.2.2.1 rfl rfl rfl rfl rfl
 go_enter Tryz.func21, Tryz.ntmps21
 go_upto_region 3 with (go_at_call 55; refine TB.mono ?_; rintro e w1 ⟨rfl, D1⟩; have H1 := hide D1; clear D1)
 clear TB y0 x0 y1 x1 y2 x2 y3 x3 y4 x4
 obtain ⟨W1, hW1⟩ : ∃ W1, (w1.alloc (.cells #[.int .i64 0, .int .i64 0, .slice none 0 0, .slice none 0 0, .slice none 0 0] 25)).alloc (.cells #[.int .i64 0, .int .i64 0, .slice none 0 0, .slice none 0 0, .slice none 0 0] 25) = W1 := ⟨_, rfl⟩
 have HW : Hid (W1.heap[w.heap.size + 1 + 1]? = some (.cells #[.int .i64 0, .int .i64 0, .slice none 0 0, .slice none 0 0, .slice none 0 0] 25 (0, 0)) ∧ w.heap.size + 3 ≤ W1.heap.size ∧ Below w.heap.size w W1) := hide (by
  have q := box2 w1 #[.int .i64 0, .int .i64 0, .slice none 0 0, .slice none 0 0, .slice none 0 0] #[.int .i64 0, .int .i64 0, .slice none 0 0, .slice none 0 0, .slice none 0 0] 25
  rw [hW1] at q
  have s := HD.out.2.2.2.2
  have d2 := H1.out.trans (q.1.mono H1.out.size)
  exact ⟨blk_on HD.out.2.2.2.1 d2, by have := d2.size; omega, HD.out.1.trans (d2.mono HD.out.1.size)⟩)
 rw [hW1]
 clear hW1 H1
 have F4 := HW.out.1
 obtain ⟨o0, o1, o2, o3, o4⟩ := zd5 F4 rfl rfl rfl rfl rfl
 have fz0 : W1.frozen? ⟨w.heap.size + 1 + 1, 0, none⟩ = false := fz_of F4
 have fz1 : W1.frozen? ⟨w.heap.size + 1 + 1, 1, none⟩ = false := fz_of F4
 have fz2 : W1.frozen? ⟨w.heap.size + 1 + 1, 2, none⟩ = false := fz_of F4
 have fz3 : W1.frozen? ⟨w.heap.size + 1 + 1, 3, none⟩ = false := fz_of F4
 have fz4 : W1.frozen? ⟨w.heap.size + 1 + 1, 4, none⟩ = false := fz_of F4
 have O6 := hide (And.intro (set5 W1 (w.heap.size + 1 + 1) _ _ _ _ _ (.int .i64 0) (.int .i64 0) (.slice none 0 0) (.slice none 0 0) (.slice none 0 0) 25 F4) (only5 W1 (w.heap.size + 1 + 1) (.int .i64 0) (.int .i64 0) (.slice none 0 0) (.slice none 0 0) (.slice none 0 0)))
 clear F4
 go_wp2_with fail
 refine bodyPost_ret (results_c1 (p := 4) (q := 5) (ty := 25) rfl _ _ (w.heap.size + 1 + 1) 25 _ (0, 0) _ _ rfl rfl O6.out.1 Tryz.underlying25 rfl (by kernel_rfl)) rfl ?_
 have s2 := HW.out.2.1
 exact ansO_bad rfl (HW.out.2.2.trans (O6.out.2.toBelow (by omega) (fun k hk => by omega)))
theorem concat_b (w : World) (n m n' m' : Int) (a1 a2 a3 b1 b2 b3 : Option Addr) (c1 c2 c3 d1 d2 d3 : Nat) (Sa Fa Sb Fb : List Int) (Ea Eb : List EdT) (hA : Hid (RdA w a1 a2 a3 Sa Fa Ea)) (hB : Hid (RdA w b1 b2 b3 Sb Fb Eb)) (h1 : Sa.length ≤ 2000000) (h2 : Fa.length ≤ 2000000) (h3 : Ea.length ≤ 2000000) (h4 : Sb.length ≤ 2000000) (h5 : Fb.length ≤ 2000000) (h6 : Eb.length ≤ 2000000) (em : mayA n m Sa Fa Ea = true) (em' : mayA n' m' Sb Fb Eb = false) :
 Calls Tryz.prog 21 #[.agg #[.int .i64 n, .int .i64 m, .slice a1 Sa.length c1, .slice a2 Fa.length c2, .slice a3 Ea.length c3], .agg #[.int .i64 n', .int .i64 m', .slice b1 Sb.length d1, .slice b2 Fb.length d2, .slice b3 Eb.length d3]] w (AnsO w (badA 2)) := by
 obtain ⟨W0, hW0⟩ : ∃ W0, ((w.alloc (.cells #[.int .i64 n, .int .i64 m, .slice a1 Sa.length c1, .slice a2 Fa.length c2, .slice a3 Ea.length c3] 25)).alloc (.cells #[.int .i64 n', .int .i64 m', .slice b1 Sb.length d1, .slice b2 Fb.length d2, .slice b3 Eb.length d3] 25)).alloc (.cells #[.int .i64 0, .int .i64 0, .slice none 0 0, .slice none 0 0, .slice none 0 0] 25) = W0 := ⟨_, rfl⟩
 have HD := hide (box3b w #[.int .i64 n, .int .i64 m, .slice a1 Sa.length c1, .slice a2 Fa.length c2, .slice a3 Ea.length c3] #[.int .i64 n', .int .i64 m', .slice b1 Sb.length d1, .slice b2 Fb.length d2, .slice b3 Eb.length d3] #[.int .i64 0, .int .i64 0, .slice none 0 0, .slice none 0 0, .slice none 0 0] 25)
 rw [hW0] at HD
 have TB := both_b W0 n m n' m' a1 a2 a3 b1 b2 b3 c1 c2 c3 d1 d2 d3 Sa Fa Sb Fb Ea Eb (hide (hA.out.on HD.out.1)) (hide (hB.out.on HD.out.1)) (by omega) (by omega) (by omega) (by omega) (by omega) (by omega) em em'
 obtain ⟨y0, y1, y2, y3, y4⟩ := zd5 HD.out.2.1 rfl rfl rfl rfl rfl
 obtain ⟨x0, x1, x2, x3, x4⟩ := zd5 HD.out.2.2.1 rfl rfl rfl rfl rfl
 go_enter Tryz.func21, Tryz.ntmps21
 go_upto_region 3 with (go_at_call 55; refine TB.mono ?_; rintro e w1 ⟨rfl, D1⟩; have H1 := hide D1; clear D1)
 clear TB y0 x0 y1 x1 y2 x2 y3 x3 y4 x4
 obtain ⟨W1, hW1⟩ : ∃ W1, (w1.alloc (.cells #[.int .i64 0, .int .i64 0, .slice none 0 0, .slice none 0 0, .slice none 0 0] 25)).alloc (.cells #[.int .i64 0, .int .i64 0, .slice none 0 0, .slice none 0 0, .slice none 0 0] 25) = W1 := ⟨_, rfl⟩
 have HW : Hid (W1.heap[w.heap.size + 1 + 1]? = some (.cells #[.int .i64 0, .int .i64 0, .slice none 0 0, .slice none 0 0, .slice none 0 0] 25 (0, 0)) ∧ w.heap.size + 3 ≤ W1.heap.size ∧ Below w.heap.size w W1) := hide (by
  have q := box2 w1 #[.int .i64 0, .int .i64 0, .slice none 0 0, .slice none 0 0, .slice none 0 0] #[.int .i64 0, .int .i64 0, .slice none 0 0, .slice none 0 0, .slice none 0 0] 25
  rw [hW1] at q
  have s := HD.out.2.2.2.2
  have d2 := H1.out.trans (q.1.mono H1.out.size)
  exact ⟨blk_on HD.out.2.2.2.1 d2, by have := d2.size; omega, HD.out.1.trans (d2.mono HD.out.1.size)⟩)
 rw [hW1]
 clear hW1 H1
 have F4 := HW.out.1
 obtain ⟨o0, o1, o2, o3, o4⟩ := zd5 F4 rfl rfl rfl rfl rfl
 have fz0 : W1.frozen? ⟨w.heap.size + 1 + 1, 0, none⟩ = false := fz_of F4
 have fz1 : W1.frozen? ⟨w.heap.size + 1 + 1, 1, none⟩ = false := fz_of F4
 have fz2 : W1.frozen? ⟨w.heap.size + 1 + 1, 2, none⟩ = false := fz_of F4
 have fz3 : W1.frozen? ⟨w.heap.size + 1 + 1, 3, none⟩ = false := fz_of F4
 have fz4 : W1.frozen? ⟨w.heap.size + 1 + 1, 4, none⟩ = false := fz_of F4
 have O6 := hide (And.intro (set5 W1 (w.heap.size + 1 + 1) _ _ _ _ _ (.int .i64 0) (.int .i64 0) (.slice none 0 0) (.slice none 0 0) (.slice none 0 0) 25 F4) (only5 W1 (w.heap.size + 1 + 1) (.int .i64 0) (.int .i64 0) (.slice none 0 0) (.slice none 0 0) (.slice none 0 0)))
 clear F4
 go_wp2_with fail
 refine bodyPost_ret (results_c1 (p := 4) (q := 5) (ty := 25) rfl _ _ (w.heap.size + 1 + 1) 25 _ (0, 0) _ _ rfl rfl O6.out.1 Tryz.underlying25 rfl (by kernel_rfl)) rfl ?_
 have s2 := HW.out.2.1
 exact ansO_bad rfl (HW.out.2.2.trans (O6.out.2.toBelow (by omega) (fun k hk => by omega)))
theorem concat_m (w : World) (n m n' m' : Int) (a1 a2 a3 b1 b2 b3 : Option Addr) (c1 c2 c3 d1 d2 d3 : Nat) (Sa Fa Sb Fb : List Int) (Ea Eb : List EdT) (hA : Hid (RdA w a1 a2 a3 Sa Fa Ea)) (hB : Hid (RdA w b1 b2 b3 Sb Fb Eb)) (h1 : Sa.length ≤ 2000000) (h2 : Fa.length ≤ 2000000) (h3 : Ea.length ≤ 2000000) (h4 : Sb.length ≤ 2000000) (h5 : Fb.length ≤ 2000000) (h6 : Eb.length ≤ 2000000) (em : mayA n m Sa Fa Ea = true) (em' : mayA n' m' Sb Fb Eb = true) (hm : m ≠ m') :
 Calls Tryz.prog 21 #[.agg #[.int .i64 n, .int .i64 m, .slice a1 Sa.length c1, .slice a2 Fa.length c2, .slice a3 Ea.length c3], .agg #[.int .i64 n', .int .i64 m', .slice b1 Sb.length d1, .slice b2 Fb.length d2, .slice b3 Eb.length d3]] w (AnsO w (badA 6)) := by
 obtain ⟨W0, hW0⟩ : ∃ W0, ((w.alloc (.cells #[.int .i64 n, .int .i64 m, .slice a1 Sa.length c1, .slice a2 Fa.length c2, .slice a3 Ea.length c3] 25)).alloc (.cells #[.int .i64 n', .int .i64 m', .slice b1 Sb.length d1, .slice b2 Fb.length d2, .slice b3 Eb.length d3] 25)).alloc (.cells #[.int .i64 0, .int .i64 0, .slice none 0 0, .slice none 0 0, .slice none 0 0] 25) = W0 := ⟨_, rfl⟩
 have HD := hide (box3b w #[.int .i64 n, .int .i64 m, .slice a1 Sa.length c1, .slice a2 Fa.length c2, .slice a3 Ea.length c3] #[.int .i64 n', .int .i64 m', .slice b1 Sb.length d1, .slice b2 Fb.length d2, .slice b3 Eb.length d3] #[.int .i64 0, .int .i64 0, .slice none 0 0, .slice none 0 0, .slice none 0 0] 25)
 rw [hW0] at HD
 have TB := both_m W0 n m n' m' a1 a2 a3 b1 b2 b3 c1 c2 c3 d1 d2 d3 Sa Fa Sb Fb Ea Eb (hide (hA.out.on HD.out.1)) (hide (hB.out.on HD.out.1)) (by omega) (by omega) (by omega) (by omega) (by omega) (by omega) em em' hm
 obtain ⟨y0, y1, y2, y3, y4⟩ := zd5 HD.out.2.1 rfl rfl rfl rfl rfl
 obtain ⟨x0, x1, x2, x3, x4⟩ := zd5 HD.out.2.2.1 rfl rfl rfl rfl rfl
 go_enter Tryz.func21, Tryz.ntmps21
 go_upto_region 3 with (go_at_call 55; refine TB.mono ?_; rintro e w1 ⟨rfl, D1⟩; have H1 := hide D1; clear D1)
 clear TB y0 x0 y1 x1 y2 x2 y3 x3 y4 x4
 obtain ⟨W1, hW1⟩ : ∃ W1, (w1.alloc (.cells #[.int .i64 0, .int .i64 0, .slice none 0 0, .slice none 0 0, .slice none 0 0] 25)).alloc (.cells #[.int .i64 0, .int .i64 0, .slice none 0 0, .slice none 0 0, .slice none 0 0] 25) = W1 := ⟨_, rfl⟩
 have HW : Hid (W1.heap[w.heap.size + 1 + 1]? = some (.cells #[.int .i64 0, .int .i64 0, .slice none 0 0, .slice none 0 0, .slice none 0 0] 25 (0, 0)) ∧ w.heap.size + 3 ≤ W1.heap.size ∧ Below w.heap.size w W1) := hide (by
  have q := box2 w1 #[.int .i64 0, .int .i64 0, .slice none 0 0, .slice none 0 0, .slice none 0 0] #[.int .i64 0, .int .i64 0, .slice none 0 0, .slice none 0 0, .slice none 0 0] 25
  rw [hW1] at q
  have s := HD.out.2.2.2.2
  have d2 := H1.out.trans (q.1.mono H1.out.size)
  exact ⟨blk_on HD.out.2.2.2.1 d2, by have := d2.size; omega, HD.out.1.trans (d2.mono HD.out.1.size)⟩)
 rw [hW1]
 clear hW1 H1
 have F4 := HW.out.1
 obtain ⟨o0, o1, o2, o3, o4⟩ := zd5 F4 rfl rfl rfl rfl rfl
 have fz0 : W1.frozen? ⟨w.heap.size + 1 + 1, 0, none⟩ = false := fz_of F4
 have fz1 : W1.frozen? ⟨w.heap.size + 1 + 1, 1, none⟩ = false := fz_of F4
 have fz2 : W1.frozen? ⟨w.heap.size + 1 + 1, 2, none⟩ = false := fz_of F4
 have fz3 : W1.frozen? ⟨w.heap.size + 1 + 1, 3, none⟩ = false := fz_of F4
 have fz4 : W1.frozen? ⟨w.heap.size + 1 + 1, 4, none⟩ = false := fz_of F4
 have O6 := hide (And.intro (set5 W1 (w.heap.size + 1 + 1) _ _ _ _ _ (.int .i64 0) (.int .i64 0) (.slice none 0 0) (.slice none 0 0) (.slice none 0 0) 25 F4) (only5 W1 (w.heap.size + 1 + 1) (.int .i64 0) (.int .i64 0) (.slice none 0 0) (.slice none 0 0) (.slice none 0 0)))
 clear F4
 go_wp2_with fail
 refine bodyPost_ret (results_c1 (p := 4) (q := 5) (ty := 25) rfl _ _ (w.heap.size + 1 + 1) 25 _ (0, 0) _ _ rfl rfl O6.out.1 Tryz.underlying25 rfl (by kernel_rfl)) rfl ?_
 have s2 := HW.out.2.1
 exact ansO_bad rfl (HW.out.2.2.trans (O6.out.2.toBelow (by omega) (fun k hk => by omega)))
end Go.Proofs.YtchoopnjckcohaaGreatDoor
