import Derived.Test.YtchoopnjckcohaaGreatDoorBm
set_option maxRecDepth 100000
set_option maxHeartbeats 40000000
namespace Go.Proofs.YtchoopnjckcohaaGreatDoor
open Go.RowKit Go.Maps Go.Shelf
attribute [local go_sem] Oper.semAt_some
theorem none_zero {w : World} {B n k sz : Nat} {e : TypeId} {b : Option Addr} {xs : List Value} (h : w.ownsRow B e sz (.slice b n k) n xs) (hb : b = none) : k = 0 := by
 rcases h.2 with ⟨hv, _⟩ | ⟨g, cap, cur, hv, _⟩
 · cases hv; rfl
 · cases hv; cases hb
theorem rd_mov {W : World} {B u : Nat} {b : Int} {t : Option Addr} {F : List Int} (h : W.ownsRow B 3 1 (.slice t F.length u) F.length ((movN F b).map (Value.int .i64))) : RdN W t (movN F b) := by
 rw [← movN_len F b] at h
 exact own_rdN h
def cMv (N M m : Nat) (S F : List Int) (E : List EdT) : MkP := fun x _ _ W => ∃ t1 u1 t2 u2 t3 u3, x = .agg #[.int .i64 ((M : Int) + (N : Int)), .int .i64 (m : Int), .slice t1 S.length u1, .slice t2 F.length u2, .slice t3 E.length u3] ∧ OwnO 0 W (.slice t1 S.length u1) (.slice t2 F.length u2) (.slice t3 E.length u3) (movN S N) (movN F N) (movE E N)
theorem cMv_mono {N M m : Nat} {S F : List Int} {E : List EdT} : MonoP (cMv N M m S F E) := fun _ _ _ _ _ _ d ⟨t1, u1, t2, u2, t3, u3, e, h⟩ => ⟨t1, u1, t2, u2, t3, u3, e, h.on d⟩
def cBh (N M m g1 k1 n1 : Nat) (F : List Int) (EE : List EdT) : MkP := fun x _ _ W => ∃ t2 u2 z5 d5, x = .tuple #[.agg #[.int .i64 ((M : Int) + (N : Int)), .int .i64 (m : Int), .slice (some ⟨g1, 0, none⟩) n1 k1, .slice t2 F.length u2, .slice z5 EE.length d5], .int .i64 0] ∧ W.ownsRow 0 3 1 (.slice t2 F.length u2) F.length ((movN F N).map (Value.int .i64)) ∧ W.ownsRow 0 61 3 (.slice z5 EE.length d5) EE.length (EE.flatMap encE)
theorem cBh_mono {N M m g1 k1 n1 : Nat} {F : List Int} {EE : List EdT} : MonoP (cBh N M m g1 k1 n1 F EE) := fun _ _ _ _ _ _ d ⟨t2, u2, z5, d5, e, h, h'⟩ => ⟨t2, u2, z5, d5, e, own_below h d, own_below h' d⟩
def cEx (N M m g1 k1 n1 : Nat) (F : List Int) (EE : List EdT) : MkP := fun x _ _ W => ∃ t2 u2 z5 d5, x = .agg #[.int .i64 ((M : Int) + (N : Int)), .int .i64 (m : Int), .slice (some ⟨g1, 0, none⟩) n1 k1, .slice t2 F.length u2, .slice z5 EE.length d5] ∧ W.ownsRow 0 3 1 (.slice t2 F.length u2) F.length ((movN F N).map (Value.int .i64)) ∧ W.ownsRow 0 61 3 (.slice z5 EE.length d5) EE.length (EE.flatMap encE)
theorem cEx_mono {N M m g1 k1 n1 : Nat} {F : List Int} {EE : List EdT} : MonoP (cEx N M m g1 k1 n1 F EE) := fun _ _ _ _ _ _ d ⟨t2, u2, z5, d5, e, h, h'⟩ => ⟨t2, u2, z5, d5, e, own_below h d, own_below h' d⟩
theorem concat_no (w : World) (N M m : Nat) (a1 a2 a3 b1 b2 b3 : Option Addr) (c1 c2 c3 d1 d2 d3 : Nat) (Sa Fa Sb Fb : List Int) (Ea Eb : List EdT) (hA : Hid (RdA w a1 a2 a3 Sa Fa Ea)) (hB : Hid (RdA w b1 b2 b3 Sb Fb Eb)) (h1 : Sa.length ≤ 2000000) (h2 : Fa.length ≤ 2000000) (h3 : Ea.length ≤ 2000000) (h4 : Sb.length ≤ 2000000) (h5 : Fb.length ≤ 2000000) (h6 : Eb.length ≤ 2000000) (em : mayA (N : Int) (m : Int) Sa Fa Ea = true) (em' : mayA (M : Int) (m : Int) Sb Fb Eb = true) (hNM : N + M ≤ 4096) (hm : m ≤ 128)
 (hl : Hid ((riseL Sa).length ≤ 2000000 ∧ (riseL Fa).length ≤ 2000000 ∧ (riseE Ea).length ≤ 2000000 ∧ (riseL Sb).length ≤ 2000000 ∧ (riseL Fb).length ≤ 2000000 ∧ (riseE Eb).length ≤ 2000000))
 (hS : Hid (SsE (riseE Ea))) (hF : Hid (∀ e ∈ riseE Ea, (0 ≤ e.1 ∧ e.1 < (N : Int)) ∧ (0 ≤ e.2.1 ∧ e.2.1 < (m : Int)) ∧ (0 ≤ e.2.2 ∧ e.2.2 < (N : Int)))) (hSa : Hid (∀ x ∈ riseL Sa, ∃ q : Nat, q < N ∧ x = (q : Int))) (hFa : Hid (∀ x ∈ riseL Fa, ∃ q : Nat, q < N ∧ x = (q : Int))) (hSb : Hid (∀ x ∈ riseL Sb, ∃ q : Nat, q < M ∧ x = (q : Int))) (hFb : Hid (∀ x ∈ riseL Fb, ∃ q : Nat, q < M ∧ x = (q : Int))) (hEb : Hid (∀ e ∈ riseE Eb, (0 ≤ e.1 ∧ e.1 ≤ 4096) ∧ 0 ≤ e.2.2 ∧ e.2.2 ≤ 4096))
 (hle : (brL (riseE Ea) (riseL Fa) (movN (riseL Sb) N) m N).length + (riseE Eb).length ≤ 65536) (emA : Hid (emptB (riseL Sa) (riseL Fa) = false)) (emB : Hid (emptB (movN (riseL Sb) N) (movN (riseL Fb) N) = false)) :
 Calls Tryz.prog 21 #[.agg #[.int .i64 (N : Int), .int .i64 (m : Int), .slice a1 Sa.length c1, .slice a2 Fa.length c2, .slice a3 Ea.length c3], .agg #[.int .i64 (M : Int), .int .i64 (m : Int), .slice b1 Sb.length d1, .slice b2 Fb.length d2, .slice b3 Eb.length d3]] w fun e w' => ∃ g1 k1 t2 u2 z5 d5, e = .returned (.tuple #[.agg #[.int .i64 ((M : Int) + (N : Int)), .int .i64 (m : Int), .slice (some ⟨g1, 0, none⟩) (riseL Sa).length k1, .slice t2 (riseL Fb).length u2, .slice z5 (brL (riseE Ea) (riseL Fa) (movN (riseL Sb) N) m N ++ movE (riseE Eb) N).length d5], .int .i64 0]) ∧ Hid (RdA w' (some ⟨g1, 0, none⟩) t2 z5 (riseL Sa) (movN (riseL Fb) N) (brL (riseE Ea) (riseL Fa) (movN (riseL Sb) N) m N ++ movE (riseE Eb) N) ∧ Below w.heap.size w w') := by
 obtain ⟨W0, hW0⟩ : ∃ W0, ((w.alloc (.cells #[.int .i64 (N : Int), .int .i64 (m : Int), .slice a1 Sa.length c1, .slice a2 Fa.length c2, .slice a3 Ea.length c3] 25)).alloc (.cells #[.int .i64 (M : Int), .int .i64 (m : Int), .slice b1 Sb.length d1, .slice b2 Fb.length d2, .slice b3 Eb.length d3] 25)).alloc (.cells #[.int .i64 0, .int .i64 0, .slice none 0 0, .slice none 0 0, .slice none 0 0] 25) = W0 := ⟨_, rfl⟩
 have HD := hide (box3b w #[.int .i64 (N : Int), .int .i64 (m : Int), .slice a1 Sa.length c1, .slice a2 Fa.length c2, .slice a3 Ea.length c3] #[.int .i64 (M : Int), .int .i64 (m : Int), .slice b1 Sb.length d1, .slice b2 Fb.length d2, .slice b3 Eb.length d3] #[.int .i64 0, .int .i64 0, .slice none 0 0, .slice none 0 0, .slice none 0 0] 25)
 rw [hW0] at HD
 have TB := both_ok W0 (N : Int) (m : Int) (M : Int) a1 a2 a3 b1 b2 b3 c1 c2 c3 d1 d2 d3 Sa Fa Sb Fb Ea Eb (hide (hA.out.on HD.out.1)) (hide (hB.out.on HD.out.1)) (by omega) (by omega) (by omega) (by omega) (by omega) (by omega) em em'
 clear em em'
 generalize riseL Sa = S1 at *
 generalize riseL Fa = F1 at *
 generalize riseE Ea = E1 at *
 generalize riseL Sb = S2 at *
 generalize riseL Fb = F2 at *
 generalize riseE Eb = E2 at *
 obtain ⟨EE, hEE⟩ : ∃ EE, brL E1 F1 (movN S2 N) m N ++ movE E2 N = EE := ⟨_, rfl⟩
 rw [hEE]
 have HE := hide hEE
 clear hEE
 have jn : ¬ (4096 : Int) < (N : Int) + (M : Int) := by omega
 have ew : IntKind.i64.wrap ((N : Int) + (M : Int)) = (N : Int) + (M : Int) := by rw [IntKind.wrap_i64]; omega
 obtain ⟨y0, y1, y2, y3, y4⟩ := zd5 HD.out.2.1 rfl rfl rfl rfl rfl
 obtain ⟨x0, x1, x2, x3, x4⟩ := zd5 HD.out.2.2.1 rfl rfl rfl rfl rfl
 go_enter Tryz.func21, Tryz.ntmps21
 go_upto_region 4 with (go_at_call 55; refine TB.mono ?_; rintro e w1 ⟨g1, k1, g2, k2, g3, k3, r1, q1, r2, q2, r3, q3, rfl, H1⟩)
 clear TB y0 x0 y1 x1 y2 x2 y3 x3 y4 x4
 obtain ⟨W1, hW1⟩ : ∃ W1, (w1.alloc (.cells #[.int .i64 (N : Int), .int .i64 (m : Int), .slice (some ⟨g1, 0, none⟩) S1.length k1, .slice (some ⟨g2, 0, none⟩) F1.length k2, .slice (some ⟨g3, 0, none⟩) E1.length k3] 25)).alloc (.cells #[.int .i64 (M : Int), .int .i64 (m : Int), .slice (some ⟨r1, 0, none⟩) S2.length q1, .slice (some ⟨r2, 0, none⟩) F2.length q2, .slice (some ⟨r3, 0, none⟩) E2.length q3] 25) = W1 := ⟨_, rfl⟩
 have HW : Hid (W1.heap[w1.heap.size]? = some (.cells #[.int .i64 (N : Int), .int .i64 (m : Int), .slice (some ⟨g1, 0, none⟩) S1.length k1, .slice (some ⟨g2, 0, none⟩) F1.length k2, .slice (some ⟨g3, 0, none⟩) E1.length k3] 25 (0, 0)) ∧ W1.heap[w1.heap.size + 1]? = some (.cells #[.int .i64 (M : Int), .int .i64 (m : Int), .slice (some ⟨r1, 0, none⟩) S2.length q1, .slice (some ⟨r2, 0, none⟩) F2.length q2, .slice (some ⟨r3, 0, none⟩) E2.length q3] 25 (0, 0)) ∧ W1.heap[w.heap.size + 1 + 1]? = some (.cells #[.int .i64 0, .int .i64 0, .slice none 0 0, .slice none 0 0, .slice none 0 0] 25 (0, 0)) ∧ w.heap.size + 3 ≤ W1.heap.size ∧ Below w.heap.size w W1) := hide (by
  have q := box2 w1 #[.int .i64 (N : Int), .int .i64 (m : Int), .slice (some ⟨g1, 0, none⟩) S1.length k1, .slice (some ⟨g2, 0, none⟩) F1.length k2, .slice (some ⟨g3, 0, none⟩) E1.length k3] #[.int .i64 (M : Int), .int .i64 (m : Int), .slice (some ⟨r1, 0, none⟩) S2.length q1, .slice (some ⟨r2, 0, none⟩) F2.length q2, .slice (some ⟨r3, 0, none⟩) E2.length q3] 25
  rw [hW1] at q
  have s := HD.out.2.2.2.2
  have d2 := H1.out.2.2.trans (q.1.mono H1.out.2.2.size)
  exact ⟨q.2.1, q.2.2.1, blk_on HD.out.2.2.2.1 d2, by have := d2.size; omega, HD.out.1.trans (d2.mono HD.out.1.size)⟩)
 have HX : Hid (OwnO 0 W1 (.slice (some ⟨g1, 0, none⟩) S1.length k1) (.slice (some ⟨g2, 0, none⟩) F1.length k2) (.slice (some ⟨g3, 0, none⟩) E1.length k3) S1 F1 E1) := hide (by
  have q := box2 w1 #[.int .i64 (N : Int), .int .i64 (m : Int), .slice (some ⟨g1, 0, none⟩) S1.length k1, .slice (some ⟨g2, 0, none⟩) F1.length k2, .slice (some ⟨g3, 0, none⟩) E1.length k3] #[.int .i64 (M : Int), .int .i64 (m : Int), .slice (some ⟨r1, 0, none⟩) S2.length q1, .slice (some ⟨r2, 0, none⟩) F2.length q2, .slice (some ⟨r3, 0, none⟩) E2.length q3] 25
  rw [hW1] at q
  exact (H1.out.1.on q.1).down (Nat.zero_le _))
 have HY : Hid (OwnO 0 W1 (.slice (some ⟨r1, 0, none⟩) S2.length q1) (.slice (some ⟨r2, 0, none⟩) F2.length q2) (.slice (some ⟨r3, 0, none⟩) E2.length q3) S2 F2 E2) := hide (by
  have q := box2 w1 #[.int .i64 (N : Int), .int .i64 (m : Int), .slice (some ⟨g1, 0, none⟩) S1.length k1, .slice (some ⟨g2, 0, none⟩) F1.length k2, .slice (some ⟨g3, 0, none⟩) E1.length k3] #[.int .i64 (M : Int), .int .i64 (m : Int), .slice (some ⟨r1, 0, none⟩) S2.length q1, .slice (some ⟨r2, 0, none⟩) F2.length q2, .slice (some ⟨r3, 0, none⟩) E2.length q3] 25
  rw [hW1] at q
  exact (H1.out.2.1.on q.1).down (Nat.zero_le _))
 rw [hW1]
 clear hW1 H1
 obtain ⟨x0, x1, x2, x3, x4⟩ := zd5 HW.out.1 rfl rfl rfl rfl rfl
 obtain ⟨y0, y1, y2, y3, y4⟩ := zd5 HW.out.2.1 rfl rfl rfl rfl rfl
 go_upto_region 6 with fail
 clear y0 x0 y1 x1 y2 x2 y3 x3 y4 x4
 have T4 : Hid (∀ W, Below W1.heap.size W1 W → Calls Tryz.prog 50 #[.agg #[.int .i64 (M : Int), .int .i64 (m : Int), .slice (some ⟨r1, 0, none⟩) S2.length q1, .slice (some ⟨r2, 0, none⟩) F2.length q2, .slice (some ⟨r3, 0, none⟩) E2.length q3], .int .i64 (N : Int)] W fun e w' => ∃ t1 u1 t2 u2 t3 u3, e = .returned (.agg #[.int .i64 ((M : Int) + (N : Int)), .int .i64 (m : Int), .slice t1 S2.length u1, .slice t2 F2.length u2, .slice t3 E2.length u3]) ∧ Hid (OwnO W.heap.size w' (.slice t1 S2.length u1) (.slice t2 F2.length u2) (.slice t3 E2.length u3) (movN S2 N) (movN F2 N) (movE E2 N) ∧ Below W.heap.size W w')) := hide (fun W d => moved_any W M S2.length F2.length E2.length (m : Int) (N : Int) _ _ _ q1 q2 q3 S2 F2 E2 rfl rfl rfl (hide (HY.out.on d).rd) hl.out.2.2.2.1 hl.out.2.2.2.2.1 hl.out.2.2.2.2.2 (by omega) (by omega) (hide (fun x hx => by obtain ⟨q, h, rfl⟩ := hSb.out x hx; omega)) (hide (fun x hx => by obtain ⟨q, h, rfl⟩ := hFb.out x hx; omega)) hEb)
 have T5 : Hid (∀ W, Below W1.heap.size W1 W → ∀ t1 u1 t2 u2 t3 u3, OwnO 0 W (.slice t1 S2.length u1) (.slice t2 F2.length u2) (.slice t3 E2.length u3) (movN S2 N) (movN F2 N) (movE E2 N) → Calls Tryz.prog 56 #[.agg #[.int .i64 (N : Int), .int .i64 (m : Int), .slice (some ⟨g1, 0, none⟩) S1.length k1, .slice (some ⟨g2, 0, none⟩) F1.length k2, .slice (some ⟨g3, 0, none⟩) E1.length k3], .agg #[.int .i64 ((M : Int) + (N : Int)), .int .i64 (m : Int), .slice t1 S2.length u1, .slice t2 F2.length u2, .slice t3 E2.length u3]] W fun e w' => ∃ z5 d5, e = .returned (.tuple #[.agg #[.int .i64 ((M : Int) + (N : Int)), .int .i64 (m : Int), .slice (some ⟨g1, 0, none⟩) S1.length k1, .slice t2 F2.length u2, .slice z5 EE.length d5], .int .i64 0]) ∧ Hid (w'.ownsRow W.heap.size 61 3 (.slice z5 EE.length d5) EE.length (EE.flatMap encE) ∧ Below W.heap.size W w')) := hide (fun W d t1 u1 t2 u2 t3 u3 ho => by
  have L1 := movN_len S2 (N : Int)
  have L2 := movN_len F2 (N : Int)
  have L3 := movE_len E2 (N : Int)
  have rd : RdA W t1 t2 t3 (movN S2 N) (movN F2 N) (movE E2 N) := by
   have q := ho
   rw [← L1, ← L2, ← L3] at q
   exact q.rd
  have mvb : ∀ {L : List Int}, (∀ x ∈ L, ∃ q : Nat, q < M ∧ x = (q : Int)) → ∀ x ∈ movN L (N : Int), ∃ q : Nat, q < M + N ∧ x = (q : Int) := fun h x hx => by
   unfold movN at hx
   rw [List.mem_map] at hx
   obtain ⟨y, hy, rfl⟩ := hx
   obtain ⟨q, hq, rfl⟩ := h y hy
   exact ⟨q + N, by omega, by omega⟩
  have T := behind_no W N m S1.length F1.length E1.length S2.length F2.length E2.length ((M : Int) + (N : Int)) (m : Int) _ _ _ t1 t2 t3 k1 k2 k3 u1 u2 u3 S1 F1 (movN S2 N) (movN F2 N) E1 (movE E2 N) (hide ⟨rfl, rfl, rfl, L1, L2, L3⟩) (hide (HX.out.on d).rd) (hide rd) (fun e => none_zero (by have q := ho.s; rw [L1] at q; exact q) e) (by omega) hm hl.out.1 hl.out.2.1 hl.out.2.2.1 hl.out.2.2.2.1 hl.out.2.2.2.2.1 hl.out.2.2.2.2.2 hS hF hFa (fun e => none_zero (by have q := ho.e; rw [L3] at q; exact q) e) (by omega) hle hSa (M + N) (hide (by omega)) (by omega) (hide (mvb hSb.out)) (hide (mvb hFb.out)) emA emB
  rw [HE.out] at T
  exact T)
 have hmo : MonIL 0 [vI 0 (.agg #[.int .i64 (N : Int), .int .i64 (m : Int), .slice (some ⟨g1, 0, none⟩) S1.length k1, .slice (some ⟨g2, 0, none⟩) F1.length k2, .slice (some ⟨g3, 0, none⟩) E1.length k3]), vI 1 (.agg #[.int .i64 (M : Int), .int .i64 (m : Int), .slice (some ⟨r1, 0, none⟩) S2.length q1, .slice (some ⟨r2, 0, none⟩) F2.length q2, .slice (some ⟨r3, 0, none⟩) E2.length q3]), vI 2 (.pointer (some ⟨w1.heap.size, 0, none⟩)), vI 3 (.int .i64 (N : Int)), pI 4 (cMv N M m S2 F2 E2), pI 5 (cBh N M m g1 k1 S1.length F2 EE), pI 6 (cEx N M m g1 k1 S1.length F2 EE), vI 7 (.int .i64 0)] := ⟨vI_mono _ _, vI_mono _ _, vI_mono _ _, vI_mono _ _, pI_mono cMv_mono, pI_mono cBh_mono, pI_mono cEx_mono, vI_mono _ _, trivial⟩
 refine wp_region_sl _ (by kernel_rfl) (by kernel_rfl) (by kernel_rfl) (by kernel_rfl) hmo ⟨?o0, ?o1, ?o2, ?o3, ?o4, ?o5, ?o6, ?o7, trivial⟩ ?fin
 case o0 =>
  intro At yy W hy hb d hd K hK
  obtain ⟨s6, s6'⟩ := zsb (hb 6 rfl : _ = .pointer (some ⟨w1.heap.size, 0, none⟩))
  clear hd hy hb
  have bxX := blk_on HW.out.1 d
  have bxY := blk_on HW.out.2.1 d
  obtain ⟨x0, x1, x2, x3, x4⟩ := zd5 bxX rfl rfl rfl rfl rfl
  obtain ⟨y0, y1, y2, y3, y4⟩ := zd5 bxY rfl rfl rfl rfl rfl
  clear bxX bxY
  go_simp
  exact zkq hK hmo d (if_pos rfl)
 case o1 =>
  intro At yy W hy hb d hd K hK
  obtain ⟨s7, s7'⟩ := zsb (hb 7 rfl : _ = .pointer (some ⟨w1.heap.size + 1, 0, none⟩))
  clear hd hy hb
  have bxX := blk_on HW.out.1 d
  have bxY := blk_on HW.out.2.1 d
  obtain ⟨x0, x1, x2, x3, x4⟩ := zd5 bxX rfl rfl rfl rfl rfl
  obtain ⟨y0, y1, y2, y3, y4⟩ := zd5 bxY rfl rfl rfl rfl rfl
  clear bxX bxY
  go_simp
  exact zkq hK hmo d (if_pos rfl)
 case o2 =>
  intro At yy W hy hb d hd K hK
  obtain ⟨s6, s6'⟩ := zsb (hb 6 rfl : _ = .pointer (some ⟨w1.heap.size, 0, none⟩))
  clear hd hy hb
  go_simp
  exact zkq hK hmo d (if_pos rfl)
 case o3 =>
  intro At yy W hy hb d hd K hK
  obtain ⟨s29, s29'⟩ := zsg 2 29 .data hy hd rfl
  clear hd hy hb
  have bxX := blk_on HW.out.1 d
  have bxY := blk_on HW.out.2.1 d
  obtain ⟨x0, x1, x2, x3, x4⟩ := zd5 bxX rfl rfl rfl rfl rfl
  obtain ⟨y0, y1, y2, y3, y4⟩ := zd5 bxY rfl rfl rfl rfl rfl
  clear bxX bxY
  go_simp
  exact zkq hK hmo d (if_pos rfl)
 case o4 =>
  intro At yy W hy hb d hd K hK
  obtain ⟨s28, s28'⟩ := zsg 1 28 .data hy hd rfl
  obtain ⟨s30, s30'⟩ := zsg 3 30 .data hy hd rfl
  clear hd hy hb
  go_simp
  go_wp2_with (go_at_call 50; refine (T4.out _ d).mono ?_; rintro e wa ⟨t1, u1, t2, u2, t3, u3, rfl, hR⟩)
  exact hK.out _ wa (stp_of hmo d hR.out.2) ⟨t1, u1, t2, u2, t3, u3, if_pos rfl, hR.out.1.down (Nat.zero_le _)⟩
 case o5 =>
  intro At yy W hy hb d hd K hK
  have f4 := hd ⟨4, .data⟩ (by simp) rfl rfl
  obtain ⟨_, _, _, _, t1, u1, t2, u2, t3, u3, e4, h4⟩ := f4
  obtain ⟨s27, s27'⟩ := zsg 0 27 .data hy hd rfl
  obtain ⟨s31, s31'⟩ := zsb ((hy 4 _ 31 rfl rfl).trans e4)
  clear hd hy hb
  go_simp
  go_wp2_with (go_at_call 56; refine (T5.out _ d t1 u1 t2 u2 t3 u3 h4).mono ?_; rintro e wa ⟨z5, d5, rfl, hR⟩)
  exact hK.out _ wa (stp_of hmo d hR.out.2) ⟨t2, u2, z5, d5, if_pos rfl, own_below (by have q := h4.f; rw [movN_len] at q; exact q) hR.out.2, owns_down hR.out.1 (Nat.zero_le _)⟩
 case o6 =>
  intro At yy W hy hb d hd K hK
  have f5 := hd ⟨5, .data⟩ (by simp) rfl rfl
  obtain ⟨_, _, _, _, t2, u2, z5, d5, e5, h5, h5'⟩ := f5
  obtain ⟨s32, s32'⟩ := zsb ((hy 5 _ 32 rfl rfl).trans e5)
  clear hd hy hb
  go_simp
  exact zkq hK hmo d ⟨t2, u2, z5, d5, if_pos rfl, h5, h5'⟩
 case o7 =>
  intro At yy W hy hb d hd K hK
  have f5 := hd ⟨5, .data⟩ (by simp) rfl rfl
  obtain ⟨_, _, _, _, t2, u2, z5, d5, e5, _, _⟩ := f5
  obtain ⟨s32, s32'⟩ := zsb ((hy 5 _ 32 rfl rfl).trans e5)
  clear hd hy hb
  go_simp
  exact zkq hK hmo d (if_pos rfl)
 case fin =>
  intro yy lo hi W hM
  show wpList _ _ _ [_, _] _ _
  have e0 := hM.v 0 (by simp) rfl rfl rfl
  have e1 := hM.v 1 (by simp) rfl rfl rfl
  have e2 := hM.v 2 (by simp) rfl rfl rfl
  have e3 := hM.v 3 (by simp) rfl rfl rfl
  have e7 := hM.v 7 (by simp) rfl rfl rfl
  obtain ⟨t2, u2, z5, d5, e6, h6, h6'⟩ := hM.fact 6 (by simp) rfl (notR_all 6 rfl)
  obtain ⟨t1', u1', t2', u2', t3', u3', e4, _⟩ := hM.fact 4 (by simp) rfl (notR_all 4 rfl)
  obtain ⟨t2', u2', z5', d5', e5, _, _⟩ := hM.fact 5 (by simp) rfl (notR_all 5 rfl)
  have HDD := hide hM.d
  simp only [fills, Act.put, List.take, List.length, List.setIfInBounds_toArray, List.set_cons_zero, List.set_cons_succ, e0, e1, e2, e3, e7, e4, e5, e6]
  clear hM hmo e0 e1 e2 e3 e7 e4 e5 e6
  have F4 := blk_on HW.out.2.2.1 HDD.out
  obtain ⟨o0, o1, o2, o3, o4⟩ := zd5 F4 rfl rfl rfl rfl rfl
  have g0' : W.frozen? ⟨w.heap.size + 1 + 1, 0, none⟩ = false := fz_of F4
  have g1' : W.frozen? ⟨w.heap.size + 1 + 1, 1, none⟩ = false := fz_of F4
  have g2' : W.frozen? ⟨w.heap.size + 1 + 1, 2, none⟩ = false := fz_of F4
  have g3' : W.frozen? ⟨w.heap.size + 1 + 1, 3, none⟩ = false := fz_of F4
  have g4' : W.frozen? ⟨w.heap.size + 1 + 1, 4, none⟩ = false := fz_of F4
  have O6 := hide (And.intro (set5 W (w.heap.size + 1 + 1) _ _ _ _ _ (.int .i64 ((M : Int) + (N : Int))) (.int .i64 (m : Int)) (.slice (some ⟨g1, 0, none⟩) S1.length k1) (.slice t2 F2.length u2) (.slice z5 EE.length d5) 25 F4) (only5 W (w.heap.size + 1 + 1) (.int .i64 ((M : Int) + (N : Int))) (.int .i64 (m : Int)) (.slice (some ⟨g1, 0, none⟩) S1.length k1) (.slice t2 F2.length u2) (.slice z5 EE.length d5)))
  have HO := hide (And.intro (own_keep h6 F4 (by decide) O6.out.2) (And.intro (own_keep h6' F4 (by decide) O6.out.2) (own_keep (own_below HX.out.s HDD.out) F4 (by decide) O6.out.2)))
  clear F4 h6 h6'
  go_wp2_with fail
  refine bodyPost_ret (results_c1 (p := 4) (q := 5) (ty := 25) rfl _ _ (w.heap.size + 1 + 1) 25 _ (0, 0) _ _ rfl rfl O6.out.1 Tryz.underlying25 rfl (by kernel_rfl)) rfl ?_
  have s1 := HDD.out.size
  have s2 := HW.out.2.2.2.1
  have dw := HW.out.2.2.2.2
  exact ⟨g1, k1, t2, u2, z5, d5, rfl, hide ⟨⟨own_rdN HO.out.2.2, rd_mov HO.out.1, own_rdE HO.out.2.1⟩, (dw.trans (HDD.out.mono dw.size)).trans (O6.out.2.toBelow (by omega) (fun k hk => by omega))⟩⟩
end Go.Proofs.YtchoopnjckcohaaGreatDoor
