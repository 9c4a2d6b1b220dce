import Derived.Test.YtchoopnjckcohaaGreatQaf
namespace Go.Proofs.YtchoopnjckcohaaGreat
open Go.RowKit Go.Maps Go.Shelf
attribute [local go_sem] Oper.semAt_some
/-! ### Concat, where neither takes the empty word -/
theorem none_zero {w : World} {B n k sz : Nat} {e : TypeId} {b : Option Addr} {xs : List Value} (h : w.ownsRow B e sz (.slice b n k) n xs) (hb : b = none) : k = 0 := by
  rcases h.2 with ⟨hv, _⟩ | ⟨g, cap, cur, hv, _⟩
  · cases hv; rfl
  · cases hv; cases hb
theorem rd_mov {W : World} {B u : Nat} {b : Int} {t : Option Addr} {F : List Int} (h : W.ownsRow B 3 1 (.slice t F.length u) F.length ((movN F b).map (Value.int .i64))) : RdN W t (movN F b) := by
  rw [← movN_len F b] at h
  exact own_rdN h
def cMv (N M m : Nat) (S F : List Int) (E : List EdT) : MkP := fun x _ _ W => ∃ t1 u1 t2 u2 t3 u3, x = .agg #[.int .i64 ((M : Int) + (N : Int)), .int .i64 (m : Int), .slice t1 S.length u1, .slice t2 F.length u2, .slice t3 E.length u3] ∧ OwnO 0 W (.slice t1 S.length u1) (.slice t2 F.length u2) (.slice t3 E.length u3) (movN S N) (movN F N) (movE E N)
theorem cMv_mono {N M m : Nat} {S F : List Int} {E : List EdT} : MonoP (cMv N M m S F E) := fun _ _ _ _ _ _ d ⟨t1, u1, t2, u2, t3, u3, e, h⟩ => ⟨t1, u1, t2, u2, t3, u3, e, h.on d⟩
def cBh (N M m g1 k1 n1 : Nat) (F : List Int) (EE : List EdT) : MkP := fun x _ _ W => ∃ t2 u2 z5 d5, x = .tuple #[.agg #[.int .i64 ((M : Int) + (N : Int)), .int .i64 (m : Int), .slice (some ⟨g1, 0, none⟩) n1 k1, .slice t2 F.length u2, .slice z5 EE.length d5], .int .i64 0] ∧ W.ownsRow 0 3 1 (.slice t2 F.length u2) F.length ((movN F N).map (Value.int .i64)) ∧ W.ownsRow 0 50 3 (.slice z5 EE.length d5) EE.length (EE.flatMap encE)
theorem cBh_mono {N M m g1 k1 n1 : Nat} {F : List Int} {EE : List EdT} : MonoP (cBh N M m g1 k1 n1 F EE) := fun _ _ _ _ _ _ d ⟨t2, u2, z5, d5, e, h, h'⟩ => ⟨t2, u2, z5, d5, e, own_below h d, own_below h' d⟩
def cEx (N M m g1 k1 n1 : Nat) (F : List Int) (EE : List EdT) : MkP := fun x _ _ W => ∃ t2 u2 z5 d5, x = .agg #[.int .i64 ((M : Int) + (N : Int)), .int .i64 (m : Int), .slice (some ⟨g1, 0, none⟩) n1 k1, .slice t2 F.length u2, .slice z5 EE.length d5] ∧ W.ownsRow 0 3 1 (.slice t2 F.length u2) F.length ((movN F N).map (Value.int .i64)) ∧ W.ownsRow 0 50 3 (.slice z5 EE.length d5) EE.length (EE.flatMap encE)
theorem cEx_mono {N M m g1 k1 n1 : Nat} {F : List Int} {EE : List EdT} : MonoP (cEx N M m g1 k1 n1 F EE) := fun _ _ _ _ _ _ d ⟨t2, u2, z5, d5, e, h, h'⟩ => ⟨t2, u2, z5, d5, e, own_below h d, own_below h' d⟩
set_option maxRecDepth 100000 in
set_option maxHeartbeats 4000000 in
theorem concat_no (w : World) (N M m : Nat) (a1 a2 a3 b1 b2 b3 : Option Addr) (c1 c2 c3 d1 d2 d3 : Nat) (Sa Fa Sb Fb : List Int) (Ea Eb : List EdT) (hA : Hid (RdA w a1 a2 a3 Sa Fa Ea)) (hB : Hid (RdA w b1 b2 b3 Sb Fb Eb)) (h1 : Sa.length ≤ 2000000) (h2 : Fa.length ≤ 2000000) (h3 : Ea.length ≤ 2000000) (h4 : Sb.length ≤ 2000000) (h5 : Fb.length ≤ 2000000) (h6 : Eb.length ≤ 2000000) (em : mayA (N : Int) (m : Int) Sa Fa Ea = true) (em' : mayA (M : Int) (m : Int) Sb Fb Eb = true) (hNM : N + M ≤ 4096) (hm : m ≤ 128)
    (hl : Hid ((riseL Sa).length ≤ 2000000 ∧ (riseL Fa).length ≤ 2000000 ∧ (riseE Ea).length ≤ 2000000 ∧ (riseL Sb).length ≤ 2000000 ∧ (riseL Fb).length ≤ 2000000 ∧ (riseE Eb).length ≤ 2000000))
    (hS : Hid (SsE (riseE Ea))) (hF : Hid (∀ e ∈ riseE Ea, (0 ≤ e.1 ∧ e.1 < (N : Int)) ∧ (0 ≤ e.2.1 ∧ e.2.1 < (m : Int)) ∧ (0 ≤ e.2.2 ∧ e.2.2 < (N : Int)))) (hSa : Hid (∀ x ∈ riseL Sa, ∃ q : Nat, q < N ∧ x = (q : Int))) (hFa : Hid (∀ x ∈ riseL Fa, ∃ q : Nat, q < N ∧ x = (q : Int))) (hSb : Hid (∀ x ∈ riseL Sb, ∃ q : Nat, q < M ∧ x = (q : Int))) (hFb : Hid (∀ x ∈ riseL Fb, ∃ q : Nat, q < M ∧ x = (q : Int))) (hEb : Hid (∀ e ∈ riseE Eb, (0 ≤ e.1 ∧ e.1 ≤ 4096) ∧ 0 ≤ e.2.2 ∧ e.2.2 ≤ 4096))
    (hle : (brL (riseE Ea) (riseL Fa) (movN (riseL Sb) N) m N).length + (riseE Eb).length ≤ 65536) (emA : Hid (emptB (riseL Sa) (riseL Fa) = false)) (emB : Hid (emptB (movN (riseL Sb) N) (movN (riseL Fb) N) = false)) :
    Calls Tryz.prog 20 #[.agg #[.int .i64 (N : Int), .int .i64 (m : Int), .slice a1 Sa.length c1, .slice a2 Fa.length c2, .slice a3 Ea.length c3], .agg #[.int .i64 (M : Int), .int .i64 (m : Int), .slice b1 Sb.length d1, .slice b2 Fb.length d2, .slice b3 Eb.length d3]] w fun e w' => ∃ g1 k1 t2 u2 z5 d5, e = .returned (.tuple #[.agg #[.int .i64 ((M : Int) + (N : Int)), .int .i64 (m : Int), .slice (some ⟨g1, 0, none⟩) (riseL Sa).length k1, .slice t2 (riseL Fb).length u2, .slice z5 (brL (riseE Ea) (riseL Fa) (movN (riseL Sb) N) m N ++ movE (riseE Eb) N).length d5], .int .i64 0]) ∧ Hid (RdA w' (some ⟨g1, 0, none⟩) t2 z5 (riseL Sa) (movN (riseL Fb) N) (brL (riseE Ea) (riseL Fa) (movN (riseL Sb) N) m N ++ movE (riseE Eb) N) ∧ Below w.heap.size w w') := by
  obtain ⟨W0, hW0⟩ : ∃ W0, ((w.alloc (.cells #[.int .i64 (N : Int), .int .i64 (m : Int), .slice a1 Sa.length c1, .slice a2 Fa.length c2, .slice a3 Ea.length c3] 25)).alloc (.cells #[.int .i64 (M : Int), .int .i64 (m : Int), .slice b1 Sb.length d1, .slice b2 Fb.length d2, .slice b3 Eb.length d3] 25)).alloc (.cells #[.int .i64 0, .int .i64 0, .slice none 0 0, .slice none 0 0, .slice none 0 0] 25) = W0 := ⟨_, rfl⟩
  have HD := hide (box3b w #[.int .i64 (N : Int), .int .i64 (m : Int), .slice a1 Sa.length c1, .slice a2 Fa.length c2, .slice a3 Ea.length c3] #[.int .i64 (M : Int), .int .i64 (m : Int), .slice b1 Sb.length d1, .slice b2 Fb.length d2, .slice b3 Eb.length d3] #[.int .i64 0, .int .i64 0, .slice none 0 0, .slice none 0 0, .slice none 0 0] 25)
  rw [hW0] at HD
  have TB := both_ok W0 (N : Int) (m : Int) (M : Int) a1 a2 a3 b1 b2 b3 c1 c2 c3 d1 d2 d3 Sa Fa Sb Fb Ea Eb (hide (hA.out.on HD.out.1)) (hide (hB.out.on HD.out.1)) (by omega) (by omega) (by omega) (by omega) (by omega) (by omega) em em'
  clear em em'
  generalize riseL Sa = S1 at *
  generalize riseL Fa = F1 at *
  generalize riseE Ea = E1 at *
  generalize riseL Sb = S2 at *
  generalize riseL Fb = F2 at *
  generalize riseE Eb = E2 at *
  obtain ⟨EE, hEE⟩ : ∃ EE, brL E1 F1 (movN S2 N) m N ++ movE E2 N = EE := ⟨_, rfl⟩
  rw [hEE]
  have HE := hide hEE
  clear hEE
  have jn : ¬ (4096 : Int) < (N : Int) + (M : Int) := by omega
  have ew : IntKind.i64.wrap ((N : Int) + (M : Int)) = (N : Int) + (M : Int) := by rw [IntKind.wrap_i64]; omega
  have y0 : W0.cell? ⟨w.heap.size, 0, none⟩ = some (.int .i64 (N : Int)) := cell_of HD.out.2.1 rfl
  have x0 : W0.cell? ⟨w.heap.size + 1, 0, none⟩ = some (.int .i64 (M : Int)) := cell_of HD.out.2.2.1 rfl
  have y1 : W0.cell? ⟨w.heap.size, 1, none⟩ = some (.int .i64 (m : Int)) := cell_of HD.out.2.1 rfl
  have x1 : W0.cell? ⟨w.heap.size + 1, 1, none⟩ = some (.int .i64 (m : Int)) := cell_of HD.out.2.2.1 rfl
  have y2 : W0.cell? ⟨w.heap.size, 2, none⟩ = some (.slice a1 Sa.length c1) := cell_of HD.out.2.1 rfl
  have x2 : W0.cell? ⟨w.heap.size + 1, 2, none⟩ = some (.slice b1 Sb.length d1) := cell_of HD.out.2.2.1 rfl
  have y3 : W0.cell? ⟨w.heap.size, 3, none⟩ = some (.slice a2 Fa.length c2) := cell_of HD.out.2.1 rfl
  have x3 : W0.cell? ⟨w.heap.size + 1, 3, none⟩ = some (.slice b2 Fb.length d2) := cell_of HD.out.2.2.1 rfl
  have y4 : W0.cell? ⟨w.heap.size, 4, none⟩ = some (.slice a3 Ea.length c3) := cell_of HD.out.2.1 rfl
  have x4 : W0.cell? ⟨w.heap.size + 1, 4, none⟩ = some (.slice b3 Eb.length d3) := cell_of HD.out.2.2.1 rfl
  go_enter Tryz.func20, Tryz.ntmps20
  go_upto_region 4 with (go_at_call 31; refine TB.mono ?_; rintro e w1 ⟨g1, k1, g2, k2, g3, k3, r1, q1, r2, q2, r3, q3, rfl, H1⟩)
  clear TB y0 x0 y1 x1 y2 x2 y3 x3 y4 x4
  obtain ⟨W1, hW1⟩ : ∃ W1, (w1.alloc (.cells #[.int .i64 (N : Int), .int .i64 (m : Int), .slice (some ⟨g1, 0, none⟩) S1.length k1, .slice (some ⟨g2, 0, none⟩) F1.length k2, .slice (some ⟨g3, 0, none⟩) E1.length k3] 25)).alloc (.cells #[.int .i64 (M : Int), .int .i64 (m : Int), .slice (some ⟨r1, 0, none⟩) S2.length q1, .slice (some ⟨r2, 0, none⟩) F2.length q2, .slice (some ⟨r3, 0, none⟩) E2.length q3] 25) = W1 := ⟨_, rfl⟩
  have HW : Hid (W1.heap[w1.heap.size]? = some (.cells #[.int .i64 (N : Int), .int .i64 (m : Int), .slice (some ⟨g1, 0, none⟩) S1.length k1, .slice (some ⟨g2, 0, none⟩) F1.length k2, .slice (some ⟨g3, 0, none⟩) E1.length k3] 25 (0, 0)) ∧ W1.heap[w1.heap.size + 1]? = some (.cells #[.int .i64 (M : Int), .int .i64 (m : Int), .slice (some ⟨r1, 0, none⟩) S2.length q1, .slice (some ⟨r2, 0, none⟩) F2.length q2, .slice (some ⟨r3, 0, none⟩) E2.length q3] 25 (0, 0)) ∧ W1.heap[w.heap.size + 1 + 1]? = some (.cells #[.int .i64 0, .int .i64 0, .slice none 0 0, .slice none 0 0, .slice none 0 0] 25 (0, 0)) ∧ w.heap.size + 3 ≤ W1.heap.size ∧ Below w.heap.size w W1) := hide (by
    have q := box2 w1 #[.int .i64 (N : Int), .int .i64 (m : Int), .slice (some ⟨g1, 0, none⟩) S1.length k1, .slice (some ⟨g2, 0, none⟩) F1.length k2, .slice (some ⟨g3, 0, none⟩) E1.length k3] #[.int .i64 (M : Int), .int .i64 (m : Int), .slice (some ⟨r1, 0, none⟩) S2.length q1, .slice (some ⟨r2, 0, none⟩) F2.length q2, .slice (some ⟨r3, 0, none⟩) E2.length q3] 25
    rw [hW1] at q
    have s := HD.out.2.2.2.2
    have d2 := H1.out.2.2.trans (q.1.mono H1.out.2.2.size)
    exact ⟨q.2.1, q.2.2.1, blk_on HD.out.2.2.2.1 d2, by have := d2.size; omega, HD.out.1.trans (d2.mono HD.out.1.size)⟩)
  have HX : Hid (OwnO 0 W1 (.slice (some ⟨g1, 0, none⟩) S1.length k1) (.slice (some ⟨g2, 0, none⟩) F1.length k2) (.slice (some ⟨g3, 0, none⟩) E1.length k3) S1 F1 E1) := hide (by
    have q := box2 w1 #[.int .i64 (N : Int), .int .i64 (m : Int), .slice (some ⟨g1, 0, none⟩) S1.length k1, .slice (some ⟨g2, 0, none⟩) F1.length k2, .slice (some ⟨g3, 0, none⟩) E1.length k3] #[.int .i64 (M : Int), .int .i64 (m : Int), .slice (some ⟨r1, 0, none⟩) S2.length q1, .slice (some ⟨r2, 0, none⟩) F2.length q2, .slice (some ⟨r3, 0, none⟩) E2.length q3] 25
    rw [hW1] at q
    exact (H1.out.1.on q.1).down (Nat.zero_le _))
  have HY : Hid (OwnO 0 W1 (.slice (some ⟨r1, 0, none⟩) S2.length q1) (.slice (some ⟨r2, 0, none⟩) F2.length q2) (.slice (some ⟨r3, 0, none⟩) E2.length q3) S2 F2 E2) := hide (by
    have q := box2 w1 #[.int .i64 (N : Int), .int .i64 (m : Int), .slice (some ⟨g1, 0, none⟩) S1.length k1, .slice (some ⟨g2, 0, none⟩) F1.length k2, .slice (some ⟨g3, 0, none⟩) E1.length k3] #[.int .i64 (M : Int), .int .i64 (m : Int), .slice (some ⟨r1, 0, none⟩) S2.length q1, .slice (some ⟨r2, 0, none⟩) F2.length q2, .slice (some ⟨r3, 0, none⟩) E2.length q3] 25
    rw [hW1] at q
    exact (H1.out.2.1.on q.1).down (Nat.zero_le _))
  rw [hW1]
  clear hW1 H1
  have x0 : W1.cell? ⟨w1.heap.size, 0, none⟩ = some (.int .i64 (N : Int)) := cell_of HW.out.1 rfl
  have y0 : W1.cell? ⟨w1.heap.size + 1, 0, none⟩ = some (.int .i64 (M : Int)) := cell_of HW.out.2.1 rfl
  have x1 : W1.cell? ⟨w1.heap.size, 1, none⟩ = some (.int .i64 (m : Int)) := cell_of HW.out.1 rfl
  have y1 : W1.cell? ⟨w1.heap.size + 1, 1, none⟩ = some (.int .i64 (m : Int)) := cell_of HW.out.2.1 rfl
  have x2 : W1.cell? ⟨w1.heap.size, 2, none⟩ = some (.slice (some ⟨g1, 0, none⟩) S1.length k1) := cell_of HW.out.1 rfl
  have y2 : W1.cell? ⟨w1.heap.size + 1, 2, none⟩ = some (.slice (some ⟨r1, 0, none⟩) S2.length q1) := cell_of HW.out.2.1 rfl
  have x3 : W1.cell? ⟨w1.heap.size, 3, none⟩ = some (.slice (some ⟨g2, 0, none⟩) F1.length k2) := cell_of HW.out.1 rfl
  have y3 : W1.cell? ⟨w1.heap.size + 1, 3, none⟩ = some (.slice (some ⟨r2, 0, none⟩) F2.length q2) := cell_of HW.out.2.1 rfl
  have x4 : W1.cell? ⟨w1.heap.size, 4, none⟩ = some (.slice (some ⟨g3, 0, none⟩) E1.length k3) := cell_of HW.out.1 rfl
  have y4 : W1.cell? ⟨w1.heap.size + 1, 4, none⟩ = some (.slice (some ⟨r3, 0, none⟩) E2.length q3) := cell_of HW.out.2.1 rfl
  go_upto_region 6 with fail
  clear y0 x0 y1 x1 y2 x2 y3 x3 y4 x4
  have T4 : Hid (∀ W, Below W1.heap.size W1 W → Calls Tryz.prog 33 #[.agg #[.int .i64 (M : Int), .int .i64 (m : Int), .slice (some ⟨r1, 0, none⟩) S2.length q1, .slice (some ⟨r2, 0, none⟩) F2.length q2, .slice (some ⟨r3, 0, none⟩) E2.length q3], .int .i64 (N : Int)] W fun e w' => ∃ t1 u1 t2 u2 t3 u3, e = .returned (.agg #[.int .i64 ((M : Int) + (N : Int)), .int .i64 (m : Int), .slice t1 S2.length u1, .slice t2 F2.length u2, .slice t3 E2.length u3]) ∧ Hid (OwnO W.heap.size w' (.slice t1 S2.length u1) (.slice t2 F2.length u2) (.slice t3 E2.length u3) (movN S2 N) (movN F2 N) (movE E2 N) ∧ Below W.heap.size W w')) := hide (fun W d => moved_any W M S2.length F2.length E2.length (m : Int) (N : Int) _ _ _ q1 q2 q3 S2 F2 E2 rfl rfl rfl (hide (HY.out.on d).rd) hl.out.2.2.2.1 hl.out.2.2.2.2.1 hl.out.2.2.2.2.2 (by omega) (by omega) (hide (fun x hx => by obtain ⟨q, h, rfl⟩ := hSb.out x hx; omega)) (hide (fun x hx => by obtain ⟨q, h, rfl⟩ := hFb.out x hx; omega)) hEb)
  have T5 : Hid (∀ W, Below W1.heap.size W1 W → ∀ t1 u1 t2 u2 t3 u3, OwnO 0 W (.slice t1 S2.length u1) (.slice t2 F2.length u2) (.slice t3 E2.length u3) (movN S2 N) (movN F2 N) (movE E2 N) → Calls Tryz.prog 32 #[.agg #[.int .i64 (N : Int), .int .i64 (m : Int), .slice (some ⟨g1, 0, none⟩) S1.length k1, .slice (some ⟨g2, 0, none⟩) F1.length k2, .slice (some ⟨g3, 0, none⟩) E1.length k3], .agg #[.int .i64 ((M : Int) + (N : Int)), .int .i64 (m : Int), .slice t1 S2.length u1, .slice t2 F2.length u2, .slice t3 E2.length u3]] W fun e w' => ∃ z5 d5, e = .returned (.tuple #[.agg #[.int .i64 ((M : Int) + (N : Int)), .int .i64 (m : Int), .slice (some ⟨g1, 0, none⟩) S1.length k1, .slice t2 F2.length u2, .slice z5 EE.length d5], .int .i64 0]) ∧ Hid (w'.ownsRow W.heap.size 50 3 (.slice z5 EE.length d5) EE.length (EE.flatMap encE) ∧ Below W.heap.size W w')) := hide (fun W d t1 u1 t2 u2 t3 u3 ho => by
    have L1 := movN_len S2 (N : Int)
    have L2 := movN_len F2 (N : Int)
    have L3 := movE_len E2 (N : Int)
    have rd : RdA W t1 t2 t3 (movN S2 N) (movN F2 N) (movE E2 N) := by
      have q := ho
      rw [← L1, ← L2, ← L3] at q
      exact q.rd
    have mvb : ∀ {L : List Int}, (∀ x ∈ L, ∃ q : Nat, q < M ∧ x = (q : Int)) → ∀ x ∈ movN L (N : Int), ∃ q : Nat, q < M + N ∧ x = (q : Int) := fun h x hx => by
      unfold movN at hx
      rw [List.mem_map] at hx
      obtain ⟨y, hy, rfl⟩ := hx
      obtain ⟨q, hq, rfl⟩ := h y hy
      exact ⟨q + N, by omega, by omega⟩
    have T := behind_no W N m S1.length F1.length E1.length S2.length F2.length E2.length ((M : Int) + (N : Int)) (m : Int) _ _ _ t1 t2 t3 k1 k2 k3 u1 u2 u3 S1 F1 (movN S2 N) (movN F2 N) E1 (movE E2 N) (hide ⟨rfl, rfl, rfl, L1, L2, L3⟩) (hide (HX.out.on d).rd) (hide rd) (fun e => none_zero (by have q := ho.s; rw [L1] at q; exact q) e) (by omega) hm hl.out.1 hl.out.2.1 hl.out.2.2.1 hl.out.2.2.2.1 hl.out.2.2.2.2.1 hl.out.2.2.2.2.2 hS hF hFa (fun e => none_zero (by have q := ho.e; rw [L3] at q; exact q) e) (by omega) hle hSa (M + N) (hide (by omega)) (by omega) (hide (mvb hSb.out)) (hide (mvb hFb.out)) emA emB
    rw [HE.out] at T
    exact T)
  have hmo : MonIL 0 [vI 0 (.agg #[.int .i64 (N : Int), .int .i64 (m : Int), .slice (some ⟨g1, 0, none⟩) S1.length k1, .slice (some ⟨g2, 0, none⟩) F1.length k2, .slice (some ⟨g3, 0, none⟩) E1.length k3]), vI 1 (.agg #[.int .i64 (M : Int), .int .i64 (m : Int), .slice (some ⟨r1, 0, none⟩) S2.length q1, .slice (some ⟨r2, 0, none⟩) F2.length q2, .slice (some ⟨r3, 0, none⟩) E2.length q3]), vI 2 (.pointer (some ⟨w1.heap.size, 0, none⟩)), vI 3 (.int .i64 (N : Int)), pI 4 (cMv N M m S2 F2 E2), pI 5 (cBh N M m g1 k1 S1.length F2 EE), pI 6 (cEx N M m g1 k1 S1.length F2 EE), vI 7 (.int .i64 0)] := ⟨vI_mono _ _, vI_mono _ _, vI_mono _ _, vI_mono _ _, pI_mono cMv_mono, pI_mono cBh_mono, pI_mono cEx_mono, vI_mono _ _, trivial⟩
  refine wp_region_sl [vI 0 (.agg #[.int .i64 (N : Int), .int .i64 (m : Int), .slice (some ⟨g1, 0, none⟩) S1.length k1, .slice (some ⟨g2, 0, none⟩) F1.length k2, .slice (some ⟨g3, 0, none⟩) E1.length k3]), vI 1 (.agg #[.int .i64 (M : Int), .int .i64 (m : Int), .slice (some ⟨r1, 0, none⟩) S2.length q1, .slice (some ⟨r2, 0, none⟩) F2.length q2, .slice (some ⟨r3, 0, none⟩) E2.length q3]), vI 2 (.pointer (some ⟨w1.heap.size, 0, none⟩)), vI 3 (.int .i64 (N : Int)), pI 4 (cMv N M m S2 F2 E2), pI 5 (cBh N M m g1 k1 S1.length F2 EE), pI 6 (cEx N M m g1 k1 S1.length F2 EE), vI 7 (.int .i64 0)] (by kernel_rfl) (by kernel_rfl) (by kernel_rfl) (by kernel_rfl) hmo ⟨?o0, ?o1, ?o2, ?o3, ?o4, ?o5, ?o6, ?o7, trivial⟩ ?fin
  case o0 =>
    intro At yy W hy hb d hd K hK
    have s6 : At.tmps.getD 6 undef = .pointer (some ⟨w1.heap.size, 0, none⟩) := hb 6 rfl
    have s6' := s6
    rw [Array.getD_eq_getD_getElem?] at s6'
    clear hd hy hb
    have bxX := blk_on HW.out.1 d
    have bxY := blk_on HW.out.2.1 d
    have x0 : W.cell? ⟨w1.heap.size, 0, none⟩ = some (.int .i64 (N : Int)) := cell_of bxX rfl
    have x1 : W.cell? ⟨w1.heap.size, 1, none⟩ = some (.int .i64 (m : Int)) := cell_of bxX rfl
    have x2 : W.cell? ⟨w1.heap.size, 2, none⟩ = some (.slice (some ⟨g1, 0, none⟩) S1.length k1) := cell_of bxX rfl
    have x3 : W.cell? ⟨w1.heap.size, 3, none⟩ = some (.slice (some ⟨g2, 0, none⟩) F1.length k2) := cell_of bxX rfl
    have x4 : W.cell? ⟨w1.heap.size, 4, none⟩ = some (.slice (some ⟨g3, 0, none⟩) E1.length k3) := cell_of bxX rfl
    have y0 : W.cell? ⟨w1.heap.size + 1, 0, none⟩ = some (.int .i64 (M : Int)) := cell_of bxY rfl
    have y1 : W.cell? ⟨w1.heap.size + 1, 1, none⟩ = some (.int .i64 (m : Int)) := cell_of bxY rfl
    have y2 : W.cell? ⟨w1.heap.size + 1, 2, none⟩ = some (.slice (some ⟨r1, 0, none⟩) S2.length q1) := cell_of bxY rfl
    have y3 : W.cell? ⟨w1.heap.size + 1, 3, none⟩ = some (.slice (some ⟨r2, 0, none⟩) F2.length q2) := cell_of bxY rfl
    have y4 : W.cell? ⟨w1.heap.size + 1, 4, none⟩ = some (.slice (some ⟨r3, 0, none⟩) E2.length q3) := cell_of bxY rfl
    clear bxX bxY
    go_simp
    exact hK.out _ W (stp_of hmo d (Below.refl _ _)) (if_pos rfl)
  case o1 =>
    intro At yy W hy hb d hd K hK
    have s7 : At.tmps.getD 7 undef = .pointer (some ⟨w1.heap.size + 1, 0, none⟩) := hb 7 rfl
    have s7' := s7
    rw [Array.getD_eq_getD_getElem?] at s7'
    clear hd hy hb
    have bxX := blk_on HW.out.1 d
    have bxY := blk_on HW.out.2.1 d
    have x0 : W.cell? ⟨w1.heap.size, 0, none⟩ = some (.int .i64 (N : Int)) := cell_of bxX rfl
    have x1 : W.cell? ⟨w1.heap.size, 1, none⟩ = some (.int .i64 (m : Int)) := cell_of bxX rfl
    have x2 : W.cell? ⟨w1.heap.size, 2, none⟩ = some (.slice (some ⟨g1, 0, none⟩) S1.length k1) := cell_of bxX rfl
    have x3 : W.cell? ⟨w1.heap.size, 3, none⟩ = some (.slice (some ⟨g2, 0, none⟩) F1.length k2) := cell_of bxX rfl
    have x4 : W.cell? ⟨w1.heap.size, 4, none⟩ = some (.slice (some ⟨g3, 0, none⟩) E1.length k3) := cell_of bxX rfl
    have y0 : W.cell? ⟨w1.heap.size + 1, 0, none⟩ = some (.int .i64 (M : Int)) := cell_of bxY rfl
    have y1 : W.cell? ⟨w1.heap.size + 1, 1, none⟩ = some (.int .i64 (m : Int)) := cell_of bxY rfl
    have y2 : W.cell? ⟨w1.heap.size + 1, 2, none⟩ = some (.slice (some ⟨r1, 0, none⟩) S2.length q1) := cell_of bxY rfl
    have y3 : W.cell? ⟨w1.heap.size + 1, 3, none⟩ = some (.slice (some ⟨r2, 0, none⟩) F2.length q2) := cell_of bxY rfl
    have y4 : W.cell? ⟨w1.heap.size + 1, 4, none⟩ = some (.slice (some ⟨r3, 0, none⟩) E2.length q3) := cell_of bxY rfl
    clear bxX bxY
    go_simp
    exact hK.out _ W (stp_of hmo d (Below.refl _ _)) (if_pos rfl)
  case o2 =>
    intro At yy W hy hb d hd K hK
    have s6 : At.tmps.getD 6 undef = .pointer (some ⟨w1.heap.size, 0, none⟩) := hb 6 rfl
    have s6' := s6
    rw [Array.getD_eq_getD_getElem?] at s6'
    clear hd hy hb
    go_simp
    exact hK.out _ W (stp_of hmo d (Below.refl _ _)) (if_pos rfl)
  case o3 =>
    intro At yy W hy hb d hd K hK
    have e2 : yy 2 = .pointer (some ⟨w1.heap.size, 0, none⟩) := by obtain ⟨_, _, _, _, e⟩ := hd ⟨2, .data⟩ (by simp) rfl rfl; exact e
    have s29 := (hy 2 _ 29 rfl rfl).trans e2
    have s29' := s29
    rw [Array.getD_eq_getD_getElem?] at s29'
    clear hd hy hb
    have bxX := blk_on HW.out.1 d
    have bxY := blk_on HW.out.2.1 d
    have x0 : W.cell? ⟨w1.heap.size, 0, none⟩ = some (.int .i64 (N : Int)) := cell_of bxX rfl
    have x1 : W.cell? ⟨w1.heap.size, 1, none⟩ = some (.int .i64 (m : Int)) := cell_of bxX rfl
    have x2 : W.cell? ⟨w1.heap.size, 2, none⟩ = some (.slice (some ⟨g1, 0, none⟩) S1.length k1) := cell_of bxX rfl
    have x3 : W.cell? ⟨w1.heap.size, 3, none⟩ = some (.slice (some ⟨g2, 0, none⟩) F1.length k2) := cell_of bxX rfl
    have x4 : W.cell? ⟨w1.heap.size, 4, none⟩ = some (.slice (some ⟨g3, 0, none⟩) E1.length k3) := cell_of bxX rfl
    have y0 : W.cell? ⟨w1.heap.size + 1, 0, none⟩ = some (.int .i64 (M : Int)) := cell_of bxY rfl
    have y1 : W.cell? ⟨w1.heap.size + 1, 1, none⟩ = some (.int .i64 (m : Int)) := cell_of bxY rfl
    have y2 : W.cell? ⟨w1.heap.size + 1, 2, none⟩ = some (.slice (some ⟨r1, 0, none⟩) S2.length q1) := cell_of bxY rfl
    have y3 : W.cell? ⟨w1.heap.size + 1, 3, none⟩ = some (.slice (some ⟨r2, 0, none⟩) F2.length q2) := cell_of bxY rfl
    have y4 : W.cell? ⟨w1.heap.size + 1, 4, none⟩ = some (.slice (some ⟨r3, 0, none⟩) E2.length q3) := cell_of bxY rfl
    clear bxX bxY
    go_simp
    exact hK.out _ W (stp_of hmo d (Below.refl _ _)) (if_pos rfl)
  case o4 =>
    intro At yy W hy hb d hd K hK
    have e1 : yy 1 = .agg #[.int .i64 (M : Int), .int .i64 (m : Int), .slice (some ⟨r1, 0, none⟩) S2.length q1, .slice (some ⟨r2, 0, none⟩) F2.length q2, .slice (some ⟨r3, 0, none⟩) E2.length q3] := by obtain ⟨_, _, _, _, e⟩ := hd ⟨1, .data⟩ (by simp) rfl rfl; exact e
    have e3 : yy 3 = .int .i64 (N : Int) := by obtain ⟨_, _, _, _, e⟩ := hd ⟨3, .data⟩ (by simp) rfl rfl; exact e
    have s28 := (hy 1 _ 28 rfl rfl).trans e1
    have s28' := s28
    rw [Array.getD_eq_getD_getElem?] at s28'
    have s30 := (hy 3 _ 30 rfl rfl).trans e3
    have s30' := s30
    rw [Array.getD_eq_getD_getElem?] at s30'
    clear hd hy hb
    go_simp
    go_wp2_with (go_at_call 33; refine (T4.out _ d).mono ?_; rintro e wa ⟨t1, u1, t2, u2, t3, u3, rfl, hR⟩)
    exact hK.out _ wa (stp_of hmo d hR.out.2) ⟨t1, u1, t2, u2, t3, u3, if_pos rfl, hR.out.1.down (Nat.zero_le _)⟩
  case o5 =>
    intro At yy W hy hb d hd K hK
    have e0 : yy 0 = .agg #[.int .i64 (N : Int), .int .i64 (m : Int), .slice (some ⟨g1, 0, none⟩) S1.length k1, .slice (some ⟨g2, 0, none⟩) F1.length k2, .slice (some ⟨g3, 0, none⟩) E1.length k3] := by obtain ⟨_, _, _, _, e⟩ := hd ⟨0, .data⟩ (by simp) rfl rfl; exact e
    have f4 := hd ⟨4, .data⟩ (by simp) rfl rfl
    obtain ⟨_, _, _, _, t1, u1, t2, u2, t3, u3, e4, h4⟩ := f4
    have s27 := (hy 0 _ 27 rfl rfl).trans e0
    have s27' := s27
    rw [Array.getD_eq_getD_getElem?] at s27'
    have s31 := (hy 4 _ 31 rfl rfl).trans e4
    have s31' := s31
    rw [Array.getD_eq_getD_getElem?] at s31'
    clear hd hy hb
    go_simp
    go_wp2_with (go_at_call 32; refine (T5.out _ d t1 u1 t2 u2 t3 u3 h4).mono ?_; rintro e wa ⟨z5, d5, rfl, hR⟩)
    exact hK.out _ wa (stp_of hmo d hR.out.2) ⟨t2, u2, z5, d5, if_pos rfl, own_below (by have q := h4.f; rw [movN_len] at q; exact q) hR.out.2, owns_down hR.out.1 (Nat.zero_le _)⟩
  case o6 =>
    intro At yy W hy hb d hd K hK
    have f5 := hd ⟨5, .data⟩ (by simp) rfl rfl
    obtain ⟨_, _, _, _, t2, u2, z5, d5, e5, h5, h5'⟩ := f5
    have s32 := (hy 5 _ 32 rfl rfl).trans e5
    have s32' := s32
    rw [Array.getD_eq_getD_getElem?] at s32'
    clear hd hy hb
    go_simp
    exact hK.out _ W (stp_of hmo d (Below.refl _ _)) ⟨t2, u2, z5, d5, if_pos rfl, h5, h5'⟩
  case o7 =>
    intro At yy W hy hb d hd K hK
    have f5 := hd ⟨5, .data⟩ (by simp) rfl rfl
    obtain ⟨_, _, _, _, t2, u2, z5, d5, e5, _, _⟩ := f5
    have s32 := (hy 5 _ 32 rfl rfl).trans e5
    have s32' := s32
    rw [Array.getD_eq_getD_getElem?] at s32'
    clear hd hy hb
    go_simp
    exact hK.out _ W (stp_of hmo d (Below.refl _ _)) (if_pos rfl)
  case fin =>
    intro yy lo hi W hM
    show wpList _ _ _ [_, _] _ _
    have e0 : yy 0 = .agg #[.int .i64 (N : Int), .int .i64 (m : Int), .slice (some ⟨g1, 0, none⟩) S1.length k1, .slice (some ⟨g2, 0, none⟩) F1.length k2, .slice (some ⟨g3, 0, none⟩) E1.length k3] := hM.fact 0 (by simp) rfl (notR_all 0 rfl)
    have e1 : yy 1 = .agg #[.int .i64 (M : Int), .int .i64 (m : Int), .slice (some ⟨r1, 0, none⟩) S2.length q1, .slice (some ⟨r2, 0, none⟩) F2.length q2, .slice (some ⟨r3, 0, none⟩) E2.length q3] := hM.fact 1 (by simp) rfl (notR_all 1 rfl)
    have e2 : yy 2 = .pointer (some ⟨w1.heap.size, 0, none⟩) := hM.fact 2 (by simp) rfl (notR_all 2 rfl)
    have e3 : yy 3 = .int .i64 (N : Int) := hM.fact 3 (by simp) rfl (notR_all 3 rfl)
    have e7 : yy 7 = .int .i64 0 := hM.fact 7 (by simp) rfl (notR_all 7 rfl)
    obtain ⟨t2, u2, z5, d5, e6, h6, h6'⟩ := hM.fact 6 (by simp) rfl (notR_all 6 rfl)
    obtain ⟨t1', u1', t2', u2', t3', u3', e4, _⟩ := hM.fact 4 (by simp) rfl (notR_all 4 rfl)
    obtain ⟨t2', u2', z5', d5', e5, _, _⟩ := hM.fact 5 (by simp) rfl (notR_all 5 rfl)
    have HDD := hide hM.d
    simp only [fills, Act.put, List.take, List.length, List.setIfInBounds_toArray, List.set_cons_zero, List.set_cons_succ, e0, e1, e2, e3, e7, e4, e5, e6]
    clear hM hmo e0 e1 e2 e3 e7 e4 e5 e6
    have F4 := blk_on HW.out.2.2.1 HDD.out
    have o0 : W.cell? ⟨w.heap.size + 1 + 1, 0, none⟩ = some (.int .i64 0) := cell_of F4 rfl
    have o1 : W.cell? ⟨w.heap.size + 1 + 1, 1, none⟩ = some (.int .i64 0) := cell_of F4 rfl
    have o2 : W.cell? ⟨w.heap.size + 1 + 1, 2, none⟩ = some (.slice none 0 0) := cell_of F4 rfl
    have o3 : W.cell? ⟨w.heap.size + 1 + 1, 3, none⟩ = some (.slice none 0 0) := cell_of F4 rfl
    have o4 : W.cell? ⟨w.heap.size + 1 + 1, 4, none⟩ = some (.slice none 0 0) := cell_of F4 rfl
    have g0' : W.frozen? ⟨w.heap.size + 1 + 1, 0, none⟩ = false := fz_of F4
    have g1' : W.frozen? ⟨w.heap.size + 1 + 1, 1, none⟩ = false := fz_of F4
    have g2' : W.frozen? ⟨w.heap.size + 1 + 1, 2, none⟩ = false := fz_of F4
    have g3' : W.frozen? ⟨w.heap.size + 1 + 1, 3, none⟩ = false := fz_of F4
    have g4' : W.frozen? ⟨w.heap.size + 1 + 1, 4, none⟩ = false := fz_of F4
    have O6 := hide (And.intro (set5 W (w.heap.size + 1 + 1) _ _ _ _ _ (.int .i64 ((M : Int) + (N : Int))) (.int .i64 (m : Int)) (.slice (some ⟨g1, 0, none⟩) S1.length k1) (.slice t2 F2.length u2) (.slice z5 EE.length d5) 25 F4) (only5 W (w.heap.size + 1 + 1) (.int .i64 ((M : Int) + (N : Int))) (.int .i64 (m : Int)) (.slice (some ⟨g1, 0, none⟩) S1.length k1) (.slice t2 F2.length u2) (.slice z5 EE.length d5)))
    have HO := hide (And.intro (own_keep h6 F4 (by decide) O6.out.2) (And.intro (own_keep h6' F4 (by decide) O6.out.2) (own_keep (own_below HX.out.s HDD.out) F4 (by decide) O6.out.2)))
    clear F4 h6 h6'
    go_wp2_with fail
    refine bodyPost_ret (results_c1 (p := 4) (q := 5) (ty := 25) rfl _ _ (w.heap.size + 1 + 1) 25 _ (0, 0) _ _ rfl rfl O6.out.1 Tryz.underlying25 rfl (by kernel_rfl)) rfl ?_
    have s1 := HDD.out.size
    have s2 := HW.out.2.2.2.1
    have dw := HW.out.2.2.2.2
    exact ⟨g1, k1, t2, u2, z5, d5, rfl, hide ⟨⟨own_rdN HO.out.2.2, rd_mov HO.out.1, own_rdE HO.out.2.1⟩, (dw.trans (HDD.out.mono dw.size)).trans (O6.out.2.toBelow (by omega) (fun k hk => by omega))⟩⟩
section
variable {w W W' : World} {N : Nat} {v : Nat → Value} {bx : List (Nat × Array Value × TypeId)} {e sz n : Nat → Nat} {mk : Nat → Nat → Value} {x : Nat → List Value} {a : Nat → Nat}
end
/-! ### Lists written full, then grown and kept in a row of lists -/
def mkI (k : Nat) : Value := .int .i64 (-(k : Int) - 1)
abbrev Bx := List (Nat × Array Value × TypeId)
structure Ow (w W : World) (K : Nat) (v : Nat → Value) (bx : Bx) (n : Nat → Nat) (u : Nat → Value) (k c : Nat) (lv : Value) : Prop where
  g : Gg w W K v bx (fun i => List.replicate (n i) (mkI i))
  rest : ∀ r, r < K → c ≤ r → W.ownsRow 0 3 1 (v r) (n r) (List.replicate (n r) (mkI r))
  up : ∀ r, r < k → W.ownsRow 0 3 1 (u r) (n r + 70) (List.replicate (n r + 70) (mkI r))
  ur : ∀ r, r < k → (u r).ownBlock = (v r).ownBlock ∨ ∃ b, (u r).ownBlock = some b ∧ w.heap.size ≤ b ∧ ∀ q ∈ bx, q.1 ≠ b
  ll : W.ownsRow 0 22 1 lv k ((List.range k).map u)
  ln : ∀ b, lv.ownBlock = some b → w.heap.size ≤ b ∧ ∀ q ∈ bx, q.1 ≠ b
/-- The row that grows is none of those that have grown. -/
def Apt (u : Nat → Value) (k : Nat) (vm : Value) : Prop := ∀ r, r < k → ∀ b, (u r).ownBlock = some b → vm.ownBlock ≠ some b
section
variable {w W W' : World} {K : Nat} {v : Nat → Value} {bx : Bx} {n : Nat → Nat} {u : Nat → Value} {k c : Nat} {lv : Value}
theorem Ow.below (h : Ow w W K v bx n u k c lv) (d : Below W.heap.size W W') : Ow w W' K v bx n u k c lv :=
  ⟨h.g.below d, fun r hr hc => own_below (h.rest r hr hc) d, fun r hr => own_below (h.up r hr) d, h.ur, own_below h.ll d, h.ln⟩
theorem Ow.start (h : Gg w W K v bx (fun i => List.replicate (n i) (mkI i)) ∧ ∀ r, r < K → W.ownsRow 0 3 1 (v r) (n r) (List.replicate (n r) (mkI r))) : Ow w W K v bx n (fun _ => .slice none 0 0) 0 0 (.slice none 0 0) :=
  ⟨h.1, fun r hr _ => h.2 r hr, fun r hr => absurd hr (by omega), fun r hr => absurd hr (by omega), ⟨rfl, .inl ⟨rfl, rfl⟩⟩, fun b q => by cases q⟩
theorem Ow.open (s : Gst w K v bx) (h : Ow w W K v bx n u k k lv) (hk : k < K) {vk : Value} (hv : v k = vk) : Ow w W K v bx n u k (k + 1) lv ∧ Gx w W (v k) bx 3 1 (n k) (List.replicate (n k) (mkI k)) [mkI k] vk 0 ∧ Apt u k vk := by
  subst hv
  refine ⟨⟨h.g, fun r hr hc => h.rest r hr (by omega), h.up, h.ur, h.ll, h.ln⟩, Gx.zero (h.rest k hk (Nat.le_refl _)), fun r hr b q z => ?_⟩
  rcases h.ur r hr with e | ⟨b', e1, e2, _⟩
  · exact s.ap r k (by omega) hk (by omega) b (by rw [← e]; exact q) z
  · have := s.lt k hk b z
    rw [e1] at q
    cases q
    omega
theorem Ow.grow (h : Ow w W K v bx n u k (k + 1) lv) {y : List Value} {ys : List Value} {vm : Value} {m j : Nat} (hx : Gx w W (v k) bx 3 1 m y ys vm j) (ha : Apt u k vm) {gv : Nat} {vm' : Value} (hb : vm'.ownBlock = some gv) (hg : Gg w W' K v bx (fun i => List.replicate (n i) (mkI i))) (ho : Only W W' (fun b => vm.ownBlock = some b)) (hd : vm.ownBlock = some gv ∨ gv = W.heap.size) (hkr : ∀ c, c < K → c ≠ k → Kr W W' (v c)) : Ow w W' K v bx n u k (k + 1) lv ∧ Apt u k vm' := by
  refine ⟨⟨hg, fun r hr hc => hkr r hr (by omega) _ _ _ _ _ (h.rest r hr hc), fun r hr => row_only (h.up r hr) ho fun b q z => ha r hr b q z, h.ur, row_only h.ll ho fun b q z => tag_ne2 h.ll hx.o (by decide) q z, h.ln⟩, fun r hr b q z => ?_⟩
  rw [hb] at z
  cases z
  rcases hd with e | e
  · exact ha r hr _ q e
  · have := ((h.up r hr).lt _ q).2
    omega
theorem rep_flat (m : Nat) (x : Value) (j : Nat) : List.replicate m x ++ (List.replicate j [x]).flatten = List.replicate (m + j) x := by
  have e : (List.replicate j [x]).flatten = List.replicate j x := by
    induction j with
    | zero => rfl
    | succ j ih => rw [List.replicate_succ, List.flatten_cons, ih, List.replicate_succ]; rfl
  rw [e, List.replicate_append_replicate]
theorem Ow.next (s : Gst w K v bx) (h : Ow w W K v bx n u k (k + 1) lv) (hk : k < K) {vm : Value} (hx : Gx w W (v k) bx 3 1 (n k) (List.replicate (n k) (mkI k)) [mkI k] vm 70) {gv cv : Nat} {w' : World}
    (ho : w'.ownsRow 0 22 1 (.slice (some ⟨gv, 0, none⟩) (k + 1) cv) (k + 1) ((List.range k).map u ++ [vm])) (hd : (lv.ownBlock = some gv ∧ W.grownBy w' (some gv)) ∨ (gv = W.heap.size ∧ W.grownBy w' none)) : Ow w w' K v bx n (upd u k vm) (k + 1) (k + 1) (.slice (some ⟨gv, 0, none⟩) (k + 1) cv) := by
  have o1 : Only W w' (fun b => lv.ownBlock = some b) := by
    rcases hd with ⟨hb, hg⟩ | ⟨_, hg⟩
    · exact Only.grown hg fun k q => by cases q; exact hb
    · exact Only.grown hg fun k q => by cases q
  have e0 : ∀ r, r ≠ k → upd u k vm r = u r := fun r hr => if_neg hr
  refine ⟨⟨fun t ht => (o1.block _ (Array.getElem?_eq_some_iff.1 (h.g.b t ht)).1 fun z => (h.ln _ z).2 t ht rfl).trans (h.g.b t ht), h.g.on.andNew o1 fun b hb z => ?_, fun r hr => (h.g.r r hr).only o1 fun b q z => ?_⟩, fun r hr hc => row_only (h.rest r hr hc) o1 fun b q z => tag_ne2 (h.rest r hr hc) h.ll (by decide) q z, fun r hr => ?_, fun r hr => ?_, ?_, fun b q => ?_⟩
  · have := (h.ln b z).1
    omega
  · have := (h.ln b z).1
    have := s.lt r hr b q
    omega
  · by_cases e : r = k
    · subst e
      rw [upd_at]
      have k1 := hx.o
      rw [rep_flat] at k1
      exact row_only k1 o1 fun b q z => tag_ne2 k1 h.ll (by decide) q z
    · rw [e0 r e]
      have k1 := h.up r (by omega)
      exact row_only k1 o1 fun b q z => tag_ne2 k1 h.ll (by decide) q z
  · by_cases e : r = k
    · subst e
      rw [upd_at]
      exact hx.rel
    · rw [e0 r e]
      exact h.ur r (by omega)
  · have e1 : (List.range (k + 1)).map (upd u k vm) = (List.range k).map u ++ [vm] := by
      rw [List.range_succ, List.map_append]
      congr 1
      · exact List.map_congr_left fun r hr => e0 r (by have := List.mem_range.1 hr; omega)
      · simp [upd_at]
    rw [e1]
    exact ho
  · have e : gv = b := by simpa [Value.ownBlock] using q
    subst e
    rcases hd with ⟨hb, _⟩ | ⟨rfl, _⟩
    · exact h.ln _ hb
    · exact ⟨h.g.on.size, fun t ht z => by have := (Array.getElem?_eq_some_iff.1 (h.g.b t ht)).1; omega⟩
end
/-! ### The law's over -/
def aW (n : Nat → Nat) (k : Nat) : Nat → Nat := fun r => if r < k then n r else 0
theorem map_rep (m : Nat) (y : Value) : (List.range m).map (fun _ => y) = List.replicate m y := by
  apply List.ext_getElem <;> simp
theorem Gf.over {w W : World} {K : Nat} {v : Nat → Value} {bx : Bx} {n : Nat → Nat} {x : Nat → List Value} (h : Gf w W K v bx (fun _ => 3) (fun _ => 1) n (fun i _ => mkI i) x (aW n K)) : Gg w W K v bx (fun i => List.replicate (n i) (mkI i)) ∧ ∀ r, r < K → W.ownsRow 0 3 1 (v r) (n r) (List.replicate (n r) (mkI r)) := by
  have q := Gf.full (z := n) h (fun i hi => ⟨by have t := (h.r i hi).1; rw [gx_len] at t; omega, by unfold aW; rw [if_pos hi]; exact Nat.le_refl _⟩)
  simp only [map_rep] at q
  exact q
/-! ### The document's Reverse -/
/-- Three lists in memory of one's own. -/
structure OwnD (B : Nat) (w : World) (v1 v2 v3 : Value) (S F : List Int) (E : List EdT) : Prop where
  s : w.ownsRow B 3 1 v1 S.length (S.map (Value.int .i64))
  f : w.ownsRow B 3 1 v2 F.length (F.map (Value.int .i64))
  e : w.ownsRow B 50 3 v3 E.length (E.flatMap encE)
theorem OwnD.rd {B : Nat} {w : World} {b1 b2 b3 : Option Addr} {k1 k2 k3 : Nat} {S F : List Int} {E : List EdT} (h : OwnD B w (.slice b1 S.length k1) (.slice b2 F.length k2) (.slice b3 E.length k3) S F E) : RdA w b1 b2 b3 S F E := ⟨own_rdN h.s, own_rdN h.f, own_rdE h.e⟩
/-! ### The document's Union -/
/-- What the document's Union holds of what it makes: a box, three rows; what was there is as it was but for R. -/
structure UX (wl : World) (R : Nat → Prop) (B p : Nat) (N m : Int) (v1 v2 v3 : Value) (X1 X2 : List Int) (X3 : List EdT) (w : World) : Prop where
  box : w.heap[p]? = some (.cells #[.int .i64 N, .int .i64 m, v1, v2, v3] 25 (0, 0))
  own : OwnO B w v1 v2 v3 X1 X2 X3
  only : Only wl w R
  r1 : ∀ k, v1.ownBlock = some k → R k ∨ wl.heap.size ≤ k
  r2 : ∀ k, v2.ownBlock = some k → R k ∨ wl.heap.size ≤ k
  r3 : ∀ k, v3.ownBlock = some k → R k ∨ wl.heap.size ≤ k
  rp : R p
theorem UX.on {wl : World} {R : Nat → Prop} {B p : Nat} {N m : Int} {v1 v2 v3 : Value} {X1 X2 : List Int} {X3 : List EdT} {w w' : World} (h : UX wl R B p N m v1 v2 v3 X1 X2 X3 w) (d : Below w.heap.size w w') : UX wl R B p N m v1 v2 v3 X1 X2 X3 w' := ⟨blk_on h.box d, h.own.on d, h.only.trans (Only.ofBelow d), h.r1, h.r2, h.r3, h.rp⟩
/-! ### The law's made -/
def g2 {α : Type} (p q : α) : Nat → α
  | 0 => p
  | _ => q
end Go.Proofs.YtchoopnjckcohaaGreat
namespace Go.Proofs.YtchoopnjckcohaaGreat
open Go.RowKit Go.Maps Go.Shelf
/-! ### What the constructions answer -/
structure Ans where
  n : Int
  m : Int
  s : List Int
  f : List Int
  e : List EdT
  er : Int
theorem Own.o {B : Nat} {w : World} {g1 k1 g2 k2 g3 k3 : Nat} {S F : List Int} {E : List EdT} (h : Own B w g1 k1 g2 k2 g3 k3 S F E) : OwnO B w (.slice (some ⟨g1, 0, none⟩) S.length k1) (.slice (some ⟨g2, 0, none⟩) F.length k2) (.slice (some ⟨g3, 0, none⟩) E.length k3) S F E :=
  ⟨h.s, h.f, h.e, fun g q q' => h.n12 (by simp only [Value.ownBlock, Option.some.injEq] at q q'; rw [q, q'])⟩
/-- The program's answer: lists of its own. -/
def AnsO (w : World) (r : Ans) (e : Ending) (w' : World) : Prop := ∃ b1 k1 b2 k2 b3 k3, e = .returned (.tuple #[.agg #[.int .i64 r.n, .int .i64 r.m, .slice b1 r.s.length k1, .slice b2 r.f.length k2, .slice b3 r.e.length k3], .int .i64 r.er]) ∧ Hid (OwnO w.heap.size w' (.slice b1 r.s.length k1) (.slice b2 r.f.length k2) (.slice b3 r.e.length k3) r.s r.f r.e) ∧ Below w.heap.size w w'
/-- The document's answer: lists in new memory. -/
def AnsRN (w : World) (r : Ans) (e : Ending) (w' : World) : Prop := ∃ b1 k1 b2 k2 b3 k3, e = .returned (.tuple #[.agg #[.int .i64 r.n, .int .i64 r.m, .slice b1 r.s.length k1, .slice b2 r.f.length k2, .slice b3 r.e.length k3], .int .i64 r.er]) ∧ Hid (OwnD w.heap.size w' (.slice b1 r.s.length k1) (.slice b2 r.f.length k2) (.slice b3 r.e.length k3) r.s r.f r.e) ∧ Below w.heap.size w w'
theorem AnsO.r {w w' : World} {r : Ans} {e : Ending} (h : AnsO w r e w') : AnsRN w r e w' := by
  obtain ⟨b1, k1, b2, k2, b3, k3, he, ho, d⟩ := h
  exact ⟨b1, k1, b2, k2, b3, k3, he, hide ⟨ho.out.s, ho.out.f, ho.out.e⟩, d⟩
end Go.Proofs.YtchoopnjckcohaaGreat
namespace Go.Proofs.YtchoopnjckcohaaGreat
open Go.RowKit Go.Maps Go.Shelf
attribute [local go_sem] Oper.semAt_some
/-- Whether two automata are the same, field by field. -/
def eqB (n m n' m' : Int) (St Fi : List Int) (Ed : List EdT) (St' Fi' : List Int) (Ed' : List EdT) : Bool := decide (n = n' ∧ m = m' ∧ St = St' ∧ Fi = Fi' ∧ Ed = Ed')
set_option maxRecDepth 100000 in
set_option maxHeartbeats 4000000 in
theorem requal_any (w : World) (n m n' m' : Int) (a1 a2 a3 b1 b2 b3 : Option Addr) (c1 c2 c3 d1 d2 d3 : Nat) (St Fi : List Int) (Ed : List EdT) (St' Fi' : List Int) (Ed' : List EdT) (hA : Hid (RdA w a1 a2 a3 St Fi Ed)) (hB : Hid (RdA w b1 b2 b3 St' Fi' Ed')) (h1 : St.length ≤ 4194304) (h2 : Fi.length ≤ 4194304) (h3 : Ed.length ≤ 4194304) (h4 : St'.length ≤ 4194304) (h5 : Fi'.length ≤ 4194304) (_h6 : Ed'.length ≤ 4194304) :
    Calls Tryz.prog 14 #[.agg #[.int .i64 n, .int .i64 m, .slice a1 St.length c1, .slice a2 Fi.length c2, .slice a3 Ed.length c3], .agg #[.int .i64 n', .int .i64 m', .slice b1 St'.length d1, .slice b2 Fi'.length d2, .slice b3 Ed'.length d3]] w fun e w' => e = .returned (.bool (eqB n m n' m' St Fi Ed St' Fi' Ed')) ∧ Below w.heap.size w w' := by
  obtain ⟨W0, hW0⟩ : ∃ W0, (w.alloc (.cells #[.int .i64 n, .int .i64 m, .slice a1 St.length c1, .slice a2 Fi.length c2, .slice a3 Ed.length c3] 25)).alloc (.cells #[.int .i64 n', .int .i64 m', .slice b1 St'.length d1, .slice b2 Fi'.length d2, .slice b3 Ed'.length d3] 25) = W0 := ⟨_, rfl⟩
  have HD := hide (box3 w #[.int .i64 n, .int .i64 m, .slice a1 St.length c1, .slice a2 Fi.length c2, .slice a3 Ed.length c3] #[.int .i64 n', .int .i64 m', .slice b1 St'.length d1, .slice b2 Fi'.length d2, .slice b3 Ed'.length d3] 25 25)
  rw [hW0] at HD
  have SK : Hid (∀ W, Below W0.heap.size W0 W → ((W.cell? ⟨w.heap.size, 0, none⟩ = some (.int .i64 n) ∧ W.cell? ⟨w.heap.size, 1, none⟩ = some (.int .i64 m) ∧ W.cell? ⟨w.heap.size, 2, none⟩ = some (.slice a1 St.length c1) ∧ W.cell? ⟨w.heap.size, 3, none⟩ = some (.slice a2 Fi.length c2) ∧ W.cell? ⟨w.heap.size, 4, none⟩ = some (.slice a3 Ed.length c3)) ∧ (W.cell? ⟨w.heap.size + 1, 0, none⟩ = some (.int .i64 n') ∧ W.cell? ⟨w.heap.size + 1, 1, none⟩ = some (.int .i64 m') ∧ W.cell? ⟨w.heap.size + 1, 2, none⟩ = some (.slice b1 St'.length d1) ∧ W.cell? ⟨w.heap.size + 1, 3, none⟩ = some (.slice b2 Fi'.length d2) ∧ W.cell? ⟨w.heap.size + 1, 4, none⟩ = some (.slice b3 Ed'.length d3)))) := hide (fun W d => by
    have e := blk_on HD.out.2.1 d
    have f := blk_on HD.out.2.2.1 d
    exact ⟨⟨cell_of e rfl, cell_of e rfl, cell_of e rfl, cell_of e rfl, cell_of e rfl⟩, cell_of f rfl, cell_of f rfl, cell_of f rfl, cell_of f rfl, cell_of f rfl⟩)
  have TS : Hid (∀ W, Below W0.heap.size W0 W → Calls Tryz.prog 26 #[.slice a1 St.length c1, .slice b1 St'.length d1] W fun e w' => e = .returned (.bool (decide (St = St'))) ∧ Below W.heap.size W w') := hide (fun W d => by
    have d2 := HD.out.1.trans (d.mono HD.out.1.size)
    exact sameInts_any W a1 b1 St St' c1 d1 (hide (hA.out.s.on d2)) (hide (hB.out.s.on d2)) h1 h4)
  have TF : Hid (∀ W, Below W0.heap.size W0 W → Calls Tryz.prog 26 #[.slice a2 Fi.length c2, .slice b2 Fi'.length d2] W fun e w' => e = .returned (.bool (decide (Fi = Fi'))) ∧ Below W.heap.size W w') := hide (fun W d => by
    have dd := HD.out.1.trans (d.mono HD.out.1.size)
    exact sameInts_any W a2 b2 Fi Fi' c2 d2 (hide (hA.out.f.on dd)) (hide (hB.out.f.on dd)) h2 h5)
  obtain ⟨⟨y0, y1, y2, y3, y4⟩, z0, z1, z2, z3, z4⟩ := SK.out W0 (Below.refl _ _)
  rcases Classical.em (n = n') with e0 | e0
  rotate_left
  · have HE : Hid (eqB n m n' m' St Fi Ed St' Fi' Ed' = false) := hide (decide_eq_false fun h => e0 h.1)
    have k0 : (n != n') = true := by simpa using e0
    clear e0
    go_enter Tryz.func14, Tryz.ntmps14
    go_wp2_with fail
    refine bodyPost_ret (results_tmp rfl _ _ _) rfl ?_
    exact ⟨by rw [HE.out]; rfl, HD.out.1⟩
  have k0 : (n != n') = false := by simpa using e0
  rcases Classical.em (m = m') with e1 | e1
  rotate_left
  · have HE : Hid (eqB n m n' m' St Fi Ed St' Fi' Ed' = false) := hide (decide_eq_false fun h => e1 h.2.1)
    have k1 : (m != m') = true := by simpa using e1
    clear e0 e1
    go_enter Tryz.func14, Tryz.ntmps14
    go_wp2_with fail
    refine bodyPost_ret (results_tmp rfl _ _ _) rfl ?_
    exact ⟨by rw [HE.out]; rfl, HD.out.1⟩
  have k1 : (m != m') = false := by simpa using e1
  rcases Classical.em (St = St') with e2 | e2
  rotate_left
  · have HE : Hid (eqB n m n' m' St Fi Ed St' Fi' Ed' = false) := hide (decide_eq_false fun h => e2 h.2.2.1)
    rw [decide_eq_false e2] at TS
    clear e0 e1 e2
    go_enter Tryz.func14, Tryz.ntmps14
    go_wp2_with (first
      | (go_at_call_of 26 a1; refine (TS.out _ (Below.refl _ _)).mono ?_; rintro e w1 ⟨rfl, q1⟩; have H1 := hide q1; clear q1 y0 y1 y2 y3 y4 z0 z1 z2 z3 z4; have ⟨⟨y0, y1, y2, y3, y4⟩, z0, z1, z2, z3, z4⟩ := SK.out w1 (H1.out)))
    refine bodyPost_ret (results_tmp rfl _ _ _) rfl ?_
    exact ⟨by rw [HE.out]; rfl, HD.out.1.trans (H1.out.mono HD.out.1.size)⟩
  rw [decide_eq_true e2] at TS
  rcases Classical.em (Fi = Fi') with e3 | e3
  rotate_left
  · have HE : Hid (eqB n m n' m' St Fi Ed St' Fi' Ed' = false) := hide (decide_eq_false fun h => e3 h.2.2.2.1)
    rw [decide_eq_false e3] at TF
    clear e0 e1 e2 e3
    go_enter Tryz.func14, Tryz.ntmps14
    go_wp2_with (first
      | (go_at_call_of 26 a1; refine (TS.out _ (Below.refl _ _)).mono ?_; rintro e w1 ⟨rfl, q1⟩; have H1 := hide q1; clear q1 y0 y1 y2 y3 y4 z0 z1 z2 z3 z4; have ⟨⟨y0, y1, y2, y3, y4⟩, z0, z1, z2, z3, z4⟩ := SK.out w1 (H1.out))
      | (go_at_call_of 26 a2; refine (TF.out w1 H1.out).mono ?_; rintro e w2 ⟨rfl, q2⟩; have H2 := hide (H1.out.trans (q2.mono H1.out.size)); clear q2 y0 y1 y2 y3 y4 z0 z1 z2 z3 z4; have ⟨⟨y0, y1, y2, y3, y4⟩, z0, z1, z2, z3, z4⟩ := SK.out w2 (H2.out)))
    refine bodyPost_ret (results_tmp rfl _ _ _) rfl ?_
    exact ⟨by rw [HE.out]; rfl, HD.out.1.trans (H2.out.mono HD.out.1.size)⟩
  rw [decide_eq_true e3] at TF
  rcases Classical.em (Ed.length = Ed'.length) with e4 | e4
  rotate_left
  · have HE : Hid (eqB n m n' m' St Fi Ed St' Fi' Ed' = false) := hide (decide_eq_false fun h => e4 (by rw [h.2.2.2.2]))
    have k4 : ((Ed.length : Int) != (Ed'.length : Int)) = true := by simp; omega
    clear e0 e1 e2 e3 e4
    go_enter Tryz.func14, Tryz.ntmps14
    go_wp2_with (first
      | (go_at_call_of 26 a1; refine (TS.out _ (Below.refl _ _)).mono ?_; rintro e w1 ⟨rfl, q1⟩; have H1 := hide q1; clear q1 y0 y1 y2 y3 y4 z0 z1 z2 z3 z4; have ⟨⟨y0, y1, y2, y3, y4⟩, z0, z1, z2, z3, z4⟩ := SK.out w1 (H1.out))
      | (go_at_call_of 26 a2; refine (TF.out w1 H1.out).mono ?_; rintro e w2 ⟨rfl, q2⟩; have H2 := hide (H1.out.trans (q2.mono H1.out.size)); clear q2 y0 y1 y2 y3 y4 z0 z1 z2 z3 z4; have ⟨⟨y0, y1, y2, y3, y4⟩, z0, z1, z2, z3, z4⟩ := SK.out w2 (H2.out)))
    refine bodyPost_ret (results_tmp rfl _ _ _) rfl ?_
    exact ⟨by rw [HE.out]; rfl, HD.out.1.trans (H2.out.mono HD.out.1.size)⟩
  have k4 : ((Ed.length : Int) != (Ed'.length : Int)) = false := by simp; omega
  have HEQ : Hid (Ed = Ed' → eqB n m n' m' St Fi Ed St' Fi' Ed' = true) := hide (fun h => decide_eq_true ⟨e0, e1, e2, e3, h⟩)
  have HLE := hide e4
  clear e0 e1 e2 e3 e4
  go_enter Tryz.func14, Tryz.ntmps14
  go_wp2_with (first
    | (go_at_call_of 26 a1; refine (TS.out _ (Below.refl _ _)).mono ?_; rintro e w1 ⟨rfl, q1⟩; have H1 := hide q1; clear q1 y0 y1 y2 y3 y4 z0 z1 z2 z3 z4; have ⟨⟨y0, y1, y2, y3, y4⟩, z0, z1, z2, z3, z4⟩ := SK.out w1 (H1.out))
    | (go_at_call_of 26 a2; refine (TF.out w1 H1.out).mono ?_; rintro e w2 ⟨rfl, q2⟩; have H2 := hide (H1.out.trans (q2.mono H1.out.size)); clear q2 y0 y1 y2 y3 y4 z0 z1 z2 z3 z4; have ⟨⟨y0, y1, y2, y3, y4⟩, z0, z1, z2, z3, z4⟩ := SK.out w2 (H2.out)))
  clear y0 y1 y2 y3 y4 z0 z1 z2 z3 z4 H1 TS TF hW0
  go_loopw [5] (fun iv wr => ∃ i : Nat, i ≤ Ed.length ∧ iv = .int .i64 i ∧ Hid (Below W0.heap.size W0 wr ∧ ∀ t (h : t < Ed.length) (h' : t < Ed'.length), t < i → Ed[t] = Ed'[t])) (fun iv _ => Ed.length - (intOf iv).toNat)
  case atStart => exact ⟨0, Nat.zero_le _, rfl, hide ⟨H2.out, fun t _ _ h => by omega⟩⟩
  case round =>
    obtain ⟨i, hi, rfl, HY⟩ := hrel
    obtain ⟨⟨y0, y1, y2, y3, y4⟩, z0, z1, z2, z3, z4⟩ := SK.out wr (HY.out.1)
    have HDW := hide (HD.out.1.trans (HY.out.1.mono HD.out.1.size))
    by_cases hlt : i < Ed.length
    · have i0 : (i : Int) < (Ed.length : Int) := by omega
      have i1 : (0 : Int) ≤ (i : Int) := by omega
      have hlt' : i < Ed'.length := by have := HLE.out; omega
      have i2 : (i : Int) < (Ed'.length : Int) := by omega
      have iw : IntKind.i64.wrap ((i : Int) + 1) = (i : Int) + 1 := by rw [IntKind.wrap_i64]; omega
      obtain ⟨g, o, hao, q0, q1, q2⟩ := (hA.out.e.on HDW.out) i hlt
      obtain ⟨g', o', hbo, r0, r1, r2⟩ := (hB.out.e.on HDW.out) i hlt'
      subst hao hbo
      have HNE : Hid (Ed[i] ≠ Ed'[i] → eqB n m n' m' St Fi Ed St' Fi' Ed' = false) := hide (fun h => decide_eq_false fun k => h (by simp only [k.2.2.2.2]))
      have HNX : Hid (Ed[i] = Ed'[i] → ∀ t (h : t < Ed.length) (h' : t < Ed'.length), t < i + 1 → Ed[t] = Ed'[t]) := hide (fun he t h h' ht => by
        rcases Nat.lt_or_ge t i with h3 | h3
        · exact HY.out.2 t h h' h3
        · obtain rfl : t = i := by omega
          exact he)
      generalize Ed[i] = u at q0 q1 q2 HNE HNX
      generalize Ed'[i] = v at r0 r1 r2 HNE HNX
      obtain ⟨u1, u2, u3⟩ := u
      obtain ⟨v1, v2, v3⟩ := v
      simp only at q0 q1 q2 r0 r1 r2
      clear hlt'
      by_cases f1 : u1 = v1
      · by_cases f2 : u2 = v2
        · by_cases f3 : u3 = v3
          · have HN := hide (HNX.out (by rw [f1, f2, f3]))
            subst f1 f2 f3
            clear HNE HNX
            go_upto_region 6 with fail
            refine wp_region_phase 10 #[true, true, true, true, true, true, true, true, true, true, false] (by kernel_rfl) (by kernel_rfl) ?_
            simp only [List.take_succ_cons, List.take_zero, List.drop_succ_cons, List.drop_zero]
            repeat (go_big_quiet_step (fail))
            refine wpQuiet_nil ?_
            intro wz hzz
            obtain ⟨nq, rfl⟩ := hzz
            go_wp2_with fail
            go_roundw
            case rel => exact ⟨i + 1, by omega, by go_num, hide ⟨below_drewN2 HY.out.1 nq, HN.out⟩⟩
            case measure => simp [intOf]; omega
          · have HE := hide (HNE.out (by intro h; cases h; exact f3 rfl))
            have p1 : (u1 == v1) = true := by simpa using f1
            have p2 : (u2 == v2) = true := by simpa using f2
            have p3 : (u3 == v3) = false := by simpa using f3
            clear f1 f2 f3 HNE HNX
            go_upto_region 6 with fail
            refine wp_region_phase 10 #[true, true, true, true, true, true, true, true, true, true, false] (by kernel_rfl) (by kernel_rfl) ?_
            simp only [List.take_succ_cons, List.take_zero, List.drop_succ_cons, List.drop_zero]
            repeat (go_big_quiet_step (fail))
            refine wpQuiet_nil ?_
            intro wz hzz
            obtain ⟨nq, rfl⟩ := hzz
            go_wp2_with fail
            refine bodyPost_ret (results_tmp rfl _ _ _) rfl ?_
            exact ⟨by rw [HE.out]; rfl, below_drewN2 HDW.out nq⟩
        · have HE := hide (HNE.out (by intro h; cases h; exact f2 rfl))
          have p1 : (u1 == v1) = true := by simpa using f1
          have p2 : (u2 == v2) = false := by simpa using f2
          clear f1 f2 HNE HNX
          go_upto_region 6 with fail
          refine wp_region_phase 10 #[true, true, true, true, true, true, true, true, true, true, false] (by kernel_rfl) (by kernel_rfl) ?_
          simp only [List.take_succ_cons, List.take_zero, List.drop_succ_cons, List.drop_zero]
          repeat (go_big_quiet_step (fail))
          refine wpQuiet_nil ?_
          intro wz hzz
          obtain ⟨nq, rfl⟩ := hzz
          go_wp2_with fail
          refine bodyPost_ret (results_tmp rfl _ _ _) rfl ?_
          exact ⟨by rw [HE.out]; rfl, below_drewN2 HDW.out nq⟩
      · have HE := hide (HNE.out (by intro h; cases h; exact f1 rfl))
        have p1 : (u1 == v1) = false := by simpa using f1
        clear f1 HNE HNX
        go_upto_region 6 with fail
        refine wp_region_phase 10 #[true, true, true, true, true, true, true, true, true, true, false] (by kernel_rfl) (by kernel_rfl) ?_
        simp only [List.take_succ_cons, List.take_zero, List.drop_succ_cons, List.drop_zero]
        repeat (go_big_quiet_step (fail))
        refine wpQuiet_nil ?_
        intro wz hzz
        obtain ⟨nq, rfl⟩ := hzz
        go_wp2_with fail
        refine bodyPost_ret (results_tmp rfl _ _ _) rfl ?_
        exact ⟨by rw [HE.out]; rfl, below_drewN2 HDW.out nq⟩
    · have i0 : ¬ (i : Int) < (Ed.length : Int) := by omega
      have HE := hide (HEQ.out (List.ext_getElem HLE.out fun t h h' => HY.out.2 t h h' (by omega)))
      go_wp2_with fail
      refine bodyPost_ret (results_tmp rfl _ _ _) rfl ?_
      exact ⟨by rw [HE.out]; rfl, HDW.out⟩
/-! ### lives: the small automata that every statement asks about -/
theorem rd_one {W : World} {b : Nat} {x : Int} {t : TypeId} {fr : Nat × Nat} (h : W.heap[b]? = some (.cells #[.int .i64 x] t fr)) : RdN W (some ⟨b, 0, none⟩) [x] := fun j hj => by
  obtain rfl : j = 0 := by simpa using hj
  exact ⟨b, 0, rfl, cell_of h rfl⟩
theorem rdE_want {W : World} {b : Nat} {t : TypeId} {fr : Nat × Nat} (h : W.heap[b]? = some (.cells #[.int .i64 0, .int .i64 0, .int .i64 1, .int .i64 0, .int .i64 0, .int .i64 2, .int .i64 2, .int .i64 1, .int .i64 3] t fr)) : RdE W (some ⟨b, 0, none⟩) [(0, 0, 1), (0, 0, 2), (2, 1, 3)] := fun j hj => by
  have hj' : j < 3 := by simpa using hj
  obtain rfl | rfl | rfl : j = 0 ∨ j = 1 ∨ j = 2 := by omega
  · exact ⟨b, 0, rfl, cell_of h rfl, cell_of h rfl, cell_of h rfl⟩
  · exact ⟨b, 0, rfl, cell_of h rfl, cell_of h rfl, cell_of h rfl⟩
  · exact ⟨b, 0, rfl, cell_of h rfl, cell_of h rfl, cell_of h rfl⟩
theorem box33 (w : World) (A B C : Array Value) (t u v : TypeId) : Below w.heap.size w (((w.alloc (.cells A t)).alloc (.cells B u)).alloc (.cells C v)) ∧ (((w.alloc (.cells A t)).alloc (.cells B u)).alloc (.cells C v)).heap[w.heap.size]? = some (.cells A t (0, 0)) ∧ (((w.alloc (.cells A t)).alloc (.cells B u)).alloc (.cells C v)).heap[w.heap.size + 1]? = some (.cells B u (0, 0)) ∧ (((w.alloc (.cells A t)).alloc (.cells B u)).alloc (.cells C v)).heap[w.heap.size + 2]? = some (.cells C v (0, 0)) ∧ (((w.alloc (.cells A t)).alloc (.cells B u)).alloc (.cells C v)).heap.size = w.heap.size + 3 := by
  have z1 : (w.alloc (.cells A t)).heap.size = w.heap.size + 1 := by simp
  have z2 : ((w.alloc (.cells A t)).alloc (.cells B u)).heap.size = w.heap.size + 2 := by simp
  refine ⟨((((Below.refl _ _).alloc (Nat.le_refl _) _).alloc (by omega) _).alloc (by omega) _), ?_, ?_, ?_, by simp⟩
  · exact ((Below.heap_alloc _ _ _ (by omega)).trans (Below.heap_alloc _ _ _ (by omega))).trans (World.alloc_heap_new _ _)
  · have := World.alloc_heap_new (w.alloc (.cells A t)) (.cells B u)
    rw [z1] at this
    exact (Below.heap_alloc _ _ _ (by omega)).trans this
  · have := World.alloc_heap_new ((w.alloc (.cells A t)).alloc (.cells B u)) (.cells C v)
    rw [z2] at this
    exact this
theorem rise_up {L : List Int} (h : L.Pairwise (· < ·)) : riseL L = L := ssL_eq _ _ (riseL_ss L) h fun x => riseL_iff L x
theorem l_may (s : Int) (h : 0 ≤ s ∧ s < 2) : mayA 2 2 [0] [1] [(0, s, 1)] = true := by
  obtain rfl | rfl : s = 0 ∨ s = 1 := by omega
  · decide
  · decide
theorem l_br : brL [(0, 0, 1)] [1] (movN [0] 2) 2 2 = [(0, 0, 1), (0, 0, 2)] := by
  have r1 : riseL [(1 : Int), 2] = [1, 2] := rise_up (by simp)
  have r0 := rise_nil
  have e00 : celL [(0, 0, 1)] [1] (movN [0] 2) 0 0 = [(0, 0, 1), (0, 0, 2)] := by
    unfold celL
    rw [show endL [(0, 0, 1)] [1] (movN [0] 2) 0 0 = [1, 2] by decide, r1]
    rfl
  have e01 : celL [(0, 0, 1)] [1] (movN [0] 2) 0 1 = [] := by
    unfold celL
    rw [show endL [(0, 0, 1)] [1] (movN [0] 2) 0 1 = [] by decide, r0]
    rfl
  have e10 : celL [(0, 0, 1)] [1] (movN [0] 2) 1 0 = [] := by
    unfold celL
    rw [show endL [(0, 0, 1)] [1] (movN [0] 2) 1 0 = [] by decide, r0]
    rfl
  have e11 : celL [(0, 0, 1)] [1] (movN [0] 2) 1 1 = [] := by
    unfold celL
    rw [show endL [(0, 0, 1)] [1] (movN [0] 2) 1 1 = [] by decide, r0]
    rfl
  rw [show (2 : Nat) = 0 + 1 + 1 from rfl, brL_next, brL_next]
  simp [brL, rowL, List.range_succ, e00, e01, e10, e11]
theorem one_sym (w : World) (g : Nat) (s : Int) (hs : 0 ≤ s ∧ s < 2) (h : w.heap[g]? = some (.cells #[.int .i64 s] 3 (0, 0))) :
    Calls Tryz.prog 19 #[.slice (some ⟨g, 0, none⟩) 1 1, .int .i64 2] w fun e w' => ∃ b1 k1 b2 k2 b3 k3, e = .returned (.tuple #[.agg #[.int .i64 2, .int .i64 2, .slice b1 1 k1, .slice b2 1 k2, .slice b3 1 k3], .int .i64 0]) ∧ Hid (OwnO w.heap.size w' (.slice b1 1 k1) (.slice b2 1 k2) (.slice b3 1 k3) [0] [1] [(0, s, 1)] ∧ Below w.heap.size w w') :=
  one_ok w (some ⟨g, 0, none⟩) 1 1 2 [s] (hide rfl) (hide (rd_one h)) (by omega) (by omega) (hide (fun x hx => by rw [List.mem_singleton] at hx; subst hx; exact hs))
set_option maxRecDepth 100000 in
set_option maxHeartbeats 4000000 in
theorem concat_two (w : World) (a1 a2 a3 b1 b2 b3 : Option Addr) (c1 c2 c3 d1 d2 d3 : Nat) (hA : Hid (RdA w a1 a2 a3 [0] [1] [(0, 0, 1)])) (hB : Hid (RdA w b1 b2 b3 [0] [1] [(0, 1, 1)])) :
    Calls Tryz.prog 20 #[.agg #[.int .i64 2, .int .i64 2, .slice a1 1 c1, .slice a2 1 c2, .slice a3 1 c3], .agg #[.int .i64 2, .int .i64 2, .slice b1 1 d1, .slice b2 1 d2, .slice b3 1 d3]] w fun e w' => ∃ g1 k1 t2 u2 z5 d5, e = .returned (.tuple #[.agg #[.int .i64 4, .int .i64 2, .slice (some ⟨g1, 0, none⟩) 1 k1, .slice t2 1 u2, .slice z5 3 d5], .int .i64 0]) ∧ Hid (RdA w' (some ⟨g1, 0, none⟩) t2 z5 [0] [3] [(0, 0, 1), (0, 0, 2), (2, 1, 3)] ∧ Below w.heap.size w w') := by
  have T := concat_no w 2 2 2 a1 a2 a3 b1 b2 b3 c1 c2 c3 d1 d2 d3 [0] [1] [0] [1] [(0, 0, 1)] [(0, 1, 1)] hA hB (by decide) (by decide) (by decide) (by decide) (by decide) (by decide) (l_may 0 (by omega)) (l_may 1 (by omega)) (by decide) (by decide)
  rw [rise_one, rise_one, riseE_one (L := [(0, 0, 1)]) (by decide), riseE_one (L := [(0, 1, 1)]) (by decide)] at T
  have T2 := T (hide (by decide)) (hide (by have q := riseE_ss [((0 : Int), (0 : Int), (1 : Int))]; rwa [riseE_one (by decide)] at q)) (hide (by decide)) (hide (fun x hx => ⟨0, by omega, by simpa using hx⟩)) (hide (fun x hx => ⟨1, by omega, by simpa using hx⟩)) (hide (fun x hx => ⟨0, by omega, by simpa using hx⟩)) (hide (fun x hx => ⟨1, by omega, by simpa using hx⟩)) (hide (by decide))
  rw [show ((2 : Nat) : Int) = 2 from rfl, l_br] at T2
  exact T2 (by decide) (hide (by decide)) (hide (by decide))
set_option maxRecDepth 100000 in
set_option maxHeartbeats 4000000 in
theorem lives_any (w : World) : Calls Tryz.prog 5 #[] w fun e w' => e = .returned (.bool true) ∧ Below w.heap.size w w' := by
  obtain ⟨A, hA⟩ : ∃ A, w.alloc (.cells #[.int .i64 0] 3) = A := ⟨_, rfl⟩
  have HA : Hid (A.heap[w.heap.size]? = some (.cells #[.int .i64 0] 3 (0, 0)) ∧ Below w.heap.size w A) := hide (by rw [← hA]; exact ⟨World.alloc_heap_new _ _, (Below.refl _ _).alloc (Nat.le_refl _) _⟩)
  have TA := one_sym A w.heap.size 0 (by omega) HA.out.1
  go_enter Tryz.func5, Tryz.ntmps5
  go_upto_region 2 with (go_at_call 19; refine TA.mono ?_; rintro e w1 ⟨x1, k1, x2, k2, x3, k3, rfl, H1⟩)
  clear TA
  obtain ⟨B, hB⟩ : ∃ B, (w1.alloc (.cells #[.int .i64 2, .int .i64 2, .slice x1 1 k1, .slice x2 1 k2, .slice x3 1 k3] 25)).alloc (.cells #[.int .i64 1] 3) = B := ⟨_, rfl⟩
  have HB : Hid (B.heap[w1.heap.size]? = some (.cells #[.int .i64 2, .int .i64 2, .slice x1 1 k1, .slice x2 1 k2, .slice x3 1 k3] 25 (0, 0)) ∧ B.heap[w1.heap.size + 1]? = some (.cells #[.int .i64 1] 3 (0, 0)) ∧ Below w1.heap.size w1 B) := hide (by
    have hk1 := (Below.refl w1.heap.size w1).alloc (Nat.le_refl _) (.cells #[.int .i64 2, .int .i64 2, .slice x1 1 k1, .slice x2 1 k2, .slice x3 1 k3] 25)
    have z1 := World.alloc_heap_new w1 (.cells #[.int .i64 2, .int .i64 2, .slice x1 1 k1, .slice x2 1 k2, .slice x3 1 k3] 25)
    have s1 : (w1.alloc (.cells #[.int .i64 2, .int .i64 2, .slice x1 1 k1, .slice x2 1 k2, .slice x3 1 k3] 25)).heap.size = w1.heap.size + 1 := by simp
    generalize w1.alloc (.cells #[.int .i64 2, .int .i64 2, .slice x1 1 k1, .slice x2 1 k2, .slice x3 1 k3] 25) = Z at hk1 z1 s1 hB
    have hk2 := (Below.refl Z.heap.size Z).alloc (Nat.le_refl _) (.cells #[.int .i64 1] 3)
    have z2 := World.alloc_heap_new Z (.cells #[.int .i64 1] 3)
    rw [hB] at hk2 z2
    rw [s1] at z2
    exact ⟨blk_on z1 hk2, z2, hk1.trans (hk2.mono hk1.size)⟩)
  have TB := one_sym B (w1.heap.size + 1) 1 (by omega) HB.out.2.1
  go_upto_region 3 with (go_at_call 19; refine TB.mono ?_; rintro e w2 ⟨y1, j1, y2, j2, y3, j3, rfl, H2⟩)
  clear TB hB hA
  obtain ⟨Cw, hC⟩ : ∃ C, w2.alloc (.cells #[.int .i64 2, .int .i64 2, .slice y1 1 j1, .slice y2 1 j2, .slice y3 1 j3] 25) = C := ⟨_, rfl⟩
  have HC : Hid (Cw.heap[w2.heap.size]? = some (.cells #[.int .i64 2, .int .i64 2, .slice y1 1 j1, .slice y2 1 j2, .slice y3 1 j3] 25 (0, 0)) ∧ Below w2.heap.size w2 Cw) := hide (by rw [← hC]; exact ⟨World.alloc_heap_new _ _, (Below.refl _ _).alloc (Nat.le_refl _) _⟩)
  rw [hC]
  clear hC
  have HX : Hid (Cw.heap[w1.heap.size]? = some (.cells #[.int .i64 2, .int .i64 2, .slice x1 1 k1, .slice x2 1 k2, .slice x3 1 k3] 25 (0, 0)) ∧ RdA Cw x1 x2 x3 [0] [1] [(0, 0, 1)] ∧ RdA Cw y1 y2 y3 [0] [1] [(0, 1, 1)] ∧ Below w.heap.size w Cw) := hide (by
    have dA := HA.out.2.trans (H1.out.2.mono HA.out.2.size)
    have dB := HB.out.2.2.trans (H2.out.2.mono HB.out.2.2.size)
    have dC := dB.trans (HC.out.2.mono dB.size)
    refine ⟨blk_on (blk_on HB.out.1 H2.out.2) HC.out.2, ?_, ?_, dA.trans (dC.mono dA.size)⟩
    · exact (OwnO.rd H1.out.1).on dC
    · exact (OwnO.rd H2.out.1).on HC.out.2)
  have TC := concat_two Cw x1 x2 x3 y1 y2 y3 k1 k2 k3 j1 j2 j3 (hide HX.out.2.1) (hide HX.out.2.2.1)
  have p0 : Cw.cell? ⟨w1.heap.size, 0, none⟩ = some (.int .i64 2) := cell_of HX.out.1 rfl
  have p1 : Cw.cell? ⟨w1.heap.size, 1, none⟩ = some (.int .i64 2) := cell_of HX.out.1 rfl
  have p2 : Cw.cell? ⟨w1.heap.size, 2, none⟩ = some (.slice x1 1 k1) := cell_of HX.out.1 rfl
  have p3 : Cw.cell? ⟨w1.heap.size, 3, none⟩ = some (.slice x2 1 k2) := cell_of HX.out.1 rfl
  have p4 : Cw.cell? ⟨w1.heap.size, 4, none⟩ = some (.slice x3 1 k3) := cell_of HX.out.1 rfl
  have q0 : Cw.cell? ⟨w2.heap.size, 0, none⟩ = some (.int .i64 2) := cell_of HC.out.1 rfl
  have q1 : Cw.cell? ⟨w2.heap.size, 1, none⟩ = some (.int .i64 2) := cell_of HC.out.1 rfl
  have q2 : Cw.cell? ⟨w2.heap.size, 2, none⟩ = some (.slice y1 1 j1) := cell_of HC.out.1 rfl
  have q3 : Cw.cell? ⟨w2.heap.size, 3, none⟩ = some (.slice y2 1 j2) := cell_of HC.out.1 rfl
  have q4 : Cw.cell? ⟨w2.heap.size, 4, none⟩ = some (.slice y3 1 j3) := cell_of HC.out.1 rfl
  go_upto_region 4 with (go_at_call 20; refine TC.mono ?_; rintro e w3 ⟨g1, e1, t2, u2, z5, d5, rfl, H3⟩)
  clear TC p0 q0 p1 q1 p2 q2 p3 q3 p4 q4
  have HD3 : Hid (Below w.heap.size w w3) := hide (HX.out.2.2.2.trans (H3.out.2.mono HX.out.2.2.2.size))
  clear HX HC HB HA H1 H2
  go_upto_region 5 with fail
  obtain ⟨W5, hW5⟩ : ∃ W, ((((w3.alloc (.cells #[.int .i64 4, .int .i64 2, .slice (some ⟨g1, 0, none⟩) 1 e1, .slice t2 1 u2, .slice z5 3 d5] 25)).alloc (.cells #[.int .i64 0] 3)).alloc (.cells #[.int .i64 3] 3)).alloc (.cells #[.int .i64 0, .int .i64 0, .int .i64 1, .int .i64 0, .int .i64 0, .int .i64 2, .int .i64 2, .int .i64 1, .int .i64 3] 50)).alloc (.cells #[.int .i64 4, .int .i64 2, .slice (some ⟨w3.heap.size + 1, 0, none⟩) 1 1, .slice (some ⟨w3.heap.size + 1 + 1, 0, none⟩) 1 1, .slice (some ⟨w3.heap.size + 1 + 1 + 1, 0, none⟩) 3 3] 25) = W := ⟨_, rfl⟩
  rw [hW5]
  have HW : Hid (W5.heap[w3.heap.size]? = some (.cells #[.int .i64 4, .int .i64 2, .slice (some ⟨g1, 0, none⟩) 1 e1, .slice t2 1 u2, .slice z5 3 d5] 25 (0, 0)) ∧ W5.heap[w3.heap.size + 1 + 1 + 1 + 1]? = some (.cells #[.int .i64 4, .int .i64 2, .slice (some ⟨w3.heap.size + 1, 0, none⟩) 1 1, .slice (some ⟨w3.heap.size + 1 + 1, 0, none⟩) 1 1, .slice (some ⟨w3.heap.size + 1 + 1 + 1, 0, none⟩) 3 3] 25 (0, 0)) ∧ RdA W5 (some ⟨w3.heap.size + 1, 0, none⟩) (some ⟨w3.heap.size + 1 + 1, 0, none⟩) (some ⟨w3.heap.size + 1 + 1 + 1, 0, none⟩) [0] [3] [(0, 0, 1), (0, 0, 2), (2, 1, 3)] ∧ Below w3.heap.size w3 W5) := hide (by
    have h1 := (Below.refl w3.heap.size w3).alloc (Nat.le_refl _) (.cells #[.int .i64 4, .int .i64 2, .slice (some ⟨g1, 0, none⟩) 1 e1, .slice t2 1 u2, .slice z5 3 d5] 25)
    have z1 := World.alloc_heap_new w3 (.cells #[.int .i64 4, .int .i64 2, .slice (some ⟨g1, 0, none⟩) 1 e1, .slice t2 1 u2, .slice z5 3 d5] 25)
    have s1 : (w3.alloc (.cells #[.int .i64 4, .int .i64 2, .slice (some ⟨g1, 0, none⟩) 1 e1, .slice t2 1 u2, .slice z5 3 d5] 25)).heap.size = w3.heap.size + 1 := by simp
    generalize w3.alloc (.cells #[.int .i64 4, .int .i64 2, .slice (some ⟨g1, 0, none⟩) 1 e1, .slice t2 1 u2, .slice z5 3 d5] 25) = Z at h1 z1 s1 hW5
    have hb := box33 Z #[.int .i64 0] #[.int .i64 3] #[.int .i64 0, .int .i64 0, .int .i64 1, .int .i64 0, .int .i64 0, .int .i64 2, .int .i64 2, .int .i64 1, .int .i64 3] 3 3 50
    generalize ((Z.alloc (.cells #[.int .i64 0] 3)).alloc (.cells #[.int .i64 3] 3)).alloc (.cells #[.int .i64 0, .int .i64 0, .int .i64 1, .int .i64 0, .int .i64 0, .int .i64 2, .int .i64 2, .int .i64 1, .int .i64 3] 50) = V at hb hW5
    have h2 := (Below.refl V.heap.size V).alloc (Nat.le_refl _) (.cells #[.int .i64 4, .int .i64 2, .slice (some ⟨w3.heap.size + 1, 0, none⟩) 1 1, .slice (some ⟨w3.heap.size + 1 + 1, 0, none⟩) 1 1, .slice (some ⟨w3.heap.size + 1 + 1 + 1, 0, none⟩) 3 3] 25)
    have z2 := World.alloc_heap_new V (.cells #[.int .i64 4, .int .i64 2, .slice (some ⟨w3.heap.size + 1, 0, none⟩) 1 1, .slice (some ⟨w3.heap.size + 1 + 1, 0, none⟩) 1 1, .slice (some ⟨w3.heap.size + 1 + 1 + 1, 0, none⟩) 3 3] 25)
    rw [hW5] at h2 z2
    rw [hb.2.2.2.2, s1] at z2
    rw [s1] at hb
    have dZ : Below Z.heap.size Z W5 := by
      have q := hb.1
      rw [← s1] at q
      exact q.trans (h2.mono q.size)
    exact ⟨blk_on z1 dZ, z2, ⟨rd_one (blk_on hb.2.1 h2), rd_one (blk_on hb.2.2.1 h2), rdE_want (blk_on hb.2.2.2.1 h2)⟩, h1.trans (dZ.mono h1.size)⟩)
  clear hW5
  have TE := requal_any W5 4 2 4 2 (some ⟨g1, 0, none⟩) t2 z5 (some ⟨w3.heap.size + 1, 0, none⟩) (some ⟨w3.heap.size + 1 + 1, 0, none⟩) (some ⟨w3.heap.size + 1 + 1 + 1, 0, none⟩) e1 u2 d5 1 1 3 [0] [3] [(0, 0, 1), (0, 0, 2), (2, 1, 3)] [0] [3] [(0, 0, 1), (0, 0, 2), (2, 1, 3)] (hide (H3.out.1.on HW.out.2.2.2)) (hide HW.out.2.2.1) (by decide) (by decide) (by decide) (by decide) (by decide) (by decide)
  rw [show eqB 4 2 4 2 [0] [3] [(0, 0, 1), (0, 0, 2), (2, 1, 3)] [0] [3] [(0, 0, 1), (0, 0, 2), (2, 1, 3)] = true by decide] at TE
  have p0 : W5.cell? ⟨w3.heap.size, 0, none⟩ = some (.int .i64 4) := cell_of HW.out.1 rfl
  have p1 : W5.cell? ⟨w3.heap.size, 1, none⟩ = some (.int .i64 2) := cell_of HW.out.1 rfl
  have p2 : W5.cell? ⟨w3.heap.size, 2, none⟩ = some (.slice (some ⟨g1, 0, none⟩) 1 e1) := cell_of HW.out.1 rfl
  have p3 : W5.cell? ⟨w3.heap.size, 3, none⟩ = some (.slice t2 1 u2) := cell_of HW.out.1 rfl
  have p4 : W5.cell? ⟨w3.heap.size, 4, none⟩ = some (.slice z5 3 d5) := cell_of HW.out.1 rfl
  have q0 : W5.cell? ⟨w3.heap.size + 1 + 1 + 1 + 1, 0, none⟩ = some (.int .i64 4) := cell_of HW.out.2.1 rfl
  have q1 : W5.cell? ⟨w3.heap.size + 1 + 1 + 1 + 1, 1, none⟩ = some (.int .i64 2) := cell_of HW.out.2.1 rfl
  have q2 : W5.cell? ⟨w3.heap.size + 1 + 1 + 1 + 1, 2, none⟩ = some (.slice (some ⟨w3.heap.size + 1, 0, none⟩) 1 1) := cell_of HW.out.2.1 rfl
  have q3 : W5.cell? ⟨w3.heap.size + 1 + 1 + 1 + 1, 3, none⟩ = some (.slice (some ⟨w3.heap.size + 1 + 1, 0, none⟩) 1 1) := cell_of HW.out.2.1 rfl
  have q4 : W5.cell? ⟨w3.heap.size + 1 + 1 + 1 + 1, 4, none⟩ = some (.slice (some ⟨w3.heap.size + 1 + 1 + 1, 0, none⟩) 3 3) := cell_of HW.out.2.1 rfl
  go_wp2_with (go_at_call 14; refine TE.mono ?_; rintro e w6 ⟨rfl, D6⟩; have H6 := hide D6; clear D6)
  go_ret
  have d5 := HD3.out.trans (HW.out.2.2.2.mono HD3.out.size)
  exact ⟨rfl, d5.trans (H6.out.mono d5.size)⟩
/-! ### Rising lists -/
theorem ssI_eq : ∀ {A B : List Int}, A.Pairwise (· < ·) → B.Pairwise (· < ·) → (∀ x, x ∈ A ↔ x ∈ B) → A = B
  | [], [], _, _, _ => rfl
  | [], b :: B, _, _, h => by have := (h b).2 List.mem_cons_self; cases this
  | a :: A, [], _, _, h => by have := (h a).1 List.mem_cons_self; cases this
  | a :: A, b :: B, hA, hB, h => by
    rw [List.pairwise_cons] at hA hB
    have e : a = b := by
      have h1 := (h a).1 List.mem_cons_self
      have h2 := (h b).2 List.mem_cons_self
      rcases List.mem_cons.1 h1 with e | h1
      · exact e
      · rcases List.mem_cons.1 h2 with e | h2
        · exact e.symm
        · have := hB.1 a h1
          have := hA.1 b h2
          omega
    subst e
    refine congrArg (a :: ·) (ssI_eq hA.2 hB.2 fun x => ⟨fun hx => ?_, fun hx => ?_⟩)
    · rcases List.mem_cons.1 ((h x).1 (List.mem_cons_of_mem _ hx)) with e | h1
      · subst e; exact absurd (hA.1 x hx) (by omega)
      · exact h1
    · rcases List.mem_cons.1 ((h x).2 (List.mem_cons_of_mem _ hx)) with e | h1
      · subst e; exact absurd (hB.1 x hx) (by omega)
      · exact h1
theorem rise_old {L : List Int} {x : Int} (h : x ∈ riseL L) : riseL (L ++ [x]) = riseL L := ssI_eq (riseL_ss _) (riseL_ss _) fun y => by
  rw [riseL_iff, riseL_iff, List.mem_append, List.mem_singleton]
  rw [riseL_iff] at h
  exact ⟨fun k => k.elim id (fun e => e ▸ h), Or.inl⟩
/-- Where edges of a symbol lead from a list's states (back: to them). -/
def imgL (back : Bool) (Ed : List EdT) (Q : List Int) (sym : Int) : List Int := (Ed.filter fun e => decide (e.2.1 = sym ∧ (ends back e).1 ∈ Q)).map fun e => (ends back e).2
theorem imgL_iff {back : Bool} {Ed : List EdT} {Q : List Int} {sym x : Int} : x ∈ imgL back Ed Q sym ↔ ∃ e ∈ Ed, e.2.1 = sym ∧ (ends back e).1 ∈ Q ∧ (ends back e).2 = x := by
  unfold imgL
  simp only [List.mem_map, List.mem_filter, decide_eq_true_eq]
  exact ⟨fun ⟨e, ⟨h, a, b⟩, c⟩ => ⟨e, h, a, b, c⟩, fun ⟨e, h, a, b, c⟩ => ⟨e, ⟨h, a, b⟩, c⟩⟩
theorem imgL_len (back : Bool) (Ed : List EdT) (Q : List Int) (sym : Int) : (imgL back Ed Q sym).length ≤ Ed.length := by
  unfold imgL
  rw [List.length_map]
  exact List.length_filter_le _ _
theorem imgL_take {back : Bool} {Ed : List EdT} {Q : List Int} {sym : Int} {i : Nat} (h : i < Ed.length) : imgL back (Ed.take (i + 1)) Q sym = if Ed[i].2.1 = sym ∧ (ends back Ed[i]).1 ∈ Q then imgL back (Ed.take i) Q sym ++ [(ends back Ed[i]).2] else imgL back (Ed.take i) Q sym := by
  unfold imgL
  rw [List.take_succ_eq_append_getElem h, List.filter_append, List.map_append]
  by_cases k : Ed[i].2.1 = sym ∧ (ends back Ed[i]).1 ∈ Q
  · rw [if_pos k, List.filter_cons_of_pos (by simpa using k)]; rfl
  · rw [if_neg k, List.filter_cons_of_neg (by simpa using k)]; simp
set_option maxRecDepth 100000 in
set_option maxHeartbeats 2000000 in
theorem rnext_any (w : World) (n m : Int) (a1 a2 a3 q1 : Option Addr) (c1 c2 c3 cq : Nat) (St Fi : List Int) (Ed : List EdT) (Q : List Int) (sym : Int) (hA : Hid (RdA w a1 a2 a3 St Fi Ed)) (hQ : Hid (RdN w q1 Q)) (h3 : Ed.length ≤ 4194304) (hq : Q.length ≤ 4194304) :
    Calls Tryz.prog 64 #[.agg #[.int .i64 n, .int .i64 m, .slice a1 St.length c1, .slice a2 Fi.length c2, .slice a3 Ed.length c3], .slice q1 Q.length cq, .int .i64 sym] w fun e w' => ∃ b c, e = .returned (.slice b (riseL (imgL false Ed Q sym)).length c) ∧ Hid (w'.ownsRow w.heap.size 3 1 (.slice b (riseL (imgL false Ed Q sym)).length c) (riseL (imgL false Ed Q sym)).length ((riseL (imgL false Ed Q sym)).map (Value.int .i64))) ∧ Below w.heap.size w w' := by
  obtain ⟨W0, hW0⟩ : ∃ W0, w.alloc (.cells #[.int .i64 n, .int .i64 m, .slice a1 St.length c1, .slice a2 Fi.length c2, .slice a3 Ed.length c3] 25) = W0 := ⟨_, rfl⟩
  have H0 : Hid (Below w.heap.size w W0 ∧ W0.heap[w.heap.size]? = some (.cells #[.int .i64 n, .int .i64 m, .slice a1 St.length c1, .slice a2 Fi.length c2, .slice a3 Ed.length c3] 25 (0, 0))) := hide ⟨by rw [← hW0]; exact alloc_below _ _, by rw [← hW0]; exact World.alloc_heap_new _ _⟩
  go_enter Tryz.func64, Tryz.ntmps64
  go_wp2_with fail
  clear hW0
  go_loopw [7, 8] (fun ov iv wr => ∃ i b c, i ≤ Ed.length ∧ ov = .slice b (riseL (imgL false (Ed.take i) Q sym)).length c ∧ iv = .int .i64 (i : Nat) ∧ Hid (wr.ownsRow w.heap.size 3 1 (.slice b (riseL (imgL false (Ed.take i) Q sym)).length c) (riseL (imgL false (Ed.take i) Q sym)).length ((riseL (imgL false (Ed.take i) Q sym)).map (Value.int .i64)) ∧ Below W0.heap.size W0 wr)) (fun _ iv _ => Ed.length - (intOf iv).toNat)
  case atStart => exact ⟨0, none, 0, Nat.zero_le _, by rw [List.take_zero, show imgL false [] Q sym = [] from rfl, rise_nil]; rfl, rfl, hide ⟨by rw [List.take_zero, show imgL false [] Q sym = [] from rfl, rise_nil]; exact World.ownsRow_nil _ _ _ _, Below.refl _ _⟩⟩
  case round =>
    obtain ⟨i, b, c, hi, rfl, rfl, HY⟩ := hrel
    have eb := blk_on H0.out.2 HY.out.2
    have y4 : wr.cell? ⟨w.heap.size, 4, none⟩ = some (.slice a3 Ed.length c3) := cell_of eb rfl
    have dw := H0.out.1.trans (HY.out.2.mono H0.out.1.size)
    clear eb
    by_cases hlt : i < Ed.length
    · have i0 : (i : Int) < (Ed.length : Int) := by omega
      have i1 : (0 : Int) ≤ (i : Int) := by omega
      have iw : IntKind.i64.wrap ((i : Int) + 1) = (i : Int) + 1 := by rw [IntKind.wrap_i64]; omega
      obtain ⟨g, o, hao, q0, q1', q2⟩ := (hA.out.e.on dw) i hlt
      subst hao
      have hlen : (riseL (imgL false (Ed.take i) Q sym)).length ≤ 4194304 := Nat.le_trans (riseL_len _) (Nat.le_trans (imgL_len _ _ _ _) (by rw [List.length_take]; omega))
      have HT := hide (imgL_take (back := false) (Q := Q) (sym := sym) hlt)
      generalize Ed[i] = x at q0 q1' q2 HT
      obtain ⟨x1, x2, x3⟩ := x
      simp only [ends] at HT
      simp only [if_false, Bool.false_eq_true] at HT
      obtain ⟨w1, hw1⟩ : ∃ w1, wr.alloc (.cells #[.int .i64 x1, .int .i64 x2, .int .i64 x3] 50) = w1 := ⟨_, rfl⟩
      have H1 : Hid (Below wr.heap.size wr w1 ∧ w1.heap[wr.heap.size]? = some (.cells #[.int .i64 x1, .int .i64 x2, .int .i64 x3] 50 (0, 0))) := hide ⟨by rw [← hw1]; exact alloc_below _ _, by rw [← hw1]; exact World.alloc_heap_new _ _⟩
      have HY1 : Hid (w1.ownsRow w.heap.size 3 1 (.slice b (riseL (imgL false (Ed.take i) Q sym)).length c) (riseL (imgL false (Ed.take i) Q sym)).length ((riseL (imgL false (Ed.take i) Q sym)).map (Value.int .i64)) ∧ Below W0.heap.size W0 w1) := hide ⟨own_below HY.out.1 H1.out.1, HY.out.2.trans (H1.out.1.mono HY.out.2.size)⟩
      have HQ1 : Hid (RdN w1 q1 Q) := hide (hQ.out.on (dw.trans (H1.out.1.mono dw.size)))
      have HSZ : Hid (w.heap.size ≤ w1.heap.size) := hide (Nat.le_trans dw.size H1.out.1.size)
      have T := with_any w1 b (riseL (imgL false (Ed.take i) Q sym)) c x3 (hide (own_rdN HY1.out.1)) hlen
      rw [with_rise] at T
      have z0 : w1.cell? ⟨wr.heap.size, 0, none⟩ = some (.int .i64 x1) := cell_of H1.out.2 rfl
      have z1 : w1.cell? ⟨wr.heap.size, 1, none⟩ = some (.int .i64 x2) := cell_of H1.out.2 rfl
      have z2 : w1.cell? ⟨wr.heap.size, 2, none⟩ = some (.int .i64 x3) := cell_of H1.out.2 rfl
      clear HY dw
      have HN : Hid (∀ x, x ∈ riseL (imgL false (Ed.take i) Q sym) → riseL (imgL false (Ed.take i) Q sym ++ [x]) = riseL (imgL false (Ed.take i) Q sym)) := hide fun x h => rise_old h
      go_upto_region 6 with fail
      clear hw1 q0 q1' q2 y4
      generalize wr.heap.size = pe at z0 z1 z2 H1 ⊢
      by_cases e1 : x2 = sym
      · by_cases e2 : x1 ∈ Q
        · rw [if_pos ⟨e1, e2⟩] at HT
          have k1 : (x2 == sym) = true := by simpa using e1
          have k2 : decide (x1 ∈ Q) = true := by simpa using e2
          by_cases e3 : x3 ∈ riseL (imgL false (Ed.take i) Q sym)
          · have HE : Hid (riseL (imgL false (Ed.take (i + 1)) Q sym) = riseL (imgL false (Ed.take i) Q sym)) := hide (by rw [HT.out]; exact HN.out _ e3)
            have k3 : decide (x3 ∈ riseL (imgL false (Ed.take i) Q sym)) = true := by simpa using e3
            clear e1 e2 e3 HT HN T
            generalize riseL (imgL false (Ed.take i) Q sym) = X at HY1 HE k3 hlen ⊢
            go_wp2_with (first
              | (go_at_call_of 65 q1; refine (in60 w1 q1 Q cq x1 (hide HQ1.out) (by omega)).mono ?_; rintro e w' ⟨rfl, hw'⟩; obtain rfl := hw'.symm; clear hw'; rw [k2])
              | (go_at_call_of 65 b; refine (in60 w1 b X c x3 (hide (own_rdN HY1.out.1)) hlen).mono ?_; rintro e w' ⟨rfl, hw'⟩; obtain rfl := hw'.symm; clear hw'; rw [k3]))
            go_roundw
            case rel => exact ⟨i + 1, b, c, by omega, by rw [HE.out], by go_num, hide ⟨by rw [HE.out]; exact HY1.out.1, HY1.out.2⟩⟩
            case measure => simp [intOf]; omega
          · have k3 : decide (x3 ∈ riseL (imgL false (Ed.take i) Q sym)) = false := by simpa using e3
            have HE := hide (congrArg riseL HT.out)
            generalize riseL (imgL false (Ed.take i) Q sym ++ [x3]) = Y at T HE
            clear e1 e2 e3 HT HN
            generalize riseL (imgL false (Ed.take i) Q sym) = X at HY1 k3 hlen T ⊢
            go_wp2_with (first
              | (go_at_call_of 65 q1; refine (in60 w1 q1 Q cq x1 (hide HQ1.out) (by omega)).mono ?_; rintro e w' ⟨rfl, hw'⟩; obtain rfl := hw'.symm; clear hw'; rw [k2])
              | (go_at_call_of 65 b; refine (in60 w1 b X c x3 (hide (own_rdN HY1.out.1)) hlen).mono ?_; rintro e w' ⟨rfl, hw'⟩; obtain rfl := hw'.symm; clear hw'; rw [k3])
              | (go_at_call 80; refine T.mono ?_; rintro e w2 ⟨b2, c2, rfl, HR, d2⟩; have HD := hide (HY1.out.2.trans (d2.mono HY1.out.2.size)); have HR2 := hide (owns_down HR.out HSZ.out); clear d2 HR))
            go_roundw
            case rel => exact ⟨i + 1, b2, c2, by omega, by rw [HE.out], by go_num, hide ⟨by rw [HE.out]; exact HR2.out, HD.out⟩⟩
            case measure => simp [intOf]; omega
        · have HE : Hid (riseL (imgL false (Ed.take (i + 1)) Q sym) = riseL (imgL false (Ed.take i) Q sym)) := hide (by rw [HT.out, if_neg fun h => e2 h.2])
          have k1 : (x2 == sym) = true := by simpa using e1
          have k2 : decide (x1 ∈ Q) = false := by simpa using e2
          clear e1 e2 HT HN T
          generalize riseL (imgL false (Ed.take i) Q sym) = X at HY1 HE hlen ⊢
          go_wp2_with (first
            | (go_at_call_of 65 q1; refine (in60 w1 q1 Q cq x1 (hide HQ1.out) (by omega)).mono ?_; rintro e w' ⟨rfl, hw'⟩; obtain rfl := hw'.symm; clear hw'; rw [k2]))
          go_roundw
          case rel => exact ⟨i + 1, b, c, by omega, by rw [HE.out], by go_num, hide ⟨by rw [HE.out]; exact HY1.out.1, HY1.out.2⟩⟩
          case measure => simp [intOf]; omega
      · have HE : Hid (riseL (imgL false (Ed.take (i + 1)) Q sym) = riseL (imgL false (Ed.take i) Q sym)) := hide (by rw [HT.out, if_neg fun h => e1 h.1])
        have k1 : (x2 == sym) = false := by simpa using e1
        clear e1 HT HN T
        generalize riseL (imgL false (Ed.take i) Q sym) = X at HY1 HE hlen ⊢
        go_wp2_with fail
        go_roundw
        case rel => exact ⟨i + 1, b, c, by omega, by rw [HE.out], by go_num, hide ⟨by rw [HE.out]; exact HY1.out.1, HY1.out.2⟩⟩
        case measure => simp [intOf]; omega
    · have i0 : ¬ (i : Int) < (Ed.length : Int) := by omega
      have etk : Ed.take i = Ed := List.take_of_length_le (by omega)
      rw [etk] at HY ⊢
      go_wp2_with fail
      refine bodyPost_ret (results_tmp rfl _ _ _) rfl ?_
      exact ⟨b, c, rfl, hide HY.out.1, dw⟩
/-- A list and an error, the list in new memory. -/
def LAns (w : World) (r : List Int × Int) (e : Ending) (w' : World) : Prop := ∃ b c, e = .returned (.tuple #[.slice b r.1.length c, .int .i64 r.2]) ∧ Hid (w'.ownsRow w.heap.size 3 1 (.slice b r.1.length c) r.1.length (r.1.map (Value.int .i64))) ∧ Below w.heap.size w w'
theorem lans_bad {w w' : World} {er : Int} {e : Ending} (he : e = .returned (.tuple #[.slice none 0 0, .int .i64 er])) (d : Below w.heap.size w w') : LAns w ([], er) e w' :=
  ⟨none, 0, he, hide (World.ownsRow_nil _ _ _ _), d⟩
set_option maxRecDepth 100000 in
set_option maxHeartbeats 2000000 in
theorem rword_any (w : World) (n m : Int) (a1 a2 a3 : Option Addr) (c1 c2 c3 : Nat) (St Fi : List Int) (Ed : List EdT) (u1 : Option Addr) (cw : Nat) (Wd : List Int) (hA : Hid (RdA w a1 a2 a3 St Fi Ed)) (hU : Hid (RdN w u1 Wd)) (h1 : St.length ≤ 4194304) (h2 : Fi.length ≤ 4194304) (h3 : Ed.length ≤ 4194304) (hw : Wd.length ≤ 4194304) :
    Calls Tryz.prog 62 #[.agg #[.int .i64 n, .int .i64 m, .slice a1 St.length c1, .slice a2 Fi.length c2, .slice a3 Ed.length c3], .slice u1 Wd.length cw] w fun e w' => e = .returned (.int .i64 (wordErr n m St Fi Ed Wd)) ∧ Below w.heap.size w w' := by
  obtain ⟨W0, hW0⟩ : ∃ W0, w.alloc (.cells #[.int .i64 n, .int .i64 m, .slice a1 St.length c1, .slice a2 Fi.length c2, .slice a3 Ed.length c3] 25) = W0 := ⟨_, rfl⟩
  have H0 : Hid (Below w.heap.size w W0 ∧ W0.heap[w.heap.size]? = some (.cells #[.int .i64 n, .int .i64 m, .slice a1 St.length c1, .slice a2 Fi.length c2, .slice a3 Ed.length c3] 25 (0, 0))) := hide ⟨by rw [← hW0]; exact alloc_below _ _, by rw [← hW0]; exact World.alloc_heap_new _ _⟩
  have y0 : W0.cell? ⟨w.heap.size, 0, none⟩ = some (.int .i64 n) := cell_of H0.out.2 rfl
  have y1 : W0.cell? ⟨w.heap.size, 1, none⟩ = some (.int .i64 m) := cell_of H0.out.2 rfl
  have y2 : W0.cell? ⟨w.heap.size, 2, none⟩ = some (.slice a1 St.length c1) := cell_of H0.out.2 rfl
  have y3 : W0.cell? ⟨w.heap.size, 3, none⟩ = some (.slice a2 Fi.length c2) := cell_of H0.out.2 rfl
  have y4 : W0.cell? ⟨w.heap.size, 4, none⟩ = some (.slice a3 Ed.length c3) := cell_of H0.out.2 rfl
  have TV := rvalid_any W0 n m a1 a2 a3 c1 c2 c3 St Fi Ed (hide (hA.out.on H0.out.1)) h1 h2 h3
  by_cases em : mayA n m St Fi Ed = true
  · rw [if_pos em] at TV
    have TB : Hid (∀ W, Below w.heap.size w W → Calls Tryz.prog 79 #[.slice u1 Wd.length cw, .int .i64 m] W fun e w' => e = .returned (.bool (Wd.all (inB m))) ∧ w' = W) := hide (fun W d => below_any W u1 Wd cw m (hide (hU.out.on d)) hw)
    have HE : Hid (wordErr n m St Fi Ed Wd = if Wd.all (inB m) then 0 else 7) := hide (by unfold wordErr; rw [if_pos em])
    clear em
    generalize Wd.all (inB m) = r at TB HE
    obtain ⟨er, he⟩ : ∃ er, wordErr n m St Fi Ed Wd = er := ⟨_, rfl⟩
    rw [he] at HE ⊢
    clear he
    cases r
    · go_enter Tryz.func62, Tryz.ntmps62
      go_wp2_with (first
        | (go_at_call 78; refine TV.mono ?_; rintro e w1 ⟨rfl, d1⟩; have H1 := hide (And.intro (H0.out.1.trans (d1.mono H0.out.1.size)) (blk_on H0.out.2 d1)); clear d1 y0 y1 y2 y3 y4; have y0 : w1.cell? ⟨w.heap.size, 0, none⟩ = some (.int .i64 n) := cell_of H1.out.2 rfl; have y1 : w1.cell? ⟨w.heap.size, 1, none⟩ = some (.int .i64 m) := cell_of H1.out.2 rfl; have y2 : w1.cell? ⟨w.heap.size, 2, none⟩ = some (.slice a1 St.length c1) := cell_of H1.out.2 rfl; have y3 : w1.cell? ⟨w.heap.size, 3, none⟩ = some (.slice a2 Fi.length c2) := cell_of H1.out.2 rfl; have y4 : w1.cell? ⟨w.heap.size, 4, none⟩ = some (.slice a3 Ed.length c3) := cell_of H1.out.2 rfl)
        | (go_at_call 79; refine (TB.out w1 H1.out.1).mono ?_; rintro e w2 ⟨rfl, hw2⟩; obtain rfl := hw2.symm; clear hw2))
      refine bodyPost_ret (results_tmp rfl _ _ _) rfl ?_
      exact ⟨by rw [HE.out]; rfl, H1.out.1⟩
    · go_enter Tryz.func62, Tryz.ntmps62
      go_wp2_with (first
        | (go_at_call 78; refine TV.mono ?_; rintro e w1 ⟨rfl, d1⟩; have H1 := hide (And.intro (H0.out.1.trans (d1.mono H0.out.1.size)) (blk_on H0.out.2 d1)); clear d1 y0 y1 y2 y3 y4; have y0 : w1.cell? ⟨w.heap.size, 0, none⟩ = some (.int .i64 n) := cell_of H1.out.2 rfl; have y1 : w1.cell? ⟨w.heap.size, 1, none⟩ = some (.int .i64 m) := cell_of H1.out.2 rfl; have y2 : w1.cell? ⟨w.heap.size, 2, none⟩ = some (.slice a1 St.length c1) := cell_of H1.out.2 rfl; have y3 : w1.cell? ⟨w.heap.size, 3, none⟩ = some (.slice a2 Fi.length c2) := cell_of H1.out.2 rfl; have y4 : w1.cell? ⟨w.heap.size, 4, none⟩ = some (.slice a3 Ed.length c3) := cell_of H1.out.2 rfl)
        | (go_at_call 79; refine (TB.out w1 H1.out.1).mono ?_; rintro e w2 ⟨rfl, hw2⟩; obtain rfl := hw2.symm; clear hw2))
      refine bodyPost_ret (results_tmp rfl _ _ _) rfl ?_
      exact ⟨by rw [HE.out]; rfl, H1.out.1⟩
  · rw [if_neg em] at TV
    have HE : Hid (wordErr n m St Fi Ed Wd = 2) := hide (by unfold wordErr; rw [if_neg em])
    clear em
    go_enter Tryz.func62, Tryz.ntmps62
    go_wp2_with (go_at_call 78; refine TV.mono ?_; rintro e w1 ⟨rfl, d1⟩; have H1 := hide d1; clear d1)
    refine bodyPost_ret (results_tmp rfl _ _ _) rfl ?_
    exact ⟨by rw [HE.out]; rfl, H0.out.1.trans (H1.out.mono H0.out.1.size)⟩
/-- Where a word leads from a rising list. -/
def aftL (Ed : List EdT) (S : List Int) (Wd : List Int) : List Int := Wd.foldl (fun S y => riseL (imgL false Ed S y)) S
theorem aftL_take {Ed : List EdT} {S Wd : List Int} {i : Nat} (h : i < Wd.length) : aftL Ed S (Wd.take (i + 1)) = riseL (imgL false Ed (aftL Ed S (Wd.take i)) Wd[i]) := by
  unfold aftL
  rw [List.take_succ_eq_append_getElem h, List.foldl_append]
  rfl
theorem aftL_len {Ed : List EdT} {S Wd : List Int} (hs : S.length ≤ 4194304) (h3 : Ed.length ≤ 4194304) : (aftL Ed S Wd).length ≤ 4194304 := by
  rcases Wd.eq_nil_or_concat with rfl | ⟨l, y, rfl⟩
  · exact hs
  · unfold aftL
    rw [List.concat_eq_append, List.foldl_append]
    exact Nat.le_trans (riseL_len _) (Nat.le_trans (imgL_len _ _ _ _) h3)
def aftA (n m : Int) (St Fi : List Int) (Ed : List EdT) (Wd : List Int) : List Int × Int := if wordErr n m St Fi Ed Wd = 0 then (aftL Ed (riseL St) Wd, 0) else ([], wordErr n m St Fi Ed Wd)
set_option maxRecDepth 100000 in
set_option maxHeartbeats 2000000 in
theorem rafter_any (w : World) (n m : Int) (a1 a2 a3 : Option Addr) (c1 c2 c3 : Nat) (St Fi : List Int) (Ed : List EdT) (u1 : Option Addr) (cw : Nat) (Wd : List Int) (hA : Hid (RdA w a1 a2 a3 St Fi Ed)) (hU : Hid (RdN w u1 Wd)) (h1 : St.length ≤ 4194304) (h2 : Fi.length ≤ 4194304) (h3 : Ed.length ≤ 4194304) (hw : Wd.length ≤ 4194304) :
    Calls Tryz.prog 42 #[.agg #[.int .i64 n, .int .i64 m, .slice a1 St.length c1, .slice a2 Fi.length c2, .slice a3 Ed.length c3], .slice u1 Wd.length cw] w (LAns w (aftA n m St Fi Ed Wd)) := by
  obtain ⟨W0, hW0⟩ : ∃ W0, w.alloc (.cells #[.int .i64 n, .int .i64 m, .slice a1 St.length c1, .slice a2 Fi.length c2, .slice a3 Ed.length c3] 25) = W0 := ⟨_, rfl⟩
  have H0 : Hid (Below w.heap.size w W0 ∧ W0.heap[w.heap.size]? = some (.cells #[.int .i64 n, .int .i64 m, .slice a1 St.length c1, .slice a2 Fi.length c2, .slice a3 Ed.length c3] 25 (0, 0))) := hide ⟨by rw [← hW0]; exact alloc_below _ _, by rw [← hW0]; exact World.alloc_heap_new _ _⟩
  have y0 : W0.cell? ⟨w.heap.size, 0, none⟩ = some (.int .i64 n) := cell_of H0.out.2 rfl
  have y1 : W0.cell? ⟨w.heap.size, 1, none⟩ = some (.int .i64 m) := cell_of H0.out.2 rfl
  have y2 : W0.cell? ⟨w.heap.size, 2, none⟩ = some (.slice a1 St.length c1) := cell_of H0.out.2 rfl
  have y3 : W0.cell? ⟨w.heap.size, 3, none⟩ = some (.slice a2 Fi.length c2) := cell_of H0.out.2 rfl
  have y4 : W0.cell? ⟨w.heap.size, 4, none⟩ = some (.slice a3 Ed.length c3) := cell_of H0.out.2 rfl
  have TA := rword_any W0 n m a1 a2 a3 c1 c2 c3 St Fi Ed u1 cw Wd (hide (hA.out.on H0.out.1)) (hide (hU.out.on H0.out.1)) h1 h2 h3 hw
  unfold aftA
  by_cases e0 : wordErr n m St Fi Ed Wd = 0
  · rw [if_pos e0]
    rw [e0] at TA
    clear e0
    have TN : Hid (∀ W b c X x, Below w.heap.size w W → RdN W b X → X.length ≤ 4194304 → Calls Tryz.prog 64 #[.agg #[.int .i64 n, .int .i64 m, .slice a1 St.length c1, .slice a2 Fi.length c2, .slice a3 Ed.length c3], .slice b X.length c, .int .i64 x] W fun e w' => ∃ b c, e = .returned (.slice b (riseL (imgL false Ed X x)).length c) ∧ Hid (w'.ownsRow W.heap.size 3 1 (.slice b (riseL (imgL false Ed X x)).length c) (riseL (imgL false Ed X x)).length ((riseL (imgL false Ed X x)).map (Value.int .i64))) ∧ Below W.heap.size W w') := hide (fun W b c X x d hx hl => rnext_any W n m a1 a2 a3 b c1 c2 c3 c St Fi Ed X x (hide (hA.out.on d)) (hide hx) h3 hl)
    have HRS : Hid ((riseL St).length ≤ 4194304) := hide (Nat.le_trans (riseL_len St) h1)
    have SB : Hid (∀ W, Below W0.heap.size W0 W → (fun W => W.cell? ⟨w.heap.size, 0, none⟩ = some (.int .i64 n) ∧ W.cell? ⟨w.heap.size, 1, none⟩ = some (.int .i64 m) ∧ W.cell? ⟨w.heap.size, 2, none⟩ = some (.slice a1 St.length c1) ∧ W.cell? ⟨w.heap.size, 3, none⟩ = some (.slice a2 Fi.length c2) ∧ W.cell? ⟨w.heap.size, 4, none⟩ = some (.slice a3 Ed.length c3)) W) := hide (fun W d => by
      have e := blk_on H0.out.2 d
      exact ⟨cell_of e rfl, cell_of e rfl, cell_of e rfl, cell_of e rfl, cell_of e rfl⟩)
    go_enter Tryz.func42, Tryz.ntmps42
    go_wp2_with (first
      | (go_at_call 62; refine TA.mono ?_; rintro e w1 ⟨rfl, d1⟩; have H1 := hide d1; clear d1 y0 y1 y2 y3 y4; obtain ⟨y0, y1, y2, y3, y4⟩ := SB.out w1 H1.out)
      | (go_at_call 63; refine (set_any w1 a1 St c1 (hide (hA.out.s.on (H0.out.1.trans (H1.out.mono H0.out.1.size)))) h1).mono ?_; rintro e w2 ⟨b0, c0, rfl, HO, d2⟩; have H2 := hide (And.intro (owns_down HO.out (Nat.le_trans H0.out.1.size H1.out.size)) (H1.out.trans (d2.mono H1.out.size))); clear d2 HO y0 y1 y2 y3 y4))
    clear hW0
    go_loopw [7, 8] (fun ov iv wr => ∃ i b c, i ≤ Wd.length ∧ ov = .slice b (aftL Ed (riseL St) (Wd.take i)).length c ∧ iv = .int .i64 (i : Nat) ∧ Hid (wr.ownsRow w.heap.size 3 1 (.slice b (aftL Ed (riseL St) (Wd.take i)).length c) (aftL Ed (riseL St) (Wd.take i)).length ((aftL Ed (riseL St) (Wd.take i)).map (Value.int .i64)) ∧ Below W0.heap.size W0 wr)) (fun _ iv _ => Wd.length - (intOf iv).toNat)
    case atStart => exact ⟨0, b0, c0, Nat.zero_le _, rfl, rfl, hide ⟨H2.out.1, H2.out.2⟩⟩
    case round =>
      obtain ⟨i, b, c, hi, rfl, rfl, HY⟩ := hrel
      by_cases hlt : i < Wd.length
      · have i0 : (i : Int) < (Wd.length : Int) := by omega
        have i1 : (0 : Int) ≤ (i : Int) := by omega
        have iw : IntKind.i64.wrap ((i : Int) + 1) = (i : Int) + 1 := by rw [IntKind.wrap_i64]; omega
        have HDW := hide (H0.out.1.trans (HY.out.2.mono H0.out.1.size))
        obtain ⟨gu, ou, hao, q⟩ := (hU.out.on HDW.out) i hlt
        subst hao
        have hlen : (aftL Ed (riseL St) (Wd.take i)).length ≤ 4194304 := aftL_len HRS.out h3
        have HE := hide (aftL_take (Ed := Ed) (S := riseL St) hlt)
        generalize Wd[i] = x at q HE
        generalize aftL Ed (riseL St) (Wd.take i) = X at HY hlen HE ⊢
        have SQ : Hid (∀ W, Below wr.heap.size wr W → W.cell? ⟨gu, ou + i, none⟩ = some (.int .i64 x)) := hide (fun W d => (d.cell (p := ⟨gu, ou + i, none⟩) (World.block_lt_of_cell? wr _ q)).trans q)
        have SX : Hid (∀ W, Below wr.heap.size wr W → (fun W => (fun W => W.cell? ⟨w.heap.size, 0, none⟩ = some (.int .i64 n) ∧ W.cell? ⟨w.heap.size, 1, none⟩ = some (.int .i64 m) ∧ W.cell? ⟨w.heap.size, 2, none⟩ = some (.slice a1 St.length c1) ∧ W.cell? ⟨w.heap.size, 3, none⟩ = some (.slice a2 Fi.length c2) ∧ W.cell? ⟨w.heap.size, 4, none⟩ = some (.slice a3 Ed.length c3)) W ∧ W.cell? ⟨gu, ou + i, none⟩ = some (.int .i64 x)) W) := hide (fun W d => ⟨SB.out W (HY.out.2.trans (d.mono HY.out.2.size)), SQ.out W d⟩)
        have HX := hide (own_rdN HY.out.1)
        have S0 := SX.out wr.drew (Below.refl _ _).drew
        clear q
        go_upto_region 8 with fail
        go_region_held3 (fun W => (fun W => W.cell? ⟨w.heap.size, 0, none⟩ = some (.int .i64 n) ∧ W.cell? ⟨w.heap.size, 1, none⟩ = some (.int .i64 m) ∧ W.cell? ⟨w.heap.size, 2, none⟩ = some (.slice a1 St.length c1) ∧ W.cell? ⟨w.heap.size, 3, none⟩ = some (.slice a2 Fi.length c2) ∧ W.cell? ⟨w.heap.size, 4, none⟩ = some (.slice a3 Ed.length c3)) W ∧ W.cell? ⟨gu, ou + i, none⟩ = some (.int .i64 x))
          (with_reducible assumption)
          ((go_at_call 64; refine (TN.out _ _ _ _ _ HDW.out.drew (HX.out.on (Below.refl _ wr).drew) hlen).mono ?_; rintro e w3 ⟨b2, c2, rfl, HO, d3⟩; have D3 : Below wr.heap.size wr w3 := ⟨d3.os, d3.tape, d3.output, d3.size, d3.block⟩; have S3 := SX.out w3 D3; have HD3 := hide D3; clear d3 D3))
        clear S0 S3
        go_wp2_with fail
        go_roundw
        case rel => exact ⟨i + 1, b2, c2, by omega, by rw [HE.out], by go_num, hide ⟨by rw [HE.out]; exact owns_down HO.out HDW.out.size, HY.out.2.trans (HD3.out.mono HY.out.2.size)⟩⟩
        case measure => simp [intOf]; omega
      · have i0 : ¬ (i : Int) < (Wd.length : Int) := by omega
        have etk : Wd.take i = Wd := List.take_of_length_le (by omega)
        rw [etk] at HY ⊢
        go_wp2_with fail
        go_ret2
        exact ⟨b, c, rfl, hide HY.out.1, H0.out.1.trans (HY.out.2.mono H0.out.1.size)⟩
  · rw [if_neg e0]
    generalize wordErr n m St Fi Ed Wd = er at e0 TA ⊢
    have e1 : (er != 0) = true := by simpa using e0
    clear e0
    go_enter Tryz.func42, Tryz.ntmps42
    go_wp2_with (go_at_call 62; refine TA.mono ?_; rintro e w1 ⟨rfl, d1⟩; have H1 := hide (H0.out.1.trans (d1.mono H0.out.1.size)); clear d1)
    go_ret2
    exact lans_bad rfl H1.out
/-- Whether a word is taken, or the error. -/
def accA (n m : Int) (St Fi : List Int) (Ed : List EdT) (Wd : List Int) : Bool × Int := ((aftA n m St Fi Ed Wd).1.any fun x => decide (x ∈ Fi), (aftA n m St Fi Ed Wd).2)
theorem aftA_len {n m : Int} {St Fi : List Int} {Ed : List EdT} {Wd : List Int} (h1 : St.length ≤ 4194304) (h3 : Ed.length ≤ 4194304) : (aftA n m St Fi Ed Wd).1.length ≤ 4194304 := by
  unfold aftA
  by_cases e0 : wordErr n m St Fi Ed Wd = 0
  · rw [if_pos e0]; exact aftL_len (Nat.le_trans (riseL_len St) h1) h3
  · rw [if_neg e0]; exact Nat.zero_le _
set_option maxRecDepth 100000 in
set_option maxHeartbeats 2000000 in
theorem raccepts_any (w : World) (n m : Int) (a1 a2 a3 : Option Addr) (c1 c2 c3 : Nat) (St Fi : List Int) (Ed : List EdT) (u1 : Option Addr) (cw : Nat) (Wd : List Int) (hA : Hid (RdA w a1 a2 a3 St Fi Ed)) (hU : Hid (RdN w u1 Wd)) (h1 : St.length ≤ 4194304) (h2 : Fi.length ≤ 4194304) (h3 : Ed.length ≤ 4194304) (hw : Wd.length ≤ 4194304) :
    Calls Tryz.prog 23 #[.agg #[.int .i64 n, .int .i64 m, .slice a1 St.length c1, .slice a2 Fi.length c2, .slice a3 Ed.length c3], .slice u1 Wd.length cw] w fun e w' => e = .returned (.tuple #[.bool (accA n m St Fi Ed Wd).1, .int .i64 (accA n m St Fi Ed Wd).2]) ∧ Below w.heap.size w w' := by
  obtain ⟨W0, hW0⟩ : ∃ W0, w.alloc (.cells #[.int .i64 n, .int .i64 m, .slice a1 St.length c1, .slice a2 Fi.length c2, .slice a3 Ed.length c3] 25) = W0 := ⟨_, rfl⟩
  have H0 : Hid (Below w.heap.size w W0 ∧ W0.heap[w.heap.size]? = some (.cells #[.int .i64 n, .int .i64 m, .slice a1 St.length c1, .slice a2 Fi.length c2, .slice a3 Ed.length c3] 25 (0, 0))) := hide ⟨by rw [← hW0]; exact alloc_below _ _, by rw [← hW0]; exact World.alloc_heap_new _ _⟩
  have y0 : W0.cell? ⟨w.heap.size, 0, none⟩ = some (.int .i64 n) := cell_of H0.out.2 rfl
  have y1 : W0.cell? ⟨w.heap.size, 1, none⟩ = some (.int .i64 m) := cell_of H0.out.2 rfl
  have y2 : W0.cell? ⟨w.heap.size, 2, none⟩ = some (.slice a1 St.length c1) := cell_of H0.out.2 rfl
  have y3 : W0.cell? ⟨w.heap.size, 3, none⟩ = some (.slice a2 Fi.length c2) := cell_of H0.out.2 rfl
  have y4 : W0.cell? ⟨w.heap.size, 4, none⟩ = some (.slice a3 Ed.length c3) := cell_of H0.out.2 rfl
  have TA := rafter_any W0 n m a1 a2 a3 c1 c2 c3 St Fi Ed u1 cw Wd (hide (hA.out.on H0.out.1)) (hide (hU.out.on H0.out.1)) h1 h2 h3 hw
  have hlen := aftA_len (n := n) (m := m) (Fi := Fi) (Wd := Wd) h1 h3
  unfold accA
  generalize aftA n m St Fi Ed Wd = r at TA hlen ⊢
  obtain ⟨L, er⟩ := r
  have HF : Hid (∀ W, Below w.heap.size w W → RdN W a2 Fi) := hide (fun W d => hA.out.f.on d)
  obtain ⟨k, hk⟩ : ∃ k, (L.any fun x => decide (x ∈ Fi)) = k := ⟨_, rfl⟩
  have HK := hide hk
  simp only [hk]
  clear hk
  go_enter Tryz.func23, Tryz.ntmps23
  go_wp2_with (first
    | (go_at_call 42; refine TA.mono ?_; rintro e w1 ⟨b, c, rfl, HO, d1⟩; have H1 := hide (And.intro (H0.out.1.trans (d1.mono H0.out.1.size)) (blk_on H0.out.2 d1)); clear d1 y0 y1 y2 y3 y4; have y0 : w1.cell? ⟨w.heap.size, 0, none⟩ = some (.int .i64 n) := cell_of H1.out.2 rfl; have y1 : w1.cell? ⟨w.heap.size, 1, none⟩ = some (.int .i64 m) := cell_of H1.out.2 rfl; have y2 : w1.cell? ⟨w.heap.size, 2, none⟩ = some (.slice a1 St.length c1) := cell_of H1.out.2 rfl; have y3 : w1.cell? ⟨w.heap.size, 3, none⟩ = some (.slice a2 Fi.length c2) := cell_of H1.out.2 rfl; have y4 : w1.cell? ⟨w.heap.size, 4, none⟩ = some (.slice a3 Ed.length c3) := cell_of H1.out.2 rfl)
    | (go_at_call 43; refine (meets18 w1 b a2 L Fi c c2 (hide (own_rdN HO.out)) (hide (HF.out w1 H1.out.1)) hlen h2).mono ?_; rintro e w2 ⟨rfl, hw2⟩; obtain rfl := hw2.symm; clear hw2; rw [HK.out]))
  go_ret2
  exact ⟨rfl, H1.out.1⟩
/-! ### The law's takes and symbols -/
def tkF (n m : Int) (St Fi : List Int) (Ed : List EdT) (Wd : List Int) : Bool := (accA n m St Fi Ed Wd).1 && decide ((accA n m St Fi Ed Wd).2 = 0)
set_option maxRecDepth 100000 in
set_option maxHeartbeats 2000000 in
theorem ltakes_any (w : World) (n m : Int) (a1 a2 a3 : Option Addr) (c1 c2 c3 : Nat) (St Fi : List Int) (Ed : List EdT) (u1 : Option Addr) (cw : Nat) (Wd : List Int) (hA : Hid (RdA w a1 a2 a3 St Fi Ed)) (hU : Hid (RdN w u1 Wd)) (h1 : St.length ≤ 4194304) (h2 : Fi.length ≤ 4194304) (h3 : Ed.length ≤ 4194304) (hw : Wd.length ≤ 4194304) :
    Calls Tryz.prog 7 #[.agg #[.int .i64 n, .int .i64 m, .slice a1 St.length c1, .slice a2 Fi.length c2, .slice a3 Ed.length c3], .slice u1 Wd.length cw] w fun e w' => e = .returned (.bool (tkF n m St Fi Ed Wd)) ∧ Below w.heap.size w w' := by
  obtain ⟨W0, hW0⟩ : ∃ W0, w.alloc (.cells #[.int .i64 n, .int .i64 m, .slice a1 St.length c1, .slice a2 Fi.length c2, .slice a3 Ed.length c3] 25) = W0 := ⟨_, rfl⟩
  have HB : Hid (W0.heap[w.heap.size]? = some (.cells #[.int .i64 n, .int .i64 m, .slice a1 St.length c1, .slice a2 Fi.length c2, .slice a3 Ed.length c3] 25 (0, 0)) ∧ Below w.heap.size w W0) := hide (by rw [← hW0]; exact ⟨World.alloc_heap_new _ _, (Below.refl _ _).alloc (Nat.le_refl _) _⟩)
  have T := raccepts_any W0 n m a1 a2 a3 c1 c2 c3 St Fi Ed u1 cw Wd (hide (hA.out.on HB.out.2)) (hide (hU.out.on HB.out.2)) h1 h2 h3 hw
  unfold tkF
  generalize accA n m St Fi Ed Wd = r at T ⊢
  obtain ⟨bb, er⟩ := r
  simp only at T ⊢
  have y0 : W0.cell? ⟨w.heap.size, 0, none⟩ = some (.int .i64 n) := cell_of HB.out.1 rfl
  have y1 : W0.cell? ⟨w.heap.size, 1, none⟩ = some (.int .i64 m) := cell_of HB.out.1 rfl
  have y2 : W0.cell? ⟨w.heap.size, 2, none⟩ = some (.slice a1 St.length c1) := cell_of HB.out.1 rfl
  have y3 : W0.cell? ⟨w.heap.size, 3, none⟩ = some (.slice a2 Fi.length c2) := cell_of HB.out.1 rfl
  have y4 : W0.cell? ⟨w.heap.size, 4, none⟩ = some (.slice a3 Ed.length c3) := cell_of HB.out.1 rfl
  cases bb
  · go_enter Tryz.func7, Tryz.ntmps7
    go_wp2_with (go_at_call 23; refine T.mono ?_; rintro e w1 ⟨rfl, D1⟩; have H1 := hide D1; clear D1)
    go_ret
    exact ⟨rfl, HB.out.2.trans (H1.out.mono HB.out.2.size)⟩
  · by_cases he : er = 0
    · subst he
      go_enter Tryz.func7, Tryz.ntmps7
      go_wp2_with (go_at_call 23; refine T.mono ?_; rintro e w1 ⟨rfl, D1⟩; have H1 := hide D1; clear D1)
      go_ret
      exact ⟨rfl, HB.out.2.trans (H1.out.mono HB.out.2.size)⟩
    · have he2 : (er == 0) = false := by simpa using he
      have HE := hide (decide_eq_false he)
      clear he
      go_enter Tryz.func7, Tryz.ntmps7
      go_wp2_with (go_at_call 23; refine T.mono ?_; rintro e w1 ⟨rfl, D1⟩; have H1 := hide D1; clear D1)
      go_ret
      exact ⟨by rw [HE.out]; rfl, HB.out.2.trans (H1.out.mono HB.out.2.size)⟩
set_option maxRecDepth 100000 in
set_option maxHeartbeats 2000000 in
theorem lsyms_any (w : World) (u1 : Option Addr) (cw : Nat) (L : List Int) (m : Int) (hr : Hid (RdN w u1 L)) (hl : L.length ≤ 4194304) :
    Calls Tryz.prog 8 #[.slice u1 L.length cw, .int .i64 m] w fun e w' => e = .returned (.bool (L.all (inB m))) ∧ Below w.heap.size w w' := by
  obtain ⟨n, hn⟩ : ∃ n, n = L.length := ⟨_, rfl⟩
  have HL := hide hn
  rw [← hn]
  rw [← hn] at hl
  clear hn
  go_enter Tryz.func8, Tryz.ntmps8
  go_wp2_with fail
  go_loopw [8] (fun iv wr => ∃ i : Nat, i ≤ n ∧ iv = .int .i64 i ∧ Hid ((L.take i).all (inB m) = true ∧ Below w.heap.size w wr)) (fun iv _ => n - (intOf iv).toNat)
  case atStart => exact ⟨0, Nat.zero_le _, rfl, hide ⟨by simp, Below.refl _ _⟩⟩
  case round =>
    obtain ⟨i, hi, rfl, HY⟩ := hrel
    by_cases hil : i < n
    · have i0 : (0 : Int) ≤ (i : Int) := by omega
      have i1 : (i : Int) < (n : Int) := by omega
      have hi2 : i < L.length := by rw [← HL.out]; exact hil
      obtain ⟨g, o, rfl, c⟩ := (hr.out.on HY.out.2) i hi2
      have HT := hide (show L.take (i + 1) = L.take i ++ [L[i]] by rw [List.take_add_one, List.getElem?_eq_getElem hi2]; rfl)
      have HM := hide (List.getElem_mem hi2)
      generalize L[i] = x at c HT HM
      by_cases x0 : x < 0
      · have JN : Hid (L.all (inB m) = false) := hide (List.all_eq_false.2 ⟨x, HM.out, by rw [inB_not.2 (by omega)]; simp⟩)
        go_wp2_with fail
        go_ret
        exact ⟨by rw [JN.out]; rfl, HY.out.2⟩
      · by_cases x1 : m ≤ x
        · have JN : Hid (L.all (inB m) = false) := hide (List.all_eq_false.2 ⟨x, HM.out, by rw [inB_not.2 (by omega)]; simp⟩)
          go_wp2_with fail
          go_ret
          exact ⟨by rw [JN.out]; rfl, HY.out.2⟩
        · have JY : Hid (inB m x = true) := hide (inB_iff.2 (by omega))
          go_wp2_with fail
          go_roundw
          case rel => exact ⟨i + 1, by omega, by go_num, hide ⟨by rw [HT.out, List.all_append, HY.out.1]; simp [JY.out], HY.out.2⟩⟩
          case measure => simp [intOf]; omega
    · have i1 : ¬ (i : Int) < (n : Int) := by omega
      have J : Hid (L.all (inB m) = true) := hide (by
        have := HY.out.1
        rwa [List.take_of_length_le (by have := HL.out; omega)] at this)
      go_wp2_with fail
      go_ret
      exact ⟨by rw [J.out]; rfl, HY.out.2⟩
/-! ### The law's some: the states that some lead to -/
/-- Rising, and states. -/
def UpN (N : Nat) (l : List Int) : Prop := l.Pairwise (· < ·) ∧ ∀ x ∈ l, 0 ≤ x ∧ x < (N : Int)
theorem up_len : ∀ (l : List Int) (a b : Int), l.Pairwise (· < ·) → (∀ x ∈ l, a ≤ x ∧ x < b) → l.length ≤ (b - a).toNat
  | [], _, _, _, _ => Nat.zero_le _
  | x :: l, a, b, hp, hx => by
    have h1 := hx x (by simp)
    have h2 := up_len l (x + 1) b (List.pairwise_cons.1 hp).2 (fun y hy => ⟨(List.pairwise_cons.1 hp).1 y hy, (hx y (by simp [hy])).2⟩)
    rw [List.length_cons]
    omega
theorem UpN.len {N : Nat} {l : List Int} (h : UpN N l) : l.length ≤ N := by
  have := up_len l 0 N h.1 h.2
  omega
theorem upN_rise {N : Nat} {L : List Int} (h : ∀ x ∈ L, 0 ≤ x ∧ x < (N : Int)) : UpN N (riseL L) := ⟨riseL_ss L, fun x hx => h x ((riseL_iff L x).1 hx)⟩
/-! ### Concat of two automata -/
theorem nat_in {N : Nat} {L : List Int} (h : ∀ x ∈ L, 0 ≤ x ∧ x < (N : Int)) : ∀ x ∈ L, ∃ q : Nat, q < N ∧ x = (q : Int) := fun x hx => ⟨x.toNat, by have := h x hx; omega, by have := h x hx; omega⟩
end Go.Proofs.YtchoopnjckcohaaGreat
