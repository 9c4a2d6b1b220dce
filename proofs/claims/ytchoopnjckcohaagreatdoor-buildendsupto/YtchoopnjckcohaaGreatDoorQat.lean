import Derived.Test.YtchoopnjckcohaaGreatDoorQas
import Derived.Test.YtchoopnjckcohaaGreatDoorQap
import Derived.Test.YtchoopnjckcohaaGreatDoorQak
import Derived.Test.YtchoopnjckcohaaGreatDoorQam
import Derived.Test.YtchoopnjckcohaaGreatDoorQao
import Derived.Laws.IdiomStrings
namespace Go.Proofs.YtchoopnjckcohaaGreatDoor
open Go.RowKit Go.Maps Go.Shelf
attribute [local go_sem] Oper.semAt_some

/-! ### Concat, where neither takes the empty word -/
theorem none_zero {w : World} {B n k sz : Nat} {e : TypeId} {b : Option Addr} {xs : List Value} (h : w.ownsRow B e sz (.slice b n k) n xs) (hb : b = none) : k = 0 := by
  rcases h.2 with ⟨hv, _⟩ | ⟨g, cap, cur, hv, _⟩
  · cases hv; rfl
  · cases hv; cases hb
theorem rd_mov {W : World} {B u : Nat} {b : Int} {t : Option Addr} {F : List Int} (h : W.ownsRow B 3 1 (.slice t F.length u) F.length ((movN F b).map (Value.int .i64))) : RdN W t (movN F b) := by
  rw [← movN_len F b] at h
  exact own_rdN h
def cMv (N M m : Nat) (S F : List Int) (E : List EdT) : MkP := fun x _ _ W => ∃ t1 u1 t2 u2 t3 u3, x = .agg #[.int .i64 ((M : Int) + (N : Int)), .int .i64 (m : Int), .slice t1 S.length u1, .slice t2 F.length u2, .slice t3 E.length u3] ∧ OwnO 0 W (.slice t1 S.length u1) (.slice t2 F.length u2) (.slice t3 E.length u3) (movN S N) (movN F N) (movE E N)
theorem cMv_mono {N M m : Nat} {S F : List Int} {E : List EdT} : MonoP (cMv N M m S F E) := fun _ _ _ _ _ _ d ⟨t1, u1, t2, u2, t3, u3, e, h⟩ => ⟨t1, u1, t2, u2, t3, u3, e, h.on d⟩
def cBh (N M m g1 k1 n1 : Nat) (F : List Int) (EE : List EdT) : MkP := fun x _ _ W => ∃ t2 u2 z5 d5, x = .tuple #[.agg #[.int .i64 ((M : Int) + (N : Int)), .int .i64 (m : Int), .slice (some ⟨g1, 0, none⟩) n1 k1, .slice t2 F.length u2, .slice z5 EE.length d5], .int .i64 0] ∧ W.ownsRow 0 3 1 (.slice t2 F.length u2) F.length ((movN F N).map (Value.int .i64)) ∧ W.ownsRow 0 61 3 (.slice z5 EE.length d5) EE.length (EE.flatMap encE)
theorem cBh_mono {N M m g1 k1 n1 : Nat} {F : List Int} {EE : List EdT} : MonoP (cBh N M m g1 k1 n1 F EE) := fun _ _ _ _ _ _ d ⟨t2, u2, z5, d5, e, h, h'⟩ => ⟨t2, u2, z5, d5, e, own_below h d, own_below h' d⟩
def cEx (N M m g1 k1 n1 : Nat) (F : List Int) (EE : List EdT) : MkP := fun x _ _ W => ∃ t2 u2 z5 d5, x = .agg #[.int .i64 ((M : Int) + (N : Int)), .int .i64 (m : Int), .slice (some ⟨g1, 0, none⟩) n1 k1, .slice t2 F.length u2, .slice z5 EE.length d5] ∧ W.ownsRow 0 3 1 (.slice t2 F.length u2) F.length ((movN F N).map (Value.int .i64)) ∧ W.ownsRow 0 61 3 (.slice z5 EE.length d5) EE.length (EE.flatMap encE)
theorem cEx_mono {N M m g1 k1 n1 : Nat} {F : List Int} {EE : List EdT} : MonoP (cEx N M m g1 k1 n1 F EE) := fun _ _ _ _ _ _ d ⟨t2, u2, z5, d5, e, h, h'⟩ => ⟨t2, u2, z5, d5, e, own_below h d, own_below h' d⟩
set_option maxRecDepth 100000 in
set_option maxHeartbeats 4000000 in
theorem concat_no (w : World) (N M m : Nat) (a1 a2 a3 b1 b2 b3 : Option Addr) (c1 c2 c3 d1 d2 d3 : Nat) (Sa Fa Sb Fb : List Int) (Ea Eb : List EdT) (hA : Hid (RdA w a1 a2 a3 Sa Fa Ea)) (hB : Hid (RdA w b1 b2 b3 Sb Fb Eb)) (h1 : Sa.length ≤ 2000000) (h2 : Fa.length ≤ 2000000) (h3 : Ea.length ≤ 2000000) (h4 : Sb.length ≤ 2000000) (h5 : Fb.length ≤ 2000000) (h6 : Eb.length ≤ 2000000) (em : mayA (N : Int) (m : Int) Sa Fa Ea = true) (em' : mayA (M : Int) (m : Int) Sb Fb Eb = true) (hNM : N + M ≤ 4096) (hm : m ≤ 128)
    (hl : Hid ((riseL Sa).length ≤ 2000000 ∧ (riseL Fa).length ≤ 2000000 ∧ (riseE Ea).length ≤ 2000000 ∧ (riseL Sb).length ≤ 2000000 ∧ (riseL Fb).length ≤ 2000000 ∧ (riseE Eb).length ≤ 2000000))
    (hS : Hid (SsE (riseE Ea))) (hF : Hid (∀ e ∈ riseE Ea, (0 ≤ e.1 ∧ e.1 < (N : Int)) ∧ (0 ≤ e.2.1 ∧ e.2.1 < (m : Int)) ∧ (0 ≤ e.2.2 ∧ e.2.2 < (N : Int)))) (hSa : Hid (∀ x ∈ riseL Sa, ∃ q : Nat, q < N ∧ x = (q : Int))) (hFa : Hid (∀ x ∈ riseL Fa, ∃ q : Nat, q < N ∧ x = (q : Int))) (hSb : Hid (∀ x ∈ riseL Sb, ∃ q : Nat, q < M ∧ x = (q : Int))) (hFb : Hid (∀ x ∈ riseL Fb, ∃ q : Nat, q < M ∧ x = (q : Int))) (hEb : Hid (∀ e ∈ riseE Eb, (0 ≤ e.1 ∧ e.1 ≤ 4096) ∧ 0 ≤ e.2.2 ∧ e.2.2 ≤ 4096))
    (hle : (brL (riseE Ea) (riseL Fa) (movN (riseL Sb) N) m N).length + (riseE Eb).length ≤ 65536) (emA : Hid (emptB (riseL Sa) (riseL Fa) = false)) (emB : Hid (emptB (movN (riseL Sb) N) (movN (riseL Fb) N) = false)) :
    Calls Tryz.prog 21 #[.agg #[.int .i64 (N : Int), .int .i64 (m : Int), .slice a1 Sa.length c1, .slice a2 Fa.length c2, .slice a3 Ea.length c3], .agg #[.int .i64 (M : Int), .int .i64 (m : Int), .slice b1 Sb.length d1, .slice b2 Fb.length d2, .slice b3 Eb.length d3]] w fun e w' => ∃ g1 k1 t2 u2 z5 d5, e = .returned (.tuple #[.agg #[.int .i64 ((M : Int) + (N : Int)), .int .i64 (m : Int), .slice (some ⟨g1, 0, none⟩) (riseL Sa).length k1, .slice t2 (riseL Fb).length u2, .slice z5 (brL (riseE Ea) (riseL Fa) (movN (riseL Sb) N) m N ++ movE (riseE Eb) N).length d5], .int .i64 0]) ∧ Hid (RdA w' (some ⟨g1, 0, none⟩) t2 z5 (riseL Sa) (movN (riseL Fb) N) (brL (riseE Ea) (riseL Fa) (movN (riseL Sb) N) m N ++ movE (riseE Eb) N) ∧ Below w.heap.size w w') := by
  obtain ⟨W0, hW0⟩ : ∃ W0, ((w.alloc (.cells #[.int .i64 (N : Int), .int .i64 (m : Int), .slice a1 Sa.length c1, .slice a2 Fa.length c2, .slice a3 Ea.length c3] 25)).alloc (.cells #[.int .i64 (M : Int), .int .i64 (m : Int), .slice b1 Sb.length d1, .slice b2 Fb.length d2, .slice b3 Eb.length d3] 25)).alloc (.cells #[.int .i64 0, .int .i64 0, .slice none 0 0, .slice none 0 0, .slice none 0 0] 25) = W0 := ⟨_, rfl⟩
  have HD := hide (box3b w #[.int .i64 (N : Int), .int .i64 (m : Int), .slice a1 Sa.length c1, .slice a2 Fa.length c2, .slice a3 Ea.length c3] #[.int .i64 (M : Int), .int .i64 (m : Int), .slice b1 Sb.length d1, .slice b2 Fb.length d2, .slice b3 Eb.length d3] #[.int .i64 0, .int .i64 0, .slice none 0 0, .slice none 0 0, .slice none 0 0] 25)
  rw [hW0] at HD
  have TB := both_ok W0 (N : Int) (m : Int) (M : Int) a1 a2 a3 b1 b2 b3 c1 c2 c3 d1 d2 d3 Sa Fa Sb Fb Ea Eb (hide (hA.out.on HD.out.1)) (hide (hB.out.on HD.out.1)) (by omega) (by omega) (by omega) (by omega) (by omega) (by omega) em em'
  clear em em'
  generalize riseL Sa = S1 at *
  generalize riseL Fa = F1 at *
  generalize riseE Ea = E1 at *
  generalize riseL Sb = S2 at *
  generalize riseL Fb = F2 at *
  generalize riseE Eb = E2 at *
  obtain ⟨EE, hEE⟩ : ∃ EE, brL E1 F1 (movN S2 N) m N ++ movE E2 N = EE := ⟨_, rfl⟩
  rw [hEE]
  have HE := hide hEE
  clear hEE
  have jn : ¬ (4096 : Int) < (N : Int) + (M : Int) := by omega
  have ew : IntKind.i64.wrap ((N : Int) + (M : Int)) = (N : Int) + (M : Int) := by rw [IntKind.wrap_i64]; omega
  have y0 : W0.cell? ⟨w.heap.size, 0, none⟩ = some (.int .i64 (N : Int)) := cell_of HD.out.2.1 rfl
  have x0 : W0.cell? ⟨w.heap.size + 1, 0, none⟩ = some (.int .i64 (M : Int)) := cell_of HD.out.2.2.1 rfl
  have y1 : W0.cell? ⟨w.heap.size, 1, none⟩ = some (.int .i64 (m : Int)) := cell_of HD.out.2.1 rfl
  have x1 : W0.cell? ⟨w.heap.size + 1, 1, none⟩ = some (.int .i64 (m : Int)) := cell_of HD.out.2.2.1 rfl
  have y2 : W0.cell? ⟨w.heap.size, 2, none⟩ = some (.slice a1 Sa.length c1) := cell_of HD.out.2.1 rfl
  have x2 : W0.cell? ⟨w.heap.size + 1, 2, none⟩ = some (.slice b1 Sb.length d1) := cell_of HD.out.2.2.1 rfl
  have y3 : W0.cell? ⟨w.heap.size, 3, none⟩ = some (.slice a2 Fa.length c2) := cell_of HD.out.2.1 rfl
  have x3 : W0.cell? ⟨w.heap.size + 1, 3, none⟩ = some (.slice b2 Fb.length d2) := cell_of HD.out.2.2.1 rfl
  have y4 : W0.cell? ⟨w.heap.size, 4, none⟩ = some (.slice a3 Ea.length c3) := cell_of HD.out.2.1 rfl
  have x4 : W0.cell? ⟨w.heap.size + 1, 4, none⟩ = some (.slice b3 Eb.length d3) := cell_of HD.out.2.2.1 rfl
  go_enter Tryz.func21, Tryz.ntmps21
  go_upto_region 4 with (go_at_call 55; refine TB.mono ?_; rintro e w1 ⟨g1, k1, g2, k2, g3, k3, r1, q1, r2, q2, r3, q3, rfl, H1⟩)
  clear TB y0 x0 y1 x1 y2 x2 y3 x3 y4 x4
  obtain ⟨W1, hW1⟩ : ∃ W1, (w1.alloc (.cells #[.int .i64 (N : Int), .int .i64 (m : Int), .slice (some ⟨g1, 0, none⟩) S1.length k1, .slice (some ⟨g2, 0, none⟩) F1.length k2, .slice (some ⟨g3, 0, none⟩) E1.length k3] 25)).alloc (.cells #[.int .i64 (M : Int), .int .i64 (m : Int), .slice (some ⟨r1, 0, none⟩) S2.length q1, .slice (some ⟨r2, 0, none⟩) F2.length q2, .slice (some ⟨r3, 0, none⟩) E2.length q3] 25) = W1 := ⟨_, rfl⟩
  have HW : Hid (W1.heap[w1.heap.size]? = some (.cells #[.int .i64 (N : Int), .int .i64 (m : Int), .slice (some ⟨g1, 0, none⟩) S1.length k1, .slice (some ⟨g2, 0, none⟩) F1.length k2, .slice (some ⟨g3, 0, none⟩) E1.length k3] 25 (0, 0)) ∧ W1.heap[w1.heap.size + 1]? = some (.cells #[.int .i64 (M : Int), .int .i64 (m : Int), .slice (some ⟨r1, 0, none⟩) S2.length q1, .slice (some ⟨r2, 0, none⟩) F2.length q2, .slice (some ⟨r3, 0, none⟩) E2.length q3] 25 (0, 0)) ∧ W1.heap[w.heap.size + 1 + 1]? = some (.cells #[.int .i64 0, .int .i64 0, .slice none 0 0, .slice none 0 0, .slice none 0 0] 25 (0, 0)) ∧ w.heap.size + 3 ≤ W1.heap.size ∧ Below w.heap.size w W1) := hide (by
    have q := box2 w1 #[.int .i64 (N : Int), .int .i64 (m : Int), .slice (some ⟨g1, 0, none⟩) S1.length k1, .slice (some ⟨g2, 0, none⟩) F1.length k2, .slice (some ⟨g3, 0, none⟩) E1.length k3] #[.int .i64 (M : Int), .int .i64 (m : Int), .slice (some ⟨r1, 0, none⟩) S2.length q1, .slice (some ⟨r2, 0, none⟩) F2.length q2, .slice (some ⟨r3, 0, none⟩) E2.length q3] 25
    rw [hW1] at q
    have s := HD.out.2.2.2.2
    have d2 := H1.out.2.2.trans (q.1.mono H1.out.2.2.size)
    exact ⟨q.2.1, q.2.2.1, blk_on HD.out.2.2.2.1 d2, by have := d2.size; omega, HD.out.1.trans (d2.mono HD.out.1.size)⟩)
  have HX : Hid (OwnO 0 W1 (.slice (some ⟨g1, 0, none⟩) S1.length k1) (.slice (some ⟨g2, 0, none⟩) F1.length k2) (.slice (some ⟨g3, 0, none⟩) E1.length k3) S1 F1 E1) := hide (by
    have q := box2 w1 #[.int .i64 (N : Int), .int .i64 (m : Int), .slice (some ⟨g1, 0, none⟩) S1.length k1, .slice (some ⟨g2, 0, none⟩) F1.length k2, .slice (some ⟨g3, 0, none⟩) E1.length k3] #[.int .i64 (M : Int), .int .i64 (m : Int), .slice (some ⟨r1, 0, none⟩) S2.length q1, .slice (some ⟨r2, 0, none⟩) F2.length q2, .slice (some ⟨r3, 0, none⟩) E2.length q3] 25
    rw [hW1] at q
    exact (H1.out.1.on q.1).down (Nat.zero_le _))
  have HY : Hid (OwnO 0 W1 (.slice (some ⟨r1, 0, none⟩) S2.length q1) (.slice (some ⟨r2, 0, none⟩) F2.length q2) (.slice (some ⟨r3, 0, none⟩) E2.length q3) S2 F2 E2) := hide (by
    have q := box2 w1 #[.int .i64 (N : Int), .int .i64 (m : Int), .slice (some ⟨g1, 0, none⟩) S1.length k1, .slice (some ⟨g2, 0, none⟩) F1.length k2, .slice (some ⟨g3, 0, none⟩) E1.length k3] #[.int .i64 (M : Int), .int .i64 (m : Int), .slice (some ⟨r1, 0, none⟩) S2.length q1, .slice (some ⟨r2, 0, none⟩) F2.length q2, .slice (some ⟨r3, 0, none⟩) E2.length q3] 25
    rw [hW1] at q
    exact (H1.out.2.1.on q.1).down (Nat.zero_le _))
  rw [hW1]
  clear hW1 H1
  have x0 : W1.cell? ⟨w1.heap.size, 0, none⟩ = some (.int .i64 (N : Int)) := cell_of HW.out.1 rfl
  have y0 : W1.cell? ⟨w1.heap.size + 1, 0, none⟩ = some (.int .i64 (M : Int)) := cell_of HW.out.2.1 rfl
  have x1 : W1.cell? ⟨w1.heap.size, 1, none⟩ = some (.int .i64 (m : Int)) := cell_of HW.out.1 rfl
  have y1 : W1.cell? ⟨w1.heap.size + 1, 1, none⟩ = some (.int .i64 (m : Int)) := cell_of HW.out.2.1 rfl
  have x2 : W1.cell? ⟨w1.heap.size, 2, none⟩ = some (.slice (some ⟨g1, 0, none⟩) S1.length k1) := cell_of HW.out.1 rfl
  have y2 : W1.cell? ⟨w1.heap.size + 1, 2, none⟩ = some (.slice (some ⟨r1, 0, none⟩) S2.length q1) := cell_of HW.out.2.1 rfl
  have x3 : W1.cell? ⟨w1.heap.size, 3, none⟩ = some (.slice (some ⟨g2, 0, none⟩) F1.length k2) := cell_of HW.out.1 rfl
  have y3 : W1.cell? ⟨w1.heap.size + 1, 3, none⟩ = some (.slice (some ⟨r2, 0, none⟩) F2.length q2) := cell_of HW.out.2.1 rfl
  have x4 : W1.cell? ⟨w1.heap.size, 4, none⟩ = some (.slice (some ⟨g3, 0, none⟩) E1.length k3) := cell_of HW.out.1 rfl
  have y4 : W1.cell? ⟨w1.heap.size + 1, 4, none⟩ = some (.slice (some ⟨r3, 0, none⟩) E2.length q3) := cell_of HW.out.2.1 rfl
  go_upto_region 6 with fail
  clear y0 x0 y1 x1 y2 x2 y3 x3 y4 x4
  have T4 : Hid (∀ W, Below W1.heap.size W1 W → Calls Tryz.prog 50 #[.agg #[.int .i64 (M : Int), .int .i64 (m : Int), .slice (some ⟨r1, 0, none⟩) S2.length q1, .slice (some ⟨r2, 0, none⟩) F2.length q2, .slice (some ⟨r3, 0, none⟩) E2.length q3], .int .i64 (N : Int)] W fun e w' => ∃ t1 u1 t2 u2 t3 u3, e = .returned (.agg #[.int .i64 ((M : Int) + (N : Int)), .int .i64 (m : Int), .slice t1 S2.length u1, .slice t2 F2.length u2, .slice t3 E2.length u3]) ∧ Hid (OwnO W.heap.size w' (.slice t1 S2.length u1) (.slice t2 F2.length u2) (.slice t3 E2.length u3) (movN S2 N) (movN F2 N) (movE E2 N) ∧ Below W.heap.size W w')) := hide (fun W d => moved_any W M S2.length F2.length E2.length (m : Int) (N : Int) _ _ _ q1 q2 q3 S2 F2 E2 rfl rfl rfl (hide (HY.out.on d).rd) hl.out.2.2.2.1 hl.out.2.2.2.2.1 hl.out.2.2.2.2.2 (by omega) (by omega) (hide (fun x hx => by obtain ⟨q, h, rfl⟩ := hSb.out x hx; omega)) (hide (fun x hx => by obtain ⟨q, h, rfl⟩ := hFb.out x hx; omega)) hEb)
  have T5 : Hid (∀ W, Below W1.heap.size W1 W → ∀ t1 u1 t2 u2 t3 u3, OwnO 0 W (.slice t1 S2.length u1) (.slice t2 F2.length u2) (.slice t3 E2.length u3) (movN S2 N) (movN F2 N) (movE E2 N) → Calls Tryz.prog 56 #[.agg #[.int .i64 (N : Int), .int .i64 (m : Int), .slice (some ⟨g1, 0, none⟩) S1.length k1, .slice (some ⟨g2, 0, none⟩) F1.length k2, .slice (some ⟨g3, 0, none⟩) E1.length k3], .agg #[.int .i64 ((M : Int) + (N : Int)), .int .i64 (m : Int), .slice t1 S2.length u1, .slice t2 F2.length u2, .slice t3 E2.length u3]] W fun e w' => ∃ z5 d5, e = .returned (.tuple #[.agg #[.int .i64 ((M : Int) + (N : Int)), .int .i64 (m : Int), .slice (some ⟨g1, 0, none⟩) S1.length k1, .slice t2 F2.length u2, .slice z5 EE.length d5], .int .i64 0]) ∧ Hid (w'.ownsRow W.heap.size 61 3 (.slice z5 EE.length d5) EE.length (EE.flatMap encE) ∧ Below W.heap.size W w')) := hide (fun W d t1 u1 t2 u2 t3 u3 ho => by
    have L1 := movN_len S2 (N : Int)
    have L2 := movN_len F2 (N : Int)
    have L3 := movE_len E2 (N : Int)
    have rd : RdA W t1 t2 t3 (movN S2 N) (movN F2 N) (movE E2 N) := by
      have q := ho
      rw [← L1, ← L2, ← L3] at q
      exact q.rd
    have mvb : ∀ {L : List Int}, (∀ x ∈ L, ∃ q : Nat, q < M ∧ x = (q : Int)) → ∀ x ∈ movN L (N : Int), ∃ q : Nat, q < M + N ∧ x = (q : Int) := fun h x hx => by
      unfold movN at hx
      rw [List.mem_map] at hx
      obtain ⟨y, hy, rfl⟩ := hx
      obtain ⟨q, hq, rfl⟩ := h y hy
      exact ⟨q + N, by omega, by omega⟩
    have T := behind_no W N m S1.length F1.length E1.length S2.length F2.length E2.length ((M : Int) + (N : Int)) (m : Int) _ _ _ t1 t2 t3 k1 k2 k3 u1 u2 u3 S1 F1 (movN S2 N) (movN F2 N) E1 (movE E2 N) (hide ⟨rfl, rfl, rfl, L1, L2, L3⟩) (hide (HX.out.on d).rd) (hide rd) (fun e => none_zero (by have q := ho.s; rw [L1] at q; exact q) e) (by omega) hm hl.out.1 hl.out.2.1 hl.out.2.2.1 hl.out.2.2.2.1 hl.out.2.2.2.2.1 hl.out.2.2.2.2.2 hS hF hFa (fun e => none_zero (by have q := ho.e; rw [L3] at q; exact q) e) (by omega) hle hSa (M + N) (hide (by omega)) (by omega) (hide (mvb hSb.out)) (hide (mvb hFb.out)) emA emB
    rw [HE.out] at T
    exact T)
  have hmo : MonIL 0 [vI 0 (.agg #[.int .i64 (N : Int), .int .i64 (m : Int), .slice (some ⟨g1, 0, none⟩) S1.length k1, .slice (some ⟨g2, 0, none⟩) F1.length k2, .slice (some ⟨g3, 0, none⟩) E1.length k3]), vI 1 (.agg #[.int .i64 (M : Int), .int .i64 (m : Int), .slice (some ⟨r1, 0, none⟩) S2.length q1, .slice (some ⟨r2, 0, none⟩) F2.length q2, .slice (some ⟨r3, 0, none⟩) E2.length q3]), vI 2 (.pointer (some ⟨w1.heap.size, 0, none⟩)), vI 3 (.int .i64 (N : Int)), pI 4 (cMv N M m S2 F2 E2), pI 5 (cBh N M m g1 k1 S1.length F2 EE), pI 6 (cEx N M m g1 k1 S1.length F2 EE), vI 7 (.int .i64 0)] := ⟨vI_mono _ _, vI_mono _ _, vI_mono _ _, vI_mono _ _, pI_mono cMv_mono, pI_mono cBh_mono, pI_mono cEx_mono, vI_mono _ _, trivial⟩
  refine wp_region_sl [vI 0 (.agg #[.int .i64 (N : Int), .int .i64 (m : Int), .slice (some ⟨g1, 0, none⟩) S1.length k1, .slice (some ⟨g2, 0, none⟩) F1.length k2, .slice (some ⟨g3, 0, none⟩) E1.length k3]), vI 1 (.agg #[.int .i64 (M : Int), .int .i64 (m : Int), .slice (some ⟨r1, 0, none⟩) S2.length q1, .slice (some ⟨r2, 0, none⟩) F2.length q2, .slice (some ⟨r3, 0, none⟩) E2.length q3]), vI 2 (.pointer (some ⟨w1.heap.size, 0, none⟩)), vI 3 (.int .i64 (N : Int)), pI 4 (cMv N M m S2 F2 E2), pI 5 (cBh N M m g1 k1 S1.length F2 EE), pI 6 (cEx N M m g1 k1 S1.length F2 EE), vI 7 (.int .i64 0)] (by kernel_rfl) (by kernel_rfl) (by kernel_rfl) (by kernel_rfl) hmo ⟨?o0, ?o1, ?o2, ?o3, ?o4, ?o5, ?o6, ?o7, trivial⟩ ?fin
  case o0 =>
    intro At yy W hy hb d hd K hK
    have s6 : At.tmps.getD 6 undef = .pointer (some ⟨w1.heap.size, 0, none⟩) := hb 6 rfl
    have s6' := s6
    rw [Array.getD_eq_getD_getElem?] at s6'
    clear hd hy hb
    have bxX := blk_on HW.out.1 d
    have bxY := blk_on HW.out.2.1 d
    have x0 : W.cell? ⟨w1.heap.size, 0, none⟩ = some (.int .i64 (N : Int)) := cell_of bxX rfl
    have x1 : W.cell? ⟨w1.heap.size, 1, none⟩ = some (.int .i64 (m : Int)) := cell_of bxX rfl
    have x2 : W.cell? ⟨w1.heap.size, 2, none⟩ = some (.slice (some ⟨g1, 0, none⟩) S1.length k1) := cell_of bxX rfl
    have x3 : W.cell? ⟨w1.heap.size, 3, none⟩ = some (.slice (some ⟨g2, 0, none⟩) F1.length k2) := cell_of bxX rfl
    have x4 : W.cell? ⟨w1.heap.size, 4, none⟩ = some (.slice (some ⟨g3, 0, none⟩) E1.length k3) := cell_of bxX rfl
    have y0 : W.cell? ⟨w1.heap.size + 1, 0, none⟩ = some (.int .i64 (M : Int)) := cell_of bxY rfl
    have y1 : W.cell? ⟨w1.heap.size + 1, 1, none⟩ = some (.int .i64 (m : Int)) := cell_of bxY rfl
    have y2 : W.cell? ⟨w1.heap.size + 1, 2, none⟩ = some (.slice (some ⟨r1, 0, none⟩) S2.length q1) := cell_of bxY rfl
    have y3 : W.cell? ⟨w1.heap.size + 1, 3, none⟩ = some (.slice (some ⟨r2, 0, none⟩) F2.length q2) := cell_of bxY rfl
    have y4 : W.cell? ⟨w1.heap.size + 1, 4, none⟩ = some (.slice (some ⟨r3, 0, none⟩) E2.length q3) := cell_of bxY rfl
    clear bxX bxY
    go_simp
    exact hK.out _ W (stp_of hmo d (Below.refl _ _)) (if_pos rfl)
  case o1 =>
    intro At yy W hy hb d hd K hK
    have s7 : At.tmps.getD 7 undef = .pointer (some ⟨w1.heap.size + 1, 0, none⟩) := hb 7 rfl
    have s7' := s7
    rw [Array.getD_eq_getD_getElem?] at s7'
    clear hd hy hb
    have bxX := blk_on HW.out.1 d
    have bxY := blk_on HW.out.2.1 d
    have x0 : W.cell? ⟨w1.heap.size, 0, none⟩ = some (.int .i64 (N : Int)) := cell_of bxX rfl
    have x1 : W.cell? ⟨w1.heap.size, 1, none⟩ = some (.int .i64 (m : Int)) := cell_of bxX rfl
    have x2 : W.cell? ⟨w1.heap.size, 2, none⟩ = some (.slice (some ⟨g1, 0, none⟩) S1.length k1) := cell_of bxX rfl
    have x3 : W.cell? ⟨w1.heap.size, 3, none⟩ = some (.slice (some ⟨g2, 0, none⟩) F1.length k2) := cell_of bxX rfl
    have x4 : W.cell? ⟨w1.heap.size, 4, none⟩ = some (.slice (some ⟨g3, 0, none⟩) E1.length k3) := cell_of bxX rfl
    have y0 : W.cell? ⟨w1.heap.size + 1, 0, none⟩ = some (.int .i64 (M : Int)) := cell_of bxY rfl
    have y1 : W.cell? ⟨w1.heap.size + 1, 1, none⟩ = some (.int .i64 (m : Int)) := cell_of bxY rfl
    have y2 : W.cell? ⟨w1.heap.size + 1, 2, none⟩ = some (.slice (some ⟨r1, 0, none⟩) S2.length q1) := cell_of bxY rfl
    have y3 : W.cell? ⟨w1.heap.size + 1, 3, none⟩ = some (.slice (some ⟨r2, 0, none⟩) F2.length q2) := cell_of bxY rfl
    have y4 : W.cell? ⟨w1.heap.size + 1, 4, none⟩ = some (.slice (some ⟨r3, 0, none⟩) E2.length q3) := cell_of bxY rfl
    clear bxX bxY
    go_simp
    exact hK.out _ W (stp_of hmo d (Below.refl _ _)) (if_pos rfl)
  case o2 =>
    intro At yy W hy hb d hd K hK
    have s6 : At.tmps.getD 6 undef = .pointer (some ⟨w1.heap.size, 0, none⟩) := hb 6 rfl
    have s6' := s6
    rw [Array.getD_eq_getD_getElem?] at s6'
    clear hd hy hb
    go_simp
    exact hK.out _ W (stp_of hmo d (Below.refl _ _)) (if_pos rfl)
  case o3 =>
    intro At yy W hy hb d hd K hK
    have e2 : yy 2 = .pointer (some ⟨w1.heap.size, 0, none⟩) := by obtain ⟨_, _, _, _, e⟩ := hd ⟨2, .data⟩ (by simp) rfl rfl; exact e
    have s29 := (hy 2 _ 29 rfl rfl).trans e2
    have s29' := s29
    rw [Array.getD_eq_getD_getElem?] at s29'
    clear hd hy hb
    have bxX := blk_on HW.out.1 d
    have bxY := blk_on HW.out.2.1 d
    have x0 : W.cell? ⟨w1.heap.size, 0, none⟩ = some (.int .i64 (N : Int)) := cell_of bxX rfl
    have x1 : W.cell? ⟨w1.heap.size, 1, none⟩ = some (.int .i64 (m : Int)) := cell_of bxX rfl
    have x2 : W.cell? ⟨w1.heap.size, 2, none⟩ = some (.slice (some ⟨g1, 0, none⟩) S1.length k1) := cell_of bxX rfl
    have x3 : W.cell? ⟨w1.heap.size, 3, none⟩ = some (.slice (some ⟨g2, 0, none⟩) F1.length k2) := cell_of bxX rfl
    have x4 : W.cell? ⟨w1.heap.size, 4, none⟩ = some (.slice (some ⟨g3, 0, none⟩) E1.length k3) := cell_of bxX rfl
    have y0 : W.cell? ⟨w1.heap.size + 1, 0, none⟩ = some (.int .i64 (M : Int)) := cell_of bxY rfl
    have y1 : W.cell? ⟨w1.heap.size + 1, 1, none⟩ = some (.int .i64 (m : Int)) := cell_of bxY rfl
    have y2 : W.cell? ⟨w1.heap.size + 1, 2, none⟩ = some (.slice (some ⟨r1, 0, none⟩) S2.length q1) := cell_of bxY rfl
    have y3 : W.cell? ⟨w1.heap.size + 1, 3, none⟩ = some (.slice (some ⟨r2, 0, none⟩) F2.length q2) := cell_of bxY rfl
    have y4 : W.cell? ⟨w1.heap.size + 1, 4, none⟩ = some (.slice (some ⟨r3, 0, none⟩) E2.length q3) := cell_of bxY rfl
    clear bxX bxY
    go_simp
    exact hK.out _ W (stp_of hmo d (Below.refl _ _)) (if_pos rfl)
  case o4 =>
    intro At yy W hy hb d hd K hK
    have e1 : yy 1 = .agg #[.int .i64 (M : Int), .int .i64 (m : Int), .slice (some ⟨r1, 0, none⟩) S2.length q1, .slice (some ⟨r2, 0, none⟩) F2.length q2, .slice (some ⟨r3, 0, none⟩) E2.length q3] := by obtain ⟨_, _, _, _, e⟩ := hd ⟨1, .data⟩ (by simp) rfl rfl; exact e
    have e3 : yy 3 = .int .i64 (N : Int) := by obtain ⟨_, _, _, _, e⟩ := hd ⟨3, .data⟩ (by simp) rfl rfl; exact e
    have s28 := (hy 1 _ 28 rfl rfl).trans e1
    have s28' := s28
    rw [Array.getD_eq_getD_getElem?] at s28'
    have s30 := (hy 3 _ 30 rfl rfl).trans e3
    have s30' := s30
    rw [Array.getD_eq_getD_getElem?] at s30'
    clear hd hy hb
    go_simp
    go_wp2_with (go_at_call 50; refine (T4.out _ d).mono ?_; rintro e wa ⟨t1, u1, t2, u2, t3, u3, rfl, hR⟩)
    exact hK.out _ wa (stp_of hmo d hR.out.2) ⟨t1, u1, t2, u2, t3, u3, if_pos rfl, hR.out.1.down (Nat.zero_le _)⟩
  case o5 =>
    intro At yy W hy hb d hd K hK
    have e0 : yy 0 = .agg #[.int .i64 (N : Int), .int .i64 (m : Int), .slice (some ⟨g1, 0, none⟩) S1.length k1, .slice (some ⟨g2, 0, none⟩) F1.length k2, .slice (some ⟨g3, 0, none⟩) E1.length k3] := by obtain ⟨_, _, _, _, e⟩ := hd ⟨0, .data⟩ (by simp) rfl rfl; exact e
    have f4 := hd ⟨4, .data⟩ (by simp) rfl rfl
    obtain ⟨_, _, _, _, t1, u1, t2, u2, t3, u3, e4, h4⟩ := f4
    have s27 := (hy 0 _ 27 rfl rfl).trans e0
    have s27' := s27
    rw [Array.getD_eq_getD_getElem?] at s27'
    have s31 := (hy 4 _ 31 rfl rfl).trans e4
    have s31' := s31
    rw [Array.getD_eq_getD_getElem?] at s31'
    clear hd hy hb
    go_simp
    go_wp2_with (go_at_call 56; refine (T5.out _ d t1 u1 t2 u2 t3 u3 h4).mono ?_; rintro e wa ⟨z5, d5, rfl, hR⟩)
    exact hK.out _ wa (stp_of hmo d hR.out.2) ⟨t2, u2, z5, d5, if_pos rfl, own_below (by have q := h4.f; rw [movN_len] at q; exact q) hR.out.2, owns_down hR.out.1 (Nat.zero_le _)⟩
  case o6 =>
    intro At yy W hy hb d hd K hK
    have f5 := hd ⟨5, .data⟩ (by simp) rfl rfl
    obtain ⟨_, _, _, _, t2, u2, z5, d5, e5, h5, h5'⟩ := f5
    have s32 := (hy 5 _ 32 rfl rfl).trans e5
    have s32' := s32
    rw [Array.getD_eq_getD_getElem?] at s32'
    clear hd hy hb
    go_simp
    exact hK.out _ W (stp_of hmo d (Below.refl _ _)) ⟨t2, u2, z5, d5, if_pos rfl, h5, h5'⟩
  case o7 =>
    intro At yy W hy hb d hd K hK
    have f5 := hd ⟨5, .data⟩ (by simp) rfl rfl
    obtain ⟨_, _, _, _, t2, u2, z5, d5, e5, _, _⟩ := f5
    have s32 := (hy 5 _ 32 rfl rfl).trans e5
    have s32' := s32
    rw [Array.getD_eq_getD_getElem?] at s32'
    clear hd hy hb
    go_simp
    exact hK.out _ W (stp_of hmo d (Below.refl _ _)) (if_pos rfl)
  case fin =>
    intro yy lo hi W hM
    show wpList _ _ _ [_, _] _ _
    have e0 : yy 0 = .agg #[.int .i64 (N : Int), .int .i64 (m : Int), .slice (some ⟨g1, 0, none⟩) S1.length k1, .slice (some ⟨g2, 0, none⟩) F1.length k2, .slice (some ⟨g3, 0, none⟩) E1.length k3] := hM.fact 0 (by simp) rfl (notR_all 0 rfl)
    have e1 : yy 1 = .agg #[.int .i64 (M : Int), .int .i64 (m : Int), .slice (some ⟨r1, 0, none⟩) S2.length q1, .slice (some ⟨r2, 0, none⟩) F2.length q2, .slice (some ⟨r3, 0, none⟩) E2.length q3] := hM.fact 1 (by simp) rfl (notR_all 1 rfl)
    have e2 : yy 2 = .pointer (some ⟨w1.heap.size, 0, none⟩) := hM.fact 2 (by simp) rfl (notR_all 2 rfl)
    have e3 : yy 3 = .int .i64 (N : Int) := hM.fact 3 (by simp) rfl (notR_all 3 rfl)
    have e7 : yy 7 = .int .i64 0 := hM.fact 7 (by simp) rfl (notR_all 7 rfl)
    obtain ⟨t2, u2, z5, d5, e6, h6, h6'⟩ := hM.fact 6 (by simp) rfl (notR_all 6 rfl)
    obtain ⟨t1', u1', t2', u2', t3', u3', e4, _⟩ := hM.fact 4 (by simp) rfl (notR_all 4 rfl)
    obtain ⟨t2', u2', z5', d5', e5, _, _⟩ := hM.fact 5 (by simp) rfl (notR_all 5 rfl)
    have HDD := hide hM.d
    simp only [fills, Act.put, List.take, List.length, List.setIfInBounds_toArray, List.set_cons_zero, List.set_cons_succ, e0, e1, e2, e3, e7, e4, e5, e6]
    clear hM hmo e0 e1 e2 e3 e7 e4 e5 e6
    have F4 := blk_on HW.out.2.2.1 HDD.out
    have o0 : W.cell? ⟨w.heap.size + 1 + 1, 0, none⟩ = some (.int .i64 0) := cell_of F4 rfl
    have o1 : W.cell? ⟨w.heap.size + 1 + 1, 1, none⟩ = some (.int .i64 0) := cell_of F4 rfl
    have o2 : W.cell? ⟨w.heap.size + 1 + 1, 2, none⟩ = some (.slice none 0 0) := cell_of F4 rfl
    have o3 : W.cell? ⟨w.heap.size + 1 + 1, 3, none⟩ = some (.slice none 0 0) := cell_of F4 rfl
    have o4 : W.cell? ⟨w.heap.size + 1 + 1, 4, none⟩ = some (.slice none 0 0) := cell_of F4 rfl
    have g0' : W.frozen? ⟨w.heap.size + 1 + 1, 0, none⟩ = false := fz_of F4
    have g1' : W.frozen? ⟨w.heap.size + 1 + 1, 1, none⟩ = false := fz_of F4
    have g2' : W.frozen? ⟨w.heap.size + 1 + 1, 2, none⟩ = false := fz_of F4
    have g3' : W.frozen? ⟨w.heap.size + 1 + 1, 3, none⟩ = false := fz_of F4
    have g4' : W.frozen? ⟨w.heap.size + 1 + 1, 4, none⟩ = false := fz_of F4
    have O6 := hide (And.intro (set5 W (w.heap.size + 1 + 1) _ _ _ _ _ (.int .i64 ((M : Int) + (N : Int))) (.int .i64 (m : Int)) (.slice (some ⟨g1, 0, none⟩) S1.length k1) (.slice t2 F2.length u2) (.slice z5 EE.length d5) 25 F4) (only5 W (w.heap.size + 1 + 1) (.int .i64 ((M : Int) + (N : Int))) (.int .i64 (m : Int)) (.slice (some ⟨g1, 0, none⟩) S1.length k1) (.slice t2 F2.length u2) (.slice z5 EE.length d5)))
    have HO := hide (And.intro (own_keep h6 F4 (by decide) O6.out.2) (And.intro (own_keep h6' F4 (by decide) O6.out.2) (own_keep (own_below HX.out.s HDD.out) F4 (by decide) O6.out.2)))
    clear F4 h6 h6'
    go_wp2_with fail
    refine bodyPost_ret (results_c1 (p := 4) (q := 5) (ty := 25) rfl _ _ (w.heap.size + 1 + 1) 25 _ (0, 0) _ _ rfl rfl O6.out.1 Tryz.underlying25 rfl (by kernel_rfl)) rfl ?_
    have s1 := HDD.out.size
    have s2 := HW.out.2.2.2.1
    have dw := HW.out.2.2.2.2
    exact ⟨g1, k1, t2, u2, z5, d5, rfl, hide ⟨⟨own_rdN HO.out.2.2, rd_mov HO.out.1, own_rdE HO.out.2.1⟩, (dw.trans (HDD.out.mono dw.size)).trans (O6.out.2.toBelow (by omega) (fun k hk => by omega))⟩⟩
end Go.Proofs.YtchoopnjckcohaaGreatDoor
namespace Go.Proofs.YtchoopnjckcohaaGreatDoor
open Go.RowKit Go.Maps Go.Shelf
attribute [local go_sem] Oper.semAt_some

/-! ### One: the automaton of one word -/
def oneE (L : List Int) : List EdT := L.zipIdx.map fun p => ((p.2 : Int), p.1, (p.2 : Int) + 1)
theorem oneE_len (L : List Int) : (oneE L).length = L.length := by simp [oneE]
theorem oneE_snoc (L : List Int) (i : Nat) (h : i < L.length) : oneE (L.take (i + 1)) = oneE (L.take i) ++ [((i : Int), L[i], (i : Int) + 1)] := by
  unfold oneE
  rw [List.take_succ_eq_append_getElem h, List.zipIdx_append, List.map_append]
  have : (L.take i).length = i := by rw [List.length_take]; omega
  simp [this]
theorem own_one {W : World} {B g : Nat} {x : Value} (h : W.heap[g]? = some (.cells #[x] 3 (0, 0))) (hB : B ≤ g) : W.ownsRow B 3 1 (.slice (some ⟨g, 0, none⟩) 1 1) 1 [x] :=
  ⟨by simp, .inr ⟨g, 1, #[x], rfl, hB, h, Nat.le_refl _, by unfold maxLen; omega, by simp, by simp⟩⟩
theorem mvA_put {w wr wa w5 : World} {p : Nat} {n m : Int} {v1 v2 v3 v5 : Value} {S F : List Int} {X Y : List EdT} (h : MvA w wr p n m v1 v2 v3 S F X) (d1 : Below wr.heap.size wr wa) (o : w5.ownsRow w.heap.size 61 3 v5 Y.length (Y.flatMap encE)) (oo : Only wa w5 (fun k => v3.ownBlock = some k)) :
    w5.heap[p]? = some (.cells #[.int .i64 n, .int .i64 m, v1, v2, v3] 25 (0, 0)) ∧ MvA w (w5.setCell ⟨p, 4, none⟩ v5) p n m v1 v2 v5 S F Y := by
  have s2 := own_below h.ow.s d1
  have f2 := own_below h.ow.f d1
  have e2 := own_below h.ow.e d1
  have b2 := blk_on h.bx d1
  have b5 := (oo.block p (Array.getElem?_eq_some_iff.1 b2).1 (fun hk => row_tag e2 b2 (by decide) hk)).trans b2
  have s5 := row_only s2 oo (fun k hk hk2 => rows_differ e2 s2 (by decide) hk2 hk)
  have f5 := row_only f2 oo (fun k hk hk2 => rows_differ e2 f2 (by decide) hk2 hk)
  have o2 := only_set w5 p 4 v5
  have dd := h.be.trans (d1.mono h.be.size)
  have d5 := dd.trans (oo.toBelow dd.size (fun k hk => (e2.lt k hk).1))
  exact ⟨b5, heap_setCell_same _ _ 4 _ 25 _ b5, h.ge, ⟨own_keep s5 b5 (by decide) o2, own_keep f5 b5 (by decide) o2, own_keep o b5 (by decide) o2, h.ow.ne⟩, d5.trans (o2.toBelow d5.size (fun k hk => by rw [hk]; exact h.ge))⟩
set_option maxRecDepth 100000 in
set_option maxHeartbeats 4000000 in
theorem one_ok (w : World) (ao : Option Addr) (c n s : Nat) (L : List Int) (en : Hid (L.length = n)) (hr : Hid (RdN w ao L)) (hn : n < 4096) (hs : s ≤ 128) (hL : Hid (∀ x ∈ L, 0 ≤ x ∧ x < (s : Int))) :
    Calls Tryz.prog 20 #[.slice ao n c, .int .i64 (s : Int)] w fun e w' => ∃ b1 k1 b2 k2 b3 k3, e = .returned (.tuple #[.agg #[.int .i64 ((n : Int) + 1), .int .i64 (s : Int), .slice b1 1 k1, .slice b2 1 k2, .slice b3 n k3], .int .i64 0]) ∧ Hid (OwnO w.heap.size w' (.slice b1 1 k1) (.slice b2 1 k2) (.slice b3 n k3) [0] [(n : Int)] (oneE L) ∧ Below w.heap.size w w') := by
  obtain ⟨W0, hW0⟩ : ∃ W0, (w.alloc (.cells #[.int .i64 (s : Int)] 3)).alloc (.cells #[.int .i64 0, .int .i64 0, .slice none 0 0, .slice none 0 0, .slice none 0 0] 25) = W0 := ⟨_, rfl⟩
  have HD : Hid (Below w.heap.size w W0 ∧ W0.heap[w.heap.size]? = some (.cells #[.int .i64 (s : Int)] 3 (0, 0)) ∧ W0.heap[w.heap.size + 1]? = some (.cells #[.int .i64 0, .int .i64 0, .slice none 0 0, .slice none 0 0, .slice none 0 0] 25 (0, 0)) ∧ W0.heap.size = w.heap.size + 2) := hide (by
    have k1 := (Below.refl w.heap.size w).alloc (Nat.le_refl _) (.cells #[.int .i64 (s : Int)] 3)
    have z1 := World.alloc_heap_new w (.cells #[.int .i64 (s : Int)] 3)
    have s1 : (w.alloc (.cells #[.int .i64 (s : Int)] 3)).heap.size = w.heap.size + 1 := by simp
    generalize w.alloc (.cells #[.int .i64 (s : Int)] 3) = X at k1 z1 s1 hW0
    have k2 := (Below.refl X.heap.size X).alloc (Nat.le_refl _) (.cells #[.int .i64 0, .int .i64 0, .slice none 0 0, .slice none 0 0, .slice none 0 0] 25)
    have z2 := World.alloc_heap_new X (.cells #[.int .i64 0, .int .i64 0, .slice none 0 0, .slice none 0 0, .slice none 0 0] 25)
    rw [hW0] at k2 z2
    rw [s1] at z2
    exact ⟨k1.trans (k2.mono k1.size), blk_on z1 k2, z2, by rw [← hW0, World.size_alloc, s1]⟩)
  have y0 : W0.cell? ⟨w.heap.size, 0, none⟩ = some (.int .i64 (s : Int)) := cell_of HD.out.2.1 rfl
  have TC := cont53 W0 ao c L w.heap.size (s : Int) (hide y0) (hide (hr.out.on HD.out.1)) (by have := en.out; omega)
  rw [show L.any (badS (s : Int)) = false by
    rw [List.any_eq_false]
    intro x hx
    have := hL.out x hx
    simp [badS]; omega, en.out] at TC
  have TM : ∀ W, Calls Tryz.prog 54 #[.int .i64 (s : Int)] W fun e w' => e = .returned (.bool true) ∧ w' = W := fun W => by
    have := mayBe_any W (s : Int)
    rwa [show symOk (s : Int) = true by simp [symOk]; omega] at this
  have HM := hide TM
  clear TM
  have jn : ¬ (4096 : Int) ≤ (n : Int) := by omega
  have ew : IntKind.i64.wrap ((n : Int) + 1) = (n : Int) + 1 := by rw [IntKind.wrap_i64]; omega
  go_enter Tryz.func20, Tryz.ntmps20
  go_upto_region 3 with (go_at_call 52; refine TC.mono ?_; rintro e w2 ⟨rfl, D2⟩; have H2 := hide D2; clear D2)
  clear TC y0
  have y0 : w2.cell? ⟨w.heap.size, 0, none⟩ = some (.int .i64 (s : Int)) := cell_of (blk_on HD.out.2.1 H2.out) rfl
  go_upto_region 8 with (go_at_call 54; refine (HM.out w2).mono ?_; rintro e wq ⟨rfl, rfl⟩)
  clear y0 HM
  obtain ⟨W1, hW1⟩ : ∃ W, ((wq.alloc (.cells #[.int .i64 0] 3)).alloc (.cells #[.int .i64 (n : Int)] 3)).alloc (.cells #[.int .i64 ((n : Int) + 1), .int .i64 (s : Int), .slice (some ⟨wq.heap.size, 0, none⟩) 1 1, .slice (some ⟨wq.heap.size + 1, 0, none⟩) 1 1, .slice none 0 0] 25) = W := ⟨_, rfl⟩
  rw [hW1]
  have HA : Hid (MvA W0 W1 (wq.heap.size + 1 + 1) ((n : Int) + 1) (s : Int) (.slice (some ⟨wq.heap.size, 0, none⟩) 1 1) (.slice (some ⟨wq.heap.size + 1, 0, none⟩) 1 1) (.slice none 0 0) [0] [(n : Int)] []) := hide (by
    have k1 := (Below.refl wq.heap.size wq).alloc (Nat.le_refl _) (.cells #[.int .i64 0] 3)
    have z1 := World.alloc_heap_new wq (.cells #[.int .i64 0] 3)
    have s1 : (wq.alloc (.cells #[.int .i64 0] 3)).heap.size = wq.heap.size + 1 := by simp
    generalize wq.alloc (.cells #[.int .i64 0] 3) = X at k1 z1 s1 hW1
    have k2 := (Below.refl X.heap.size X).alloc (Nat.le_refl _) (.cells #[.int .i64 (n : Int)] 3)
    have z2 := World.alloc_heap_new X (.cells #[.int .i64 (n : Int)] 3)
    have s2 : (X.alloc (.cells #[.int .i64 (n : Int)] 3)).heap.size = wq.heap.size + 1 + 1 := by simp [s1]
    generalize X.alloc (.cells #[.int .i64 (n : Int)] 3) = Y at k2 z2 s2 hW1
    have k3 := (Below.refl Y.heap.size Y).alloc (Nat.le_refl _) (.cells #[.int .i64 ((n : Int) + 1), .int .i64 (s : Int), .slice (some ⟨wq.heap.size, 0, none⟩) 1 1, .slice (some ⟨wq.heap.size + 1, 0, none⟩) 1 1, .slice none 0 0] 25)
    have z3 := World.alloc_heap_new Y (.cells #[.int .i64 ((n : Int) + 1), .int .i64 (s : Int), .slice (some ⟨wq.heap.size, 0, none⟩) 1 1, .slice (some ⟨wq.heap.size + 1, 0, none⟩) 1 1, .slice none 0 0] 25)
    rw [hW1] at k3 z3
    rw [s2] at z3
    rw [s1] at z2
    have sq := H2.out.size
    have kk := k1.trans ((k2.trans (k3.mono k2.size)).mono k1.size)
    exact ⟨z3, by omega, ⟨own_one (blk_on (blk_on z1 k2) k3) (by omega), own_one (blk_on z2 k3) (by omega), World.ownsRow_nil W1 W0.heap.size _ _, fun x hx hy => by
      simp only [Value.ownBlock, Option.some.injEq] at hx hy
      omega⟩, H2.out.trans (kk.mono sq)⟩)
  obtain ⟨g, hg⟩ : ∃ g, wq.heap.size = g := ⟨_, rfl⟩
  clear hW1 H2
  rw [hg] at HA ⊢
  clear hg
  go_wp2_with fail
  go_loopw [32] (fun iv wr => ∃ i : Nat, i ≤ n ∧ iv = .int .i64 (i : Int) ∧ ∃ b3 k3, Hid (MvA W0 wr (g + 1 + 1) ((n : Int) + 1) (s : Int) (.slice (some ⟨g, 0, none⟩) 1 1) (.slice (some ⟨g + 1, 0, none⟩) 1 1) (.slice b3 i k3) [0] [(n : Int)] (oneE (L.take i)))) (fun iv _ => n - (intOf iv).toNat)
  case atStart => exact ⟨0, Nat.zero_le _, rfl, none, 0, HA⟩
  case round =>
    obtain ⟨i, hi, rfl, b3, k3, HY⟩ := hrel
    clear HA
    by_cases hil : i < n
    · have i0 : (0 : Int) ≤ (i : Int) := by omega
      have i1 : (i : Int) < (n : Int) := by omega
      have hjl : i < L.length := by have := en.out; omega
      obtain ⟨ge, o, ea, q1⟩ := (hr.out.on (HD.out.1.trans (HY.out.be.mono HD.out.1.size))) i hjl
      subst ea
      have HT := hide (oneE_snoc L i hjl)
      generalize L[i] = x at q1 HT
      have HTl : Hid ((oneE (L.take i)).length = i) := hide (by rw [oneE_len, List.length_take]; omega)
      have r1 : IntKind.i64.wrap ((i : Int) + 1) = (i : Int) + 1 := by rw [IntKind.wrap_i64]; omega
      have HS0 := hide HY.out.be.size
      have z4 : wr.cell? ⟨g + 1 + 1, 4, none⟩ = some (.slice b3 i k3) := cell_of HY.out.bx rfl
      go_wp2_with (at_builtin; refine wpList_appG rfl _ _ rfl W0.heap.size (.slice b3 i k3) (oneE (L.take i)) rfl (own_below HY.out.ow.e ((Below.refl _ _).alloc (Nat.le_refl _) _)) wr.heap.size ((i : Int), x, (i : Int) + 1) rfl (World.alloc_heap_new _ _) (by have := HTl.out; omega) (by have := HS0.out; rw [World.size_alloc]; omega) ?_; intro v5 w5 HO5 HG5; obtain ⟨z5, d5, e5⟩ := own_slice HO5.out; have E5 : v5 = .slice z5 (i + 1) d5 := (by rw [e5, List.length_append, HTl.out]; rfl); clear e5; subst E5; have HQ := hide (mvA_put HY.out ((Below.refl _ _).alloc (Nat.le_refl _) _) HO5.out HG5.out); have c5 : w5.cell? ⟨g + 1 + 1, 4, none⟩ = some (.slice b3 i k3) := cell_of HQ.out.1 rfl; have f5 : w5.frozen? ⟨g + 1 + 1, 4, none⟩ = false := fz_of HQ.out.1)
      refine ⟨⟨i + 1, by omega, by go_num, z5, d5, hide (by rw [HT.out]; exact HQ.out.2)⟩, by simp [intOf]; omega⟩
    · obtain rfl : n = i := by omega
      have i1 : ¬ (n : Int) < (n : Int) := by omega
      have HZ : Hid (MvA W0 wr (g + 1 + 1) ((n : Int) + 1) (s : Int) (.slice (some ⟨g, 0, none⟩) 1 1) (.slice (some ⟨g + 1, 0, none⟩) 1 1) (.slice b3 n k3) [0] [(n : Int)] (oneE L)) := hide (by
        have q := HY.out
        rw [List.take_of_length_le (by have := en.out; omega)] at q
        exact q)
      clear HY
      have F3 := blk_on HD.out.2.2.1 HZ.out.be
      have F4 := HZ.out.bx
      have o0 : wr.cell? ⟨w.heap.size + 1, 0, none⟩ = some (.int .i64 0) := cell_of F3 rfl
      have f0 : wr.frozen? ⟨w.heap.size + 1, 0, none⟩ = false := fz_of F3
      have v0 : wr.cell? ⟨g + 1 + 1, 0, none⟩ = some (.int .i64 ((n : Int) + 1)) := cell_of F4 rfl
      have o1 : wr.cell? ⟨w.heap.size + 1, 1, none⟩ = some (.int .i64 0) := cell_of F3 rfl
      have f1 : wr.frozen? ⟨w.heap.size + 1, 1, none⟩ = false := fz_of F3
      have v1 : wr.cell? ⟨g + 1 + 1, 1, none⟩ = some (.int .i64 (s : Int)) := cell_of F4 rfl
      have o2 : wr.cell? ⟨w.heap.size + 1, 2, none⟩ = some (.slice none 0 0) := cell_of F3 rfl
      have f2 : wr.frozen? ⟨w.heap.size + 1, 2, none⟩ = false := fz_of F3
      have v2 : wr.cell? ⟨g + 1 + 1, 2, none⟩ = some (.slice (some ⟨g, 0, none⟩) 1 1) := cell_of F4 rfl
      have o3 : wr.cell? ⟨w.heap.size + 1, 3, none⟩ = some (.slice none 0 0) := cell_of F3 rfl
      have f3 : wr.frozen? ⟨w.heap.size + 1, 3, none⟩ = false := fz_of F3
      have v3 : wr.cell? ⟨g + 1 + 1, 3, none⟩ = some (.slice (some ⟨g + 1, 0, none⟩) 1 1) := cell_of F4 rfl
      have o4 : wr.cell? ⟨w.heap.size + 1, 4, none⟩ = some (.slice none 0 0) := cell_of F3 rfl
      have f4 : wr.frozen? ⟨w.heap.size + 1, 4, none⟩ = false := fz_of F3
      have v4 : wr.cell? ⟨g + 1 + 1, 4, none⟩ = some (.slice b3 n k3) := cell_of F4 rfl
      have O6 := hide (And.intro (set5 wr (w.heap.size + 1) _ _ _ _ _ (.int .i64 ((n : Int) + 1)) (.int .i64 (s : Int)) (.slice (some ⟨g, 0, none⟩) 1 1) (.slice (some ⟨g + 1, 0, none⟩) 1 1) (.slice b3 n k3) 25 F3) (only5 wr (w.heap.size + 1) (.int .i64 ((n : Int) + 1)) (.int .i64 (s : Int)) (.slice (some ⟨g, 0, none⟩) 1 1) (.slice (some ⟨g + 1, 0, none⟩) 1 1) (.slice b3 n k3)))
      have HO2 := hide (HZ.out.ow.keep F3 O6.out.2)
      clear F3 F4
      go_wp2_with fail
      refine bodyPost_ret (results_c1 (p := 4) (q := 5) (ty := 25) rfl _ _ (w.heap.size + 1) 25 _ (0, 0) _ _ rfl rfl O6.out.1 Tryz.underlying25 rfl (by kernel_rfl)) rfl ?_
      have s1 := HD.out.2.2.2
      have s2 := HZ.out.be.size
      exact ⟨_, _, _, _, _, _, rfl, hide ⟨HO2.out.down (by omega), (HD.out.1.trans (HZ.out.be.mono (by omega))).trans (O6.out.2.toBelow (by omega) (fun k hk => by omega))⟩⟩
end Go.Proofs.YtchoopnjckcohaaGreatDoor
namespace Go.Proofs.YtchoopnjckcohaaGreatDoor
open Go.RowKit Go.Maps Go.Shelf
attribute [local go_sem] Oper.semAt_some

/-! ### The law's intact, untouched -/
end Go.Proofs.YtchoopnjckcohaaGreatDoor
namespace Go.Proofs.YtchoopnjckcohaaGreatDoor
open Go.RowKit Go.Maps Go.Shelf
attribute [local go_sem] Oper.semAt_some

/-! ### The law's on, onward -/
end Go.Proofs.YtchoopnjckcohaaGreatDoor
namespace Go.Proofs.YtchoopnjckcohaaGreatDoor
open Go.RowKit Go.Maps Go.Shelf
attribute [local go_sem] Oper.semAt_some

end Go.Proofs.YtchoopnjckcohaaGreatDoor
