import Derived.Test.YtchoopnjckcohaaGreatDoorQat
import Derived.Test.YtchoopnjckcohaaGreatDoorQas
set_option maxRecDepth 100000
set_option maxHeartbeats 40000000
namespace Go.Proofs.YtchoopnjckcohaaGreatDoor
open Go.RowKit Go.Maps Go.Shelf
attribute [local go_sem] Oper.semAt_some
theorem own_two {W W' : World} {B n sz p q : Nat} {e t : TypeId} {v : Value} {xs : List Value} {cs cs' : Array Value} (h : W.ownsRow B e sz v n xs) (z : W.heap[p]? = some (.cells cs t (0, 0))) (z' : W.heap[q]? = some (.cells cs' t (0, 0))) (ne : t ≠ e) (o : Only W W' (fun k => k = p ∨ k = q)) : W'.ownsRow B e sz v n xs := row_only h o (fun k hk hk2 => by
 rcases hk2 with rfl | rfl
 · exact row_tag h z ne hk
 · exact row_tag h z' ne hk)
theorem ownO_two {B p q : Nat} {w w' : World} {v1 v2 v3 : Value} {S F : List Int} {E : List EdT} {cs cs' : Array Value} (h : OwnO B w v1 v2 v3 S F E) (z : w.heap[p]? = some (.cells cs 25 (0, 0))) (z' : w.heap[q]? = some (.cells cs' 25 (0, 0))) (o : Only w w' (fun k => k = p ∨ k = q)) : OwnO B w' v1 v2 v3 S F E := ⟨own_two h.s z z' (by decide) o, own_two h.f z z' (by decide) o, own_two h.e z z' (by decide) o, h.ne⟩
theorem both_ok (w : World) (n m n' : Int) (a1 a2 a3 b1 b2 b3 : Option Addr) (c1 c2 c3 d1 d2 d3 : Nat) (Sa Fa Sb Fb : List Int) (Ea Eb : List EdT) (hA : Hid (RdA w a1 a2 a3 Sa Fa Ea)) (hB : Hid (RdA w b1 b2 b3 Sb Fb Eb)) (h1 : Sa.length ≤ 4194304) (h2 : Fa.length ≤ 4194304) (h3 : Ea.length ≤ 4194304) (h4 : Sb.length ≤ 4194304) (h5 : Fb.length ≤ 4194304) (h6 : Eb.length ≤ 4194304) (em : mayA n m Sa Fa Ea = true) (em' : mayA n' m Sb Fb Eb = true) :
 Calls Tryz.prog 55 #[.agg #[.int .i64 n, .int .i64 m, .slice a1 Sa.length c1, .slice a2 Fa.length c2, .slice a3 Ea.length c3], .agg #[.int .i64 n', .int .i64 m, .slice b1 Sb.length d1, .slice b2 Fb.length d2, .slice b3 Eb.length d3]] w fun e w' => ∃ g1 k1 g2 k2 g3 k3 r1 q1 r2 q2 r3 q3, e = .returned (.tuple #[.agg #[.int .i64 n, .int .i64 m, .slice (some ⟨g1, 0, none⟩) (riseL Sa).length k1, .slice (some ⟨g2, 0, none⟩) (riseL Fa).length k2, .slice (some ⟨g3, 0, none⟩) (riseE Ea).length k3], .agg #[.int .i64 n', .int .i64 m, .slice (some ⟨r1, 0, none⟩) (riseL Sb).length q1, .slice (some ⟨r2, 0, none⟩) (riseL Fb).length q2, .slice (some ⟨r3, 0, none⟩) (riseE Eb).length q3], .int .i64 0]) ∧ Hid (OwnO w.heap.size w' (.slice (some ⟨g1, 0, none⟩) (riseL Sa).length k1) (.slice (some ⟨g2, 0, none⟩) (riseL Fa).length k2) (.slice (some ⟨g3, 0, none⟩) (riseE Ea).length k3) (riseL Sa) (riseL Fa) (riseE Ea) ∧ OwnO w.heap.size w' (.slice (some ⟨r1, 0, none⟩) (riseL Sb).length q1) (.slice (some ⟨r2, 0, none⟩) (riseL Fb).length q2) (.slice (some ⟨r3, 0, none⟩) (riseE Eb).length q3) (riseL Sb) (riseL Fb) (riseE Eb) ∧ Below w.heap.size w w') := by
 obtain ⟨W0, hW0⟩ : ∃ W0, (((w.alloc (.cells #[.int .i64 n, .int .i64 m, .slice a1 Sa.length c1, .slice a2 Fa.length c2, .slice a3 Ea.length c3] 25)).alloc (.cells #[.int .i64 n', .int .i64 m, .slice b1 Sb.length d1, .slice b2 Fb.length d2, .slice b3 Eb.length d3] 25)).alloc (.cells #[.int .i64 0, .int .i64 0, .slice none 0 0, .slice none 0 0, .slice none 0 0] 25)).alloc (.cells #[.int .i64 0, .int .i64 0, .slice none 0 0, .slice none 0 0, .slice none 0 0] 25) = W0 := ⟨_, rfl⟩
 have HD := hide (And.intro (box4 w (.cells #[.int .i64 n, .int .i64 m, .slice a1 Sa.length c1, .slice a2 Fa.length c2, .slice a3 Ea.length c3] 25) (.cells #[.int .i64 n', .int .i64 m, .slice b1 Sb.length d1, .slice b2 Fb.length d2, .slice b3 Eb.length d3] 25) (.cells #[.int .i64 0, .int .i64 0, .slice none 0 0, .slice none 0 0, .slice none 0 0] 25) (.cells #[.int .i64 0, .int .i64 0, .slice none 0 0, .slice none 0 0, .slice none 0 0] 25)) (show ((((w.alloc (.cells #[.int .i64 n, .int .i64 m, .slice a1 Sa.length c1, .slice a2 Fa.length c2, .slice a3 Ea.length c3] 25)).alloc (.cells #[.int .i64 n', .int .i64 m, .slice b1 Sb.length d1, .slice b2 Fb.length d2, .slice b3 Eb.length d3] 25)).alloc (.cells #[.int .i64 0, .int .i64 0, .slice none 0 0, .slice none 0 0, .slice none 0 0] 25)).alloc (.cells #[.int .i64 0, .int .i64 0, .slice none 0 0, .slice none 0 0, .slice none 0 0] 25)).heap.size = w.heap.size + 4 by simp))
 rw [hW0] at HD
 obtain ⟨y0, y1, y2, y3, y4⟩ := zd5 HD.out.1.2.1 rfl rfl rfl rfl rfl
 have TN := normal_ok W0 n m a1 a2 a3 c1 c2 c3 Sa Fa Ea (hide (hA.out.on HD.out.1.1)) h1 h2 h3 em
 obtain ⟨S1, hS1⟩ : ∃ X, riseL Sa = X := ⟨_, rfl⟩
 obtain ⟨F1, hF1⟩ : ∃ X, riseL Fa = X := ⟨_, rfl⟩
 obtain ⟨E1, hE1⟩ : ∃ X, riseE Ea = X := ⟨_, rfl⟩
 rw [hS1, hF1, hE1] at TN
 obtain ⟨S2, hS2⟩ : ∃ X, riseL Sb = X := ⟨_, rfl⟩
 obtain ⟨F2, hF2⟩ : ∃ X, riseL Fb = X := ⟨_, rfl⟩
 obtain ⟨E2, hE2⟩ : ∃ X, riseE Eb = X := ⟨_, rfl⟩
 rw [hS1, hF1, hE1, hS2, hF2, hE2]
 have HR2 := hide (And.intro hS2 (And.intro hF2 hE2))
 clear hS2 hF2 hE2
 clear em hS1 hF1 hE1
 go_enter Tryz.func55, Tryz.ntmps55
 go_upto_region 4 with (go_at_call 48; refine TN.mono ?_; rintro e w1 ⟨g1, k1, g2, k2, g3, k3, rfl, HO, D1⟩; have HF1 := hide (And.intro D1 HO); have F4 := blk_on HD.out.1.2.2.2.1 D1; obtain ⟨o0, o1, o2, o3, o4⟩ := zd5 F4 rfl rfl rfl rfl rfl; have f0 : w1.frozen? ⟨w.heap.size + 1 + 1, 0, none⟩ = false := fz_of F4; have f1 : w1.frozen? ⟨w.heap.size + 1 + 1, 1, none⟩ = false := fz_of F4; have f2 : w1.frozen? ⟨w.heap.size + 1 + 1, 2, none⟩ = false := fz_of F4; have f3 : w1.frozen? ⟨w.heap.size + 1 + 1, 3, none⟩ = false := fz_of F4; have f4 : w1.frozen? ⟨w.heap.size + 1 + 1, 4, none⟩ = false := fz_of F4; clear F4 D1 HO)
 obtain ⟨W2, hW2⟩ : ∃ W2, (((((w1.setCell ⟨w.heap.size + 1 + 1, 0, none⟩ (.int .i64 n)).setCell ⟨w.heap.size + 1 + 1, 1, none⟩ (.int .i64 m)).setCell ⟨w.heap.size + 1 + 1, 2, none⟩ (.slice (some ⟨g1, 0, none⟩) S1.length k1)).setCell ⟨w.heap.size + 1 + 1, 3, none⟩ (.slice (some ⟨g2, 0, none⟩) F1.length k2)).setCell ⟨w.heap.size + 1 + 1, 4, none⟩ (.slice (some ⟨g3, 0, none⟩) E1.length k3)) = W2 := ⟨_, rfl⟩
 rw [hW2]
 have H2 : Hid (W2.heap[w.heap.size + 1 + 1]? = some (.cells #[.int .i64 n, .int .i64 m, .slice (some ⟨g1, 0, none⟩) S1.length k1, .slice (some ⟨g2, 0, none⟩) F1.length k2, .slice (some ⟨g3, 0, none⟩) E1.length k3] 25 (0, 0)) ∧ W2.heap[w.heap.size + 1 + 1 + 1]? = some (.cells #[.int .i64 0, .int .i64 0, .slice none 0 0, .slice none 0 0, .slice none 0 0] 25 (0, 0)) ∧ Below w.heap.size w W2 ∧ W2.heap[w.heap.size + 1]? = some (.cells #[.int .i64 n', .int .i64 m, .slice b1 Sb.length d1, .slice b2 Fb.length d2, .slice b3 Eb.length d3] 25 (0, 0)) ∧ OwnO w.heap.size W2 (.slice (some ⟨g1, 0, none⟩) S1.length k1) (.slice (some ⟨g2, 0, none⟩) F1.length k2) (.slice (some ⟨g3, 0, none⟩) E1.length k3) S1 F1 E1) := hide (by
  have q4 := blk_on HD.out.1.2.2.2.1 HF1.out.1
  have q5 := blk_on HD.out.1.2.2.2.2 HF1.out.1
  have q1 := blk_on HD.out.1.2.2.1 HF1.out.1
  have o := only5 w1 (w.heap.size + 1 + 1) (.int .i64 n) (.int .i64 m) (.slice (some ⟨g1, 0, none⟩) S1.length k1) (.slice (some ⟨g2, 0, none⟩) F1.length k2) (.slice (some ⟨g3, 0, none⟩) E1.length k3)
  have d := HD.out.1.1.trans (HF1.out.1.mono HD.out.1.1.size)
  have s0 := HD.out.1.1.size
  have ow : OwnO W0.heap.size w1 (.slice (some ⟨g1, 0, none⟩) S1.length k1) (.slice (some ⟨g2, 0, none⟩) F1.length k2) (.slice (some ⟨g3, 0, none⟩) E1.length k3) S1 F1 E1 := ownO_own HF1.out.2
  rw [← hW2]
  exact ⟨set5 w1 (w.heap.size + 1 + 1) _ _ _ _ _ _ _ _ _ _ 25 q4, (o.block _ (Array.getElem?_eq_some_iff.1 q5).1 (by omega)).trans q5, d.trans (o.toBelow d.size (fun k hk => by omega)), (o.block _ (Array.getElem?_eq_some_iff.1 q1).1 (by omega)).trans q1, (ow.keep q4 o).down (by omega)⟩)
 clear hW2 HF1 TN o0 f0 y0 o1 f1 y1 o2 f2 y2 o3 f3 y3 o4 f4 y4
 obtain ⟨y0, y1, y2, y3, y4⟩ := zd5 H2.out.2.2.2.1 rfl rfl rfl rfl rfl
 have TB := normal_ok W2 n' m b1 b2 b3 d1 d2 d3 Sb Fb Eb (hide (hB.out.on H2.out.2.2.1)) h4 h5 h6 em'
 rw [HR2.out.1, HR2.out.2.1, HR2.out.2.2] at TB
 clear em'
 go_upto_region 7 with (go_at_call 48; refine TB.mono ?_; rintro e w3 ⟨r1, q1, r2, q2, r3, q3, rfl, HO, D3⟩; have HF3 := hide (And.intro D3 HO); have F5 := blk_on H2.out.2.1 D3; obtain ⟨o0, o1, o2, o3, o4⟩ := zd5 F5 rfl rfl rfl rfl rfl; have f0 : w3.frozen? ⟨w.heap.size + 1 + 1 + 1, 0, none⟩ = false := fz_of F5; have f1 : w3.frozen? ⟨w.heap.size + 1 + 1 + 1, 1, none⟩ = false := fz_of F5; have f2 : w3.frozen? ⟨w.heap.size + 1 + 1 + 1, 2, none⟩ = false := fz_of F5; have f3 : w3.frozen? ⟨w.heap.size + 1 + 1 + 1, 3, none⟩ = false := fz_of F5; have f4 : w3.frozen? ⟨w.heap.size + 1 + 1 + 1, 4, none⟩ = false := fz_of F5; clear F5 D3 HO)
 obtain ⟨W4, hW4⟩ : ∃ W4, (((((w3.setCell ⟨w.heap.size + 1 + 1 + 1, 0, none⟩ (.int .i64 n')).setCell ⟨w.heap.size + 1 + 1 + 1, 1, none⟩ (.int .i64 m)).setCell ⟨w.heap.size + 1 + 1 + 1, 2, none⟩ (.slice (some ⟨r1, 0, none⟩) S2.length q1)).setCell ⟨w.heap.size + 1 + 1 + 1, 3, none⟩ (.slice (some ⟨r2, 0, none⟩) F2.length q2)).setCell ⟨w.heap.size + 1 + 1 + 1, 4, none⟩ (.slice (some ⟨r3, 0, none⟩) E2.length q3)) = W4 := ⟨_, rfl⟩
 rw [hW4]
 have H4 : Hid (W4.heap[w.heap.size + 1 + 1]? = some (.cells #[.int .i64 n, .int .i64 m, .slice (some ⟨g1, 0, none⟩) S1.length k1, .slice (some ⟨g2, 0, none⟩) F1.length k2, .slice (some ⟨g3, 0, none⟩) E1.length k3] 25 (0, 0)) ∧ W4.heap[w.heap.size + 1 + 1 + 1]? = some (.cells #[.int .i64 n', .int .i64 m, .slice (some ⟨r1, 0, none⟩) S2.length q1, .slice (some ⟨r2, 0, none⟩) F2.length q2, .slice (some ⟨r3, 0, none⟩) E2.length q3] 25 (0, 0)) ∧ Below w.heap.size w W4 ∧ OwnO w.heap.size W4 (.slice (some ⟨g1, 0, none⟩) S1.length k1) (.slice (some ⟨g2, 0, none⟩) F1.length k2) (.slice (some ⟨g3, 0, none⟩) E1.length k3) S1 F1 E1 ∧ OwnO w.heap.size W4 (.slice (some ⟨r1, 0, none⟩) S2.length q1) (.slice (some ⟨r2, 0, none⟩) F2.length q2) (.slice (some ⟨r3, 0, none⟩) E2.length q3) S2 F2 E2) := hide (by
  have q4 := blk_on H2.out.1 HF3.out.1
  have q5 := blk_on H2.out.2.1 HF3.out.1
  have o := only5 w3 (w.heap.size + 1 + 1 + 1) (.int .i64 n') (.int .i64 m) (.slice (some ⟨r1, 0, none⟩) S2.length q1) (.slice (some ⟨r2, 0, none⟩) F2.length q2) (.slice (some ⟨r3, 0, none⟩) E2.length q3)
  have d := H2.out.2.2.1.trans (HF3.out.1.mono H2.out.2.2.1.size)
  have ow : OwnO W2.heap.size w3 (.slice (some ⟨r1, 0, none⟩) S2.length q1) (.slice (some ⟨r2, 0, none⟩) F2.length q2) (.slice (some ⟨r3, 0, none⟩) E2.length q3) S2 F2 E2 := ownO_own HF3.out.2
  rw [← hW4]
  exact ⟨(o.block _ (Array.getElem?_eq_some_iff.1 q4).1 (by omega)).trans q4, set5 w3 (w.heap.size + 1 + 1 + 1) _ _ _ _ _ _ _ _ _ _ 25 q5, d.trans (o.toBelow d.size (fun k hk => by omega)), (H2.out.2.2.2.2.on HF3.out.1).keep q5 o, (ow.keep q5 o).down H2.out.2.2.1.size⟩)
 clear hW4 HF3 TB H2 o0 f0 y0 o1 f1 y1 o2 f2 y2 o3 f3 y3 o4 f4 y4
 obtain ⟨o0, o1, o2, o3, o4⟩ := zd5 H4.out.1 rfl rfl rfl rfl rfl
 have f0 : W4.frozen? ⟨w.heap.size + 1 + 1, 0, none⟩ = false := fz_of H4.out.1
 have f1 : W4.frozen? ⟨w.heap.size + 1 + 1, 1, none⟩ = false := fz_of H4.out.1
 have f2 : W4.frozen? ⟨w.heap.size + 1 + 1, 2, none⟩ = false := fz_of H4.out.1
 have f3 : W4.frozen? ⟨w.heap.size + 1 + 1, 3, none⟩ = false := fz_of H4.out.1
 have f4 : W4.frozen? ⟨w.heap.size + 1 + 1, 4, none⟩ = false := fz_of H4.out.1
 obtain ⟨p0, p1, p2, p3, p4⟩ := zd5 H4.out.2.1 rfl rfl rfl rfl rfl
 have fz0 : W4.frozen? ⟨w.heap.size + 1 + 1 + 1, 0, none⟩ = false := fz_of H4.out.2.1
 have fz1 : W4.frozen? ⟨w.heap.size + 1 + 1 + 1, 1, none⟩ = false := fz_of H4.out.2.1
 have fz2 : W4.frozen? ⟨w.heap.size + 1 + 1 + 1, 2, none⟩ = false := fz_of H4.out.2.1
 have fz3 : W4.frozen? ⟨w.heap.size + 1 + 1 + 1, 3, none⟩ = false := fz_of H4.out.2.1
 have fz4 : W4.frozen? ⟨w.heap.size + 1 + 1 + 1, 4, none⟩ = false := fz_of H4.out.2.1
 have O5 := hide (two5 (W := W4) (x0 := .int .i64 n) (z0 := .int .i64 n') (x1 := .int .i64 m) (z1 := .int .i64 m) (x2 := .slice (some ⟨g1, 0, none⟩) S1.length k1) (z2 := .slice (some ⟨r1, 0, none⟩) S2.length q1) (x3 := .slice (some ⟨g2, 0, none⟩) F1.length k2) (z3 := .slice (some ⟨r2, 0, none⟩) F2.length q2) (x4 := .slice (some ⟨g3, 0, none⟩) E1.length k3) (z4 := .slice (some ⟨r3, 0, none⟩) E2.length q3) H4.out.1 H4.out.2.1 (by omega))
 go_upto_region 9 with fail
 go_region_law (fail)
 all_goals
  have O6 := O5.out
  generalize ((((((((((W4.setCell ⟨w.heap.size + 1 + 1, 0, none⟩ (.int .i64 n)).setCell ⟨w.heap.size + 1 + 1, 1, none⟩ (.int .i64 m)).setCell ⟨w.heap.size + 1 + 1, 2, none⟩ (.slice (some ⟨g1, 0, none⟩) S1.length k1)).setCell ⟨w.heap.size + 1 + 1, 3, none⟩ (.slice (some ⟨g2, 0, none⟩) F1.length k2)).setCell ⟨w.heap.size + 1 + 1, 4, none⟩ (.slice (some ⟨g3, 0, none⟩) E1.length k3)).setCell ⟨w.heap.size + 1 + 1 + 1, 0, none⟩ (.int .i64 n')).setCell ⟨w.heap.size + 1 + 1 + 1, 1, none⟩ (.int .i64 m)).setCell ⟨w.heap.size + 1 + 1 + 1, 2, none⟩ (.slice (some ⟨r1, 0, none⟩) S2.length q1)).setCell ⟨w.heap.size + 1 + 1 + 1, 3, none⟩ (.slice (some ⟨r2, 0, none⟩) F2.length q2)).setCell ⟨w.heap.size + 1 + 1 + 1, 4, none⟩ (.slice (some ⟨r3, 0, none⟩) E2.length q3)) = W6 at O6 ⊢
  have K6 : Hid (W6.drew.heap[w.heap.size + 1 + 1]? = some (.cells #[.int .i64 n, .int .i64 m, .slice (some ⟨g1, 0, none⟩) S1.length k1, .slice (some ⟨g2, 0, none⟩) F1.length k2, .slice (some ⟨g3, 0, none⟩) E1.length k3] 25 (0, 0)) ∧ W6.drew.heap[w.heap.size + 1 + 1 + 1]? = some (.cells #[.int .i64 n', .int .i64 m, .slice (some ⟨r1, 0, none⟩) S2.length q1, .slice (some ⟨r2, 0, none⟩) F2.length q2, .slice (some ⟨r3, 0, none⟩) E2.length q3] 25 (0, 0)) ∧ OwnO w.heap.size W6.drew (.slice (some ⟨g1, 0, none⟩) S1.length k1) (.slice (some ⟨g2, 0, none⟩) F1.length k2) (.slice (some ⟨g3, 0, none⟩) E1.length k3) S1 F1 E1 ∧ OwnO w.heap.size W6.drew (.slice (some ⟨r1, 0, none⟩) S2.length q1) (.slice (some ⟨r2, 0, none⟩) F2.length q2) (.slice (some ⟨r3, 0, none⟩) E2.length q3) S2 F2 E2 ∧ Below w.heap.size w W6.drew) := hide (by
   have dq : Below W6.heap.size W6 W6.drew := ⟨rfl, rfl, rfl, Nat.le_refl _, fun _ _ => rfl⟩
   have d6 := H4.out.2.2.1.trans (O6.2.2.toBelow H4.out.2.2.1.size (fun k hk => by omega))
   exact ⟨O6.1, O6.2.1, (ownO_two H4.out.2.2.2.1 H4.out.1 H4.out.2.1 O6.2.2).on dq, (ownO_two H4.out.2.2.2.2 H4.out.1 H4.out.2.1 O6.2.2).on dq, d6.trans (dq.mono d6.size)⟩)
  clear O6
  go_wp2_with fail
  refine bodyPost_ret (results_c2 (p := 4) (q := 5) (r := 6) (ty := 25) rfl _ _ (w.heap.size + 1 + 1) (w.heap.size + 1 + 1 + 1) 25 _ _ (0, 0) _ _ rfl rfl rfl K6.out.1 K6.out.2.1 Tryz.underlying25 rfl (by kernel_rfl) (by kernel_rfl)) rfl ?_
  exact ⟨g1, k1, g2, k2, g3, k3, r1, q1, r2, q2, r3, q3, rfl, hide K6.out.2.2⟩
theorem box3b (w : World) (A B Z : Array Value) (t : TypeId) : Below w.heap.size w (((w.alloc (.cells A t)).alloc (.cells B t)).alloc (.cells Z t)) ∧ (((w.alloc (.cells A t)).alloc (.cells B t)).alloc (.cells Z t)).heap[w.heap.size]? = some (.cells A t (0, 0)) ∧ (((w.alloc (.cells A t)).alloc (.cells B t)).alloc (.cells Z t)).heap[w.heap.size + 1]? = some (.cells B t (0, 0)) ∧ (((w.alloc (.cells A t)).alloc (.cells B t)).alloc (.cells Z t)).heap[w.heap.size + 1 + 1]? = some (.cells Z t (0, 0)) ∧ (((w.alloc (.cells A t)).alloc (.cells B t)).alloc (.cells Z t)).heap.size = w.heap.size + 3 := by
 have q := box2 w A B t
 have z := World.alloc_heap_new ((w.alloc (.cells A t)).alloc (.cells B t)) (.cells Z t)
 rw [q.2.2.2] at z
 have k := (Below.refl _ ((w.alloc (.cells A t)).alloc (.cells B t))).alloc (Nat.le_refl _) (.cells Z t)
 exact ⟨q.1.trans (k.mono q.1.size), blk_on q.2.1 k, blk_on q.2.2.1 k, z, by simp⟩
theorem run_appM {w : World} (ty : TypeId) (B : Nat) (v : Value) (X : List EdT) (hown : w.ownsRow B 61 3 v X.length (X.flatMap encE)) (ao : Option Addr) (n c : Nat) (Y : List EdT) (hn : Y.length = n) (hz : ao = none → c = 0) (hr : RdE w ao Y) (hl : X.length + Y.length ≤ 4194304) (hB : B ≤ w.heap.size) :
 ∃ z5 d5 w', (Builtin.append_ #[23, 23] ty #[v, .slice ao n c]).run Tryz.prog w = .ok (.slice z5 (X ++ Y).length d5) w' ∧ w'.ownsRow B 61 3 (.slice z5 (X ++ Y).length d5) (X ++ Y).length ((X ++ Y).flatMap encE) ∧ w.grownBy w' v.ownBlock := by
 obtain ⟨i5, hi5, hz50, hz51, hz52⟩ := info_parts info59
 subst hn
 cases ao with
 | none =>
  obtain rfl : Y = [] := by
   cases Y with
   | nil => rfl
   | cons y Y => obtain ⟨g, o, e, _⟩ := hr 0 (by simp); cases e
  obtain rfl := hz rfl
  obtain ⟨z5, d5, rfl⟩ := own_slice hown
  refine ⟨z5, d5, w, ?_, ?_, rfl, rfl, rfl, Nat.le_refl _, fun _ _ _ => rfl⟩
  · have q := run_append_owned_none (P := Tryz.prog) (w := w) B 23 ty 61 i5 3 Tryz.underlying23 hi5 _ _ _ hown
    simpa using q
  · simpa using hown
 | some ad =>
  obtain ⟨v', w', hrun, h2, hg, _, _⟩ := run_append_own_at (P := Tryz.prog) w B 23 ty 61 i5 _ 3 24 Tryz.underlying23 hi5 hz50 hz51 hz52 rfl (by omega) v X.length (X.flatMap encE) hown ad Y.length c (Y.flatMap encE) (encE_flat Y) (fun j u hu => by
   have h0 : 0 < Y.length := by
    cases Y with
    | nil => simp at hu
    | cons y Y => simp
   obtain ⟨g, o, e, _⟩ := hr 0 h0
   cases e
   rw [Addr.add_lit]
   exact edges_at hr j u hu) (encE_one Y) (by unfold maxLen; omega) (by omega) hB
  have h3 : w'.ownsRow B 61 3 v' (X ++ Y).length ((X ++ Y).flatMap encE) := by
   rw [List.flatMap_append, List.length_append]
   exact h2
  obtain ⟨z5, d5, rfl⟩ := own_slice h3
  exact ⟨z5, d5, w', hrun, h3, hg⟩
theorem step_appM {ops : Array Oper} {o : Oper} {a : Act} {K : Act → World → Prop} {Q : Exit → Act → World → Prop} {E : Prop} {w : World} (hgd : o.guard = none) (s x : Operand)
 (ho : o.op = .call { callee := .builtin .append, args := #[s, x], argTypes := #[23, 23] }) (B : Nat) (v : Value) (X : List EdT) (hs : a.eval s = v) (hown : w.ownsRow B 61 3 v X.length (X.flatMap encE)) (ao : Option Addr) (n c : Nat) (Y : List EdT) (hn : Y.length = n) (hz : ao = none → c = 0) (hx : a.eval x = .slice ao n c) (hr : RdE w ao Y) (hl : X.length + Y.length ≤ 4194304) (hB : B ≤ w.heap.size)
 (h : ∀ z5 d5 w', Hid (w'.ownsRow B 61 3 (.slice z5 (X ++ Y).length d5) (X ++ Y).length ((X ++ Y).flatMap encE)) → Hid (Only w w' (fun k => v.ownBlock = some k)) → K (a.put o.dst (.slice z5 (X ++ Y).length d5)) w') :
 if Region.wanted o (yielded ops a.tmps) = true then Oper.wp Tryz.prog o a w K Q else E := by
 have hw : Region.wanted o (yielded ops a.tmps) = true := by simp [Region.wanted, hgd]
 rw [if_pos hw]
 obtain ⟨z5, d5, w', hrun, h2, hg⟩ := run_appM o.type B v X hown ao n c Y hn hz hr hl hB
 unfold Oper.wp
 simp [execOp, ho, resolve, invoke, builtin, hs, hx, hrun, Result.andThen]
 have q := h z5 d5 w' (hide h2) (hide (grown_only hg))
 simp only [List.length_append] at q
 exact q
theorem behind_far (w : World) (N m n1 n2 n3 l1 l2 l3 : Nat) (n' m' : Int) (a1 a2 a3 b1 b2 b3 : Option Addr) (c1 c2 c3 d1 d2 d3 : Nat) (Sa Fa Sb Fb : List Int) (Ea Eb : List EdT) (en : Hid (Sa.length = n1 ∧ Fa.length = n2 ∧ Ea.length = n3 ∧ Sb.length = l1 ∧ Fb.length = l2 ∧ Eb.length = l3)) (hA : Hid (RdA w a1 a2 a3 Sa Fa Ea)) (hB : Hid (RdA w b1 b2 b3 Sb Fb Eb)) (zB : b1 = none → d1 = 0) (hN : N ≤ 4096) (hm : m ≤ 128) (_h1 : n1 ≤ 2000000) (h2 : n2 ≤ 2000000) (h3 : n3 ≤ 2000000) (h4 : l1 ≤ 2000000) (_h5 : l2 ≤ 2000000) (_h6 : l3 ≤ 2000000) (hS : Hid (SsE Ea)) (hF : Hid (∀ e ∈ Ea, (0 ≤ e.1 ∧ e.1 < (N : Int)) ∧ (0 ≤ e.2.1 ∧ e.2.1 < (m : Int)) ∧ (0 ≤ e.2.2 ∧ e.2.2 < (N : Int)))) (hG : Hid (∀ x ∈ Fa, ∃ q : Nat, q < N ∧ x = (q : Int))) (hbig : 65536 < (brL Ea Fa Sb m N).length) :
 Calls Tryz.prog 56 #[.agg #[.int .i64 (N : Int), .int .i64 (m : Int), .slice a1 n1 c1, .slice a2 n2 c2, .slice a3 n3 c3], .agg #[.int .i64 n', .int .i64 m', .slice b1 l1 d1, .slice b2 l2 d2, .slice b3 l3 d3]] w fun e w' => e = .returned (.tuple #[.agg #[.int .i64 0, .int .i64 0, .slice none 0 0, .slice none 0 0, .slice none 0 0], .int .i64 8]) ∧ Below w.heap.size w w' := by
 obtain ⟨W0, hW0⟩ : ∃ W0, ((w.alloc (.cells #[.int .i64 (N : Int), .int .i64 (m : Int), .slice a1 n1 c1, .slice a2 n2 c2, .slice a3 n3 c3] 25)).alloc (.cells #[.int .i64 n', .int .i64 m', .slice b1 l1 d1, .slice b2 l2 d2, .slice b3 l3 d3] 25)).alloc (.cells #[.int .i64 0, .int .i64 0, .slice none 0 0, .slice none 0 0, .slice none 0 0] 25) = W0 := ⟨_, rfl⟩
 have HD := hide (box3b w #[.int .i64 (N : Int), .int .i64 (m : Int), .slice a1 n1 c1, .slice a2 n2 c2, .slice a3 n3 c3] #[.int .i64 n', .int .i64 m', .slice b1 l1 d1, .slice b2 l2 d2, .slice b3 l3 d3] #[.int .i64 0, .int .i64 0, .slice none 0 0, .slice none 0 0, .slice none 0 0] 25)
 rw [hW0] at HD
 have TB := bridged_any W0 N m n1 n2 n3 a1 a2 a3 b1 c1 c2 c3 l1 d1 Ea Fa Sb en.out.2.1 en.out.2.2.1 en.out.2.2.2.1 zB hN hm (hide (hA.out.e.on HD.out.1)) (hide (hA.out.f.on HD.out.1)) (hide (hB.out.s.on HD.out.1)) h2 h3 h4 hS hF hG
 obtain ⟨y0, y1, y2, y3, y4⟩ := zd5 HD.out.2.1 rfl rfl rfl rfl rfl
 obtain ⟨x0, x1, x2, x3, x4⟩ := zd5 HD.out.2.2.1 rfl rfl rfl rfl rfl
 unfold BrP at TB
 simp only [if_pos hbig] at TB
 clear hbig
 go_enter Tryz.func56, Tryz.ntmps56
 go_upto_region 3 with (go_at_call 82; refine TB.mono ?_; rintro e w1 ⟨rfl, D1⟩; have HF1 := hide D1; clear D1)
 have F4 := blk_on HD.out.2.2.2.1 HF1.out
 obtain ⟨o0, o1, o2, o3, o4⟩ := zd5 F4 rfl rfl rfl rfl rfl
 have f0 : w1.frozen? ⟨w.heap.size + 1 + 1, 0, none⟩ = false := fz_of F4
 have f1 : w1.frozen? ⟨w.heap.size + 1 + 1, 1, none⟩ = false := fz_of F4
 have f2 : w1.frozen? ⟨w.heap.size + 1 + 1, 2, none⟩ = false := fz_of F4
 have f3 : w1.frozen? ⟨w.heap.size + 1 + 1, 3, none⟩ = false := fz_of F4
 have f4 : w1.frozen? ⟨w.heap.size + 1 + 1, 4, none⟩ = false := fz_of F4
 have O6 := hide (And.intro (set5 w1 (w.heap.size + 1 + 1) _ _ _ _ _ (.int .i64 0) (.int .i64 0) (.slice none 0 0) (.slice none 0 0) (.slice none 0 0) 25 F4) (only5 w1 (w.heap.size + 1 + 1) (.int .i64 0) (.int .i64 0) (.slice none 0 0) (.slice none 0 0) (.slice none 0 0)))
 clear F4
 go_wp2_with fail
 refine bodyPost_ret (results_c1 (p := 4) (q := 5) (ty := 25) rfl _ _ (w.heap.size + 1 + 1) 25 _ (0, 0) _ _ rfl rfl O6.out.1 Tryz.underlying25 rfl (by kernel_rfl)) rfl ?_
 have s1 := HD.out.2.2.2.2
 have s2 := HF1.out.size
 exact ⟨rfl, (HD.out.1.trans (HF1.out.mono HD.out.1.size)).trans (O6.out.2.toBelow (by omega) (fun k hk => by omega))⟩
theorem behind_big (w : World) (N m n1 n2 n3 l1 l2 l3 : Nat) (n' m' : Int) (a1 a2 a3 b1 b2 b3 : Option Addr) (c1 c2 c3 d1 d2 d3 : Nat) (Sa Fa Sb Fb : List Int) (Ea Eb : List EdT) (en : Hid (Sa.length = n1 ∧ Fa.length = n2 ∧ Ea.length = n3 ∧ Sb.length = l1 ∧ Fb.length = l2 ∧ Eb.length = l3)) (hA : Hid (RdA w a1 a2 a3 Sa Fa Ea)) (hB : Hid (RdA w b1 b2 b3 Sb Fb Eb)) (zB : b1 = none → d1 = 0) (hN : N ≤ 4096) (hm : m ≤ 128) (_h1 : n1 ≤ 2000000) (h2 : n2 ≤ 2000000) (h3 : n3 ≤ 2000000) (h4 : l1 ≤ 2000000) (_h5 : l2 ≤ 2000000) (h6 : l3 ≤ 2000000) (hS : Hid (SsE Ea)) (hF : Hid (∀ e ∈ Ea, (0 ≤ e.1 ∧ e.1 < (N : Int)) ∧ (0 ≤ e.2.1 ∧ e.2.1 < (m : Int)) ∧ (0 ≤ e.2.2 ∧ e.2.2 < (N : Int)))) (hG : Hid (∀ x ∈ Fa, ∃ q : Nat, q < N ∧ x = (q : Int))) (hle : (brL Ea Fa Sb m N).length ≤ 65536) (hbig : 65536 < (brL Ea Fa Sb m N).length + l3) :
 Calls Tryz.prog 56 #[.agg #[.int .i64 (N : Int), .int .i64 (m : Int), .slice a1 n1 c1, .slice a2 n2 c2, .slice a3 n3 c3], .agg #[.int .i64 n', .int .i64 m', .slice b1 l1 d1, .slice b2 l2 d2, .slice b3 l3 d3]] w fun e w' => e = .returned (.tuple #[.agg #[.int .i64 0, .int .i64 0, .slice none 0 0, .slice none 0 0, .slice none 0 0], .int .i64 8]) ∧ Below w.heap.size w w' := by
 obtain ⟨W0, hW0⟩ : ∃ W0, ((w.alloc (.cells #[.int .i64 (N : Int), .int .i64 (m : Int), .slice a1 n1 c1, .slice a2 n2 c2, .slice a3 n3 c3] 25)).alloc (.cells #[.int .i64 n', .int .i64 m', .slice b1 l1 d1, .slice b2 l2 d2, .slice b3 l3 d3] 25)).alloc (.cells #[.int .i64 0, .int .i64 0, .slice none 0 0, .slice none 0 0, .slice none 0 0] 25) = W0 := ⟨_, rfl⟩
 have HD := hide (box3b w #[.int .i64 (N : Int), .int .i64 (m : Int), .slice a1 n1 c1, .slice a2 n2 c2, .slice a3 n3 c3] #[.int .i64 n', .int .i64 m', .slice b1 l1 d1, .slice b2 l2 d2, .slice b3 l3 d3] #[.int .i64 0, .int .i64 0, .slice none 0 0, .slice none 0 0, .slice none 0 0] 25)
 rw [hW0] at HD
 have TB := bridged_any W0 N m n1 n2 n3 a1 a2 a3 b1 c1 c2 c3 l1 d1 Ea Fa Sb en.out.2.1 en.out.2.2.1 en.out.2.2.2.1 zB hN hm (hide (hA.out.e.on HD.out.1)) (hide (hA.out.f.on HD.out.1)) (hide (hB.out.s.on HD.out.1)) h2 h3 h4 hS hF hG
 obtain ⟨y0, y1, y2, y3, y4⟩ := zd5 HD.out.2.1 rfl rfl rfl rfl rfl
 obtain ⟨x0, x1, x2, x3, x4⟩ := zd5 HD.out.2.2.1 rfl rfl rfl rfl rfl
 unfold BrP at TB
 simp only [if_neg (show ¬ 65536 < (brL Ea Fa Sb m N).length by omega)] at TB
 obtain ⟨E, hE⟩ : ∃ E, brL Ea Fa Sb m N = E := ⟨_, rfl⟩
 rw [hE] at TB hle hbig
 clear hE
 have jb : (65536 : Int) < (E.length : Int) + (l3 : Int) := by omega
 have jw : IntKind.i64.wrap ((E.length : Int) + (l3 : Int)) = (E.length : Int) + (l3 : Int) := by rw [IntKind.wrap_i64]; omega
 go_enter Tryz.func56, Tryz.ntmps56
 go_upto_region 3 with (go_at_call 82; refine TB.mono ?_; rintro e w1 ⟨v1, rfl, O1, D1⟩; obtain ⟨e1, f1, rfl⟩ := own_slice O1; have HF1 := hide D1; have x4 : w1.cell? ⟨w.heap.size + 1, 4, none⟩ = some (.slice b3 l3 d3) := cell_of (blk_on HD.out.2.2.1 D1) rfl; clear D1 O1)
 have F4 := blk_on HD.out.2.2.2.1 HF1.out
 obtain ⟨o0, o1, o2, o3, o4⟩ := zd5 F4 rfl rfl rfl rfl rfl
 have f0 : w1.frozen? ⟨w.heap.size + 1 + 1, 0, none⟩ = false := fz_of F4
 have f1 : w1.frozen? ⟨w.heap.size + 1 + 1, 1, none⟩ = false := fz_of F4
 have f2 : w1.frozen? ⟨w.heap.size + 1 + 1, 2, none⟩ = false := fz_of F4
 have f3 : w1.frozen? ⟨w.heap.size + 1 + 1, 3, none⟩ = false := fz_of F4
 have f4 : w1.frozen? ⟨w.heap.size + 1 + 1, 4, none⟩ = false := fz_of F4
 have O6 := hide (And.intro (set5 w1 (w.heap.size + 1 + 1) _ _ _ _ _ (.int .i64 0) (.int .i64 0) (.slice none 0 0) (.slice none 0 0) (.slice none 0 0) 25 F4) (only5 w1 (w.heap.size + 1 + 1) (.int .i64 0) (.int .i64 0) (.slice none 0 0) (.slice none 0 0) (.slice none 0 0)))
 clear F4
 go_wp2_with fail
 refine bodyPost_ret (results_c1 (p := 4) (q := 5) (ty := 25) rfl _ _ (w.heap.size + 1 + 1) 25 _ (0, 0) _ _ rfl rfl O6.out.1 Tryz.underlying25 rfl (by kernel_rfl)) rfl ?_
 have s1 := HD.out.2.2.2.2
 have s2 := HF1.out.size
 exact ⟨rfl, (HD.out.1.trans (HF1.out.mono HD.out.1.size)).trans (O6.out.2.toBelow (by omega) (fun k hk => by omega))⟩
theorem results_c3 {P : Program} {fn : Func} {p q r : Tmp} {ty : TypeId} (h : fn.results = #[.cell p ty, .tmp q, .tmp r]) (tmps : Array Value) (w : World) (g : Nat) (t : TypeId) (cs : Array Value) (fr : Nat × Nat) (d : TypeDesc) (x y : Value)
 (hp : tmps.getD p undef = .pointer (some ⟨g, 0, none⟩)) (hq : tmps.getD q undef = x) (hr : tmps.getD r undef = y) (hg : w.heap[g]? = some (.cells cs t fr))
 (hu : P.underlying ty = some d) (hd : (match d with | .struct _ | .array _ _ => true | _ => false) = true) (hi : (P.info? ty).map (·.size) = some cs.size) :
 (results fn tmps).run P w = .ok (.tuple #[.agg cs, x, y]) w := by
 have hp' : tmps[p]?.getD undef = .pointer (some ⟨g, 0, none⟩) := by simpa using hp
 have hq' : tmps[q]?.getD undef = x := by simpa using hq
 have hr' : tmps[r]?.getD undef = y := by simpa using hr
 simp [results, h, hp', hq', hr', asAddr, run_loadVar_row w g t ty cs fr d hg hu hd hi]
structure TwoR (B : Nat) (W : World) (m R1 R2 : Nat) (E1 E2 : List EdT) (b1 b2 : Nat) (aX : Option Addr) (cX gX : Nat) (aY : Option Addr) (cY gY : Nat) : Prop where
 h1 : W.heap[b1]? = some (.cells #[.int .i64 (m : Int), .slice aX E1.length cX, .slice (some ⟨gX, 0, none⟩) (R1 + 1) (R1 + 1)] 93 (0, 0))
 h2 : W.heap[b2]? = some (.cells #[.int .i64 (m : Int), .slice aY E2.length cY, .slice (some ⟨gY, 0, none⟩) (R2 + 1) (R2 + 1)] 93 (0, 0))
 r1 : RwA B W m R1 E1 aX E1.length cX gX
 r2 : RwA B W m R2 E2 aY E2.length cY gY
theorem TwoR.on {B : Nat} {W W' : World} {m R1 R2 : Nat} {E1 E2 : List EdT} {b1 b2 : Nat} {aX : Option Addr} {cX gX : Nat} {aY : Option Addr} {cY gY : Nat} (h : TwoR B W m R1 R2 E1 E2 b1 b2 aX cX gX aY cY gY) (d : Below W.heap.size W W') : TwoR B W' m R1 R2 E1 E2 b1 b2 aX cX gX aY cY gY := ⟨blk_on h.h1 d, blk_on h.h2 d, h.r1.on d, h.r2.on d⟩
theorem map_below {W W' : World} {bm n : Nat} {Dm : DataW Unit} (o : W.ownsMap Tryz.prog 79 (plainElem Tryz.prog 3) bm n Dm) (d : Below W.heap.size W W') : W'.ownsMap Tryz.prog 79 (plainElem Tryz.prog 3) bm n Dm := map_only o (Only.ofBelow (R := fun _ => False) d) (fun e => e)
def dRw (B m R : Nat) (E : List EdT) : MkP := fun x _ _ W => ∃ a c g, x = .agg #[.int .i64 (m : Int), .slice a E.length c, .slice (some ⟨g, 0, none⟩) (R + 1) (R + 1)] ∧ RwA B W m R E a E.length c g
theorem dRw_mono {B m R : Nat} {E : List EdT} : MonoP (dRw B m R E) := fun _ _ _ _ _ _ d ⟨a, c, g, e, h⟩ => ⟨a, c, g, e, h.on d⟩
def dFn (B m R1 R2 : Nat) (E1 E2 : List EdT) : MkP := fun x _ _ W => ∃ b1 b2 aX cX gX aY cY gY, x = (.func (.func 94) #[] #[.pointer (some ⟨b1, 0, none⟩), .pointer (some ⟨b2, 0, none⟩)]) ∧ TwoR B W m R1 R2 E1 E2 b1 b2 aX cX gX aY cY gY
theorem dFn_mono {B m R1 R2 : Nat} {E1 E2 : List EdT} : MonoP (dFn B m R1 R2 E1 E2) := fun _ _ _ _ _ _ d ⟨b1, b2, aX, cX, gX, aY, cY, gY, e, h⟩ => ⟨b1, b2, aX, cX, gX, aY, cY, gY, e, h.on d⟩
def dMp (B : Nat) : MkP := fun x lo hi W => x = .map (some lo) ∧ B ≤ lo ∧ lo < hi ∧ W.ownsMap Tryz.prog 79 (plainElem Tryz.prog 3) lo 0 (.map [] : DataW Unit)
theorem dMp_mono {B : Nat} : MonoP (dMp B) := fun _ _ _ _ _ _ d ⟨e, l, l2, h⟩ => ⟨e, l, l2, map_below h d⟩
def dSr (B m R1 R2 : Nat) (E1 E2 : List EdT) (bud : Int) : MkP := fun x _ _ W => ∃ b1 b2 aX cX gX aY cY gY bm, x = .agg #[(.func (.func 94) #[] #[.pointer (some ⟨b1, 0, none⟩), .pointer (some ⟨b2, 0, none⟩)]), .int .i64 bud, .map (some bm), .slice none 0 0, .slice none 0 0, .slice none 0 0] ∧ TwoR B W m R1 R2 E1 E2 b1 b2 aX cX gX aY cY gY ∧ B ≤ bm ∧ W.ownsMap Tryz.prog 79 (plainElem Tryz.prog 3) bm 0 (.map [] : DataW Unit)
theorem dSr_mono {B m R1 R2 : Nat} {E1 E2 : List EdT} {bud : Int} : MonoP (dSr B m R1 R2 E1 E2 bud) := fun _ _ _ _ _ _ d ⟨b1, b2, aX, cX, gX, aY, cY, gY, bm, e, h, l, o⟩ => ⟨b1, b2, aX, cX, gX, aY, cY, gY, bm, e, h.on d, l, map_below o d⟩
def dBx (B : Nat) : MkP := fun x lo hi W => x = .pointer (some ⟨lo, 0, none⟩) ∧ B ≤ lo ∧ lo < hi ∧ W.heap[lo]? = some (.cells #[.nilFunc, .int .i64 0, .map none, .slice none 0 0, .slice none 0 0, .slice none 0 0] 97 (0, 0))
theorem dBx_mono {B : Nat} : MonoP (dBx B) := fun _ _ _ _ _ hs d ⟨e, l, l2, z⟩ => ⟨e, l, l2, (d.block _ (by omega)).trans z⟩
structure PrB (W1 : World) (m R1 R2 : Nat) (E1 E2 : List EdT) (bud : Int) (b bm b1 b2 : Nat) (aX : Option Addr) (cX gX : Nat) (aY : Option Addr) (cY gY : Nat) (W : World) : Prop where
 be : Below W1.heap.size W1 W
 bx : W.heap[b]? = some (.cells #[(.func (.func 94) #[] #[.pointer (some ⟨b1, 0, none⟩), .pointer (some ⟨b2, 0, none⟩)]), .int .i64 bud, .map (some bm), .slice none 0 0, .slice none 0 0, .slice none 0 0] 97 (0, 0))
 mo : W.ownsMap Tryz.prog 79 (plainElem Tryz.prog 3) bm 0 (.map [] : DataW Unit)
 tw : TwoR W1.heap.size W m R1 R2 E1 E2 b1 b2 aX cX gX aY cY gY
 lb : W1.heap.size ≤ b
 lm : W1.heap.size ≤ bm
theorem map_at {W : World} {bm n : Nat} {Dm : DataW Unit} (o : W.ownsMap Tryz.prog 79 (plainElem Tryz.prog 3) bm n Dm) {cs : Array Value} {t : TypeId} {fr : Nat × Nat} {k : Nat} (h : W.heap[k]? = some (.cells cs t fr)) : k ≠ bm := by
 rintro rfl
 obtain ⟨es, ck, q1, _⟩ := o
 rw [h] at q1; cases q1
theorem blk_ne {W : World} {g k : Nat} {cs cs' : Array Value} {t t' : TypeId} {fr fr' : Nat × Nat} (h : W.heap[g]? = some (.cells cs t fr)) (h' : W.heap[k]? = some (.cells cs' t' fr')) (ne : t ≠ t') : g ≠ k := by
 rintro rfl
 rw [h] at h'
 cases h'
 exact ne rfl
theorem prB_of {W1 W : World} {m R1 R2 : Nat} {E1 E2 : List EdT} {bud : Int} {b bm b1 b2 : Nat} {aX : Option Addr} {cX gX : Nat} {aY : Option Addr} {cY gY : Nat} (d : Below W1.heap.size W1 W) (z : W.heap[b]? = some (.cells #[.nilFunc, .int .i64 0, .map none, .slice none 0 0, .slice none 0 0, .slice none 0 0] 97 (0, 0))) (lb : W1.heap.size ≤ b) (lm : W1.heap.size ≤ bm) (tw : TwoR W1.heap.size W m R1 R2 E1 E2 b1 b2 aX cX gX aY cY gY) (mo : W.ownsMap Tryz.prog 79 (plainElem Tryz.prog 3) bm 0 (.map [] : DataW Unit)) :
 PrB W1 m R1 R2 E1 E2 bud b bm b1 b2 aX cX gX aY cY gY ((((((W.setCell ⟨b, 0, none⟩ (.func (.func 94) #[] #[.pointer (some ⟨b1, 0, none⟩), .pointer (some ⟨b2, 0, none⟩)])).setCell ⟨b, 1, none⟩ (.int .i64 bud)).setCell ⟨b, 2, none⟩ (.map (some bm))).setCell ⟨b, 3, none⟩ (.slice none 0 0)).setCell ⟨b, 4, none⟩ (.slice none 0 0)).setCell ⟨b, 5, none⟩ (.slice none 0 0)) := by
 have s := set6 W b _ _ _ _ _ _ (.func (.func 94) #[] #[.pointer (some ⟨b1, 0, none⟩), .pointer (some ⟨b2, 0, none⟩)]) (.int .i64 bud) (.map (some bm)) (.slice none 0 0) (.slice none 0 0) (.slice none 0 0) 97 z
 have o := only6 W b (.func (.func 94) #[] #[.pointer (some ⟨b1, 0, none⟩), .pointer (some ⟨b2, 0, none⟩)]) (.int .i64 bud) (.map (some bm)) (.slice none 0 0) (.slice none 0 0) (.slice none 0 0)
 have rk : ∀ {R : Nat} {E : List EdT} {a : Option Addr} {c g : Nat}, RwA W1.heap.size W m R E a E.length c g → ∀ {W' : World}, Only W W' (fun k => k = b) → RwA W1.heap.size W' m R E a E.length c g := by
  intro R E a c g h W' o'
  refine ⟨row_only h.ow o' (fun k hk e => ?_), h.fi.only o' (fun e => ?_), h.ge⟩
  · subst e
    rcases h.ow.2 with ⟨e3, _⟩ | ⟨g', cap, cur, e3, _, hg, _⟩
    · rw [e3] at hk; cases hk
    · rw [e3] at hk
      obtain rfl : g' = k := by simpa [Value.ownBlock] using hk
      rw [z] at hg; cases hg
  · obtain ⟨cur, q, _⟩ := h.fi
    rw [e, z] at q; cases q
 exact ⟨d.trans (o.toBelow d.size (fun k e => by omega)), s, map_only mo o (fun e => map_at mo z e.symm), ⟨o.cellK tw.h1 (blk_ne tw.h1 z (by decide)), o.cellK tw.h2 (blk_ne tw.h2 z (by decide)), rk tw.r1 o, rk tw.r2 o⟩, lb, lm⟩
theorem PrB.ss {W1 W W' : World} {m R1 R2 : Nat} {E1 E2 : List EdT} {bud : Int} {b bm b1 b2 : Nat} {aX : Option Addr} {cX gX : Nat} {aY : Option Addr} {cY gY : Nat} (h : PrB W1 m R1 R2 E1 E2 bud b bm b1 b2 aX cX gX aY cY gY W) (d : Below W.heap.size W W') (D : Nat) : SS D W' b bm (.func (.func 94) #[] #[.pointer (some ⟨b1, 0, none⟩), .pointer (some ⟨b2, 0, none⟩)]) bud (.slice none 0 0) (.slice none 0 0) (.slice none 0 0) [] [] 0 [] :=
 ⟨blk_on h.bx d, World.ownsRow_nil _ _ _ _, ⟨_, map_below h.mo d, isPl_nil kPrs⟩, World.ownsRow_nil _ _ _ _, World.ownsRow_nil _ _ _ _, by simp, List.nodup_nil⟩
theorem rwT_of {W W' : World} {D B b bm bx m R : Nat} {E : List EdT} {a : Option Addr} {c g : Nat} {cs : Array Value} (hb : W.heap[b]? = some (.cells cs 97 (0, 0))) (mo : W.ownsMap Tryz.prog 79 (plainElem Tryz.prog 3) bm 0 (.map [] : DataW Unit)) (d : Below W.heap.size W W') (hD : W.heap.size ≤ D) (h : W.heap[bx]? = some (.cells #[.int .i64 (m : Int), .slice a E.length c, .slice (some ⟨g, 0, none⟩) (R + 1) (R + 1)] 93 (0, 0))) (r : RwA B W m R E a E.length c g) : RwT (fun k => k < D ∧ k ≠ b ∧ k ≠ bm) W' bx B m R E a c g := by
 have lt : ∀ {k : Nat} {o : Obj}, W.heap[k]? = some o → k < W.heap.size := fun hk => (Array.getElem?_eq_some_iff.1 hk).1
 refine ⟨blk_on h d, r.on d, ⟨by have := lt h; omega, blk_ne h hb (by decide), map_at mo h⟩, ?_, ?_⟩
 · obtain ⟨cur, q, _⟩ := r.fi
   exact ⟨by have := lt q; omega, blk_ne q hb (by decide), map_at mo q⟩
 · rintro i o rfl
   rcases r.ow.2 with ⟨e3, _⟩ | ⟨g', cap, cur, e3, _, hg, _⟩
   · cases e3
   · cases e3
     exact ⟨by have := lt hg; omega, blk_ne hg hb (by decide), map_at mo hg⟩
structure MeetR (m N M : Nat) (S1 F1 : List Int) (E1 : List EdT) (S2 F2 : List Int) (E2 : List EdT) (ps : List PrT) (S F : List Int) (E : List EdT) : Prop where
 nd : ps.Nodup
 len : ps.length ≤ 4096
 bd : ∀ x ∈ ps, ∃ p q : Nat, x = ((p : Int), (q : Int)) ∧ p < N ∧ q < M
 sin : ∀ t ∈ prsL S1 S2, t ∈ ps
 st : ∀ n, n ∈ S ↔ ∃ t ∈ prsL S1 S2, n = (ps.idxOf t : Int)
 fi : F = enT (finB F1) (finB F2) ps ps.length
 cl : ∀ (a c : Nat) (x y : PrT), ps[a]? = some x → c < m → stp E1 E2 x c y → y ∈ ps
 ed : ∀ e : EdT, e ∈ E ↔ ∃ (a c : Nat) (x y : PrT), ps[a]? = some x ∧ c < m ∧ stp E1 E2 x c y ∧ e = ((a : Int), (c : Int), (ps.idxOf y : Int))
theorem meetR_of {m N M : Nat} {S1 F1 : List Int} {E1 : List EdT} {S2 F2 : List Int} {E2 : List EdT} {ps0 ps : List PrT} {S : List Int} {E : List EdT} {bud : Int} (he : metF bud false [] (prsL S1 S2) [] = (0, ps0, S)) (h : RnI E1 E2 m N M ps0 ps E ps.length 0) (hl : E.length ≤ 65536) (hp : ps.length ≤ 4096) : MeetR m N M S1 F1 E1 S2 F2 E2 ps S (enT (finB F1) (finB F2) ps ps.length) E := by
 obtain ⟨_, _, _, k4, _⟩ := metF_inv _ _ _ _ _ _ _ _ he List.nodup_nil
 obtain ⟨k6, k7⟩ := k4 rfl
 obtain ⟨z, hz⟩ := h.pre
 have hh : ∀ {a : Nat} {x : PrT} (c : Nat), ps[a]? = some x → (hnd m ps.length 0 a c ↔ c < m) := fun {a} {x} c ha => by
  have := (List.getElem?_eq_some_iff.1 ha).1
  unfold hnd
  omega
 refine ⟨h.nd, hp, h.bd, fun t ht => by rw [hz]; exact List.mem_append_left _ (k6 t ht), fun n => ?_, rfl, fun a c x y h1 h2 h3 => h.cl a c x y h1 ((hh c h1).2 h2) h3, fun e => ?_⟩
 · rw [k7 rfl n]
   constructor
   · rintro (h | ⟨t, ht, rfl⟩)
     · simp at h
     · exact ⟨t, ht, by rw [hz, idx_app (k6 t ht)]⟩
   · rintro ⟨t, ht, rfl⟩
     exact .inr ⟨t, ht, by rw [hz, idx_app (k6 t ht)]⟩
 · rw [h.ed hl]
   constructor
   · rintro ⟨a, c, x, y, h1, h2, h3, h4⟩
     exact ⟨a, c, x, y, h1, (hh c h1).1 h2, h3, h4⟩
   · rintro ⟨a, c, x, y, h1, h2, h3, h4⟩
     exact ⟨a, c, x, y, h1, (hh c h1).2 h2, h3, h4⟩
end Go.Proofs.YtchoopnjckcohaaGreatDoor
