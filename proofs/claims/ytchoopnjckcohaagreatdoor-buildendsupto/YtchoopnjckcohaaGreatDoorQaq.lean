import Derived.Test.YtchoopnjckcohaaGreatDoorQap
import Derived.Test.YtchoopnjckcohaaGreatDoorQak
namespace Go.Proofs.YtchoopnjckcohaaGreatDoor
open Go.RowKit Go.Maps Go.Shelf
attribute [local go_sem] Oper.semAt_some

/-! ### both: two automata in order, over the same symbols -/
theorem results_c2 {P : Program} {fn : Func} {p q r : Tmp} {ty : TypeId} (h : fn.results = #[.cell p ty, .cell q ty, .tmp r]) (tmps : Array Value) (w : World) (g g' : Nat) (t : TypeId) (cs cs' : Array Value) (fr : Nat × Nat) (d : TypeDesc) (x : Value)
    (hp : tmps.getD p undef = .pointer (some ⟨g, 0, none⟩)) (hp2 : tmps.getD q undef = .pointer (some ⟨g', 0, none⟩)) (hq : tmps.getD r undef = x) (hg : w.heap[g]? = some (.cells cs t fr)) (hg2 : w.heap[g']? = some (.cells cs' t fr))
    (hu : P.underlying ty = some d) (hd : (match d with | .struct _ | .array _ _ => true | _ => false) = true) (hi : (P.info? ty).map (·.size) = some cs.size) (hi2 : (P.info? ty).map (·.size) = some cs'.size) :
    (results fn tmps).run P w = .ok (.tuple #[.agg cs, .agg cs', x]) w := by
  have hp' : tmps[p]?.getD undef = .pointer (some ⟨g, 0, none⟩) := by simpa using hp
  have hp2' : tmps[q]?.getD undef = .pointer (some ⟨g', 0, none⟩) := by simpa using hp2
  have hq' : tmps[r]?.getD undef = x := by simpa using hq
  simp [results, h, hp', hp2', hq', asAddr, run_loadVar_row w g t ty cs fr d hg hu hd hi, run_loadVar_row w g' t ty cs' fr d hg2 hu hd hi2]
/-- Two boxes, one behind the other, filled. -/
theorem two5 {W : World} {g g' : Nat} {v0 v1 v2 v3 v4 u0 u1 u2 u3 u4 x0 x1 x2 x3 x4 z0 z1 z2 z3 z4 : Value} (h : W.heap[g]? = some (.cells #[v0, v1, v2, v3, v4] 25 (0, 0))) (h' : W.heap[g']? = some (.cells #[u0, u1, u2, u3, u4] 25 (0, 0))) (ne : g ≠ g') :
    ((((((((((W.setCell ⟨g, 0, none⟩ (x0)).setCell ⟨g, 1, none⟩ (x1)).setCell ⟨g, 2, none⟩ (x2)).setCell ⟨g, 3, none⟩ (x3)).setCell ⟨g, 4, none⟩ (x4)).setCell ⟨g', 0, none⟩ (z0)).setCell ⟨g', 1, none⟩ (z1)).setCell ⟨g', 2, none⟩ (z2)).setCell ⟨g', 3, none⟩ (z3)).setCell ⟨g', 4, none⟩ (z4)).heap[g]? = some (.cells #[x0, x1, x2, x3, x4] 25 (0, 0)) ∧ ((((((((((W.setCell ⟨g, 0, none⟩ (x0)).setCell ⟨g, 1, none⟩ (x1)).setCell ⟨g, 2, none⟩ (x2)).setCell ⟨g, 3, none⟩ (x3)).setCell ⟨g, 4, none⟩ (x4)).setCell ⟨g', 0, none⟩ (z0)).setCell ⟨g', 1, none⟩ (z1)).setCell ⟨g', 2, none⟩ (z2)).setCell ⟨g', 3, none⟩ (z3)).setCell ⟨g', 4, none⟩ (z4)).heap[g']? = some (.cells #[z0, z1, z2, z3, z4] 25 (0, 0)) ∧ Only W ((((((((((W.setCell ⟨g, 0, none⟩ (x0)).setCell ⟨g, 1, none⟩ (x1)).setCell ⟨g, 2, none⟩ (x2)).setCell ⟨g, 3, none⟩ (x3)).setCell ⟨g, 4, none⟩ (x4)).setCell ⟨g', 0, none⟩ (z0)).setCell ⟨g', 1, none⟩ (z1)).setCell ⟨g', 2, none⟩ (z2)).setCell ⟨g', 3, none⟩ (z3)).setCell ⟨g', 4, none⟩ (z4)) (fun k => k = g ∨ k = g') := by
  have s1 := set5 W g _ _ _ _ _ x0 x1 x2 x3 x4 25 h
  have o1 := only5 W g x0 x1 x2 x3 x4
  have t1 := (o1.block g' (Array.getElem?_eq_some_iff.1 h').1 (fun e => ne e.symm)).trans h'
  generalize (((((W.setCell ⟨g, 0, none⟩ (x0)).setCell ⟨g, 1, none⟩ (x1)).setCell ⟨g, 2, none⟩ (x2)).setCell ⟨g, 3, none⟩ (x3)).setCell ⟨g, 4, none⟩ (x4)) = W1 at s1 o1 t1 ⊢
  have s2 := set5 W1 g' _ _ _ _ _ z0 z1 z2 z3 z4 25 t1
  have o2 := only5 W1 g' z0 z1 z2 z3 z4
  have s3 := (o2.block g (Array.getElem?_eq_some_iff.1 s1).1 (fun e => ne e)).trans s1
  exact ⟨s3, s2, ⟨o2.os.trans o1.os, o2.tape.trans o1.tape, o2.output.trans o1.output, Nat.le_trans o1.size o2.size, fun k hk hn => (o2.block k (Nat.lt_of_lt_of_le hk o1.size) (fun e => hn (.inr e))).trans (o1.block k hk (fun e => hn (.inl e)))⟩⟩
theorem ownO_own {B : Nat} {w : World} {g1 k1 g2 k2 g3 k3 : Nat} {S F : List Int} {E : List EdT} (h : Own B w g1 k1 g2 k2 g3 k3 S F E) : OwnO B w (.slice (some ⟨g1, 0, none⟩) S.length k1) (.slice (some ⟨g2, 0, none⟩) F.length k2) (.slice (some ⟨g3, 0, none⟩) E.length k3) S F E :=
  ⟨h.s, h.f, h.e, fun g hg hh => by
    simp only [Value.ownBlock, Option.some.injEq] at hg hh
    exact h.n12 (hg.trans hh.symm)⟩
end Go.Proofs.YtchoopnjckcohaaGreatDoor
namespace Go.Proofs.YtchoopnjckcohaaGreatDoor
open Go.RowKit Go.Maps Go.Shelf
attribute [local go_sem] Oper.semAt_some

/-! ### both, of two automata over the same symbols -/
theorem own_two {W W' : World} {B n sz p q : Nat} {e t : TypeId} {v : Value} {xs : List Value} {cs cs' : Array Value} (h : W.ownsRow B e sz v n xs) (z : W.heap[p]? = some (.cells cs t (0, 0))) (z' : W.heap[q]? = some (.cells cs' t (0, 0))) (ne : t ≠ e) (o : Only W W' (fun k => k = p ∨ k = q)) : W'.ownsRow B e sz v n xs := row_only h o (fun k hk hk2 => by
  rcases hk2 with rfl | rfl
  · exact row_tag h z ne hk
  · exact row_tag h z' ne hk)
theorem ownO_two {B p q : Nat} {w w' : World} {v1 v2 v3 : Value} {S F : List Int} {E : List EdT} {cs cs' : Array Value} (h : OwnO B w v1 v2 v3 S F E) (z : w.heap[p]? = some (.cells cs 25 (0, 0))) (z' : w.heap[q]? = some (.cells cs' 25 (0, 0))) (o : Only w w' (fun k => k = p ∨ k = q)) : OwnO B w' v1 v2 v3 S F E := ⟨own_two h.s z z' (by decide) o, own_two h.f z z' (by decide) o, own_two h.e z z' (by decide) o, h.ne⟩
set_option maxRecDepth 100000 in
set_option maxHeartbeats 4000000 in
theorem both_ok (w : World) (n m n' : Int) (a1 a2 a3 b1 b2 b3 : Option Addr) (c1 c2 c3 d1 d2 d3 : Nat) (Sa Fa Sb Fb : List Int) (Ea Eb : List EdT) (hA : Hid (RdA w a1 a2 a3 Sa Fa Ea)) (hB : Hid (RdA w b1 b2 b3 Sb Fb Eb)) (h1 : Sa.length ≤ 4194304) (h2 : Fa.length ≤ 4194304) (h3 : Ea.length ≤ 4194304) (h4 : Sb.length ≤ 4194304) (h5 : Fb.length ≤ 4194304) (h6 : Eb.length ≤ 4194304) (em : mayA n m Sa Fa Ea = true) (em' : mayA n' m Sb Fb Eb = true) :
    Calls Tryz.prog 55 #[.agg #[.int .i64 n, .int .i64 m, .slice a1 Sa.length c1, .slice a2 Fa.length c2, .slice a3 Ea.length c3], .agg #[.int .i64 n', .int .i64 m, .slice b1 Sb.length d1, .slice b2 Fb.length d2, .slice b3 Eb.length d3]] w fun e w' => ∃ g1 k1 g2 k2 g3 k3 r1 q1 r2 q2 r3 q3, e = .returned (.tuple #[.agg #[.int .i64 n, .int .i64 m, .slice (some ⟨g1, 0, none⟩) (riseL Sa).length k1, .slice (some ⟨g2, 0, none⟩) (riseL Fa).length k2, .slice (some ⟨g3, 0, none⟩) (riseE Ea).length k3], .agg #[.int .i64 n', .int .i64 m, .slice (some ⟨r1, 0, none⟩) (riseL Sb).length q1, .slice (some ⟨r2, 0, none⟩) (riseL Fb).length q2, .slice (some ⟨r3, 0, none⟩) (riseE Eb).length q3], .int .i64 0]) ∧ Hid (OwnO w.heap.size w' (.slice (some ⟨g1, 0, none⟩) (riseL Sa).length k1) (.slice (some ⟨g2, 0, none⟩) (riseL Fa).length k2) (.slice (some ⟨g3, 0, none⟩) (riseE Ea).length k3) (riseL Sa) (riseL Fa) (riseE Ea) ∧ OwnO w.heap.size w' (.slice (some ⟨r1, 0, none⟩) (riseL Sb).length q1) (.slice (some ⟨r2, 0, none⟩) (riseL Fb).length q2) (.slice (some ⟨r3, 0, none⟩) (riseE Eb).length q3) (riseL Sb) (riseL Fb) (riseE Eb) ∧ Below w.heap.size w w') := by
  obtain ⟨W0, hW0⟩ : ∃ W0, (((w.alloc (.cells #[.int .i64 n, .int .i64 m, .slice a1 Sa.length c1, .slice a2 Fa.length c2, .slice a3 Ea.length c3] 25)).alloc (.cells #[.int .i64 n', .int .i64 m, .slice b1 Sb.length d1, .slice b2 Fb.length d2, .slice b3 Eb.length d3] 25)).alloc (.cells #[.int .i64 0, .int .i64 0, .slice none 0 0, .slice none 0 0, .slice none 0 0] 25)).alloc (.cells #[.int .i64 0, .int .i64 0, .slice none 0 0, .slice none 0 0, .slice none 0 0] 25) = W0 := ⟨_, rfl⟩
  have HD := hide (And.intro (box4 w (.cells #[.int .i64 n, .int .i64 m, .slice a1 Sa.length c1, .slice a2 Fa.length c2, .slice a3 Ea.length c3] 25) (.cells #[.int .i64 n', .int .i64 m, .slice b1 Sb.length d1, .slice b2 Fb.length d2, .slice b3 Eb.length d3] 25) (.cells #[.int .i64 0, .int .i64 0, .slice none 0 0, .slice none 0 0, .slice none 0 0] 25) (.cells #[.int .i64 0, .int .i64 0, .slice none 0 0, .slice none 0 0, .slice none 0 0] 25)) (show ((((w.alloc (.cells #[.int .i64 n, .int .i64 m, .slice a1 Sa.length c1, .slice a2 Fa.length c2, .slice a3 Ea.length c3] 25)).alloc (.cells #[.int .i64 n', .int .i64 m, .slice b1 Sb.length d1, .slice b2 Fb.length d2, .slice b3 Eb.length d3] 25)).alloc (.cells #[.int .i64 0, .int .i64 0, .slice none 0 0, .slice none 0 0, .slice none 0 0] 25)).alloc (.cells #[.int .i64 0, .int .i64 0, .slice none 0 0, .slice none 0 0, .slice none 0 0] 25)).heap.size = w.heap.size + 4 by simp))
  rw [hW0] at HD
  have y0 : W0.cell? ⟨w.heap.size, 0, none⟩ = some (.int .i64 n) := cell_of HD.out.1.2.1 rfl
  have y1 : W0.cell? ⟨w.heap.size, 1, none⟩ = some (.int .i64 m) := cell_of HD.out.1.2.1 rfl
  have y2 : W0.cell? ⟨w.heap.size, 2, none⟩ = some (.slice a1 Sa.length c1) := cell_of HD.out.1.2.1 rfl
  have y3 : W0.cell? ⟨w.heap.size, 3, none⟩ = some (.slice a2 Fa.length c2) := cell_of HD.out.1.2.1 rfl
  have y4 : W0.cell? ⟨w.heap.size, 4, none⟩ = some (.slice a3 Ea.length c3) := cell_of HD.out.1.2.1 rfl
  have TN := normal_ok W0 n m a1 a2 a3 c1 c2 c3 Sa Fa Ea (hide (hA.out.on HD.out.1.1)) h1 h2 h3 em
  obtain ⟨S1, hS1⟩ : ∃ X, riseL Sa = X := ⟨_, rfl⟩
  obtain ⟨F1, hF1⟩ : ∃ X, riseL Fa = X := ⟨_, rfl⟩
  obtain ⟨E1, hE1⟩ : ∃ X, riseE Ea = X := ⟨_, rfl⟩
  rw [hS1, hF1, hE1] at TN
  obtain ⟨S2, hS2⟩ : ∃ X, riseL Sb = X := ⟨_, rfl⟩
  obtain ⟨F2, hF2⟩ : ∃ X, riseL Fb = X := ⟨_, rfl⟩
  obtain ⟨E2, hE2⟩ : ∃ X, riseE Eb = X := ⟨_, rfl⟩
  rw [hS1, hF1, hE1, hS2, hF2, hE2]
  have HR2 := hide (And.intro hS2 (And.intro hF2 hE2))
  clear hS2 hF2 hE2
  clear em hS1 hF1 hE1
  go_enter Tryz.func55, Tryz.ntmps55
  go_upto_region 4 with (go_at_call 48; refine TN.mono ?_; rintro e w1 ⟨g1, k1, g2, k2, g3, k3, rfl, HO, D1⟩; have HF1 := hide (And.intro D1 HO); have F4 := blk_on HD.out.1.2.2.2.1 D1; have o0 : w1.cell? ⟨w.heap.size + 1 + 1, 0, none⟩ = some (.int .i64 0) := cell_of F4 rfl; have f0 : w1.frozen? ⟨w.heap.size + 1 + 1, 0, none⟩ = false := fz_of F4; have o1 : w1.cell? ⟨w.heap.size + 1 + 1, 1, none⟩ = some (.int .i64 0) := cell_of F4 rfl; have f1 : w1.frozen? ⟨w.heap.size + 1 + 1, 1, none⟩ = false := fz_of F4; have o2 : w1.cell? ⟨w.heap.size + 1 + 1, 2, none⟩ = some (.slice none 0 0) := cell_of F4 rfl; have f2 : w1.frozen? ⟨w.heap.size + 1 + 1, 2, none⟩ = false := fz_of F4; have o3 : w1.cell? ⟨w.heap.size + 1 + 1, 3, none⟩ = some (.slice none 0 0) := cell_of F4 rfl; have f3 : w1.frozen? ⟨w.heap.size + 1 + 1, 3, none⟩ = false := fz_of F4; have o4 : w1.cell? ⟨w.heap.size + 1 + 1, 4, none⟩ = some (.slice none 0 0) := cell_of F4 rfl; have f4 : w1.frozen? ⟨w.heap.size + 1 + 1, 4, none⟩ = false := fz_of F4; clear F4 D1 HO)
  obtain ⟨W2, hW2⟩ : ∃ W2, (((((w1.setCell ⟨w.heap.size + 1 + 1, 0, none⟩ (.int .i64 n)).setCell ⟨w.heap.size + 1 + 1, 1, none⟩ (.int .i64 m)).setCell ⟨w.heap.size + 1 + 1, 2, none⟩ (.slice (some ⟨g1, 0, none⟩) S1.length k1)).setCell ⟨w.heap.size + 1 + 1, 3, none⟩ (.slice (some ⟨g2, 0, none⟩) F1.length k2)).setCell ⟨w.heap.size + 1 + 1, 4, none⟩ (.slice (some ⟨g3, 0, none⟩) E1.length k3)) = W2 := ⟨_, rfl⟩
  rw [hW2]
  have H2 : Hid (W2.heap[w.heap.size + 1 + 1]? = some (.cells #[.int .i64 n, .int .i64 m, .slice (some ⟨g1, 0, none⟩) S1.length k1, .slice (some ⟨g2, 0, none⟩) F1.length k2, .slice (some ⟨g3, 0, none⟩) E1.length k3] 25 (0, 0)) ∧ W2.heap[w.heap.size + 1 + 1 + 1]? = some (.cells #[.int .i64 0, .int .i64 0, .slice none 0 0, .slice none 0 0, .slice none 0 0] 25 (0, 0)) ∧ Below w.heap.size w W2 ∧ W2.heap[w.heap.size + 1]? = some (.cells #[.int .i64 n', .int .i64 m, .slice b1 Sb.length d1, .slice b2 Fb.length d2, .slice b3 Eb.length d3] 25 (0, 0)) ∧ OwnO w.heap.size W2 (.slice (some ⟨g1, 0, none⟩) S1.length k1) (.slice (some ⟨g2, 0, none⟩) F1.length k2) (.slice (some ⟨g3, 0, none⟩) E1.length k3) S1 F1 E1) := hide (by
    have q4 := blk_on HD.out.1.2.2.2.1 HF1.out.1
    have q5 := blk_on HD.out.1.2.2.2.2 HF1.out.1
    have q1 := blk_on HD.out.1.2.2.1 HF1.out.1
    have o := only5 w1 (w.heap.size + 1 + 1) (.int .i64 n) (.int .i64 m) (.slice (some ⟨g1, 0, none⟩) S1.length k1) (.slice (some ⟨g2, 0, none⟩) F1.length k2) (.slice (some ⟨g3, 0, none⟩) E1.length k3)
    have d := HD.out.1.1.trans (HF1.out.1.mono HD.out.1.1.size)
    have s0 := HD.out.1.1.size
    have ow : OwnO W0.heap.size w1 (.slice (some ⟨g1, 0, none⟩) S1.length k1) (.slice (some ⟨g2, 0, none⟩) F1.length k2) (.slice (some ⟨g3, 0, none⟩) E1.length k3) S1 F1 E1 := ownO_own HF1.out.2
    rw [← hW2]
    exact ⟨set5 w1 (w.heap.size + 1 + 1) _ _ _ _ _ _ _ _ _ _ 25 q4, (o.block _ (Array.getElem?_eq_some_iff.1 q5).1 (by omega)).trans q5, d.trans (o.toBelow d.size (fun k hk => by omega)), (o.block _ (Array.getElem?_eq_some_iff.1 q1).1 (by omega)).trans q1, (ow.keep q4 o).down (by omega)⟩)
  clear hW2 HF1 TN o0 f0 y0 o1 f1 y1 o2 f2 y2 o3 f3 y3 o4 f4 y4
  have y0 : W2.cell? ⟨w.heap.size + 1, 0, none⟩ = some (.int .i64 n') := cell_of H2.out.2.2.2.1 rfl
  have y1 : W2.cell? ⟨w.heap.size + 1, 1, none⟩ = some (.int .i64 m) := cell_of H2.out.2.2.2.1 rfl
  have y2 : W2.cell? ⟨w.heap.size + 1, 2, none⟩ = some (.slice b1 Sb.length d1) := cell_of H2.out.2.2.2.1 rfl
  have y3 : W2.cell? ⟨w.heap.size + 1, 3, none⟩ = some (.slice b2 Fb.length d2) := cell_of H2.out.2.2.2.1 rfl
  have y4 : W2.cell? ⟨w.heap.size + 1, 4, none⟩ = some (.slice b3 Eb.length d3) := cell_of H2.out.2.2.2.1 rfl
  have TB := normal_ok W2 n' m b1 b2 b3 d1 d2 d3 Sb Fb Eb (hide (hB.out.on H2.out.2.2.1)) h4 h5 h6 em'
  rw [HR2.out.1, HR2.out.2.1, HR2.out.2.2] at TB
  clear em'
  go_upto_region 7 with (go_at_call 48; refine TB.mono ?_; rintro e w3 ⟨r1, q1, r2, q2, r3, q3, rfl, HO, D3⟩; have HF3 := hide (And.intro D3 HO); have F5 := blk_on H2.out.2.1 D3; have o0 : w3.cell? ⟨w.heap.size + 1 + 1 + 1, 0, none⟩ = some (.int .i64 0) := cell_of F5 rfl; have f0 : w3.frozen? ⟨w.heap.size + 1 + 1 + 1, 0, none⟩ = false := fz_of F5; have o1 : w3.cell? ⟨w.heap.size + 1 + 1 + 1, 1, none⟩ = some (.int .i64 0) := cell_of F5 rfl; have f1 : w3.frozen? ⟨w.heap.size + 1 + 1 + 1, 1, none⟩ = false := fz_of F5; have o2 : w3.cell? ⟨w.heap.size + 1 + 1 + 1, 2, none⟩ = some (.slice none 0 0) := cell_of F5 rfl; have f2 : w3.frozen? ⟨w.heap.size + 1 + 1 + 1, 2, none⟩ = false := fz_of F5; have o3 : w3.cell? ⟨w.heap.size + 1 + 1 + 1, 3, none⟩ = some (.slice none 0 0) := cell_of F5 rfl; have f3 : w3.frozen? ⟨w.heap.size + 1 + 1 + 1, 3, none⟩ = false := fz_of F5; have o4 : w3.cell? ⟨w.heap.size + 1 + 1 + 1, 4, none⟩ = some (.slice none 0 0) := cell_of F5 rfl; have f4 : w3.frozen? ⟨w.heap.size + 1 + 1 + 1, 4, none⟩ = false := fz_of F5; clear F5 D3 HO)
  obtain ⟨W4, hW4⟩ : ∃ W4, (((((w3.setCell ⟨w.heap.size + 1 + 1 + 1, 0, none⟩ (.int .i64 n')).setCell ⟨w.heap.size + 1 + 1 + 1, 1, none⟩ (.int .i64 m)).setCell ⟨w.heap.size + 1 + 1 + 1, 2, none⟩ (.slice (some ⟨r1, 0, none⟩) S2.length q1)).setCell ⟨w.heap.size + 1 + 1 + 1, 3, none⟩ (.slice (some ⟨r2, 0, none⟩) F2.length q2)).setCell ⟨w.heap.size + 1 + 1 + 1, 4, none⟩ (.slice (some ⟨r3, 0, none⟩) E2.length q3)) = W4 := ⟨_, rfl⟩
  rw [hW4]
  have H4 : Hid (W4.heap[w.heap.size + 1 + 1]? = some (.cells #[.int .i64 n, .int .i64 m, .slice (some ⟨g1, 0, none⟩) S1.length k1, .slice (some ⟨g2, 0, none⟩) F1.length k2, .slice (some ⟨g3, 0, none⟩) E1.length k3] 25 (0, 0)) ∧ W4.heap[w.heap.size + 1 + 1 + 1]? = some (.cells #[.int .i64 n', .int .i64 m, .slice (some ⟨r1, 0, none⟩) S2.length q1, .slice (some ⟨r2, 0, none⟩) F2.length q2, .slice (some ⟨r3, 0, none⟩) E2.length q3] 25 (0, 0)) ∧ Below w.heap.size w W4 ∧ OwnO w.heap.size W4 (.slice (some ⟨g1, 0, none⟩) S1.length k1) (.slice (some ⟨g2, 0, none⟩) F1.length k2) (.slice (some ⟨g3, 0, none⟩) E1.length k3) S1 F1 E1 ∧ OwnO w.heap.size W4 (.slice (some ⟨r1, 0, none⟩) S2.length q1) (.slice (some ⟨r2, 0, none⟩) F2.length q2) (.slice (some ⟨r3, 0, none⟩) E2.length q3) S2 F2 E2) := hide (by
    have q4 := blk_on H2.out.1 HF3.out.1
    have q5 := blk_on H2.out.2.1 HF3.out.1
    have o := only5 w3 (w.heap.size + 1 + 1 + 1) (.int .i64 n') (.int .i64 m) (.slice (some ⟨r1, 0, none⟩) S2.length q1) (.slice (some ⟨r2, 0, none⟩) F2.length q2) (.slice (some ⟨r3, 0, none⟩) E2.length q3)
    have d := H2.out.2.2.1.trans (HF3.out.1.mono H2.out.2.2.1.size)
    have ow : OwnO W2.heap.size w3 (.slice (some ⟨r1, 0, none⟩) S2.length q1) (.slice (some ⟨r2, 0, none⟩) F2.length q2) (.slice (some ⟨r3, 0, none⟩) E2.length q3) S2 F2 E2 := ownO_own HF3.out.2
    rw [← hW4]
    exact ⟨(o.block _ (Array.getElem?_eq_some_iff.1 q4).1 (by omega)).trans q4, set5 w3 (w.heap.size + 1 + 1 + 1) _ _ _ _ _ _ _ _ _ _ 25 q5, d.trans (o.toBelow d.size (fun k hk => by omega)), (H2.out.2.2.2.2.on HF3.out.1).keep q5 o, (ow.keep q5 o).down H2.out.2.2.1.size⟩)
  clear hW4 HF3 TB H2 o0 f0 y0 o1 f1 y1 o2 f2 y2 o3 f3 y3 o4 f4 y4
  have o0 : W4.cell? ⟨w.heap.size + 1 + 1, 0, none⟩ = some (.int .i64 n) := cell_of H4.out.1 rfl
  have f0 : W4.frozen? ⟨w.heap.size + 1 + 1, 0, none⟩ = false := fz_of H4.out.1
  have o1 : W4.cell? ⟨w.heap.size + 1 + 1, 1, none⟩ = some (.int .i64 m) := cell_of H4.out.1 rfl
  have f1 : W4.frozen? ⟨w.heap.size + 1 + 1, 1, none⟩ = false := fz_of H4.out.1
  have o2 : W4.cell? ⟨w.heap.size + 1 + 1, 2, none⟩ = some (.slice (some ⟨g1, 0, none⟩) S1.length k1) := cell_of H4.out.1 rfl
  have f2 : W4.frozen? ⟨w.heap.size + 1 + 1, 2, none⟩ = false := fz_of H4.out.1
  have o3 : W4.cell? ⟨w.heap.size + 1 + 1, 3, none⟩ = some (.slice (some ⟨g2, 0, none⟩) F1.length k2) := cell_of H4.out.1 rfl
  have f3 : W4.frozen? ⟨w.heap.size + 1 + 1, 3, none⟩ = false := fz_of H4.out.1
  have o4 : W4.cell? ⟨w.heap.size + 1 + 1, 4, none⟩ = some (.slice (some ⟨g3, 0, none⟩) E1.length k3) := cell_of H4.out.1 rfl
  have f4 : W4.frozen? ⟨w.heap.size + 1 + 1, 4, none⟩ = false := fz_of H4.out.1
  have p0 : W4.cell? ⟨w.heap.size + 1 + 1 + 1, 0, none⟩ = some (.int .i64 n') := cell_of H4.out.2.1 rfl
  have fz0 : W4.frozen? ⟨w.heap.size + 1 + 1 + 1, 0, none⟩ = false := fz_of H4.out.2.1
  have p1 : W4.cell? ⟨w.heap.size + 1 + 1 + 1, 1, none⟩ = some (.int .i64 m) := cell_of H4.out.2.1 rfl
  have fz1 : W4.frozen? ⟨w.heap.size + 1 + 1 + 1, 1, none⟩ = false := fz_of H4.out.2.1
  have p2 : W4.cell? ⟨w.heap.size + 1 + 1 + 1, 2, none⟩ = some (.slice (some ⟨r1, 0, none⟩) S2.length q1) := cell_of H4.out.2.1 rfl
  have fz2 : W4.frozen? ⟨w.heap.size + 1 + 1 + 1, 2, none⟩ = false := fz_of H4.out.2.1
  have p3 : W4.cell? ⟨w.heap.size + 1 + 1 + 1, 3, none⟩ = some (.slice (some ⟨r2, 0, none⟩) F2.length q2) := cell_of H4.out.2.1 rfl
  have fz3 : W4.frozen? ⟨w.heap.size + 1 + 1 + 1, 3, none⟩ = false := fz_of H4.out.2.1
  have p4 : W4.cell? ⟨w.heap.size + 1 + 1 + 1, 4, none⟩ = some (.slice (some ⟨r3, 0, none⟩) E2.length q3) := cell_of H4.out.2.1 rfl
  have fz4 : W4.frozen? ⟨w.heap.size + 1 + 1 + 1, 4, none⟩ = false := fz_of H4.out.2.1
  have O5 := hide (two5 (W := W4) (x0 := .int .i64 n) (z0 := .int .i64 n') (x1 := .int .i64 m) (z1 := .int .i64 m) (x2 := .slice (some ⟨g1, 0, none⟩) S1.length k1) (z2 := .slice (some ⟨r1, 0, none⟩) S2.length q1) (x3 := .slice (some ⟨g2, 0, none⟩) F1.length k2) (z3 := .slice (some ⟨r2, 0, none⟩) F2.length q2) (x4 := .slice (some ⟨g3, 0, none⟩) E1.length k3) (z4 := .slice (some ⟨r3, 0, none⟩) E2.length q3) H4.out.1 H4.out.2.1 (by omega))
  go_upto_region 9 with fail
  go_region_law (fail)
  all_goals
    have O6 := O5.out
    generalize ((((((((((W4.setCell ⟨w.heap.size + 1 + 1, 0, none⟩ (.int .i64 n)).setCell ⟨w.heap.size + 1 + 1, 1, none⟩ (.int .i64 m)).setCell ⟨w.heap.size + 1 + 1, 2, none⟩ (.slice (some ⟨g1, 0, none⟩) S1.length k1)).setCell ⟨w.heap.size + 1 + 1, 3, none⟩ (.slice (some ⟨g2, 0, none⟩) F1.length k2)).setCell ⟨w.heap.size + 1 + 1, 4, none⟩ (.slice (some ⟨g3, 0, none⟩) E1.length k3)).setCell ⟨w.heap.size + 1 + 1 + 1, 0, none⟩ (.int .i64 n')).setCell ⟨w.heap.size + 1 + 1 + 1, 1, none⟩ (.int .i64 m)).setCell ⟨w.heap.size + 1 + 1 + 1, 2, none⟩ (.slice (some ⟨r1, 0, none⟩) S2.length q1)).setCell ⟨w.heap.size + 1 + 1 + 1, 3, none⟩ (.slice (some ⟨r2, 0, none⟩) F2.length q2)).setCell ⟨w.heap.size + 1 + 1 + 1, 4, none⟩ (.slice (some ⟨r3, 0, none⟩) E2.length q3)) = W6 at O6 ⊢
    have K6 : Hid (W6.drew.heap[w.heap.size + 1 + 1]? = some (.cells #[.int .i64 n, .int .i64 m, .slice (some ⟨g1, 0, none⟩) S1.length k1, .slice (some ⟨g2, 0, none⟩) F1.length k2, .slice (some ⟨g3, 0, none⟩) E1.length k3] 25 (0, 0)) ∧ W6.drew.heap[w.heap.size + 1 + 1 + 1]? = some (.cells #[.int .i64 n', .int .i64 m, .slice (some ⟨r1, 0, none⟩) S2.length q1, .slice (some ⟨r2, 0, none⟩) F2.length q2, .slice (some ⟨r3, 0, none⟩) E2.length q3] 25 (0, 0)) ∧ OwnO w.heap.size W6.drew (.slice (some ⟨g1, 0, none⟩) S1.length k1) (.slice (some ⟨g2, 0, none⟩) F1.length k2) (.slice (some ⟨g3, 0, none⟩) E1.length k3) S1 F1 E1 ∧ OwnO w.heap.size W6.drew (.slice (some ⟨r1, 0, none⟩) S2.length q1) (.slice (some ⟨r2, 0, none⟩) F2.length q2) (.slice (some ⟨r3, 0, none⟩) E2.length q3) S2 F2 E2 ∧ Below w.heap.size w W6.drew) := hide (by
      have dq : Below W6.heap.size W6 W6.drew := ⟨rfl, rfl, rfl, Nat.le_refl _, fun _ _ => rfl⟩
      have d6 := H4.out.2.2.1.trans (O6.2.2.toBelow H4.out.2.2.1.size (fun k hk => by omega))
      exact ⟨O6.1, O6.2.1, (ownO_two H4.out.2.2.2.1 H4.out.1 H4.out.2.1 O6.2.2).on dq, (ownO_two H4.out.2.2.2.2 H4.out.1 H4.out.2.1 O6.2.2).on dq, d6.trans (dq.mono d6.size)⟩)
    clear O6
    go_wp2_with fail
    refine bodyPost_ret (results_c2 (p := 4) (q := 5) (r := 6) (ty := 25) rfl _ _ (w.heap.size + 1 + 1) (w.heap.size + 1 + 1 + 1) 25 _ _ (0, 0) _ _ rfl rfl rfl K6.out.1 K6.out.2.1 Tryz.underlying25 rfl (by kernel_rfl) (by kernel_rfl)) rfl ?_
    exact ⟨g1, k1, g2, k2, g3, k3, r1, q1, r2, q2, r3, q3, rfl, hide K6.out.2.2⟩
end Go.Proofs.YtchoopnjckcohaaGreatDoor
namespace Go.Proofs.YtchoopnjckcohaaGreatDoor
open Go.RowKit Go.Maps Go.Shelf
attribute [local go_sem] Oper.semAt_some

/-! ### behind: one automaton behind another -/
theorem box3b (w : World) (A B Z : Array Value) (t : TypeId) : Below w.heap.size w (((w.alloc (.cells A t)).alloc (.cells B t)).alloc (.cells Z t)) ∧ (((w.alloc (.cells A t)).alloc (.cells B t)).alloc (.cells Z t)).heap[w.heap.size]? = some (.cells A t (0, 0)) ∧ (((w.alloc (.cells A t)).alloc (.cells B t)).alloc (.cells Z t)).heap[w.heap.size + 1]? = some (.cells B t (0, 0)) ∧ (((w.alloc (.cells A t)).alloc (.cells B t)).alloc (.cells Z t)).heap[w.heap.size + 1 + 1]? = some (.cells Z t (0, 0)) ∧ (((w.alloc (.cells A t)).alloc (.cells B t)).alloc (.cells Z t)).heap.size = w.heap.size + 3 := by
  have q := box2 w A B t
  have z := World.alloc_heap_new ((w.alloc (.cells A t)).alloc (.cells B t)) (.cells Z t)
  rw [q.2.2.2] at z
  have k := (Below.refl _ ((w.alloc (.cells A t)).alloc (.cells B t))).alloc (Nat.le_refl _) (.cells Z t)
  exact ⟨q.1.trans (k.mono q.1.size), blk_on q.2.1 k, blk_on q.2.2.1 k, z, by simp⟩
/-- Edges that can be read, behind a row of one's own: at a step of a region that draws. -/
theorem run_appM {w : World} (ty : TypeId) (B : Nat) (v : Value) (X : List EdT) (hown : w.ownsRow B 61 3 v X.length (X.flatMap encE)) (ao : Option Addr) (n c : Nat) (Y : List EdT) (hn : Y.length = n) (hz : ao = none → c = 0) (hr : RdE w ao Y) (hl : X.length + Y.length ≤ 4194304) (hB : B ≤ w.heap.size) :
    ∃ z5 d5 w', (Builtin.append_ #[23, 23] ty #[v, .slice ao n c]).run Tryz.prog w = .ok (.slice z5 (X ++ Y).length d5) w' ∧ w'.ownsRow B 61 3 (.slice z5 (X ++ Y).length d5) (X ++ Y).length ((X ++ Y).flatMap encE) ∧ w.grownBy w' v.ownBlock := by
  obtain ⟨i5, hi5, hz50, hz51, hz52⟩ := info_parts info59
  subst hn
  cases ao with
  | none =>
    obtain rfl : Y = [] := by
      cases Y with
      | nil => rfl
      | cons y Y => obtain ⟨g, o, e, _⟩ := hr 0 (by simp); cases e
    obtain rfl := hz rfl
    obtain ⟨z5, d5, rfl⟩ := own_slice hown
    refine ⟨z5, d5, w, ?_, ?_, rfl, rfl, rfl, Nat.le_refl _, fun _ _ _ => rfl⟩
    · have q := run_append_owned_none (P := Tryz.prog) (w := w) B 23 ty 61 i5 3 Tryz.underlying23 hi5 _ _ _ hown
      simpa using q
    · simpa using hown
  | some ad =>
    obtain ⟨v', w', hrun, h2, hg, _, _⟩ := run_append_own_at (P := Tryz.prog) w B 23 ty 61 i5 _ 3 24 Tryz.underlying23 hi5 hz50 hz51 hz52 rfl (by omega) v X.length (X.flatMap encE) hown ad Y.length c (Y.flatMap encE) (encE_flat Y) (fun j u hu => by
      have h0 : 0 < Y.length := by
        cases Y with
        | nil => simp at hu
        | cons y Y => simp
      obtain ⟨g, o, e, _⟩ := hr 0 h0
      cases e
      rw [Addr.add_lit]
      exact edges_at hr j u hu) (encE_one Y) (by unfold maxLen; omega) (by omega) hB
    have h3 : w'.ownsRow B 61 3 v' (X ++ Y).length ((X ++ Y).flatMap encE) := by
      rw [List.flatMap_append, List.length_append]
      exact h2
    obtain ⟨z5, d5, rfl⟩ := own_slice h3
    exact ⟨z5, d5, w', hrun, h3, hg⟩
theorem step_appM {ops : Array Oper} {o : Oper} {a : Act} {K : Act → World → Prop} {Q : Exit → Act → World → Prop} {E : Prop} {w : World} (hgd : o.guard = none) (s x : Operand)
    (ho : o.op = .call { callee := .builtin .append, args := #[s, x], argTypes := #[23, 23] }) (B : Nat) (v : Value) (X : List EdT) (hs : a.eval s = v) (hown : w.ownsRow B 61 3 v X.length (X.flatMap encE)) (ao : Option Addr) (n c : Nat) (Y : List EdT) (hn : Y.length = n) (hz : ao = none → c = 0) (hx : a.eval x = .slice ao n c) (hr : RdE w ao Y) (hl : X.length + Y.length ≤ 4194304) (hB : B ≤ w.heap.size)
    (h : ∀ z5 d5 w', Hid (w'.ownsRow B 61 3 (.slice z5 (X ++ Y).length d5) (X ++ Y).length ((X ++ Y).flatMap encE)) → Hid (Only w w' (fun k => v.ownBlock = some k)) → K (a.put o.dst (.slice z5 (X ++ Y).length d5)) w') :
    if Region.wanted o (yielded ops a.tmps) = true then Oper.wp Tryz.prog o a w K Q else E := by
  have hw : Region.wanted o (yielded ops a.tmps) = true := by simp [Region.wanted, hgd]
  rw [if_pos hw]
  obtain ⟨z5, d5, w', hrun, h2, hg⟩ := run_appM o.type B v X hown ao n c Y hn hz hr hl hB
  unfold Oper.wp
  simp [execOp, ho, resolve, invoke, builtin, hs, hx, hrun, Result.andThen]
  have q := h z5 d5 w' (hide h2) (hide (grown_only hg))
  simp only [List.length_append] at q
  exact q
end Go.Proofs.YtchoopnjckcohaaGreatDoor
