import Derived.Test.YtchoopnjckcohaaGreatQae
import Derived.Lib.AppendZerosOnto
namespace Go.Proofs.YtchoopnjckcohaaGreat
open Go.RowKit Go.Maps Go.Shelf
attribute [local go_sem] Oper.semAt_some
/-! ### both: two automata in order, over the same symbols -/
theorem results_c2 {P : Program} {fn : Func} {p q r : Tmp} {ty : TypeId} (h : fn.results = #[.cell p ty, .cell q ty, .tmp r]) (tmps : Array Value) (w : World) (g g' : Nat) (t : TypeId) (cs cs' : Array Value) (fr : Nat × Nat) (d : TypeDesc) (x : Value)
    (hp : tmps.getD p undef = .pointer (some ⟨g, 0, none⟩)) (hp2 : tmps.getD q undef = .pointer (some ⟨g', 0, none⟩)) (hq : tmps.getD r undef = x) (hg : w.heap[g]? = some (.cells cs t fr)) (hg2 : w.heap[g']? = some (.cells cs' t fr))
    (hu : P.underlying ty = some d) (hd : (match d with | .struct _ | .array _ _ => true | _ => false) = true) (hi : (P.info? ty).map (·.size) = some cs.size) (hi2 : (P.info? ty).map (·.size) = some cs'.size) :
    (results fn tmps).run P w = .ok (.tuple #[.agg cs, .agg cs', x]) w := by
  have hp' : tmps[p]?.getD undef = .pointer (some ⟨g, 0, none⟩) := by simpa using hp
  have hp2' : tmps[q]?.getD undef = .pointer (some ⟨g', 0, none⟩) := by simpa using hp2
  have hq' : tmps[r]?.getD undef = x := by simpa using hq
  simp [results, h, hp', hp2', hq', asAddr, run_loadVar_row w g t ty cs fr d hg hu hd hi, run_loadVar_row w g' t ty cs' fr d hg2 hu hd hi2]
/-- Two boxes, one behind the other, filled. -/
theorem two5 {W : World} {g g' : Nat} {v0 v1 v2 v3 v4 u0 u1 u2 u3 u4 x0 x1 x2 x3 x4 z0 z1 z2 z3 z4 : Value} (h : W.heap[g]? = some (.cells #[v0, v1, v2, v3, v4] 25 (0, 0))) (h' : W.heap[g']? = some (.cells #[u0, u1, u2, u3, u4] 25 (0, 0))) (ne : g ≠ g') :
    ((((((((((W.setCell ⟨g, 0, none⟩ (x0)).setCell ⟨g, 1, none⟩ (x1)).setCell ⟨g, 2, none⟩ (x2)).setCell ⟨g, 3, none⟩ (x3)).setCell ⟨g, 4, none⟩ (x4)).setCell ⟨g', 0, none⟩ (z0)).setCell ⟨g', 1, none⟩ (z1)).setCell ⟨g', 2, none⟩ (z2)).setCell ⟨g', 3, none⟩ (z3)).setCell ⟨g', 4, none⟩ (z4)).heap[g]? = some (.cells #[x0, x1, x2, x3, x4] 25 (0, 0)) ∧ ((((((((((W.setCell ⟨g, 0, none⟩ (x0)).setCell ⟨g, 1, none⟩ (x1)).setCell ⟨g, 2, none⟩ (x2)).setCell ⟨g, 3, none⟩ (x3)).setCell ⟨g, 4, none⟩ (x4)).setCell ⟨g', 0, none⟩ (z0)).setCell ⟨g', 1, none⟩ (z1)).setCell ⟨g', 2, none⟩ (z2)).setCell ⟨g', 3, none⟩ (z3)).setCell ⟨g', 4, none⟩ (z4)).heap[g']? = some (.cells #[z0, z1, z2, z3, z4] 25 (0, 0)) ∧ Only W ((((((((((W.setCell ⟨g, 0, none⟩ (x0)).setCell ⟨g, 1, none⟩ (x1)).setCell ⟨g, 2, none⟩ (x2)).setCell ⟨g, 3, none⟩ (x3)).setCell ⟨g, 4, none⟩ (x4)).setCell ⟨g', 0, none⟩ (z0)).setCell ⟨g', 1, none⟩ (z1)).setCell ⟨g', 2, none⟩ (z2)).setCell ⟨g', 3, none⟩ (z3)).setCell ⟨g', 4, none⟩ (z4)) (fun k => k = g ∨ k = g') := by
  have s1 := set5 W g _ _ _ _ _ x0 x1 x2 x3 x4 25 h
  have o1 := only5 W g x0 x1 x2 x3 x4
  have t1 := (o1.block g' (Array.getElem?_eq_some_iff.1 h').1 (fun e => ne e.symm)).trans h'
  generalize (((((W.setCell ⟨g, 0, none⟩ (x0)).setCell ⟨g, 1, none⟩ (x1)).setCell ⟨g, 2, none⟩ (x2)).setCell ⟨g, 3, none⟩ (x3)).setCell ⟨g, 4, none⟩ (x4)) = W1 at s1 o1 t1 ⊢
  have s2 := set5 W1 g' _ _ _ _ _ z0 z1 z2 z3 z4 25 t1
  have o2 := only5 W1 g' z0 z1 z2 z3 z4
  have s3 := (o2.block g (Array.getElem?_eq_some_iff.1 s1).1 (fun e => ne e)).trans s1
  exact ⟨s3, s2, ⟨o2.os.trans o1.os, o2.tape.trans o1.tape, o2.output.trans o1.output, Nat.le_trans o1.size o2.size, fun k hk hn => (o2.block k (Nat.lt_of_lt_of_le hk o1.size) (fun e => hn (.inr e))).trans (o1.block k hk (fun e => hn (.inl e)))⟩⟩
set_option maxRecDepth 100000 in
set_option maxHeartbeats 4000000 in
theorem both_a (w : World) (n m n' m' : Int) (a1 a2 a3 b1 b2 b3 : Option Addr) (c1 c2 c3 d1 d2 d3 : Nat) (Sa Fa Sb Fb : List Int) (Ea Eb : List EdT) (hA : Hid (RdA w a1 a2 a3 Sa Fa Ea)) (_hB : Hid (RdA w b1 b2 b3 Sb Fb Eb)) (h1 : Sa.length ≤ 4194304) (h2 : Fa.length ≤ 4194304) (h3 : Ea.length ≤ 4194304) (_h4 : Sb.length ≤ 4194304) (_h5 : Fb.length ≤ 4194304) (_h6 : Eb.length ≤ 4194304) (em : mayA n m Sa Fa Ea = false) :
    Calls Tryz.prog 31 #[.agg #[.int .i64 n, .int .i64 m, .slice a1 Sa.length c1, .slice a2 Fa.length c2, .slice a3 Ea.length c3], .agg #[.int .i64 n', .int .i64 m', .slice b1 Sb.length d1, .slice b2 Fb.length d2, .slice b3 Eb.length d3]] w fun e w' => e = .returned (.tuple #[.agg #[.int .i64 0, .int .i64 0, .slice none 0 0, .slice none 0 0, .slice none 0 0], .agg #[.int .i64 0, .int .i64 0, .slice none 0 0, .slice none 0 0, .slice none 0 0], .int .i64 2]) ∧ Below w.heap.size w w' := by
  obtain ⟨W0, hW0⟩ : ∃ W0, (((w.alloc (.cells #[.int .i64 n, .int .i64 m, .slice a1 Sa.length c1, .slice a2 Fa.length c2, .slice a3 Ea.length c3] 25)).alloc (.cells #[.int .i64 n', .int .i64 m', .slice b1 Sb.length d1, .slice b2 Fb.length d2, .slice b3 Eb.length d3] 25)).alloc (.cells #[.int .i64 0, .int .i64 0, .slice none 0 0, .slice none 0 0, .slice none 0 0] 25)).alloc (.cells #[.int .i64 0, .int .i64 0, .slice none 0 0, .slice none 0 0, .slice none 0 0] 25) = W0 := ⟨_, rfl⟩
  have HD := hide (And.intro (box4 w (.cells #[.int .i64 n, .int .i64 m, .slice a1 Sa.length c1, .slice a2 Fa.length c2, .slice a3 Ea.length c3] 25) (.cells #[.int .i64 n', .int .i64 m', .slice b1 Sb.length d1, .slice b2 Fb.length d2, .slice b3 Eb.length d3] 25) (.cells #[.int .i64 0, .int .i64 0, .slice none 0 0, .slice none 0 0, .slice none 0 0] 25) (.cells #[.int .i64 0, .int .i64 0, .slice none 0 0, .slice none 0 0, .slice none 0 0] 25)) (show ((((w.alloc (.cells #[.int .i64 n, .int .i64 m, .slice a1 Sa.length c1, .slice a2 Fa.length c2, .slice a3 Ea.length c3] 25)).alloc (.cells #[.int .i64 n', .int .i64 m', .slice b1 Sb.length d1, .slice b2 Fb.length d2, .slice b3 Eb.length d3] 25)).alloc (.cells #[.int .i64 0, .int .i64 0, .slice none 0 0, .slice none 0 0, .slice none 0 0] 25)).alloc (.cells #[.int .i64 0, .int .i64 0, .slice none 0 0, .slice none 0 0, .slice none 0 0] 25)).heap.size = w.heap.size + 4 by simp))
  rw [hW0] at HD
  have y0 : W0.cell? ⟨w.heap.size, 0, none⟩ = some (.int .i64 n) := cell_of HD.out.1.2.1 rfl
  have y1 : W0.cell? ⟨w.heap.size, 1, none⟩ = some (.int .i64 m) := cell_of HD.out.1.2.1 rfl
  have y2 : W0.cell? ⟨w.heap.size, 2, none⟩ = some (.slice a1 Sa.length c1) := cell_of HD.out.1.2.1 rfl
  have y3 : W0.cell? ⟨w.heap.size, 3, none⟩ = some (.slice a2 Fa.length c2) := cell_of HD.out.1.2.1 rfl
  have y4 : W0.cell? ⟨w.heap.size, 4, none⟩ = some (.slice a3 Ea.length c3) := cell_of HD.out.1.2.1 rfl
  have TN := normal_bad W0 n m a1 a2 a3 c1 c2 c3 Sa Fa Ea (hide (hA.out.on HD.out.1.1)) h1 h2 h3 em
  clear em
  go_enter Tryz.func31, Tryz.ntmps31
  go_upto_region 3 with (go_at_call 53; refine TN.mono ?_; rintro e w1 ⟨rfl, D1⟩; have HF1 := hide D1; have F4 := blk_on HD.out.1.2.2.2.1 D1; have o0 : w1.cell? ⟨w.heap.size + 1 + 1, 0, none⟩ = some (.int .i64 0) := cell_of F4 rfl; have f0 : w1.frozen? ⟨w.heap.size + 1 + 1, 0, none⟩ = false := fz_of F4; have o1 : w1.cell? ⟨w.heap.size + 1 + 1, 1, none⟩ = some (.int .i64 0) := cell_of F4 rfl; have f1 : w1.frozen? ⟨w.heap.size + 1 + 1, 1, none⟩ = false := fz_of F4; have o2 : w1.cell? ⟨w.heap.size + 1 + 1, 2, none⟩ = some (.slice none 0 0) := cell_of F4 rfl; have f2 : w1.frozen? ⟨w.heap.size + 1 + 1, 2, none⟩ = false := fz_of F4; have o3 : w1.cell? ⟨w.heap.size + 1 + 1, 3, none⟩ = some (.slice none 0 0) := cell_of F4 rfl; have f3 : w1.frozen? ⟨w.heap.size + 1 + 1, 3, none⟩ = false := fz_of F4; have o4 : w1.cell? ⟨w.heap.size + 1 + 1, 4, none⟩ = some (.slice none 0 0) := cell_of F4 rfl; have f4 : w1.frozen? ⟨w.heap.size + 1 + 1, 4, none⟩ = false := fz_of F4; clear F4 D1)
  obtain ⟨W2, hW2⟩ : ∃ W2, (((((w1.setCell ⟨w.heap.size + 1 + 1, 0, none⟩ (.int .i64 0)).setCell ⟨w.heap.size + 1 + 1, 1, none⟩ (.int .i64 0)).setCell ⟨w.heap.size + 1 + 1, 2, none⟩ (.slice none 0 0)).setCell ⟨w.heap.size + 1 + 1, 3, none⟩ (.slice none 0 0)).setCell ⟨w.heap.size + 1 + 1, 4, none⟩ (.slice none 0 0)) = W2 := ⟨_, rfl⟩
  rw [hW2]
  have H2 : Hid (W2.heap[w.heap.size + 1 + 1]? = some (.cells #[.int .i64 0, .int .i64 0, .slice none 0 0, .slice none 0 0, .slice none 0 0] 25 (0, 0)) ∧ W2.heap[w.heap.size + 1 + 1 + 1]? = some (.cells #[.int .i64 0, .int .i64 0, .slice none 0 0, .slice none 0 0, .slice none 0 0] 25 (0, 0)) ∧ Below w.heap.size w W2) := hide (by
    have q4 := blk_on HD.out.1.2.2.2.1 HF1.out
    have q5 := blk_on HD.out.1.2.2.2.2 HF1.out
    have o := only5 w1 (w.heap.size + 1 + 1) (.int .i64 0) (.int .i64 0) (.slice none 0 0) (.slice none 0 0) (.slice none 0 0)
    have d := HD.out.1.1.trans (HF1.out.mono HD.out.1.1.size)
    rw [← hW2]
    exact ⟨set5 w1 (w.heap.size + 1 + 1) _ _ _ _ _ _ _ _ _ _ 25 q4, (o.block _ (Array.getElem?_eq_some_iff.1 q5).1 (by omega)).trans q5, d.trans (o.toBelow d.size (fun k hk => by omega))⟩)
  clear hW2 HF1 o0 f0 o1 f1 o2 f2 o3 f3 o4 f4
  have o0 : W2.cell? ⟨w.heap.size + 1 + 1, 0, none⟩ = some (.int .i64 0) := cell_of H2.out.1 rfl
  have f0 : W2.frozen? ⟨w.heap.size + 1 + 1, 0, none⟩ = false := fz_of H2.out.1
  have o1 : W2.cell? ⟨w.heap.size + 1 + 1, 1, none⟩ = some (.int .i64 0) := cell_of H2.out.1 rfl
  have f1 : W2.frozen? ⟨w.heap.size + 1 + 1, 1, none⟩ = false := fz_of H2.out.1
  have o2 : W2.cell? ⟨w.heap.size + 1 + 1, 2, none⟩ = some (.slice none 0 0) := cell_of H2.out.1 rfl
  have f2 : W2.frozen? ⟨w.heap.size + 1 + 1, 2, none⟩ = false := fz_of H2.out.1
  have o3 : W2.cell? ⟨w.heap.size + 1 + 1, 3, none⟩ = some (.slice none 0 0) := cell_of H2.out.1 rfl
  have f3 : W2.frozen? ⟨w.heap.size + 1 + 1, 3, none⟩ = false := fz_of H2.out.1
  have o4 : W2.cell? ⟨w.heap.size + 1 + 1, 4, none⟩ = some (.slice none 0 0) := cell_of H2.out.1 rfl
  have f4 : W2.frozen? ⟨w.heap.size + 1 + 1, 4, none⟩ = false := fz_of H2.out.1
  have p0 : W2.cell? ⟨w.heap.size + 1 + 1 + 1, 0, none⟩ = some (.int .i64 0) := cell_of H2.out.2.1 rfl
  have g0 : W2.frozen? ⟨w.heap.size + 1 + 1 + 1, 0, none⟩ = false := fz_of H2.out.2.1
  have p1 : W2.cell? ⟨w.heap.size + 1 + 1 + 1, 1, none⟩ = some (.int .i64 0) := cell_of H2.out.2.1 rfl
  have g1 : W2.frozen? ⟨w.heap.size + 1 + 1 + 1, 1, none⟩ = false := fz_of H2.out.2.1
  have p2 : W2.cell? ⟨w.heap.size + 1 + 1 + 1, 2, none⟩ = some (.slice none 0 0) := cell_of H2.out.2.1 rfl
  have g2 : W2.frozen? ⟨w.heap.size + 1 + 1 + 1, 2, none⟩ = false := fz_of H2.out.2.1
  have p3 : W2.cell? ⟨w.heap.size + 1 + 1 + 1, 3, none⟩ = some (.slice none 0 0) := cell_of H2.out.2.1 rfl
  have g3 : W2.frozen? ⟨w.heap.size + 1 + 1 + 1, 3, none⟩ = false := fz_of H2.out.2.1
  have p4 : W2.cell? ⟨w.heap.size + 1 + 1 + 1, 4, none⟩ = some (.slice none 0 0) := cell_of H2.out.2.1 rfl
  have g4 : W2.frozen? ⟨w.heap.size + 1 + 1 + 1, 4, none⟩ = false := fz_of H2.out.2.1
  have O6 := hide (two5 (x0 := .int .i64 0) (x1 := .int .i64 0) (x2 := .slice none 0 0) (x3 := .slice none 0 0) (x4 := .slice none 0 0) (z0 := .int .i64 0) (z1 := .int .i64 0) (z2 := .slice none 0 0) (z3 := .slice none 0 0) (z4 := .slice none 0 0) H2.out.1 H2.out.2.1 (by omega))
  go_wp2_with fail
  refine bodyPost_ret (results_c2 (p := 4) (q := 5) (r := 6) (ty := 25) rfl _ _ (w.heap.size + 1 + 1) (w.heap.size + 1 + 1 + 1) 25 _ _ (0, 0) _ _ rfl rfl rfl O6.out.1 O6.out.2.1 Tryz.underlying25 rfl (by kernel_rfl) (by kernel_rfl)) rfl ?_
  exact ⟨rfl, H2.out.2.2.trans (O6.out.2.2.toBelow H2.out.2.2.size (fun k hk => by omega))⟩
theorem ownO_own {B : Nat} {w : World} {g1 k1 g2 k2 g3 k3 : Nat} {S F : List Int} {E : List EdT} (h : Own B w g1 k1 g2 k2 g3 k3 S F E) : OwnO B w (.slice (some ⟨g1, 0, none⟩) S.length k1) (.slice (some ⟨g2, 0, none⟩) F.length k2) (.slice (some ⟨g3, 0, none⟩) E.length k3) S F E :=
  ⟨h.s, h.f, h.e, fun g hg hh => by
    simp only [Value.ownBlock, Option.some.injEq] at hg hh
    exact h.n12 (hg.trans hh.symm)⟩
set_option maxRecDepth 100000 in
set_option maxHeartbeats 4000000 in
theorem both_b (w : World) (n m n' m' : Int) (a1 a2 a3 b1 b2 b3 : Option Addr) (c1 c2 c3 d1 d2 d3 : Nat) (Sa Fa Sb Fb : List Int) (Ea Eb : List EdT) (hA : Hid (RdA w a1 a2 a3 Sa Fa Ea)) (hB : Hid (RdA w b1 b2 b3 Sb Fb Eb)) (h1 : Sa.length ≤ 4194304) (h2 : Fa.length ≤ 4194304) (h3 : Ea.length ≤ 4194304) (h4 : Sb.length ≤ 4194304) (h5 : Fb.length ≤ 4194304) (h6 : Eb.length ≤ 4194304) (em : mayA n m Sa Fa Ea = true) (em' : mayA n' m' Sb Fb Eb = false) :
    Calls Tryz.prog 31 #[.agg #[.int .i64 n, .int .i64 m, .slice a1 Sa.length c1, .slice a2 Fa.length c2, .slice a3 Ea.length c3], .agg #[.int .i64 n', .int .i64 m', .slice b1 Sb.length d1, .slice b2 Fb.length d2, .slice b3 Eb.length d3]] w fun e w' => e = .returned (.tuple #[.agg #[.int .i64 0, .int .i64 0, .slice none 0 0, .slice none 0 0, .slice none 0 0], .agg #[.int .i64 0, .int .i64 0, .slice none 0 0, .slice none 0 0, .slice none 0 0], .int .i64 2]) ∧ Below w.heap.size w w' := by
  obtain ⟨W0, hW0⟩ : ∃ W0, (((w.alloc (.cells #[.int .i64 n, .int .i64 m, .slice a1 Sa.length c1, .slice a2 Fa.length c2, .slice a3 Ea.length c3] 25)).alloc (.cells #[.int .i64 n', .int .i64 m', .slice b1 Sb.length d1, .slice b2 Fb.length d2, .slice b3 Eb.length d3] 25)).alloc (.cells #[.int .i64 0, .int .i64 0, .slice none 0 0, .slice none 0 0, .slice none 0 0] 25)).alloc (.cells #[.int .i64 0, .int .i64 0, .slice none 0 0, .slice none 0 0, .slice none 0 0] 25) = W0 := ⟨_, rfl⟩
  have HD := hide (And.intro (box4 w (.cells #[.int .i64 n, .int .i64 m, .slice a1 Sa.length c1, .slice a2 Fa.length c2, .slice a3 Ea.length c3] 25) (.cells #[.int .i64 n', .int .i64 m', .slice b1 Sb.length d1, .slice b2 Fb.length d2, .slice b3 Eb.length d3] 25) (.cells #[.int .i64 0, .int .i64 0, .slice none 0 0, .slice none 0 0, .slice none 0 0] 25) (.cells #[.int .i64 0, .int .i64 0, .slice none 0 0, .slice none 0 0, .slice none 0 0] 25)) (show ((((w.alloc (.cells #[.int .i64 n, .int .i64 m, .slice a1 Sa.length c1, .slice a2 Fa.length c2, .slice a3 Ea.length c3] 25)).alloc (.cells #[.int .i64 n', .int .i64 m', .slice b1 Sb.length d1, .slice b2 Fb.length d2, .slice b3 Eb.length d3] 25)).alloc (.cells #[.int .i64 0, .int .i64 0, .slice none 0 0, .slice none 0 0, .slice none 0 0] 25)).alloc (.cells #[.int .i64 0, .int .i64 0, .slice none 0 0, .slice none 0 0, .slice none 0 0] 25)).heap.size = w.heap.size + 4 by simp))
  rw [hW0] at HD
  have y0 : W0.cell? ⟨w.heap.size, 0, none⟩ = some (.int .i64 n) := cell_of HD.out.1.2.1 rfl
  have y1 : W0.cell? ⟨w.heap.size, 1, none⟩ = some (.int .i64 m) := cell_of HD.out.1.2.1 rfl
  have y2 : W0.cell? ⟨w.heap.size, 2, none⟩ = some (.slice a1 Sa.length c1) := cell_of HD.out.1.2.1 rfl
  have y3 : W0.cell? ⟨w.heap.size, 3, none⟩ = some (.slice a2 Fa.length c2) := cell_of HD.out.1.2.1 rfl
  have y4 : W0.cell? ⟨w.heap.size, 4, none⟩ = some (.slice a3 Ea.length c3) := cell_of HD.out.1.2.1 rfl
  have TN := normal_ok W0 n m a1 a2 a3 c1 c2 c3 Sa Fa Ea (hide (hA.out.on HD.out.1.1)) h1 h2 h3 em
  obtain ⟨S1, hS1⟩ : ∃ X, riseL Sa = X := ⟨_, rfl⟩
  obtain ⟨F1, hF1⟩ : ∃ X, riseL Fa = X := ⟨_, rfl⟩
  obtain ⟨E1, hE1⟩ : ∃ X, riseE Ea = X := ⟨_, rfl⟩
  rw [hS1, hF1, hE1] at TN
  clear em hS1 hF1 hE1
  go_enter Tryz.func31, Tryz.ntmps31
  go_upto_region 4 with (go_at_call 53; refine TN.mono ?_; rintro e w1 ⟨g1, k1, g2, k2, g3, k3, rfl, HO, D1⟩; have HF1 := hide (And.intro D1 HO); have F4 := blk_on HD.out.1.2.2.2.1 D1; have o0 : w1.cell? ⟨w.heap.size + 1 + 1, 0, none⟩ = some (.int .i64 0) := cell_of F4 rfl; have f0 : w1.frozen? ⟨w.heap.size + 1 + 1, 0, none⟩ = false := fz_of F4; have o1 : w1.cell? ⟨w.heap.size + 1 + 1, 1, none⟩ = some (.int .i64 0) := cell_of F4 rfl; have f1 : w1.frozen? ⟨w.heap.size + 1 + 1, 1, none⟩ = false := fz_of F4; have o2 : w1.cell? ⟨w.heap.size + 1 + 1, 2, none⟩ = some (.slice none 0 0) := cell_of F4 rfl; have f2 : w1.frozen? ⟨w.heap.size + 1 + 1, 2, none⟩ = false := fz_of F4; have o3 : w1.cell? ⟨w.heap.size + 1 + 1, 3, none⟩ = some (.slice none 0 0) := cell_of F4 rfl; have f3 : w1.frozen? ⟨w.heap.size + 1 + 1, 3, none⟩ = false := fz_of F4; have o4 : w1.cell? ⟨w.heap.size + 1 + 1, 4, none⟩ = some (.slice none 0 0) := cell_of F4 rfl; have f4 : w1.frozen? ⟨w.heap.size + 1 + 1, 4, none⟩ = false := fz_of F4; clear F4 D1 HO)
  obtain ⟨W2, hW2⟩ : ∃ W2, (((((w1.setCell ⟨w.heap.size + 1 + 1, 0, none⟩ (.int .i64 n)).setCell ⟨w.heap.size + 1 + 1, 1, none⟩ (.int .i64 m)).setCell ⟨w.heap.size + 1 + 1, 2, none⟩ (.slice (some ⟨g1, 0, none⟩) S1.length k1)).setCell ⟨w.heap.size + 1 + 1, 3, none⟩ (.slice (some ⟨g2, 0, none⟩) F1.length k2)).setCell ⟨w.heap.size + 1 + 1, 4, none⟩ (.slice (some ⟨g3, 0, none⟩) E1.length k3)) = W2 := ⟨_, rfl⟩
  rw [hW2]
  have H2 : Hid (W2.heap[w.heap.size + 1 + 1]? = some (.cells #[.int .i64 n, .int .i64 m, .slice (some ⟨g1, 0, none⟩) S1.length k1, .slice (some ⟨g2, 0, none⟩) F1.length k2, .slice (some ⟨g3, 0, none⟩) E1.length k3] 25 (0, 0)) ∧ W2.heap[w.heap.size + 1 + 1 + 1]? = some (.cells #[.int .i64 0, .int .i64 0, .slice none 0 0, .slice none 0 0, .slice none 0 0] 25 (0, 0)) ∧ Below w.heap.size w W2 ∧ W2.heap[w.heap.size + 1]? = some (.cells #[.int .i64 n', .int .i64 m', .slice b1 Sb.length d1, .slice b2 Fb.length d2, .slice b3 Eb.length d3] 25 (0, 0)) ∧ OwnO w.heap.size W2 (.slice (some ⟨g1, 0, none⟩) S1.length k1) (.slice (some ⟨g2, 0, none⟩) F1.length k2) (.slice (some ⟨g3, 0, none⟩) E1.length k3) S1 F1 E1) := hide (by
    have q4 := blk_on HD.out.1.2.2.2.1 HF1.out.1
    have q5 := blk_on HD.out.1.2.2.2.2 HF1.out.1
    have q1 := blk_on HD.out.1.2.2.1 HF1.out.1
    have o := only5 w1 (w.heap.size + 1 + 1) (.int .i64 n) (.int .i64 m) (.slice (some ⟨g1, 0, none⟩) S1.length k1) (.slice (some ⟨g2, 0, none⟩) F1.length k2) (.slice (some ⟨g3, 0, none⟩) E1.length k3)
    have d := HD.out.1.1.trans (HF1.out.1.mono HD.out.1.1.size)
    have s0 := HD.out.1.1.size
    have ow : OwnO W0.heap.size w1 (.slice (some ⟨g1, 0, none⟩) S1.length k1) (.slice (some ⟨g2, 0, none⟩) F1.length k2) (.slice (some ⟨g3, 0, none⟩) E1.length k3) S1 F1 E1 := ownO_own HF1.out.2
    rw [← hW2]
    exact ⟨set5 w1 (w.heap.size + 1 + 1) _ _ _ _ _ _ _ _ _ _ 25 q4, (o.block _ (Array.getElem?_eq_some_iff.1 q5).1 (by omega)).trans q5, d.trans (o.toBelow d.size (fun k hk => by omega)), (o.block _ (Array.getElem?_eq_some_iff.1 q1).1 (by omega)).trans q1, (ow.keep q4 o).down (by omega)⟩)
  clear hW2 HF1 TN o0 f0 y0 o1 f1 y1 o2 f2 y2 o3 f3 y3 o4 f4 y4
  have y0 : W2.cell? ⟨w.heap.size + 1, 0, none⟩ = some (.int .i64 n') := cell_of H2.out.2.2.2.1 rfl
  have y1 : W2.cell? ⟨w.heap.size + 1, 1, none⟩ = some (.int .i64 m') := cell_of H2.out.2.2.2.1 rfl
  have y2 : W2.cell? ⟨w.heap.size + 1, 2, none⟩ = some (.slice b1 Sb.length d1) := cell_of H2.out.2.2.2.1 rfl
  have y3 : W2.cell? ⟨w.heap.size + 1, 3, none⟩ = some (.slice b2 Fb.length d2) := cell_of H2.out.2.2.2.1 rfl
  have y4 : W2.cell? ⟨w.heap.size + 1, 4, none⟩ = some (.slice b3 Eb.length d3) := cell_of H2.out.2.2.2.1 rfl
  have TB := normal_bad W2 n' m' b1 b2 b3 d1 d2 d3 Sb Fb Eb (hide (hB.out.on H2.out.2.2.1)) h4 h5 h6 em'
  clear em'
  go_upto_region 6 with (go_at_call 53; refine TB.mono ?_; rintro e w3 ⟨rfl, D3⟩; have HF3 := hide D3; have F5 := blk_on H2.out.2.1 D3; have o0 : w3.cell? ⟨w.heap.size + 1 + 1 + 1, 0, none⟩ = some (.int .i64 0) := cell_of F5 rfl; have f0 : w3.frozen? ⟨w.heap.size + 1 + 1 + 1, 0, none⟩ = false := fz_of F5; have o1 : w3.cell? ⟨w.heap.size + 1 + 1 + 1, 1, none⟩ = some (.int .i64 0) := cell_of F5 rfl; have f1 : w3.frozen? ⟨w.heap.size + 1 + 1 + 1, 1, none⟩ = false := fz_of F5; have o2 : w3.cell? ⟨w.heap.size + 1 + 1 + 1, 2, none⟩ = some (.slice none 0 0) := cell_of F5 rfl; have f2 : w3.frozen? ⟨w.heap.size + 1 + 1 + 1, 2, none⟩ = false := fz_of F5; have o3 : w3.cell? ⟨w.heap.size + 1 + 1 + 1, 3, none⟩ = some (.slice none 0 0) := cell_of F5 rfl; have f3 : w3.frozen? ⟨w.heap.size + 1 + 1 + 1, 3, none⟩ = false := fz_of F5; have o4 : w3.cell? ⟨w.heap.size + 1 + 1 + 1, 4, none⟩ = some (.slice none 0 0) := cell_of F5 rfl; have f4 : w3.frozen? ⟨w.heap.size + 1 + 1 + 1, 4, none⟩ = false := fz_of F5; clear F5 D3)
  obtain ⟨W4, hW4⟩ : ∃ W4, (((((w3.setCell ⟨w.heap.size + 1 + 1 + 1, 0, none⟩ (.int .i64 0)).setCell ⟨w.heap.size + 1 + 1 + 1, 1, none⟩ (.int .i64 0)).setCell ⟨w.heap.size + 1 + 1 + 1, 2, none⟩ (.slice none 0 0)).setCell ⟨w.heap.size + 1 + 1 + 1, 3, none⟩ (.slice none 0 0)).setCell ⟨w.heap.size + 1 + 1 + 1, 4, none⟩ (.slice none 0 0)) = W4 := ⟨_, rfl⟩
  rw [hW4]
  have H4 : Hid (W4.heap[w.heap.size + 1 + 1]? = some (.cells #[.int .i64 n, .int .i64 m, .slice (some ⟨g1, 0, none⟩) S1.length k1, .slice (some ⟨g2, 0, none⟩) F1.length k2, .slice (some ⟨g3, 0, none⟩) E1.length k3] 25 (0, 0)) ∧ W4.heap[w.heap.size + 1 + 1 + 1]? = some (.cells #[.int .i64 0, .int .i64 0, .slice none 0 0, .slice none 0 0, .slice none 0 0] 25 (0, 0)) ∧ Below w.heap.size w W4) := hide (by
    have q4 := blk_on H2.out.1 HF3.out
    have q5 := blk_on H2.out.2.1 HF3.out
    have o := only5 w3 (w.heap.size + 1 + 1 + 1) (.int .i64 0) (.int .i64 0) (.slice none 0 0) (.slice none 0 0) (.slice none 0 0)
    have d := H2.out.2.2.1.trans (HF3.out.mono H2.out.2.2.1.size)
    rw [← hW4]
    exact ⟨(o.block _ (Array.getElem?_eq_some_iff.1 q4).1 (by omega)).trans q4, set5 w3 (w.heap.size + 1 + 1 + 1) _ _ _ _ _ _ _ _ _ _ 25 q5, d.trans (o.toBelow d.size (fun k hk => by omega))⟩)
  clear hW4 HF3 TB H2 o0 f0 y0 o1 f1 y1 o2 f2 y2 o3 f3 y3 o4 f4 y4
  have o0 : W4.cell? ⟨w.heap.size + 1 + 1, 0, none⟩ = some (.int .i64 n) := cell_of H4.out.1 rfl
  have f0 : W4.frozen? ⟨w.heap.size + 1 + 1, 0, none⟩ = false := fz_of H4.out.1
  have o1 : W4.cell? ⟨w.heap.size + 1 + 1, 1, none⟩ = some (.int .i64 m) := cell_of H4.out.1 rfl
  have f1 : W4.frozen? ⟨w.heap.size + 1 + 1, 1, none⟩ = false := fz_of H4.out.1
  have o2 : W4.cell? ⟨w.heap.size + 1 + 1, 2, none⟩ = some (.slice (some ⟨g1, 0, none⟩) S1.length k1) := cell_of H4.out.1 rfl
  have f2 : W4.frozen? ⟨w.heap.size + 1 + 1, 2, none⟩ = false := fz_of H4.out.1
  have o3 : W4.cell? ⟨w.heap.size + 1 + 1, 3, none⟩ = some (.slice (some ⟨g2, 0, none⟩) F1.length k2) := cell_of H4.out.1 rfl
  have f3 : W4.frozen? ⟨w.heap.size + 1 + 1, 3, none⟩ = false := fz_of H4.out.1
  have o4 : W4.cell? ⟨w.heap.size + 1 + 1, 4, none⟩ = some (.slice (some ⟨g3, 0, none⟩) E1.length k3) := cell_of H4.out.1 rfl
  have f4 : W4.frozen? ⟨w.heap.size + 1 + 1, 4, none⟩ = false := fz_of H4.out.1
  have p0 : W4.cell? ⟨w.heap.size + 1 + 1 + 1, 0, none⟩ = some (.int .i64 0) := cell_of H4.out.2.1 rfl
  have g0 : W4.frozen? ⟨w.heap.size + 1 + 1 + 1, 0, none⟩ = false := fz_of H4.out.2.1
  have p1 : W4.cell? ⟨w.heap.size + 1 + 1 + 1, 1, none⟩ = some (.int .i64 0) := cell_of H4.out.2.1 rfl
  have g1 : W4.frozen? ⟨w.heap.size + 1 + 1 + 1, 1, none⟩ = false := fz_of H4.out.2.1
  have p2 : W4.cell? ⟨w.heap.size + 1 + 1 + 1, 2, none⟩ = some (.slice none 0 0) := cell_of H4.out.2.1 rfl
  have g2 : W4.frozen? ⟨w.heap.size + 1 + 1 + 1, 2, none⟩ = false := fz_of H4.out.2.1
  have p3 : W4.cell? ⟨w.heap.size + 1 + 1 + 1, 3, none⟩ = some (.slice none 0 0) := cell_of H4.out.2.1 rfl
  have g3 : W4.frozen? ⟨w.heap.size + 1 + 1 + 1, 3, none⟩ = false := fz_of H4.out.2.1
  have p4 : W4.cell? ⟨w.heap.size + 1 + 1 + 1, 4, none⟩ = some (.slice none 0 0) := cell_of H4.out.2.1 rfl
  have g4 : W4.frozen? ⟨w.heap.size + 1 + 1 + 1, 4, none⟩ = false := fz_of H4.out.2.1
  have O6 := hide (two5 (x0 := .int .i64 0) (z0 := .int .i64 0) (x1 := .int .i64 0) (z1 := .int .i64 0) (x2 := .slice none 0 0) (z2 := .slice none 0 0) (x3 := .slice none 0 0) (z3 := .slice none 0 0) (x4 := .slice none 0 0) (z4 := .slice none 0 0) H4.out.1 H4.out.2.1 (by omega))
  go_wp2_with fail
  refine bodyPost_ret (results_c2 (p := 4) (q := 5) (r := 6) (ty := 25) rfl _ _ (w.heap.size + 1 + 1) (w.heap.size + 1 + 1 + 1) 25 _ _ (0, 0) _ _ rfl rfl rfl O6.out.1 O6.out.2.1 Tryz.underlying25 rfl (by kernel_rfl) (by kernel_rfl)) rfl ?_
  exact ⟨rfl, H4.out.2.2.trans (O6.out.2.2.toBelow H4.out.2.2.size (fun k hk => by omega))⟩
set_option maxRecDepth 100000 in
set_option maxHeartbeats 4000000 in
theorem both_m (w : World) (n m n' m' : Int) (a1 a2 a3 b1 b2 b3 : Option Addr) (c1 c2 c3 d1 d2 d3 : Nat) (Sa Fa Sb Fb : List Int) (Ea Eb : List EdT) (hA : Hid (RdA w a1 a2 a3 Sa Fa Ea)) (hB : Hid (RdA w b1 b2 b3 Sb Fb Eb)) (h1 : Sa.length ≤ 4194304) (h2 : Fa.length ≤ 4194304) (h3 : Ea.length ≤ 4194304) (h4 : Sb.length ≤ 4194304) (h5 : Fb.length ≤ 4194304) (h6 : Eb.length ≤ 4194304) (em : mayA n m Sa Fa Ea = true) (em' : mayA n' m' Sb Fb Eb = true) (hm : m ≠ m') :
    Calls Tryz.prog 31 #[.agg #[.int .i64 n, .int .i64 m, .slice a1 Sa.length c1, .slice a2 Fa.length c2, .slice a3 Ea.length c3], .agg #[.int .i64 n', .int .i64 m', .slice b1 Sb.length d1, .slice b2 Fb.length d2, .slice b3 Eb.length d3]] w fun e w' => e = .returned (.tuple #[.agg #[.int .i64 0, .int .i64 0, .slice none 0 0, .slice none 0 0, .slice none 0 0], .agg #[.int .i64 0, .int .i64 0, .slice none 0 0, .slice none 0 0, .slice none 0 0], .int .i64 6]) ∧ Below w.heap.size w w' := by
  obtain ⟨W0, hW0⟩ : ∃ W0, (((w.alloc (.cells #[.int .i64 n, .int .i64 m, .slice a1 Sa.length c1, .slice a2 Fa.length c2, .slice a3 Ea.length c3] 25)).alloc (.cells #[.int .i64 n', .int .i64 m', .slice b1 Sb.length d1, .slice b2 Fb.length d2, .slice b3 Eb.length d3] 25)).alloc (.cells #[.int .i64 0, .int .i64 0, .slice none 0 0, .slice none 0 0, .slice none 0 0] 25)).alloc (.cells #[.int .i64 0, .int .i64 0, .slice none 0 0, .slice none 0 0, .slice none 0 0] 25) = W0 := ⟨_, rfl⟩
  have HD := hide (And.intro (box4 w (.cells #[.int .i64 n, .int .i64 m, .slice a1 Sa.length c1, .slice a2 Fa.length c2, .slice a3 Ea.length c3] 25) (.cells #[.int .i64 n', .int .i64 m', .slice b1 Sb.length d1, .slice b2 Fb.length d2, .slice b3 Eb.length d3] 25) (.cells #[.int .i64 0, .int .i64 0, .slice none 0 0, .slice none 0 0, .slice none 0 0] 25) (.cells #[.int .i64 0, .int .i64 0, .slice none 0 0, .slice none 0 0, .slice none 0 0] 25)) (show ((((w.alloc (.cells #[.int .i64 n, .int .i64 m, .slice a1 Sa.length c1, .slice a2 Fa.length c2, .slice a3 Ea.length c3] 25)).alloc (.cells #[.int .i64 n', .int .i64 m', .slice b1 Sb.length d1, .slice b2 Fb.length d2, .slice b3 Eb.length d3] 25)).alloc (.cells #[.int .i64 0, .int .i64 0, .slice none 0 0, .slice none 0 0, .slice none 0 0] 25)).alloc (.cells #[.int .i64 0, .int .i64 0, .slice none 0 0, .slice none 0 0, .slice none 0 0] 25)).heap.size = w.heap.size + 4 by simp))
  rw [hW0] at HD
  have y0 : W0.cell? ⟨w.heap.size, 0, none⟩ = some (.int .i64 n) := cell_of HD.out.1.2.1 rfl
  have y1 : W0.cell? ⟨w.heap.size, 1, none⟩ = some (.int .i64 m) := cell_of HD.out.1.2.1 rfl
  have y2 : W0.cell? ⟨w.heap.size, 2, none⟩ = some (.slice a1 Sa.length c1) := cell_of HD.out.1.2.1 rfl
  have y3 : W0.cell? ⟨w.heap.size, 3, none⟩ = some (.slice a2 Fa.length c2) := cell_of HD.out.1.2.1 rfl
  have y4 : W0.cell? ⟨w.heap.size, 4, none⟩ = some (.slice a3 Ea.length c3) := cell_of HD.out.1.2.1 rfl
  have TN := normal_ok W0 n m a1 a2 a3 c1 c2 c3 Sa Fa Ea (hide (hA.out.on HD.out.1.1)) h1 h2 h3 em
  obtain ⟨S1, hS1⟩ : ∃ X, riseL Sa = X := ⟨_, rfl⟩
  obtain ⟨F1, hF1⟩ : ∃ X, riseL Fa = X := ⟨_, rfl⟩
  obtain ⟨E1, hE1⟩ : ∃ X, riseE Ea = X := ⟨_, rfl⟩
  rw [hS1, hF1, hE1] at TN
  clear em hS1 hF1 hE1
  go_enter Tryz.func31, Tryz.ntmps31
  go_upto_region 4 with (go_at_call 53; refine TN.mono ?_; rintro e w1 ⟨g1, k1, g2, k2, g3, k3, rfl, HO, D1⟩; have HF1 := hide (And.intro D1 HO); have F4 := blk_on HD.out.1.2.2.2.1 D1; have o0 : w1.cell? ⟨w.heap.size + 1 + 1, 0, none⟩ = some (.int .i64 0) := cell_of F4 rfl; have f0 : w1.frozen? ⟨w.heap.size + 1 + 1, 0, none⟩ = false := fz_of F4; have o1 : w1.cell? ⟨w.heap.size + 1 + 1, 1, none⟩ = some (.int .i64 0) := cell_of F4 rfl; have f1 : w1.frozen? ⟨w.heap.size + 1 + 1, 1, none⟩ = false := fz_of F4; have o2 : w1.cell? ⟨w.heap.size + 1 + 1, 2, none⟩ = some (.slice none 0 0) := cell_of F4 rfl; have f2 : w1.frozen? ⟨w.heap.size + 1 + 1, 2, none⟩ = false := fz_of F4; have o3 : w1.cell? ⟨w.heap.size + 1 + 1, 3, none⟩ = some (.slice none 0 0) := cell_of F4 rfl; have f3 : w1.frozen? ⟨w.heap.size + 1 + 1, 3, none⟩ = false := fz_of F4; have o4 : w1.cell? ⟨w.heap.size + 1 + 1, 4, none⟩ = some (.slice none 0 0) := cell_of F4 rfl; have f4 : w1.frozen? ⟨w.heap.size + 1 + 1, 4, none⟩ = false := fz_of F4; clear F4 D1 HO)
  obtain ⟨W2, hW2⟩ : ∃ W2, (((((w1.setCell ⟨w.heap.size + 1 + 1, 0, none⟩ (.int .i64 n)).setCell ⟨w.heap.size + 1 + 1, 1, none⟩ (.int .i64 m)).setCell ⟨w.heap.size + 1 + 1, 2, none⟩ (.slice (some ⟨g1, 0, none⟩) S1.length k1)).setCell ⟨w.heap.size + 1 + 1, 3, none⟩ (.slice (some ⟨g2, 0, none⟩) F1.length k2)).setCell ⟨w.heap.size + 1 + 1, 4, none⟩ (.slice (some ⟨g3, 0, none⟩) E1.length k3)) = W2 := ⟨_, rfl⟩
  rw [hW2]
  have H2 : Hid (W2.heap[w.heap.size + 1 + 1]? = some (.cells #[.int .i64 n, .int .i64 m, .slice (some ⟨g1, 0, none⟩) S1.length k1, .slice (some ⟨g2, 0, none⟩) F1.length k2, .slice (some ⟨g3, 0, none⟩) E1.length k3] 25 (0, 0)) ∧ W2.heap[w.heap.size + 1 + 1 + 1]? = some (.cells #[.int .i64 0, .int .i64 0, .slice none 0 0, .slice none 0 0, .slice none 0 0] 25 (0, 0)) ∧ Below w.heap.size w W2 ∧ W2.heap[w.heap.size + 1]? = some (.cells #[.int .i64 n', .int .i64 m', .slice b1 Sb.length d1, .slice b2 Fb.length d2, .slice b3 Eb.length d3] 25 (0, 0)) ∧ OwnO w.heap.size W2 (.slice (some ⟨g1, 0, none⟩) S1.length k1) (.slice (some ⟨g2, 0, none⟩) F1.length k2) (.slice (some ⟨g3, 0, none⟩) E1.length k3) S1 F1 E1) := hide (by
    have q4 := blk_on HD.out.1.2.2.2.1 HF1.out.1
    have q5 := blk_on HD.out.1.2.2.2.2 HF1.out.1
    have q1 := blk_on HD.out.1.2.2.1 HF1.out.1
    have o := only5 w1 (w.heap.size + 1 + 1) (.int .i64 n) (.int .i64 m) (.slice (some ⟨g1, 0, none⟩) S1.length k1) (.slice (some ⟨g2, 0, none⟩) F1.length k2) (.slice (some ⟨g3, 0, none⟩) E1.length k3)
    have d := HD.out.1.1.trans (HF1.out.1.mono HD.out.1.1.size)
    have s0 := HD.out.1.1.size
    have ow : OwnO W0.heap.size w1 (.slice (some ⟨g1, 0, none⟩) S1.length k1) (.slice (some ⟨g2, 0, none⟩) F1.length k2) (.slice (some ⟨g3, 0, none⟩) E1.length k3) S1 F1 E1 := ownO_own HF1.out.2
    rw [← hW2]
    exact ⟨set5 w1 (w.heap.size + 1 + 1) _ _ _ _ _ _ _ _ _ _ 25 q4, (o.block _ (Array.getElem?_eq_some_iff.1 q5).1 (by omega)).trans q5, d.trans (o.toBelow d.size (fun k hk => by omega)), (o.block _ (Array.getElem?_eq_some_iff.1 q1).1 (by omega)).trans q1, (ow.keep q4 o).down (by omega)⟩)
  clear hW2 HF1 TN o0 f0 y0 o1 f1 y1 o2 f2 y2 o3 f3 y3 o4 f4 y4
  have y0 : W2.cell? ⟨w.heap.size + 1, 0, none⟩ = some (.int .i64 n') := cell_of H2.out.2.2.2.1 rfl
  have y1 : W2.cell? ⟨w.heap.size + 1, 1, none⟩ = some (.int .i64 m') := cell_of H2.out.2.2.2.1 rfl
  have y2 : W2.cell? ⟨w.heap.size + 1, 2, none⟩ = some (.slice b1 Sb.length d1) := cell_of H2.out.2.2.2.1 rfl
  have y3 : W2.cell? ⟨w.heap.size + 1, 3, none⟩ = some (.slice b2 Fb.length d2) := cell_of H2.out.2.2.2.1 rfl
  have y4 : W2.cell? ⟨w.heap.size + 1, 4, none⟩ = some (.slice b3 Eb.length d3) := cell_of H2.out.2.2.2.1 rfl
  have TB := normal_ok W2 n' m' b1 b2 b3 d1 d2 d3 Sb Fb Eb (hide (hB.out.on H2.out.2.2.1)) h4 h5 h6 em'
  obtain ⟨S2, hS2⟩ : ∃ X, riseL Sb = X := ⟨_, rfl⟩
  obtain ⟨F2, hF2⟩ : ∃ X, riseL Fb = X := ⟨_, rfl⟩
  obtain ⟨E2, hE2⟩ : ∃ X, riseE Eb = X := ⟨_, rfl⟩
  rw [hS2, hF2, hE2] at TB
  have HR2 := hide (And.intro hS2 (And.intro hF2 hE2))
  clear em' hS2 hF2 hE2
  go_upto_region 7 with (go_at_call 53; refine TB.mono ?_; rintro e w3 ⟨r1, q1, r2, q2, r3, q3, rfl, HO, D3⟩; have HF3 := hide (And.intro D3 HO); have F5 := blk_on H2.out.2.1 D3; have o0 : w3.cell? ⟨w.heap.size + 1 + 1 + 1, 0, none⟩ = some (.int .i64 0) := cell_of F5 rfl; have f0 : w3.frozen? ⟨w.heap.size + 1 + 1 + 1, 0, none⟩ = false := fz_of F5; have o1 : w3.cell? ⟨w.heap.size + 1 + 1 + 1, 1, none⟩ = some (.int .i64 0) := cell_of F5 rfl; have f1 : w3.frozen? ⟨w.heap.size + 1 + 1 + 1, 1, none⟩ = false := fz_of F5; have o2 : w3.cell? ⟨w.heap.size + 1 + 1 + 1, 2, none⟩ = some (.slice none 0 0) := cell_of F5 rfl; have f2 : w3.frozen? ⟨w.heap.size + 1 + 1 + 1, 2, none⟩ = false := fz_of F5; have o3 : w3.cell? ⟨w.heap.size + 1 + 1 + 1, 3, none⟩ = some (.slice none 0 0) := cell_of F5 rfl; have f3 : w3.frozen? ⟨w.heap.size + 1 + 1 + 1, 3, none⟩ = false := fz_of F5; have o4 : w3.cell? ⟨w.heap.size + 1 + 1 + 1, 4, none⟩ = some (.slice none 0 0) := cell_of F5 rfl; have f4 : w3.frozen? ⟨w.heap.size + 1 + 1 + 1, 4, none⟩ = false := fz_of F5; clear F5 D3 HO)
  obtain ⟨W4, hW4⟩ : ∃ W4, (((((w3.setCell ⟨w.heap.size + 1 + 1 + 1, 0, none⟩ (.int .i64 n')).setCell ⟨w.heap.size + 1 + 1 + 1, 1, none⟩ (.int .i64 m')).setCell ⟨w.heap.size + 1 + 1 + 1, 2, none⟩ (.slice (some ⟨r1, 0, none⟩) S2.length q1)).setCell ⟨w.heap.size + 1 + 1 + 1, 3, none⟩ (.slice (some ⟨r2, 0, none⟩) F2.length q2)).setCell ⟨w.heap.size + 1 + 1 + 1, 4, none⟩ (.slice (some ⟨r3, 0, none⟩) E2.length q3)) = W4 := ⟨_, rfl⟩
  rw [hW4]
  have H4 : Hid (W4.heap[w.heap.size + 1 + 1]? = some (.cells #[.int .i64 n, .int .i64 m, .slice (some ⟨g1, 0, none⟩) S1.length k1, .slice (some ⟨g2, 0, none⟩) F1.length k2, .slice (some ⟨g3, 0, none⟩) E1.length k3] 25 (0, 0)) ∧ W4.heap[w.heap.size + 1 + 1 + 1]? = some (.cells #[.int .i64 n', .int .i64 m', .slice (some ⟨r1, 0, none⟩) S2.length q1, .slice (some ⟨r2, 0, none⟩) F2.length q2, .slice (some ⟨r3, 0, none⟩) E2.length q3] 25 (0, 0)) ∧ Below w.heap.size w W4 ∧ OwnO w.heap.size W4 (.slice (some ⟨g1, 0, none⟩) S1.length k1) (.slice (some ⟨g2, 0, none⟩) F1.length k2) (.slice (some ⟨g3, 0, none⟩) E1.length k3) S1 F1 E1 ∧ OwnO w.heap.size W4 (.slice (some ⟨r1, 0, none⟩) S2.length q1) (.slice (some ⟨r2, 0, none⟩) F2.length q2) (.slice (some ⟨r3, 0, none⟩) E2.length q3) S2 F2 E2) := hide (by
    have q4 := blk_on H2.out.1 HF3.out.1
    have q5 := blk_on H2.out.2.1 HF3.out.1
    have o := only5 w3 (w.heap.size + 1 + 1 + 1) (.int .i64 n') (.int .i64 m') (.slice (some ⟨r1, 0, none⟩) S2.length q1) (.slice (some ⟨r2, 0, none⟩) F2.length q2) (.slice (some ⟨r3, 0, none⟩) E2.length q3)
    have d := H2.out.2.2.1.trans (HF3.out.1.mono H2.out.2.2.1.size)
    have ow : OwnO W2.heap.size w3 (.slice (some ⟨r1, 0, none⟩) S2.length q1) (.slice (some ⟨r2, 0, none⟩) F2.length q2) (.slice (some ⟨r3, 0, none⟩) E2.length q3) S2 F2 E2 := ownO_own HF3.out.2
    rw [← hW4]
    exact ⟨(o.block _ (Array.getElem?_eq_some_iff.1 q4).1 (by omega)).trans q4, set5 w3 (w.heap.size + 1 + 1 + 1) _ _ _ _ _ _ _ _ _ _ 25 q5, d.trans (o.toBelow d.size (fun k hk => by omega)), (H2.out.2.2.2.2.on HF3.out.1).keep q5 o, (ow.keep q5 o).down H2.out.2.2.1.size⟩)
  clear hW4 HF3 TB H2 o0 f0 y0 o1 f1 y1 o2 f2 y2 o3 f3 y3 o4 f4 y4
  have hm2 : (m == m') = false := by simpa using hm
  have o0 : W4.cell? ⟨w.heap.size + 1 + 1, 0, none⟩ = some (.int .i64 n) := cell_of H4.out.1 rfl
  have f0 : W4.frozen? ⟨w.heap.size + 1 + 1, 0, none⟩ = false := fz_of H4.out.1
  have o1 : W4.cell? ⟨w.heap.size + 1 + 1, 1, none⟩ = some (.int .i64 m) := cell_of H4.out.1 rfl
  have f1 : W4.frozen? ⟨w.heap.size + 1 + 1, 1, none⟩ = false := fz_of H4.out.1
  have o2 : W4.cell? ⟨w.heap.size + 1 + 1, 2, none⟩ = some (.slice (some ⟨g1, 0, none⟩) S1.length k1) := cell_of H4.out.1 rfl
  have f2 : W4.frozen? ⟨w.heap.size + 1 + 1, 2, none⟩ = false := fz_of H4.out.1
  have o3 : W4.cell? ⟨w.heap.size + 1 + 1, 3, none⟩ = some (.slice (some ⟨g2, 0, none⟩) F1.length k2) := cell_of H4.out.1 rfl
  have f3 : W4.frozen? ⟨w.heap.size + 1 + 1, 3, none⟩ = false := fz_of H4.out.1
  have o4 : W4.cell? ⟨w.heap.size + 1 + 1, 4, none⟩ = some (.slice (some ⟨g3, 0, none⟩) E1.length k3) := cell_of H4.out.1 rfl
  have f4 : W4.frozen? ⟨w.heap.size + 1 + 1, 4, none⟩ = false := fz_of H4.out.1
  have p0 : W4.cell? ⟨w.heap.size + 1 + 1 + 1, 0, none⟩ = some (.int .i64 n') := cell_of H4.out.2.1 rfl
  have g0 : W4.frozen? ⟨w.heap.size + 1 + 1 + 1, 0, none⟩ = false := fz_of H4.out.2.1
  have p1 : W4.cell? ⟨w.heap.size + 1 + 1 + 1, 1, none⟩ = some (.int .i64 m') := cell_of H4.out.2.1 rfl
  have g1 : W4.frozen? ⟨w.heap.size + 1 + 1 + 1, 1, none⟩ = false := fz_of H4.out.2.1
  have p2 : W4.cell? ⟨w.heap.size + 1 + 1 + 1, 2, none⟩ = some (.slice (some ⟨r1, 0, none⟩) S2.length q1) := cell_of H4.out.2.1 rfl
  have g2 : W4.frozen? ⟨w.heap.size + 1 + 1 + 1, 2, none⟩ = false := fz_of H4.out.2.1
  have p3 : W4.cell? ⟨w.heap.size + 1 + 1 + 1, 3, none⟩ = some (.slice (some ⟨r2, 0, none⟩) F2.length q2) := cell_of H4.out.2.1 rfl
  have g3 : W4.frozen? ⟨w.heap.size + 1 + 1 + 1, 3, none⟩ = false := fz_of H4.out.2.1
  have p4 : W4.cell? ⟨w.heap.size + 1 + 1 + 1, 4, none⟩ = some (.slice (some ⟨r3, 0, none⟩) E2.length q3) := cell_of H4.out.2.1 rfl
  have g4 : W4.frozen? ⟨w.heap.size + 1 + 1 + 1, 4, none⟩ = false := fz_of H4.out.2.1
  have O6 := hide (two5 (x0 := .int .i64 0) (z0 := .int .i64 0) (x1 := .int .i64 0) (z1 := .int .i64 0) (x2 := .slice none 0 0) (z2 := .slice none 0 0) (x3 := .slice none 0 0) (z3 := .slice none 0 0) (x4 := .slice none 0 0) (z4 := .slice none 0 0) H4.out.1 H4.out.2.1 (by omega))
  go_wp2_with fail
  refine bodyPost_ret (results_c2 (p := 4) (q := 5) (r := 6) (ty := 25) rfl _ _ (w.heap.size + 1 + 1) (w.heap.size + 1 + 1 + 1) 25 _ _ (0, 0) _ _ rfl rfl rfl O6.out.1 O6.out.2.1 Tryz.underlying25 rfl (by kernel_rfl) (by kernel_rfl)) rfl ?_
  exact ⟨rfl, H4.out.2.2.1.trans (O6.out.2.2.toBelow H4.out.2.2.1.size (fun k hk => by omega))⟩
/-! ### both, of two automata over the same symbols -/
theorem own_two {W W' : World} {B n sz p q : Nat} {e t : TypeId} {v : Value} {xs : List Value} {cs cs' : Array Value} (h : W.ownsRow B e sz v n xs) (z : W.heap[p]? = some (.cells cs t (0, 0))) (z' : W.heap[q]? = some (.cells cs' t (0, 0))) (ne : t ≠ e) (o : Only W W' (fun k => k = p ∨ k = q)) : W'.ownsRow B e sz v n xs := row_only h o (fun k hk hk2 => by
  rcases hk2 with rfl | rfl
  · exact row_tag h z ne hk
  · exact row_tag h z' ne hk)
theorem ownO_two {B p q : Nat} {w w' : World} {v1 v2 v3 : Value} {S F : List Int} {E : List EdT} {cs cs' : Array Value} (h : OwnO B w v1 v2 v3 S F E) (z : w.heap[p]? = some (.cells cs 25 (0, 0))) (z' : w.heap[q]? = some (.cells cs' 25 (0, 0))) (o : Only w w' (fun k => k = p ∨ k = q)) : OwnO B w' v1 v2 v3 S F E := ⟨own_two h.s z z' (by decide) o, own_two h.f z z' (by decide) o, own_two h.e z z' (by decide) o, h.ne⟩
set_option maxRecDepth 100000 in
set_option maxHeartbeats 4000000 in
theorem both_ok (w : World) (n m n' : Int) (a1 a2 a3 b1 b2 b3 : Option Addr) (c1 c2 c3 d1 d2 d3 : Nat) (Sa Fa Sb Fb : List Int) (Ea Eb : List EdT) (hA : Hid (RdA w a1 a2 a3 Sa Fa Ea)) (hB : Hid (RdA w b1 b2 b3 Sb Fb Eb)) (h1 : Sa.length ≤ 4194304) (h2 : Fa.length ≤ 4194304) (h3 : Ea.length ≤ 4194304) (h4 : Sb.length ≤ 4194304) (h5 : Fb.length ≤ 4194304) (h6 : Eb.length ≤ 4194304) (em : mayA n m Sa Fa Ea = true) (em' : mayA n' m Sb Fb Eb = true) :
    Calls Tryz.prog 31 #[.agg #[.int .i64 n, .int .i64 m, .slice a1 Sa.length c1, .slice a2 Fa.length c2, .slice a3 Ea.length c3], .agg #[.int .i64 n', .int .i64 m, .slice b1 Sb.length d1, .slice b2 Fb.length d2, .slice b3 Eb.length d3]] w fun e w' => ∃ g1 k1 g2 k2 g3 k3 r1 q1 r2 q2 r3 q3, e = .returned (.tuple #[.agg #[.int .i64 n, .int .i64 m, .slice (some ⟨g1, 0, none⟩) (riseL Sa).length k1, .slice (some ⟨g2, 0, none⟩) (riseL Fa).length k2, .slice (some ⟨g3, 0, none⟩) (riseE Ea).length k3], .agg #[.int .i64 n', .int .i64 m, .slice (some ⟨r1, 0, none⟩) (riseL Sb).length q1, .slice (some ⟨r2, 0, none⟩) (riseL Fb).length q2, .slice (some ⟨r3, 0, none⟩) (riseE Eb).length q3], .int .i64 0]) ∧ Hid (OwnO w.heap.size w' (.slice (some ⟨g1, 0, none⟩) (riseL Sa).length k1) (.slice (some ⟨g2, 0, none⟩) (riseL Fa).length k2) (.slice (some ⟨g3, 0, none⟩) (riseE Ea).length k3) (riseL Sa) (riseL Fa) (riseE Ea) ∧ OwnO w.heap.size w' (.slice (some ⟨r1, 0, none⟩) (riseL Sb).length q1) (.slice (some ⟨r2, 0, none⟩) (riseL Fb).length q2) (.slice (some ⟨r3, 0, none⟩) (riseE Eb).length q3) (riseL Sb) (riseL Fb) (riseE Eb) ∧ Below w.heap.size w w') := by
  obtain ⟨W0, hW0⟩ : ∃ W0, (((w.alloc (.cells #[.int .i64 n, .int .i64 m, .slice a1 Sa.length c1, .slice a2 Fa.length c2, .slice a3 Ea.length c3] 25)).alloc (.cells #[.int .i64 n', .int .i64 m, .slice b1 Sb.length d1, .slice b2 Fb.length d2, .slice b3 Eb.length d3] 25)).alloc (.cells #[.int .i64 0, .int .i64 0, .slice none 0 0, .slice none 0 0, .slice none 0 0] 25)).alloc (.cells #[.int .i64 0, .int .i64 0, .slice none 0 0, .slice none 0 0, .slice none 0 0] 25) = W0 := ⟨_, rfl⟩
  have HD := hide (And.intro (box4 w (.cells #[.int .i64 n, .int .i64 m, .slice a1 Sa.length c1, .slice a2 Fa.length c2, .slice a3 Ea.length c3] 25) (.cells #[.int .i64 n', .int .i64 m, .slice b1 Sb.length d1, .slice b2 Fb.length d2, .slice b3 Eb.length d3] 25) (.cells #[.int .i64 0, .int .i64 0, .slice none 0 0, .slice none 0 0, .slice none 0 0] 25) (.cells #[.int .i64 0, .int .i64 0, .slice none 0 0, .slice none 0 0, .slice none 0 0] 25)) (show ((((w.alloc (.cells #[.int .i64 n, .int .i64 m, .slice a1 Sa.length c1, .slice a2 Fa.length c2, .slice a3 Ea.length c3] 25)).alloc (.cells #[.int .i64 n', .int .i64 m, .slice b1 Sb.length d1, .slice b2 Fb.length d2, .slice b3 Eb.length d3] 25)).alloc (.cells #[.int .i64 0, .int .i64 0, .slice none 0 0, .slice none 0 0, .slice none 0 0] 25)).alloc (.cells #[.int .i64 0, .int .i64 0, .slice none 0 0, .slice none 0 0, .slice none 0 0] 25)).heap.size = w.heap.size + 4 by simp))
  rw [hW0] at HD
  have y0 : W0.cell? ⟨w.heap.size, 0, none⟩ = some (.int .i64 n) := cell_of HD.out.1.2.1 rfl
  have y1 : W0.cell? ⟨w.heap.size, 1, none⟩ = some (.int .i64 m) := cell_of HD.out.1.2.1 rfl
  have y2 : W0.cell? ⟨w.heap.size, 2, none⟩ = some (.slice a1 Sa.length c1) := cell_of HD.out.1.2.1 rfl
  have y3 : W0.cell? ⟨w.heap.size, 3, none⟩ = some (.slice a2 Fa.length c2) := cell_of HD.out.1.2.1 rfl
  have y4 : W0.cell? ⟨w.heap.size, 4, none⟩ = some (.slice a3 Ea.length c3) := cell_of HD.out.1.2.1 rfl
  have TN := normal_ok W0 n m a1 a2 a3 c1 c2 c3 Sa Fa Ea (hide (hA.out.on HD.out.1.1)) h1 h2 h3 em
  obtain ⟨S1, hS1⟩ : ∃ X, riseL Sa = X := ⟨_, rfl⟩
  obtain ⟨F1, hF1⟩ : ∃ X, riseL Fa = X := ⟨_, rfl⟩
  obtain ⟨E1, hE1⟩ : ∃ X, riseE Ea = X := ⟨_, rfl⟩
  rw [hS1, hF1, hE1] at TN
  obtain ⟨S2, hS2⟩ : ∃ X, riseL Sb = X := ⟨_, rfl⟩
  obtain ⟨F2, hF2⟩ : ∃ X, riseL Fb = X := ⟨_, rfl⟩
  obtain ⟨E2, hE2⟩ : ∃ X, riseE Eb = X := ⟨_, rfl⟩
  rw [hS1, hF1, hE1, hS2, hF2, hE2]
  have HR2 := hide (And.intro hS2 (And.intro hF2 hE2))
  clear hS2 hF2 hE2
  clear em hS1 hF1 hE1
  go_enter Tryz.func31, Tryz.ntmps31
  go_upto_region 4 with (go_at_call 53; refine TN.mono ?_; rintro e w1 ⟨g1, k1, g2, k2, g3, k3, rfl, HO, D1⟩; have HF1 := hide (And.intro D1 HO); have F4 := blk_on HD.out.1.2.2.2.1 D1; have o0 : w1.cell? ⟨w.heap.size + 1 + 1, 0, none⟩ = some (.int .i64 0) := cell_of F4 rfl; have f0 : w1.frozen? ⟨w.heap.size + 1 + 1, 0, none⟩ = false := fz_of F4; have o1 : w1.cell? ⟨w.heap.size + 1 + 1, 1, none⟩ = some (.int .i64 0) := cell_of F4 rfl; have f1 : w1.frozen? ⟨w.heap.size + 1 + 1, 1, none⟩ = false := fz_of F4; have o2 : w1.cell? ⟨w.heap.size + 1 + 1, 2, none⟩ = some (.slice none 0 0) := cell_of F4 rfl; have f2 : w1.frozen? ⟨w.heap.size + 1 + 1, 2, none⟩ = false := fz_of F4; have o3 : w1.cell? ⟨w.heap.size + 1 + 1, 3, none⟩ = some (.slice none 0 0) := cell_of F4 rfl; have f3 : w1.frozen? ⟨w.heap.size + 1 + 1, 3, none⟩ = false := fz_of F4; have o4 : w1.cell? ⟨w.heap.size + 1 + 1, 4, none⟩ = some (.slice none 0 0) := cell_of F4 rfl; have f4 : w1.frozen? ⟨w.heap.size + 1 + 1, 4, none⟩ = false := fz_of F4; clear F4 D1 HO)
  obtain ⟨W2, hW2⟩ : ∃ W2, (((((w1.setCell ⟨w.heap.size + 1 + 1, 0, none⟩ (.int .i64 n)).setCell ⟨w.heap.size + 1 + 1, 1, none⟩ (.int .i64 m)).setCell ⟨w.heap.size + 1 + 1, 2, none⟩ (.slice (some ⟨g1, 0, none⟩) S1.length k1)).setCell ⟨w.heap.size + 1 + 1, 3, none⟩ (.slice (some ⟨g2, 0, none⟩) F1.length k2)).setCell ⟨w.heap.size + 1 + 1, 4, none⟩ (.slice (some ⟨g3, 0, none⟩) E1.length k3)) = W2 := ⟨_, rfl⟩
  rw [hW2]
  have H2 : Hid (W2.heap[w.heap.size + 1 + 1]? = some (.cells #[.int .i64 n, .int .i64 m, .slice (some ⟨g1, 0, none⟩) S1.length k1, .slice (some ⟨g2, 0, none⟩) F1.length k2, .slice (some ⟨g3, 0, none⟩) E1.length k3] 25 (0, 0)) ∧ W2.heap[w.heap.size + 1 + 1 + 1]? = some (.cells #[.int .i64 0, .int .i64 0, .slice none 0 0, .slice none 0 0, .slice none 0 0] 25 (0, 0)) ∧ Below w.heap.size w W2 ∧ W2.heap[w.heap.size + 1]? = some (.cells #[.int .i64 n', .int .i64 m, .slice b1 Sb.length d1, .slice b2 Fb.length d2, .slice b3 Eb.length d3] 25 (0, 0)) ∧ OwnO w.heap.size W2 (.slice (some ⟨g1, 0, none⟩) S1.length k1) (.slice (some ⟨g2, 0, none⟩) F1.length k2) (.slice (some ⟨g3, 0, none⟩) E1.length k3) S1 F1 E1) := hide (by
    have q4 := blk_on HD.out.1.2.2.2.1 HF1.out.1
    have q5 := blk_on HD.out.1.2.2.2.2 HF1.out.1
    have q1 := blk_on HD.out.1.2.2.1 HF1.out.1
    have o := only5 w1 (w.heap.size + 1 + 1) (.int .i64 n) (.int .i64 m) (.slice (some ⟨g1, 0, none⟩) S1.length k1) (.slice (some ⟨g2, 0, none⟩) F1.length k2) (.slice (some ⟨g3, 0, none⟩) E1.length k3)
    have d := HD.out.1.1.trans (HF1.out.1.mono HD.out.1.1.size)
    have s0 := HD.out.1.1.size
    have ow : OwnO W0.heap.size w1 (.slice (some ⟨g1, 0, none⟩) S1.length k1) (.slice (some ⟨g2, 0, none⟩) F1.length k2) (.slice (some ⟨g3, 0, none⟩) E1.length k3) S1 F1 E1 := ownO_own HF1.out.2
    rw [← hW2]
    exact ⟨set5 w1 (w.heap.size + 1 + 1) _ _ _ _ _ _ _ _ _ _ 25 q4, (o.block _ (Array.getElem?_eq_some_iff.1 q5).1 (by omega)).trans q5, d.trans (o.toBelow d.size (fun k hk => by omega)), (o.block _ (Array.getElem?_eq_some_iff.1 q1).1 (by omega)).trans q1, (ow.keep q4 o).down (by omega)⟩)
  clear hW2 HF1 TN o0 f0 y0 o1 f1 y1 o2 f2 y2 o3 f3 y3 o4 f4 y4
  have y0 : W2.cell? ⟨w.heap.size + 1, 0, none⟩ = some (.int .i64 n') := cell_of H2.out.2.2.2.1 rfl
  have y1 : W2.cell? ⟨w.heap.size + 1, 1, none⟩ = some (.int .i64 m) := cell_of H2.out.2.2.2.1 rfl
  have y2 : W2.cell? ⟨w.heap.size + 1, 2, none⟩ = some (.slice b1 Sb.length d1) := cell_of H2.out.2.2.2.1 rfl
  have y3 : W2.cell? ⟨w.heap.size + 1, 3, none⟩ = some (.slice b2 Fb.length d2) := cell_of H2.out.2.2.2.1 rfl
  have y4 : W2.cell? ⟨w.heap.size + 1, 4, none⟩ = some (.slice b3 Eb.length d3) := cell_of H2.out.2.2.2.1 rfl
  have TB := normal_ok W2 n' m b1 b2 b3 d1 d2 d3 Sb Fb Eb (hide (hB.out.on H2.out.2.2.1)) h4 h5 h6 em'
  rw [HR2.out.1, HR2.out.2.1, HR2.out.2.2] at TB
  clear em'
  go_upto_region 7 with (go_at_call 53; refine TB.mono ?_; rintro e w3 ⟨r1, q1, r2, q2, r3, q3, rfl, HO, D3⟩; have HF3 := hide (And.intro D3 HO); have F5 := blk_on H2.out.2.1 D3; have o0 : w3.cell? ⟨w.heap.size + 1 + 1 + 1, 0, none⟩ = some (.int .i64 0) := cell_of F5 rfl; have f0 : w3.frozen? ⟨w.heap.size + 1 + 1 + 1, 0, none⟩ = false := fz_of F5; have o1 : w3.cell? ⟨w.heap.size + 1 + 1 + 1, 1, none⟩ = some (.int .i64 0) := cell_of F5 rfl; have f1 : w3.frozen? ⟨w.heap.size + 1 + 1 + 1, 1, none⟩ = false := fz_of F5; have o2 : w3.cell? ⟨w.heap.size + 1 + 1 + 1, 2, none⟩ = some (.slice none 0 0) := cell_of F5 rfl; have f2 : w3.frozen? ⟨w.heap.size + 1 + 1 + 1, 2, none⟩ = false := fz_of F5; have o3 : w3.cell? ⟨w.heap.size + 1 + 1 + 1, 3, none⟩ = some (.slice none 0 0) := cell_of F5 rfl; have f3 : w3.frozen? ⟨w.heap.size + 1 + 1 + 1, 3, none⟩ = false := fz_of F5; have o4 : w3.cell? ⟨w.heap.size + 1 + 1 + 1, 4, none⟩ = some (.slice none 0 0) := cell_of F5 rfl; have f4 : w3.frozen? ⟨w.heap.size + 1 + 1 + 1, 4, none⟩ = false := fz_of F5; clear F5 D3 HO)
  obtain ⟨W4, hW4⟩ : ∃ W4, (((((w3.setCell ⟨w.heap.size + 1 + 1 + 1, 0, none⟩ (.int .i64 n')).setCell ⟨w.heap.size + 1 + 1 + 1, 1, none⟩ (.int .i64 m)).setCell ⟨w.heap.size + 1 + 1 + 1, 2, none⟩ (.slice (some ⟨r1, 0, none⟩) S2.length q1)).setCell ⟨w.heap.size + 1 + 1 + 1, 3, none⟩ (.slice (some ⟨r2, 0, none⟩) F2.length q2)).setCell ⟨w.heap.size + 1 + 1 + 1, 4, none⟩ (.slice (some ⟨r3, 0, none⟩) E2.length q3)) = W4 := ⟨_, rfl⟩
  rw [hW4]
  have H4 : Hid (W4.heap[w.heap.size + 1 + 1]? = some (.cells #[.int .i64 n, .int .i64 m, .slice (some ⟨g1, 0, none⟩) S1.length k1, .slice (some ⟨g2, 0, none⟩) F1.length k2, .slice (some ⟨g3, 0, none⟩) E1.length k3] 25 (0, 0)) ∧ W4.heap[w.heap.size + 1 + 1 + 1]? = some (.cells #[.int .i64 n', .int .i64 m, .slice (some ⟨r1, 0, none⟩) S2.length q1, .slice (some ⟨r2, 0, none⟩) F2.length q2, .slice (some ⟨r3, 0, none⟩) E2.length q3] 25 (0, 0)) ∧ Below w.heap.size w W4 ∧ OwnO w.heap.size W4 (.slice (some ⟨g1, 0, none⟩) S1.length k1) (.slice (some ⟨g2, 0, none⟩) F1.length k2) (.slice (some ⟨g3, 0, none⟩) E1.length k3) S1 F1 E1 ∧ OwnO w.heap.size W4 (.slice (some ⟨r1, 0, none⟩) S2.length q1) (.slice (some ⟨r2, 0, none⟩) F2.length q2) (.slice (some ⟨r3, 0, none⟩) E2.length q3) S2 F2 E2) := hide (by
    have q4 := blk_on H2.out.1 HF3.out.1
    have q5 := blk_on H2.out.2.1 HF3.out.1
    have o := only5 w3 (w.heap.size + 1 + 1 + 1) (.int .i64 n') (.int .i64 m) (.slice (some ⟨r1, 0, none⟩) S2.length q1) (.slice (some ⟨r2, 0, none⟩) F2.length q2) (.slice (some ⟨r3, 0, none⟩) E2.length q3)
    have d := H2.out.2.2.1.trans (HF3.out.1.mono H2.out.2.2.1.size)
    have ow : OwnO W2.heap.size w3 (.slice (some ⟨r1, 0, none⟩) S2.length q1) (.slice (some ⟨r2, 0, none⟩) F2.length q2) (.slice (some ⟨r3, 0, none⟩) E2.length q3) S2 F2 E2 := ownO_own HF3.out.2
    rw [← hW4]
    exact ⟨(o.block _ (Array.getElem?_eq_some_iff.1 q4).1 (by omega)).trans q4, set5 w3 (w.heap.size + 1 + 1 + 1) _ _ _ _ _ _ _ _ _ _ 25 q5, d.trans (o.toBelow d.size (fun k hk => by omega)), (H2.out.2.2.2.2.on HF3.out.1).keep q5 o, (ow.keep q5 o).down H2.out.2.2.1.size⟩)
  clear hW4 HF3 TB H2 o0 f0 y0 o1 f1 y1 o2 f2 y2 o3 f3 y3 o4 f4 y4
  have o0 : W4.cell? ⟨w.heap.size + 1 + 1, 0, none⟩ = some (.int .i64 n) := cell_of H4.out.1 rfl
  have f0 : W4.frozen? ⟨w.heap.size + 1 + 1, 0, none⟩ = false := fz_of H4.out.1
  have o1 : W4.cell? ⟨w.heap.size + 1 + 1, 1, none⟩ = some (.int .i64 m) := cell_of H4.out.1 rfl
  have f1 : W4.frozen? ⟨w.heap.size + 1 + 1, 1, none⟩ = false := fz_of H4.out.1
  have o2 : W4.cell? ⟨w.heap.size + 1 + 1, 2, none⟩ = some (.slice (some ⟨g1, 0, none⟩) S1.length k1) := cell_of H4.out.1 rfl
  have f2 : W4.frozen? ⟨w.heap.size + 1 + 1, 2, none⟩ = false := fz_of H4.out.1
  have o3 : W4.cell? ⟨w.heap.size + 1 + 1, 3, none⟩ = some (.slice (some ⟨g2, 0, none⟩) F1.length k2) := cell_of H4.out.1 rfl
  have f3 : W4.frozen? ⟨w.heap.size + 1 + 1, 3, none⟩ = false := fz_of H4.out.1
  have o4 : W4.cell? ⟨w.heap.size + 1 + 1, 4, none⟩ = some (.slice (some ⟨g3, 0, none⟩) E1.length k3) := cell_of H4.out.1 rfl
  have f4 : W4.frozen? ⟨w.heap.size + 1 + 1, 4, none⟩ = false := fz_of H4.out.1
  have p0 : W4.cell? ⟨w.heap.size + 1 + 1 + 1, 0, none⟩ = some (.int .i64 n') := cell_of H4.out.2.1 rfl
  have fz0 : W4.frozen? ⟨w.heap.size + 1 + 1 + 1, 0, none⟩ = false := fz_of H4.out.2.1
  have p1 : W4.cell? ⟨w.heap.size + 1 + 1 + 1, 1, none⟩ = some (.int .i64 m) := cell_of H4.out.2.1 rfl
  have fz1 : W4.frozen? ⟨w.heap.size + 1 + 1 + 1, 1, none⟩ = false := fz_of H4.out.2.1
  have p2 : W4.cell? ⟨w.heap.size + 1 + 1 + 1, 2, none⟩ = some (.slice (some ⟨r1, 0, none⟩) S2.length q1) := cell_of H4.out.2.1 rfl
  have fz2 : W4.frozen? ⟨w.heap.size + 1 + 1 + 1, 2, none⟩ = false := fz_of H4.out.2.1
  have p3 : W4.cell? ⟨w.heap.size + 1 + 1 + 1, 3, none⟩ = some (.slice (some ⟨r2, 0, none⟩) F2.length q2) := cell_of H4.out.2.1 rfl
  have fz3 : W4.frozen? ⟨w.heap.size + 1 + 1 + 1, 3, none⟩ = false := fz_of H4.out.2.1
  have p4 : W4.cell? ⟨w.heap.size + 1 + 1 + 1, 4, none⟩ = some (.slice (some ⟨r3, 0, none⟩) E2.length q3) := cell_of H4.out.2.1 rfl
  have fz4 : W4.frozen? ⟨w.heap.size + 1 + 1 + 1, 4, none⟩ = false := fz_of H4.out.2.1
  have O5 := hide (two5 (W := W4) (x0 := .int .i64 n) (z0 := .int .i64 n') (x1 := .int .i64 m) (z1 := .int .i64 m) (x2 := .slice (some ⟨g1, 0, none⟩) S1.length k1) (z2 := .slice (some ⟨r1, 0, none⟩) S2.length q1) (x3 := .slice (some ⟨g2, 0, none⟩) F1.length k2) (z3 := .slice (some ⟨r2, 0, none⟩) F2.length q2) (x4 := .slice (some ⟨g3, 0, none⟩) E1.length k3) (z4 := .slice (some ⟨r3, 0, none⟩) E2.length q3) H4.out.1 H4.out.2.1 (by omega))
  go_upto_region 9 with fail
  go_region_law (fail)
  all_goals
    have O6 := O5.out
    generalize ((((((((((W4.setCell ⟨w.heap.size + 1 + 1, 0, none⟩ (.int .i64 n)).setCell ⟨w.heap.size + 1 + 1, 1, none⟩ (.int .i64 m)).setCell ⟨w.heap.size + 1 + 1, 2, none⟩ (.slice (some ⟨g1, 0, none⟩) S1.length k1)).setCell ⟨w.heap.size + 1 + 1, 3, none⟩ (.slice (some ⟨g2, 0, none⟩) F1.length k2)).setCell ⟨w.heap.size + 1 + 1, 4, none⟩ (.slice (some ⟨g3, 0, none⟩) E1.length k3)).setCell ⟨w.heap.size + 1 + 1 + 1, 0, none⟩ (.int .i64 n')).setCell ⟨w.heap.size + 1 + 1 + 1, 1, none⟩ (.int .i64 m)).setCell ⟨w.heap.size + 1 + 1 + 1, 2, none⟩ (.slice (some ⟨r1, 0, none⟩) S2.length q1)).setCell ⟨w.heap.size + 1 + 1 + 1, 3, none⟩ (.slice (some ⟨r2, 0, none⟩) F2.length q2)).setCell ⟨w.heap.size + 1 + 1 + 1, 4, none⟩ (.slice (some ⟨r3, 0, none⟩) E2.length q3)) = W6 at O6 ⊢
    have K6 : Hid (W6.drew.heap[w.heap.size + 1 + 1]? = some (.cells #[.int .i64 n, .int .i64 m, .slice (some ⟨g1, 0, none⟩) S1.length k1, .slice (some ⟨g2, 0, none⟩) F1.length k2, .slice (some ⟨g3, 0, none⟩) E1.length k3] 25 (0, 0)) ∧ W6.drew.heap[w.heap.size + 1 + 1 + 1]? = some (.cells #[.int .i64 n', .int .i64 m, .slice (some ⟨r1, 0, none⟩) S2.length q1, .slice (some ⟨r2, 0, none⟩) F2.length q2, .slice (some ⟨r3, 0, none⟩) E2.length q3] 25 (0, 0)) ∧ OwnO w.heap.size W6.drew (.slice (some ⟨g1, 0, none⟩) S1.length k1) (.slice (some ⟨g2, 0, none⟩) F1.length k2) (.slice (some ⟨g3, 0, none⟩) E1.length k3) S1 F1 E1 ∧ OwnO w.heap.size W6.drew (.slice (some ⟨r1, 0, none⟩) S2.length q1) (.slice (some ⟨r2, 0, none⟩) F2.length q2) (.slice (some ⟨r3, 0, none⟩) E2.length q3) S2 F2 E2 ∧ Below w.heap.size w W6.drew) := hide (by
      have dq : Below W6.heap.size W6 W6.drew := ⟨rfl, rfl, rfl, Nat.le_refl _, fun _ _ => rfl⟩
      have d6 := H4.out.2.2.1.trans (O6.2.2.toBelow H4.out.2.2.1.size (fun k hk => by omega))
      exact ⟨O6.1, O6.2.1, (ownO_two H4.out.2.2.2.1 H4.out.1 H4.out.2.1 O6.2.2).on dq, (ownO_two H4.out.2.2.2.2 H4.out.1 H4.out.2.1 O6.2.2).on dq, d6.trans (dq.mono d6.size)⟩)
    clear O6
    go_wp2_with fail
    refine bodyPost_ret (results_c2 (p := 4) (q := 5) (r := 6) (ty := 25) rfl _ _ (w.heap.size + 1 + 1) (w.heap.size + 1 + 1 + 1) 25 _ _ (0, 0) _ _ rfl rfl rfl K6.out.1 K6.out.2.1 Tryz.underlying25 rfl (by kernel_rfl) (by kernel_rfl)) rfl ?_
    exact ⟨g1, k1, g2, k2, g3, k3, r1, q1, r2, q2, r3, q3, rfl, hide K6.out.2.2⟩
/-! ### behind: one automaton behind another -/
theorem box3b (w : World) (A B Z : Array Value) (t : TypeId) : Below w.heap.size w (((w.alloc (.cells A t)).alloc (.cells B t)).alloc (.cells Z t)) ∧ (((w.alloc (.cells A t)).alloc (.cells B t)).alloc (.cells Z t)).heap[w.heap.size]? = some (.cells A t (0, 0)) ∧ (((w.alloc (.cells A t)).alloc (.cells B t)).alloc (.cells Z t)).heap[w.heap.size + 1]? = some (.cells B t (0, 0)) ∧ (((w.alloc (.cells A t)).alloc (.cells B t)).alloc (.cells Z t)).heap[w.heap.size + 1 + 1]? = some (.cells Z t (0, 0)) ∧ (((w.alloc (.cells A t)).alloc (.cells B t)).alloc (.cells Z t)).heap.size = w.heap.size + 3 := by
  have q := box2 w A B t
  have z := World.alloc_heap_new ((w.alloc (.cells A t)).alloc (.cells B t)) (.cells Z t)
  rw [q.2.2.2] at z
  have k := (Below.refl _ ((w.alloc (.cells A t)).alloc (.cells B t))).alloc (Nat.le_refl _) (.cells Z t)
  exact ⟨q.1.trans (k.mono q.1.size), blk_on q.2.1 k, blk_on q.2.2.1 k, z, by simp⟩
/-- Edges that can be read, behind a row of one's own: at a step of a region that draws. -/
theorem run_appM {w : World} (ty : TypeId) (B : Nat) (v : Value) (X : List EdT) (hown : w.ownsRow B 50 3 v X.length (X.flatMap encE)) (ao : Option Addr) (n c : Nat) (Y : List EdT) (hn : Y.length = n) (hz : ao = none → c = 0) (hr : RdE w ao Y) (hl : X.length + Y.length ≤ 4194304) (hB : B ≤ w.heap.size) :
    ∃ z5 d5 w', (Builtin.append_ #[23, 23] ty #[v, .slice ao n c]).run Tryz.prog w = .ok (.slice z5 (X ++ Y).length d5) w' ∧ w'.ownsRow B 50 3 (.slice z5 (X ++ Y).length d5) (X ++ Y).length ((X ++ Y).flatMap encE) ∧ w.grownBy w' v.ownBlock := by
  obtain ⟨i5, hi5, hz50, hz51, hz52⟩ := info_parts info59
  subst hn
  cases ao with
  | none =>
    obtain rfl : Y = [] := by
      cases Y with
      | nil => rfl
      | cons y Y => obtain ⟨g, o, e, _⟩ := hr 0 (by simp); cases e
    obtain rfl := hz rfl
    obtain ⟨z5, d5, rfl⟩ := own_slice hown
    refine ⟨z5, d5, w, ?_, ?_, rfl, rfl, rfl, Nat.le_refl _, fun _ _ _ => rfl⟩
    · have q := run_append_owned_none (P := Tryz.prog) (w := w) B 23 ty 50 i5 3 Tryz.underlying23 hi5 _ _ _ hown
      simpa using q
    · simpa using hown
  | some ad =>
    obtain ⟨v', w', hrun, h2, hg, _, _⟩ := run_append_own_at (P := Tryz.prog) w B 23 ty 50 i5 _ 3 24 Tryz.underlying23 hi5 hz50 hz51 hz52 rfl (by omega) v X.length (X.flatMap encE) hown ad Y.length c (Y.flatMap encE) (encE_flat Y) (fun j u hu => by
      have h0 : 0 < Y.length := by
        cases Y with
        | nil => simp at hu
        | cons y Y => simp
      obtain ⟨g, o, e, _⟩ := hr 0 h0
      cases e
      rw [Addr.add_lit]
      exact edges_at hr j u hu) (encE_one Y) (by unfold maxLen; omega) (by omega) hB
    have h3 : w'.ownsRow B 50 3 v' (X ++ Y).length ((X ++ Y).flatMap encE) := by
      rw [List.flatMap_append, List.length_append]
      exact h2
    obtain ⟨z5, d5, rfl⟩ := own_slice h3
    exact ⟨z5, d5, w', hrun, h3, hg⟩
theorem step_appM {ops : Array Oper} {o : Oper} {a : Act} {K : Act → World → Prop} {Q : Exit → Act → World → Prop} {E : Prop} {w : World} (hgd : o.guard = none) (s x : Operand)
    (ho : o.op = .call { callee := .builtin .append, args := #[s, x], argTypes := #[23, 23] }) (B : Nat) (v : Value) (X : List EdT) (hs : a.eval s = v) (hown : w.ownsRow B 50 3 v X.length (X.flatMap encE)) (ao : Option Addr) (n c : Nat) (Y : List EdT) (hn : Y.length = n) (hz : ao = none → c = 0) (hx : a.eval x = .slice ao n c) (hr : RdE w ao Y) (hl : X.length + Y.length ≤ 4194304) (hB : B ≤ w.heap.size)
    (h : ∀ z5 d5 w', Hid (w'.ownsRow B 50 3 (.slice z5 (X ++ Y).length d5) (X ++ Y).length ((X ++ Y).flatMap encE)) → Hid (Only w w' (fun k => v.ownBlock = some k)) → K (a.put o.dst (.slice z5 (X ++ Y).length d5)) w') :
    if Region.wanted o (yielded ops a.tmps) = true then Oper.wp Tryz.prog o a w K Q else E := by
  have hw : Region.wanted o (yielded ops a.tmps) = true := by simp [Region.wanted, hgd]
  rw [if_pos hw]
  obtain ⟨z5, d5, w', hrun, h2, hg⟩ := run_appM o.type B v X hown ao n c Y hn hz hr hl hB
  unfold Oper.wp
  simp [execOp, ho, resolve, invoke, builtin, hs, hx, hrun, Result.andThen]
  have q := h z5 d5 w' (hide h2) (hide (grown_only hg))
  simp only [List.length_append] at q
  exact q
/-! ### What paired holds -/
theorem results_c3 {P : Program} {fn : Func} {p q r : Tmp} {ty : TypeId} (h : fn.results = #[.cell p ty, .tmp q, .tmp r]) (tmps : Array Value) (w : World) (g : Nat) (t : TypeId) (cs : Array Value) (fr : Nat × Nat) (d : TypeDesc) (x y : Value)
    (hp : tmps.getD p undef = .pointer (some ⟨g, 0, none⟩)) (hq : tmps.getD q undef = x) (hr : tmps.getD r undef = y) (hg : w.heap[g]? = some (.cells cs t fr))
    (hu : P.underlying ty = some d) (hd : (match d with | .struct _ | .array _ _ => true | _ => false) = true) (hi : (P.info? ty).map (·.size) = some cs.size) :
    (results fn tmps).run P w = .ok (.tuple #[.agg cs, x, y]) w := by
  have hp' : tmps[p]?.getD undef = .pointer (some ⟨g, 0, none⟩) := by simpa using hp
  have hq' : tmps[q]?.getD undef = x := by simpa using hq
  have hr' : tmps[r]?.getD undef = y := by simpa using hr
  simp [results, h, hp', hq', hr', asAddr, run_loadVar_row w g t ty cs fr d hg hu hd hi]
/-- The rows of both, in their boxes. -/
structure TwoR (B : Nat) (W : World) (m R1 R2 : Nat) (E1 E2 : List EdT) (b1 b2 : Nat) (aX : Option Addr) (cX gX : Nat) (aY : Option Addr) (cY gY : Nat) : Prop where
  h1 : W.heap[b1]? = some (.cells #[.int .i64 (m : Int), .slice aX E1.length cX, .slice (some ⟨gX, 0, none⟩) (R1 + 1) (R1 + 1)] 67 (0, 0))
  h2 : W.heap[b2]? = some (.cells #[.int .i64 (m : Int), .slice aY E2.length cY, .slice (some ⟨gY, 0, none⟩) (R2 + 1) (R2 + 1)] 67 (0, 0))
  r1 : RwA B W m R1 E1 aX E1.length cX gX
  r2 : RwA B W m R2 E2 aY E2.length cY gY
theorem TwoR.on {B : Nat} {W W' : World} {m R1 R2 : Nat} {E1 E2 : List EdT} {b1 b2 : Nat} {aX : Option Addr} {cX gX : Nat} {aY : Option Addr} {cY gY : Nat} (h : TwoR B W m R1 R2 E1 E2 b1 b2 aX cX gX aY cY gY) (d : Below W.heap.size W W') : TwoR B W' m R1 R2 E1 E2 b1 b2 aX cX gX aY cY gY := ⟨blk_on h.h1 d, blk_on h.h2 d, h.r1.on d, h.r2.on d⟩
theorem map_below {W W' : World} {bm n : Nat} {Dm : DataW Unit} (o : W.ownsMap Tryz.prog 57 (plainElem Tryz.prog 3) bm n Dm) (d : Below W.heap.size W W') : W'.ownsMap Tryz.prog 57 (plainElem Tryz.prog 3) bm n Dm := map_only o (Only.ofBelow (R := fun _ => False) d) (fun e => e)
def dRw (B m R : Nat) (E : List EdT) : MkP := fun x _ _ W => ∃ a c g, x = .agg #[.int .i64 (m : Int), .slice a E.length c, .slice (some ⟨g, 0, none⟩) (R + 1) (R + 1)] ∧ RwA B W m R E a E.length c g
theorem dRw_mono {B m R : Nat} {E : List EdT} : MonoP (dRw B m R E) := fun _ _ _ _ _ _ d ⟨a, c, g, e, h⟩ => ⟨a, c, g, e, h.on d⟩
def dFn (B m R1 R2 : Nat) (E1 E2 : List EdT) : MkP := fun x _ _ W => ∃ b1 b2 aX cX gX aY cY gY, x = (.func (.func 39) #[] #[.pointer (some ⟨b1, 0, none⟩), .pointer (some ⟨b2, 0, none⟩)]) ∧ TwoR B W m R1 R2 E1 E2 b1 b2 aX cX gX aY cY gY
theorem dFn_mono {B m R1 R2 : Nat} {E1 E2 : List EdT} : MonoP (dFn B m R1 R2 E1 E2) := fun _ _ _ _ _ _ d ⟨b1, b2, aX, cX, gX, aY, cY, gY, e, h⟩ => ⟨b1, b2, aX, cX, gX, aY, cY, gY, e, h.on d⟩
def dMp (B : Nat) : MkP := fun x lo hi W => x = .map (some lo) ∧ B ≤ lo ∧ lo < hi ∧ W.ownsMap Tryz.prog 57 (plainElem Tryz.prog 3) lo 0 (.map [] : DataW Unit)
theorem dMp_mono {B : Nat} : MonoP (dMp B) := fun _ _ _ _ _ _ d ⟨e, l, l2, h⟩ => ⟨e, l, l2, map_below h d⟩
def dSr (B m R1 R2 : Nat) (E1 E2 : List EdT) (bud : Int) : MkP := fun x _ _ W => ∃ b1 b2 aX cX gX aY cY gY bm, x = .agg #[(.func (.func 39) #[] #[.pointer (some ⟨b1, 0, none⟩), .pointer (some ⟨b2, 0, none⟩)]), .int .i64 bud, .map (some bm), .slice none 0 0, .slice none 0 0, .slice none 0 0] ∧ TwoR B W m R1 R2 E1 E2 b1 b2 aX cX gX aY cY gY ∧ B ≤ bm ∧ W.ownsMap Tryz.prog 57 (plainElem Tryz.prog 3) bm 0 (.map [] : DataW Unit)
theorem dSr_mono {B m R1 R2 : Nat} {E1 E2 : List EdT} {bud : Int} : MonoP (dSr B m R1 R2 E1 E2 bud) := fun _ _ _ _ _ _ d ⟨b1, b2, aX, cX, gX, aY, cY, gY, bm, e, h, l, o⟩ => ⟨b1, b2, aX, cX, gX, aY, cY, gY, bm, e, h.on d, l, map_below o d⟩
def dBx (B : Nat) : MkP := fun x lo hi W => x = .pointer (some ⟨lo, 0, none⟩) ∧ B ≤ lo ∧ lo < hi ∧ W.heap[lo]? = some (.cells #[.nilFunc, .int .i64 0, .map none, .slice none 0 0, .slice none 0 0, .slice none 0 0] 71 (0, 0))
theorem dBx_mono {B : Nat} : MonoP (dBx B) := fun _ _ _ _ _ hs d ⟨e, l, l2, z⟩ => ⟨e, l, l2, (d.block _ (by omega)).trans z⟩
/-- What stands when the search is laid. -/
structure PrB (W1 : World) (m R1 R2 : Nat) (E1 E2 : List EdT) (bud : Int) (b bm b1 b2 : Nat) (aX : Option Addr) (cX gX : Nat) (aY : Option Addr) (cY gY : Nat) (W : World) : Prop where
  be : Below W1.heap.size W1 W
  bx : W.heap[b]? = some (.cells #[(.func (.func 39) #[] #[.pointer (some ⟨b1, 0, none⟩), .pointer (some ⟨b2, 0, none⟩)]), .int .i64 bud, .map (some bm), .slice none 0 0, .slice none 0 0, .slice none 0 0] 71 (0, 0))
  mo : W.ownsMap Tryz.prog 57 (plainElem Tryz.prog 3) bm 0 (.map [] : DataW Unit)
  tw : TwoR W1.heap.size W m R1 R2 E1 E2 b1 b2 aX cX gX aY cY gY
  lb : W1.heap.size ≤ b
  lm : W1.heap.size ≤ bm
theorem map_at {W : World} {bm n : Nat} {Dm : DataW Unit} (o : W.ownsMap Tryz.prog 57 (plainElem Tryz.prog 3) bm n Dm) {cs : Array Value} {t : TypeId} {fr : Nat × Nat} {k : Nat} (h : W.heap[k]? = some (.cells cs t fr)) : k ≠ bm := by
  rintro rfl
  obtain ⟨es, ck, q1, _⟩ := o
  rw [h] at q1; cases q1
theorem blk_ne {W : World} {g k : Nat} {cs cs' : Array Value} {t t' : TypeId} {fr fr' : Nat × Nat} (h : W.heap[g]? = some (.cells cs t fr)) (h' : W.heap[k]? = some (.cells cs' t' fr')) (ne : t ≠ t') : g ≠ k := by
  rintro rfl
  rw [h] at h'
  cases h'
  exact ne rfl
theorem prB_of {W1 W : World} {m R1 R2 : Nat} {E1 E2 : List EdT} {bud : Int} {b bm b1 b2 : Nat} {aX : Option Addr} {cX gX : Nat} {aY : Option Addr} {cY gY : Nat} (d : Below W1.heap.size W1 W) (z : W.heap[b]? = some (.cells #[.nilFunc, .int .i64 0, .map none, .slice none 0 0, .slice none 0 0, .slice none 0 0] 71 (0, 0))) (lb : W1.heap.size ≤ b) (lm : W1.heap.size ≤ bm) (tw : TwoR W1.heap.size W m R1 R2 E1 E2 b1 b2 aX cX gX aY cY gY) (mo : W.ownsMap Tryz.prog 57 (plainElem Tryz.prog 3) bm 0 (.map [] : DataW Unit)) :
    PrB W1 m R1 R2 E1 E2 bud b bm b1 b2 aX cX gX aY cY gY ((((((W.setCell ⟨b, 0, none⟩ (.func (.func 39) #[] #[.pointer (some ⟨b1, 0, none⟩), .pointer (some ⟨b2, 0, none⟩)])).setCell ⟨b, 1, none⟩ (.int .i64 bud)).setCell ⟨b, 2, none⟩ (.map (some bm))).setCell ⟨b, 3, none⟩ (.slice none 0 0)).setCell ⟨b, 4, none⟩ (.slice none 0 0)).setCell ⟨b, 5, none⟩ (.slice none 0 0)) := by
  have s := set6 W b _ _ _ _ _ _ (.func (.func 39) #[] #[.pointer (some ⟨b1, 0, none⟩), .pointer (some ⟨b2, 0, none⟩)]) (.int .i64 bud) (.map (some bm)) (.slice none 0 0) (.slice none 0 0) (.slice none 0 0) 71 z
  have o := only6 W b (.func (.func 39) #[] #[.pointer (some ⟨b1, 0, none⟩), .pointer (some ⟨b2, 0, none⟩)]) (.int .i64 bud) (.map (some bm)) (.slice none 0 0) (.slice none 0 0) (.slice none 0 0)
  have rk : ∀ {R : Nat} {E : List EdT} {a : Option Addr} {c g : Nat}, RwA W1.heap.size W m R E a E.length c g → ∀ {W' : World}, Only W W' (fun k => k = b) → RwA W1.heap.size W' m R E a E.length c g := by
    intro R E a c g h W' o'
    refine ⟨row_only h.ow o' (fun k hk e => ?_), h.fi.only o' (fun e => ?_), h.ge⟩
    · subst e
      rcases h.ow.2 with ⟨e3, _⟩ | ⟨g', cap, cur, e3, _, hg, _⟩
      · rw [e3] at hk; cases hk
      · rw [e3] at hk
        obtain rfl : g' = k := by simpa [Value.ownBlock] using hk
        rw [z] at hg; cases hg
    · obtain ⟨cur, q, _⟩ := h.fi
      rw [e, z] at q; cases q
  exact ⟨d.trans (o.toBelow d.size (fun k e => by omega)), s, map_only mo o (fun e => map_at mo z e.symm), ⟨o.cellK tw.h1 (blk_ne tw.h1 z (by decide)), o.cellK tw.h2 (blk_ne tw.h2 z (by decide)), rk tw.r1 o, rk tw.r2 o⟩, lb, lm⟩
theorem PrB.ss {W1 W W' : World} {m R1 R2 : Nat} {E1 E2 : List EdT} {bud : Int} {b bm b1 b2 : Nat} {aX : Option Addr} {cX gX : Nat} {aY : Option Addr} {cY gY : Nat} (h : PrB W1 m R1 R2 E1 E2 bud b bm b1 b2 aX cX gX aY cY gY W) (d : Below W.heap.size W W') (D : Nat) : SS D W' b bm (.func (.func 39) #[] #[.pointer (some ⟨b1, 0, none⟩), .pointer (some ⟨b2, 0, none⟩)]) bud (.slice none 0 0) (.slice none 0 0) (.slice none 0 0) [] [] 0 [] :=
  ⟨blk_on h.bx d, World.ownsRow_nil _ _ _ _, ⟨_, map_below h.mo d, isPl_nil kPrs⟩, World.ownsRow_nil _ _ _ _, World.ownsRow_nil _ _ _ _, by simp, List.nodup_nil⟩
theorem rwT_of {W W' : World} {D B b bm bx m R : Nat} {E : List EdT} {a : Option Addr} {c g : Nat} {cs : Array Value} (hb : W.heap[b]? = some (.cells cs 71 (0, 0))) (mo : W.ownsMap Tryz.prog 57 (plainElem Tryz.prog 3) bm 0 (.map [] : DataW Unit)) (d : Below W.heap.size W W') (hD : W.heap.size ≤ D) (h : W.heap[bx]? = some (.cells #[.int .i64 (m : Int), .slice a E.length c, .slice (some ⟨g, 0, none⟩) (R + 1) (R + 1)] 67 (0, 0))) (r : RwA B W m R E a E.length c g) : RwT (fun k => k < D ∧ k ≠ b ∧ k ≠ bm) W' bx B m R E a c g := by
  have lt : ∀ {k : Nat} {o : Obj}, W.heap[k]? = some o → k < W.heap.size := fun hk => (Array.getElem?_eq_some_iff.1 hk).1
  refine ⟨blk_on h d, r.on d, ⟨by have := lt h; omega, blk_ne h hb (by decide), map_at mo h⟩, ?_, ?_⟩
  · obtain ⟨cur, q, _⟩ := r.fi
    exact ⟨by have := lt q; omega, blk_ne q hb (by decide), map_at mo q⟩
  · rintro i o rfl
    rcases r.ow.2 with ⟨e3, _⟩ | ⟨g', cap, cur, e3, _, hg, _⟩
    · cases e3
    · cases e3
      exact ⟨by have := lt hg; omega, blk_ne hg hb (by decide), map_at mo hg⟩
/-- What a search of pairs answers: states, starts, ends and edges, by the pairs. -/
structure MeetR (m N M : Nat) (S1 F1 : List Int) (E1 : List EdT) (S2 F2 : List Int) (E2 : List EdT) (ps : List PrT) (S F : List Int) (E : List EdT) : Prop where
  nd : ps.Nodup
  len : ps.length ≤ 4096
  bd : ∀ x ∈ ps, ∃ p q : Nat, x = ((p : Int), (q : Int)) ∧ p < N ∧ q < M
  sin : ∀ t ∈ prsL S1 S2, t ∈ ps
  st : ∀ n, n ∈ S ↔ ∃ t ∈ prsL S1 S2, n = (ps.idxOf t : Int)
  fi : F = enT (finB F1) (finB F2) ps ps.length
  cl : ∀ (a c : Nat) (x y : PrT), ps[a]? = some x → c < m → stp E1 E2 x c y → y ∈ ps
  ed : ∀ e : EdT, e ∈ E ↔ ∃ (a c : Nat) (x y : PrT), ps[a]? = some x ∧ c < m ∧ stp E1 E2 x c y ∧ e = ((a : Int), (c : Int), (ps.idxOf y : Int))
theorem meetR_of {m N M : Nat} {S1 F1 : List Int} {E1 : List EdT} {S2 F2 : List Int} {E2 : List EdT} {ps0 ps : List PrT} {S : List Int} {E : List EdT} {bud : Int} (he : metF bud false [] (prsL S1 S2) [] = (0, ps0, S)) (h : RnI E1 E2 m N M ps0 ps E ps.length 0) (hl : E.length ≤ 65536) (hp : ps.length ≤ 4096) : MeetR m N M S1 F1 E1 S2 F2 E2 ps S (enT (finB F1) (finB F2) ps ps.length) E := by
  obtain ⟨_, _, _, k4, _⟩ := metF_inv _ _ _ _ _ _ _ _ he List.nodup_nil
  obtain ⟨k6, k7⟩ := k4 rfl
  obtain ⟨z, hz⟩ := h.pre
  have hh : ∀ {a : Nat} {x : PrT} (c : Nat), ps[a]? = some x → (hnd m ps.length 0 a c ↔ c < m) := fun {a} {x} c ha => by
    have := (List.getElem?_eq_some_iff.1 ha).1
    unfold hnd
    omega
  refine ⟨h.nd, hp, h.bd, fun t ht => by rw [hz]; exact List.mem_append_left _ (k6 t ht), fun n => ?_, rfl, fun a c x y h1 h2 h3 => h.cl a c x y h1 ((hh c h1).2 h2) h3, fun e => ?_⟩
  · rw [k7 rfl n]
    constructor
    · rintro (h | ⟨t, ht, rfl⟩)
      · simp at h
      · exact ⟨t, ht, by rw [hz, idx_app (k6 t ht)]⟩
    · rintro ⟨t, ht, rfl⟩
      exact .inr ⟨t, ht, by rw [hz, idx_app (k6 t ht)]⟩
  · rw [h.ed hl]
    constructor
    · rintro ⟨a, c, x, y, h1, h2, h3, h4⟩
      exact ⟨a, c, x, y, h1, (hh c h1).1 h2, h3, h4⟩
    · rintro ⟨a, c, x, y, h1, h2, h3, h4⟩
      exact ⟨a, c, x, y, h1, (hh c h1).2 h2, h3, h4⟩
/-! ### paired, where one may not be -/
/-- An automaton in rows of its own, a list of pairs, an error. -/
def MeO (w : World) (R : List PrT → List Int → List Int → List EdT → Prop) (m : Int) (e : Ending) (w' : World) : Prop := ∃ (n mm er : Int) (ps : List PrT) (S F : List Int) (E : List EdT) (x1 : Option Addr) (y1 : Nat) (x2 : Option Addr) (y2 : Nat) (x3 : Option Addr) (y3 : Nat) (xp : Option Addr) (yp : Nat), e = .returned (.tuple #[.agg #[.int .i64 n, .int .i64 mm, .slice x1 S.length y1, .slice x2 F.length y2, .slice x3 E.length y3], .slice xp ps.length yp, .int .i64 er]) ∧ Hid (OwnO w.heap.size w' (.slice x1 S.length y1) (.slice x2 F.length y2) (.slice x3 E.length y3) S F E ∧ (er ≠ 0 ∨ (er = 0 ∧ n = (ps.length : Int) ∧ mm = m ∧ S.length ≤ 4096 ∧ F.length ≤ 4096 ∧ E.length ≤ 65536 ∧ R ps S F E))) ∧ Below w.heap.size w w'
theorem meO_bad {w w' : World} {R : List PrT → List Int → List Int → List EdT → Prop} {m er : Int} {e : Ending} (h : er ≠ 0) (he : e = .returned (.tuple #[.agg #[.int .i64 0, .int .i64 0, .slice none 0 0, .slice none 0 0, .slice none 0 0], .slice none 0 0, .int .i64 er])) (d : Below w.heap.size w w') : MeO w R m e w' :=
  ⟨0, 0, er, [], [], [], [], none, 0, none, 0, none, 0, none, 0, he, hide ⟨⟨⟨rfl, .inl ⟨rfl, rfl⟩⟩, ⟨rfl, .inl ⟨rfl, rfl⟩⟩, ⟨rfl, .inl ⟨rfl, rfl⟩⟩, fun g q => by cases q⟩, .inl h⟩, d⟩
set_option maxRecDepth 100000 in
set_option maxHeartbeats 4000000 in
theorem paired_a (w : World) (n m n' m' bud0 : Int) (a1 a2 a3 b1 b2 b3 : Option Addr) (c1 c2 c3 d1 d2 d3 : Nat) (Sa Fa Sb Fb : List Int) (Ea Eb : List EdT) (hA : Hid (RdA w a1 a2 a3 Sa Fa Ea)) (hB : Hid (RdA w b1 b2 b3 Sb Fb Eb)) (h1 : Sa.length ≤ 2000000) (h2 : Fa.length ≤ 2000000) (h3 : Ea.length ≤ 2000000) (h4 : Sb.length ≤ 2000000) (h5 : Fb.length ≤ 2000000) (h6 : Eb.length ≤ 2000000) (R : List PrT → List Int → List Int → List EdT → Prop) (em : mayA n m Sa Fa Ea = false) :
    Calls Tryz.prog 21 #[.agg #[.int .i64 n, .int .i64 m, .slice a1 Sa.length c1, .slice a2 Fa.length c2, .slice a3 Ea.length c3], .agg #[.int .i64 n', .int .i64 m', .slice b1 Sb.length d1, .slice b2 Fb.length d2, .slice b3 Eb.length d3], .int .i64 bud0, .func (.func 22) #[] #[]] w (MeO w R m) := by
  obtain ⟨W0, hW0⟩ : ∃ W0, ((w.alloc (.cells #[.int .i64 n, .int .i64 m, .slice a1 Sa.length c1, .slice a2 Fa.length c2, .slice a3 Ea.length c3] 25)).alloc (.cells #[.int .i64 n', .int .i64 m', .slice b1 Sb.length d1, .slice b2 Fb.length d2, .slice b3 Eb.length d3] 25)).alloc (.cells #[.int .i64 0, .int .i64 0, .slice none 0 0, .slice none 0 0, .slice none 0 0] 25) = W0 := ⟨_, rfl⟩
  have HD := hide (box3b w #[.int .i64 n, .int .i64 m, .slice a1 Sa.length c1, .slice a2 Fa.length c2, .slice a3 Ea.length c3] #[.int .i64 n', .int .i64 m', .slice b1 Sb.length d1, .slice b2 Fb.length d2, .slice b3 Eb.length d3] #[.int .i64 0, .int .i64 0, .slice none 0 0, .slice none 0 0, .slice none 0 0] 25)
  rw [hW0] at HD
  have TB := both_a W0 n m n' m' a1 a2 a3 b1 b2 b3 c1 c2 c3 d1 d2 d3 Sa Fa Sb Fb Ea Eb (hide (hA.out.on HD.out.1)) (hide (hB.out.on HD.out.1)) (by omega) (by omega) (by omega) (by omega) (by omega) (by omega) em
  have y0 : W0.cell? ⟨w.heap.size, 0, none⟩ = some (.int .i64 n) := cell_of HD.out.2.1 rfl
  have y1 : W0.cell? ⟨w.heap.size, 1, none⟩ = some (.int .i64 m) := cell_of HD.out.2.1 rfl
  have y2 : W0.cell? ⟨w.heap.size, 2, none⟩ = some (.slice a1 Sa.length c1) := cell_of HD.out.2.1 rfl
  have y3 : W0.cell? ⟨w.heap.size, 3, none⟩ = some (.slice a2 Fa.length c2) := cell_of HD.out.2.1 rfl
  have y4 : W0.cell? ⟨w.heap.size, 4, none⟩ = some (.slice a3 Ea.length c3) := cell_of HD.out.2.1 rfl
  have x0 : W0.cell? ⟨w.heap.size + 1, 0, none⟩ = some (.int .i64 n') := cell_of HD.out.2.2.1 rfl
  have x1 : W0.cell? ⟨w.heap.size + 1, 1, none⟩ = some (.int .i64 m') := cell_of HD.out.2.2.1 rfl
  have x2 : W0.cell? ⟨w.heap.size + 1, 2, none⟩ = some (.slice b1 Sb.length d1) := cell_of HD.out.2.2.1 rfl
  have x3 : W0.cell? ⟨w.heap.size + 1, 3, none⟩ = some (.slice b2 Fb.length d2) := cell_of HD.out.2.2.1 rfl
  have x4 : W0.cell? ⟨w.heap.size + 1, 4, none⟩ = some (.slice b3 Eb.length d3) := cell_of HD.out.2.2.1 rfl
  go_enter Tryz.func21, Tryz.ntmps21
  go_upto_region 3 with (go_at_call 31; refine TB.mono ?_; rintro e w1 ⟨rfl, D1⟩; have H1 := hide D1; clear D1)
  clear TB y0 x0 y1 x1 y2 x2 y3 x3 y4 x4
  obtain ⟨W1, hW1⟩ : ∃ W1, (w1.alloc (.cells #[.int .i64 0, .int .i64 0, .slice none 0 0, .slice none 0 0, .slice none 0 0] 25)).alloc (.cells #[.int .i64 0, .int .i64 0, .slice none 0 0, .slice none 0 0, .slice none 0 0] 25) = W1 := ⟨_, rfl⟩
  have HW : Hid (W1.heap[w.heap.size + 1 + 1]? = some (.cells #[.int .i64 0, .int .i64 0, .slice none 0 0, .slice none 0 0, .slice none 0 0] 25 (0, 0)) ∧ w.heap.size + 3 ≤ W1.heap.size ∧ Below w.heap.size w W1) := hide (by
    have q := box2 w1 #[.int .i64 0, .int .i64 0, .slice none 0 0, .slice none 0 0, .slice none 0 0] #[.int .i64 0, .int .i64 0, .slice none 0 0, .slice none 0 0, .slice none 0 0] 25
    rw [hW1] at q
    have s := HD.out.2.2.2.2
    have d2 := H1.out.trans (q.1.mono H1.out.size)
    exact ⟨blk_on HD.out.2.2.2.1 d2, by have := d2.size; omega, HD.out.1.trans (d2.mono HD.out.1.size)⟩)
  rw [hW1]
  clear hW1 H1
  have F4 := HW.out.1
  have o0 : W1.cell? ⟨w.heap.size + 1 + 1, 0, none⟩ = some (.int .i64 0) := cell_of F4 rfl
  have fz0 : W1.frozen? ⟨w.heap.size + 1 + 1, 0, none⟩ = false := fz_of F4
  have o1 : W1.cell? ⟨w.heap.size + 1 + 1, 1, none⟩ = some (.int .i64 0) := cell_of F4 rfl
  have fz1 : W1.frozen? ⟨w.heap.size + 1 + 1, 1, none⟩ = false := fz_of F4
  have o2 : W1.cell? ⟨w.heap.size + 1 + 1, 2, none⟩ = some (.slice none 0 0) := cell_of F4 rfl
  have fz2 : W1.frozen? ⟨w.heap.size + 1 + 1, 2, none⟩ = false := fz_of F4
  have o3 : W1.cell? ⟨w.heap.size + 1 + 1, 3, none⟩ = some (.slice none 0 0) := cell_of F4 rfl
  have fz3 : W1.frozen? ⟨w.heap.size + 1 + 1, 3, none⟩ = false := fz_of F4
  have o4 : W1.cell? ⟨w.heap.size + 1 + 1, 4, none⟩ = some (.slice none 0 0) := cell_of F4 rfl
  have fz4 : W1.frozen? ⟨w.heap.size + 1 + 1, 4, none⟩ = false := fz_of F4
  have O6 := hide (And.intro (set5 W1 (w.heap.size + 1 + 1) _ _ _ _ _ (.int .i64 0) (.int .i64 0) (.slice none 0 0) (.slice none 0 0) (.slice none 0 0) 25 F4) (only5 W1 (w.heap.size + 1 + 1) (.int .i64 0) (.int .i64 0) (.slice none 0 0) (.slice none 0 0) (.slice none 0 0)))
  clear F4
  go_wp2_with fail
  refine bodyPost_ret (results_c3 (p := 8) (q := 9) (r := 10) (ty := 25) rfl _ _ (w.heap.size + 1 + 1) 25 _ (0, 0) _ _ _ rfl rfl rfl O6.out.1 Tryz.underlying25 rfl (by kernel_rfl)) rfl ?_
  have s2 := HW.out.2.1
  exact meO_bad (by decide) rfl (HW.out.2.2.trans (O6.out.2.toBelow (by omega) (fun k hk => by omega)))
set_option maxRecDepth 100000 in
set_option maxHeartbeats 4000000 in
theorem paired_b (w : World) (n m n' m' bud0 : Int) (a1 a2 a3 b1 b2 b3 : Option Addr) (c1 c2 c3 d1 d2 d3 : Nat) (Sa Fa Sb Fb : List Int) (Ea Eb : List EdT) (hA : Hid (RdA w a1 a2 a3 Sa Fa Ea)) (hB : Hid (RdA w b1 b2 b3 Sb Fb Eb)) (h1 : Sa.length ≤ 2000000) (h2 : Fa.length ≤ 2000000) (h3 : Ea.length ≤ 2000000) (h4 : Sb.length ≤ 2000000) (h5 : Fb.length ≤ 2000000) (h6 : Eb.length ≤ 2000000) (R : List PrT → List Int → List Int → List EdT → Prop) (em : mayA n m Sa Fa Ea = true) (em' : mayA n' m' Sb Fb Eb = false) :
    Calls Tryz.prog 21 #[.agg #[.int .i64 n, .int .i64 m, .slice a1 Sa.length c1, .slice a2 Fa.length c2, .slice a3 Ea.length c3], .agg #[.int .i64 n', .int .i64 m', .slice b1 Sb.length d1, .slice b2 Fb.length d2, .slice b3 Eb.length d3], .int .i64 bud0, .func (.func 22) #[] #[]] w (MeO w R m) := by
  obtain ⟨W0, hW0⟩ : ∃ W0, ((w.alloc (.cells #[.int .i64 n, .int .i64 m, .slice a1 Sa.length c1, .slice a2 Fa.length c2, .slice a3 Ea.length c3] 25)).alloc (.cells #[.int .i64 n', .int .i64 m', .slice b1 Sb.length d1, .slice b2 Fb.length d2, .slice b3 Eb.length d3] 25)).alloc (.cells #[.int .i64 0, .int .i64 0, .slice none 0 0, .slice none 0 0, .slice none 0 0] 25) = W0 := ⟨_, rfl⟩
  have HD := hide (box3b w #[.int .i64 n, .int .i64 m, .slice a1 Sa.length c1, .slice a2 Fa.length c2, .slice a3 Ea.length c3] #[.int .i64 n', .int .i64 m', .slice b1 Sb.length d1, .slice b2 Fb.length d2, .slice b3 Eb.length d3] #[.int .i64 0, .int .i64 0, .slice none 0 0, .slice none 0 0, .slice none 0 0] 25)
  rw [hW0] at HD
  have TB := both_b W0 n m n' m' a1 a2 a3 b1 b2 b3 c1 c2 c3 d1 d2 d3 Sa Fa Sb Fb Ea Eb (hide (hA.out.on HD.out.1)) (hide (hB.out.on HD.out.1)) (by omega) (by omega) (by omega) (by omega) (by omega) (by omega) em em'
  have y0 : W0.cell? ⟨w.heap.size, 0, none⟩ = some (.int .i64 n) := cell_of HD.out.2.1 rfl
  have y1 : W0.cell? ⟨w.heap.size, 1, none⟩ = some (.int .i64 m) := cell_of HD.out.2.1 rfl
  have y2 : W0.cell? ⟨w.heap.size, 2, none⟩ = some (.slice a1 Sa.length c1) := cell_of HD.out.2.1 rfl
  have y3 : W0.cell? ⟨w.heap.size, 3, none⟩ = some (.slice a2 Fa.length c2) := cell_of HD.out.2.1 rfl
  have y4 : W0.cell? ⟨w.heap.size, 4, none⟩ = some (.slice a3 Ea.length c3) := cell_of HD.out.2.1 rfl
  have x0 : W0.cell? ⟨w.heap.size + 1, 0, none⟩ = some (.int .i64 n') := cell_of HD.out.2.2.1 rfl
  have x1 : W0.cell? ⟨w.heap.size + 1, 1, none⟩ = some (.int .i64 m') := cell_of HD.out.2.2.1 rfl
  have x2 : W0.cell? ⟨w.heap.size + 1, 2, none⟩ = some (.slice b1 Sb.length d1) := cell_of HD.out.2.2.1 rfl
  have x3 : W0.cell? ⟨w.heap.size + 1, 3, none⟩ = some (.slice b2 Fb.length d2) := cell_of HD.out.2.2.1 rfl
  have x4 : W0.cell? ⟨w.heap.size + 1, 4, none⟩ = some (.slice b3 Eb.length d3) := cell_of HD.out.2.2.1 rfl
  go_enter Tryz.func21, Tryz.ntmps21
  go_upto_region 3 with (go_at_call 31; refine TB.mono ?_; rintro e w1 ⟨rfl, D1⟩; have H1 := hide D1; clear D1)
  clear TB y0 x0 y1 x1 y2 x2 y3 x3 y4 x4
  obtain ⟨W1, hW1⟩ : ∃ W1, (w1.alloc (.cells #[.int .i64 0, .int .i64 0, .slice none 0 0, .slice none 0 0, .slice none 0 0] 25)).alloc (.cells #[.int .i64 0, .int .i64 0, .slice none 0 0, .slice none 0 0, .slice none 0 0] 25) = W1 := ⟨_, rfl⟩
  have HW : Hid (W1.heap[w.heap.size + 1 + 1]? = some (.cells #[.int .i64 0, .int .i64 0, .slice none 0 0, .slice none 0 0, .slice none 0 0] 25 (0, 0)) ∧ w.heap.size + 3 ≤ W1.heap.size ∧ Below w.heap.size w W1) := hide (by
    have q := box2 w1 #[.int .i64 0, .int .i64 0, .slice none 0 0, .slice none 0 0, .slice none 0 0] #[.int .i64 0, .int .i64 0, .slice none 0 0, .slice none 0 0, .slice none 0 0] 25
    rw [hW1] at q
    have s := HD.out.2.2.2.2
    have d2 := H1.out.trans (q.1.mono H1.out.size)
    exact ⟨blk_on HD.out.2.2.2.1 d2, by have := d2.size; omega, HD.out.1.trans (d2.mono HD.out.1.size)⟩)
  rw [hW1]
  clear hW1 H1
  have F4 := HW.out.1
  have o0 : W1.cell? ⟨w.heap.size + 1 + 1, 0, none⟩ = some (.int .i64 0) := cell_of F4 rfl
  have fz0 : W1.frozen? ⟨w.heap.size + 1 + 1, 0, none⟩ = false := fz_of F4
  have o1 : W1.cell? ⟨w.heap.size + 1 + 1, 1, none⟩ = some (.int .i64 0) := cell_of F4 rfl
  have fz1 : W1.frozen? ⟨w.heap.size + 1 + 1, 1, none⟩ = false := fz_of F4
  have o2 : W1.cell? ⟨w.heap.size + 1 + 1, 2, none⟩ = some (.slice none 0 0) := cell_of F4 rfl
  have fz2 : W1.frozen? ⟨w.heap.size + 1 + 1, 2, none⟩ = false := fz_of F4
  have o3 : W1.cell? ⟨w.heap.size + 1 + 1, 3, none⟩ = some (.slice none 0 0) := cell_of F4 rfl
  have fz3 : W1.frozen? ⟨w.heap.size + 1 + 1, 3, none⟩ = false := fz_of F4
  have o4 : W1.cell? ⟨w.heap.size + 1 + 1, 4, none⟩ = some (.slice none 0 0) := cell_of F4 rfl
  have fz4 : W1.frozen? ⟨w.heap.size + 1 + 1, 4, none⟩ = false := fz_of F4
  have O6 := hide (And.intro (set5 W1 (w.heap.size + 1 + 1) _ _ _ _ _ (.int .i64 0) (.int .i64 0) (.slice none 0 0) (.slice none 0 0) (.slice none 0 0) 25 F4) (only5 W1 (w.heap.size + 1 + 1) (.int .i64 0) (.int .i64 0) (.slice none 0 0) (.slice none 0 0) (.slice none 0 0)))
  clear F4
  go_wp2_with fail
  refine bodyPost_ret (results_c3 (p := 8) (q := 9) (r := 10) (ty := 25) rfl _ _ (w.heap.size + 1 + 1) 25 _ (0, 0) _ _ _ rfl rfl rfl O6.out.1 Tryz.underlying25 rfl (by kernel_rfl)) rfl ?_
  have s2 := HW.out.2.1
  exact meO_bad (by decide) rfl (HW.out.2.2.trans (O6.out.2.toBelow (by omega) (fun k hk => by omega)))
set_option maxRecDepth 100000 in
set_option maxHeartbeats 4000000 in
theorem paired_m (w : World) (n m n' m' bud0 : Int) (a1 a2 a3 b1 b2 b3 : Option Addr) (c1 c2 c3 d1 d2 d3 : Nat) (Sa Fa Sb Fb : List Int) (Ea Eb : List EdT) (hA : Hid (RdA w a1 a2 a3 Sa Fa Ea)) (hB : Hid (RdA w b1 b2 b3 Sb Fb Eb)) (h1 : Sa.length ≤ 2000000) (h2 : Fa.length ≤ 2000000) (h3 : Ea.length ≤ 2000000) (h4 : Sb.length ≤ 2000000) (h5 : Fb.length ≤ 2000000) (h6 : Eb.length ≤ 2000000) (R : List PrT → List Int → List Int → List EdT → Prop) (em : mayA n m Sa Fa Ea = true) (em' : mayA n' m' Sb Fb Eb = true) (hm : m ≠ m') :
    Calls Tryz.prog 21 #[.agg #[.int .i64 n, .int .i64 m, .slice a1 Sa.length c1, .slice a2 Fa.length c2, .slice a3 Ea.length c3], .agg #[.int .i64 n', .int .i64 m', .slice b1 Sb.length d1, .slice b2 Fb.length d2, .slice b3 Eb.length d3], .int .i64 bud0, .func (.func 22) #[] #[]] w (MeO w R m) := by
  obtain ⟨W0, hW0⟩ : ∃ W0, ((w.alloc (.cells #[.int .i64 n, .int .i64 m, .slice a1 Sa.length c1, .slice a2 Fa.length c2, .slice a3 Ea.length c3] 25)).alloc (.cells #[.int .i64 n', .int .i64 m', .slice b1 Sb.length d1, .slice b2 Fb.length d2, .slice b3 Eb.length d3] 25)).alloc (.cells #[.int .i64 0, .int .i64 0, .slice none 0 0, .slice none 0 0, .slice none 0 0] 25) = W0 := ⟨_, rfl⟩
  have HD := hide (box3b w #[.int .i64 n, .int .i64 m, .slice a1 Sa.length c1, .slice a2 Fa.length c2, .slice a3 Ea.length c3] #[.int .i64 n', .int .i64 m', .slice b1 Sb.length d1, .slice b2 Fb.length d2, .slice b3 Eb.length d3] #[.int .i64 0, .int .i64 0, .slice none 0 0, .slice none 0 0, .slice none 0 0] 25)
  rw [hW0] at HD
  have TB := both_m W0 n m n' m' a1 a2 a3 b1 b2 b3 c1 c2 c3 d1 d2 d3 Sa Fa Sb Fb Ea Eb (hide (hA.out.on HD.out.1)) (hide (hB.out.on HD.out.1)) (by omega) (by omega) (by omega) (by omega) (by omega) (by omega) em em' hm
  have y0 : W0.cell? ⟨w.heap.size, 0, none⟩ = some (.int .i64 n) := cell_of HD.out.2.1 rfl
  have y1 : W0.cell? ⟨w.heap.size, 1, none⟩ = some (.int .i64 m) := cell_of HD.out.2.1 rfl
  have y2 : W0.cell? ⟨w.heap.size, 2, none⟩ = some (.slice a1 Sa.length c1) := cell_of HD.out.2.1 rfl
  have y3 : W0.cell? ⟨w.heap.size, 3, none⟩ = some (.slice a2 Fa.length c2) := cell_of HD.out.2.1 rfl
  have y4 : W0.cell? ⟨w.heap.size, 4, none⟩ = some (.slice a3 Ea.length c3) := cell_of HD.out.2.1 rfl
  have x0 : W0.cell? ⟨w.heap.size + 1, 0, none⟩ = some (.int .i64 n') := cell_of HD.out.2.2.1 rfl
  have x1 : W0.cell? ⟨w.heap.size + 1, 1, none⟩ = some (.int .i64 m') := cell_of HD.out.2.2.1 rfl
  have x2 : W0.cell? ⟨w.heap.size + 1, 2, none⟩ = some (.slice b1 Sb.length d1) := cell_of HD.out.2.2.1 rfl
  have x3 : W0.cell? ⟨w.heap.size + 1, 3, none⟩ = some (.slice b2 Fb.length d2) := cell_of HD.out.2.2.1 rfl
  have x4 : W0.cell? ⟨w.heap.size + 1, 4, none⟩ = some (.slice b3 Eb.length d3) := cell_of HD.out.2.2.1 rfl
  go_enter Tryz.func21, Tryz.ntmps21
  go_upto_region 3 with (go_at_call 31; refine TB.mono ?_; rintro e w1 ⟨rfl, D1⟩; have H1 := hide D1; clear D1)
  clear TB y0 x0 y1 x1 y2 x2 y3 x3 y4 x4
  obtain ⟨W1, hW1⟩ : ∃ W1, (w1.alloc (.cells #[.int .i64 0, .int .i64 0, .slice none 0 0, .slice none 0 0, .slice none 0 0] 25)).alloc (.cells #[.int .i64 0, .int .i64 0, .slice none 0 0, .slice none 0 0, .slice none 0 0] 25) = W1 := ⟨_, rfl⟩
  have HW : Hid (W1.heap[w.heap.size + 1 + 1]? = some (.cells #[.int .i64 0, .int .i64 0, .slice none 0 0, .slice none 0 0, .slice none 0 0] 25 (0, 0)) ∧ w.heap.size + 3 ≤ W1.heap.size ∧ Below w.heap.size w W1) := hide (by
    have q := box2 w1 #[.int .i64 0, .int .i64 0, .slice none 0 0, .slice none 0 0, .slice none 0 0] #[.int .i64 0, .int .i64 0, .slice none 0 0, .slice none 0 0, .slice none 0 0] 25
    rw [hW1] at q
    have s := HD.out.2.2.2.2
    have d2 := H1.out.trans (q.1.mono H1.out.size)
    exact ⟨blk_on HD.out.2.2.2.1 d2, by have := d2.size; omega, HD.out.1.trans (d2.mono HD.out.1.size)⟩)
  rw [hW1]
  clear hW1 H1
  have F4 := HW.out.1
  have o0 : W1.cell? ⟨w.heap.size + 1 + 1, 0, none⟩ = some (.int .i64 0) := cell_of F4 rfl
  have fz0 : W1.frozen? ⟨w.heap.size + 1 + 1, 0, none⟩ = false := fz_of F4
  have o1 : W1.cell? ⟨w.heap.size + 1 + 1, 1, none⟩ = some (.int .i64 0) := cell_of F4 rfl
  have fz1 : W1.frozen? ⟨w.heap.size + 1 + 1, 1, none⟩ = false := fz_of F4
  have o2 : W1.cell? ⟨w.heap.size + 1 + 1, 2, none⟩ = some (.slice none 0 0) := cell_of F4 rfl
  have fz2 : W1.frozen? ⟨w.heap.size + 1 + 1, 2, none⟩ = false := fz_of F4
  have o3 : W1.cell? ⟨w.heap.size + 1 + 1, 3, none⟩ = some (.slice none 0 0) := cell_of F4 rfl
  have fz3 : W1.frozen? ⟨w.heap.size + 1 + 1, 3, none⟩ = false := fz_of F4
  have o4 : W1.cell? ⟨w.heap.size + 1 + 1, 4, none⟩ = some (.slice none 0 0) := cell_of F4 rfl
  have fz4 : W1.frozen? ⟨w.heap.size + 1 + 1, 4, none⟩ = false := fz_of F4
  have O6 := hide (And.intro (set5 W1 (w.heap.size + 1 + 1) _ _ _ _ _ (.int .i64 0) (.int .i64 0) (.slice none 0 0) (.slice none 0 0) (.slice none 0 0) 25 F4) (only5 W1 (w.heap.size + 1 + 1) (.int .i64 0) (.int .i64 0) (.slice none 0 0) (.slice none 0 0) (.slice none 0 0)))
  clear F4
  go_wp2_with fail
  refine bodyPost_ret (results_c3 (p := 8) (q := 9) (r := 10) (ty := 25) rfl _ _ (w.heap.size + 1 + 1) 25 _ (0, 0) _ _ _ rfl rfl rfl O6.out.1 Tryz.underlying25 rfl (by kernel_rfl)) rfl ?_
  have s2 := HW.out.2.1
  exact meO_bad (by decide) rfl (HW.out.2.2.trans (O6.out.2.toBelow (by omega) (fun k hk => by omega)))
end Go.Proofs.YtchoopnjckcohaaGreat
namespace Go.Proofs.YtchoopnjckcohaaGreat
open Go.RowKit
/-! ### A region whose operations come in whatever order, one of which changes memory that was there -/
section
variable {P : Program} {ops : Array Oper} {Q : Exit → Act → World → Prop}
/-- What a step leaves as it is. -/
def StpJ (J : Bool → World → Prop) (i0 : Nat) (b : Bool) (L : List It) (i : Nat) (y : Nat → Value) (W W' : World) : Prop := J (i == i0 || b) W' ∧ W.heap.size ≤ W'.heap.size ∧ ∀ j, j ≠ i → j ∉ (itL L i).ret → ∀ lo hi, hi ≤ W.heap.size → (itL L j).p y lo hi W → (itL L j).p y lo hi W'
theorem stpj_of {J : Bool → World → Prop} {i0 : Nat} {b : Bool} {L : List It} {i : Nat} {y : Nat → Value} {W W' : World} (hm : MonIL 0 L) (hj : J (i == i0 || b) W') (d1 : Below W.heap.size W W') : StpJ J i0 b L i y W W' :=
  ⟨hj, d1.size, fun j _ _ lo hi hs h => by
    have := MonIL.at L 0 j hm y y lo hi W W' hs d1 (fun _ _ => rfl)
    exact this h⟩
def HopK (P : Program) (ops : Array Oper) (Q : Exit → Act → World → Prop) (w : World) (J : Bool → World → Prop) (i0 : Nat) (fill : (Nat → Value) → Act) (L : List It) (i : Nat) (o : Oper) : Prop :=
  ∀ (y : Nat → Value) (W : World) (b : Bool), ((i == i0) = true → b = false) → J b W → w.heap.size ≤ W.heap.size → (∀ e ∈ o.after, Region.binds .any e = true → ndB e = true → ∃ lo hi, w.heap.size ≤ lo ∧ hi ≤ W.heap.size ∧ (itL L e.on).p y lo hi W) →
    ∀ K : Act → World → Prop, Shut (∀ x a' W', StpJ J i0 b L i y W W' → (itL L i).p (updV y i x) W.heap.size W'.heap.size W' → a' = fill (updV y i x) → K a' W') → if Region.wanted o (yielded ops (fill y).tmps) = true then Oper.wp P o (fill y) W K Q else K ((fill y).put o.dst undef) W
def HopsK (P : Program) (ops : Array Oper) (Q : Exit → Act → World → Prop) (w : World) (J : Bool → World → Prop) (i0 : Nat) (fill : (Nat → Value) → Act) (L : List It) : Nat → List Oper → Prop
  | _, [] => True
  | k, o :: r => HopK P ops Q w J i0 fill L k o ∧ HopsK P ops Q w J i0 fill L (k + 1) r
theorem HopsK.at {w : World} {J : Bool → World → Prop} {i0 : Nat} {fill : (Nat → Value) → Act} {L : List It} : ∀ (l : List Oper) (k i : Nat) (o : Oper), HopsK P ops Q w J i0 fill L k l → l[i]? = some o → HopK P ops Q w J i0 fill L (k + i) o
  | [], _, _, _, _, h => by simp at h
  | o' :: r, k, 0, o, H, h => by simp at h; subst h; exact H.1
  | o' :: r, k, i + 1, o, H, h => by
    have := HopsK.at r (k + 1) i o H.2 (by simpa using h)
    rwa [show k + 1 + i = k + (i + 1) by omega] at this
/-- What has come up. -/
structure MadeJ (w : World) (J : Bool → World → Prop) (i0 : Nat) (L : List It) (ops : Array Oper) (n : Nat) (is : Nat → Bool) (y : Nat → Value) (lo hi : Nat → Nat) (W : World) : Prop where
  d : J (is i0) W
  sz : w.heap.size ≤ W.heap.size
  fact : ∀ i, i < n → is i = true → (∀ k, k < n → is k = true → i ∉ (itL L k).ret) → (itL L i).p y (lo i) (hi i) W
  at' : ∀ i, i < n → is i = true → w.heap.size ≤ lo i ∧ lo i ≤ hi i ∧ hi i ≤ W.heap.size
  apart : ∀ i j, i < n → j < n → is i = true → is j = true → i ≠ j → hi i ≤ lo j ∨ hi j ≤ lo i
  order : ∀ j o e, j < n → is j = true → ops[j]? = some o → e ∈ o.after → Region.binds .any e = true → hi e.on ≤ lo j
theorem stj_go {w : World} {J : Bool → World → Prop} {i0 : Nat} {fill : (Nat → Value) → Act} {L : List It} {n : Nat} {l2 : List Oper} {l1 : List Oper}
    (hi0 : i0 < n) (hp : phasedB .any ops n = true) (hdep : depsB ops n = true) (hret : retB ops n (L.map It.ret) (L.map It.reads) = true) (hl1 : ∀ j o, l1[j]? = some o ↔ (j < n ∧ ops[j]? = some o)) (hl2 : ∀ j o, l2[j]? = some o → ops[n + j]? = some o)
    (hline : ∀ listed : Array Bool, listed.size = ops.size → (∀ i, listed.getD i true = decide (i < n ∨ ops.size ≤ i)) → lineB .any ops l2.length n listed = true)
    (hmono : MonIL 0 L) (hop : HopsK P ops Q w J i0 fill L 0 l1)
    (hfin : ∀ y lo hi W, MadeJ w J i0 L ops n (fun _ => true) y lo hi W → wpList P ops Q l2 (fill y) W) :
    ∀ (m : Nat) (x : Nat) (listed : Array Bool) (y : Nat → Value) (lo hi : Nat → Nat) (W : World), listed.size = ops.size → (∀ i, n ≤ i → i < ops.size → listed.getD i true = false) → ClosedL .any ops listed → cntM (fun i => !listed.getD i true) n = m →
      MadeJ w J i0 L ops n (fun i => listed.getD i true) y lo hi W → wpAny P .any ops Q (l2.length + m + x) listed (fill y) W := by
  intro m
  induction m with
  | zero =>
    intro x listed y lo hi W hsz hge hc hcnt hM
    have hall : ∀ i, i < n → listed.getD i true = true := fun i hi => by
      have := cntM_zero n hcnt i hi
      simpa using this
    refine line_more x n listed (fill y) W hl2 (hline listed hsz ?_) (hfin y lo hi W ?_)
    · intro i
      rcases Nat.lt_or_ge i n with h | h
      · rw [hall i h]; simp [h]
      · rcases Nat.lt_or_ge i ops.size with h2 | h2
        · rw [hge i h h2]; symm; simp; omega
        · rw [show listed.getD i true = true by simp [Array.getElem?_eq_none (show listed.size ≤ i by omega)]]; symm; simp; omega
    · exact ⟨by have q := hM.d; simp only [hall i0 hi0] at q; exact q, hM.sz, fun i hi _ hr => hM.fact i hi (hall i hi) (fun k hk _ => hr k hk rfl), fun i hi _ => hM.at' i hi (hall i hi), fun i j hi hj _ _ h => hM.apart i j hi hj (hall i hi) (hall j hj) h, fun j o e hj _ ho he hb => hM.order j o e hj (hall j hj) ho he hb⟩
  | succ m ih =>
    intro x listed y lo hi W hsz hge hc hcnt hM
    obtain ⟨i9, hi9, hf0, hless⟩ := cntM_least (f := fun i => !listed.getD i true) n (by omega)
    have hun : listed.getD i9 true = false := by simpa using hf0
    obtain ⟨o0, ho0, hd0⟩ := depsB_at hdep hi9
    have hin : ∀ i, i < n → i < listed.size := fun i hi => by
      obtain ⟨o, ho, _⟩ := depsB_at hdep hi
      have := (Array.getElem?_eq_some_iff.1 ho).1
      omega
    have hready : i9 ∈ Region.ready .any ops listed := mem_ready.2 ⟨hun, o0, ho0, fun e he hb => by
      have h1 := hd0 e he hb
      have h2 := hless e.on h1
      have h3 : listed.getD e.on true = true := by simpa using h2
      have h4 := hin e.on (by omega)
      simpa [h4] using h3⟩
    rw [show l2.length + (m + 1) + x = (l2.length + m + x) + 1 by omega]
    refine ⟨fun h => (by rw [h] at hready; cases hready), fun j hj => ?_⟩
    have hjn : j < n := phased_lt hp hc hi9 hun hj
    obtain ⟨hjun, oj, hoj, hall⟩ := mem_ready.1 hj
    have H := HopsK.at l1 0 j oj hop ((hl1 j oj).2 ⟨hjn, hoj⟩)
    rw [Nat.zero_add] at H
    refine wpOp_step hoj (fun K' hK => H y W (listed.getD i0 true) (fun e => (eq_of_beq e) ▸ hjun) hM.d hM.sz (fun e he hb hnd => ?_) K' ?_)
    · have h1 := hall e he hb
      obtain ⟨o', ho', hd'⟩ := depsB_at hdep hjn
      rw [hoj] at ho'
      cases ho'
      have h2 := hd' e he hb
      have h3 := getD_to _ _ h1
      refine ⟨lo e.on, hi e.on, (hM.at' e.on (by omega) h3).1, (hM.at' e.on (by omega) h3).2.2, hM.fact e.on (by omega) h3 (fun k hk hlk hmem => ?_)⟩
      have hkj : j ≠ k := fun h => by rw [h] at hjun; rw [hjun] at hlk; cases hlk
      have := waits_listed hc (retB_at hret hk hjn hkj hmem hoj he hb hnd rfl) hlk
      rw [hjun] at this
      cases this
    · rintro v a' W' ⟨hD, hs2, hkeep⟩ hΦ rfl
      have hsj := hin j hjn
      have g1 : (listed.setIfInBounds j true).getD j true = true := by simp [hsj]
      refine hK _ _ ?_
      refine ih x (listed.setIfInBounds j true) (updV y j v) (fun i => if i = j then W.heap.size else lo i) (fun i => if i = j then W'.heap.size else hi i) W' (by simp [hsz]) (fun i h1 h2 => ?_) (hc.set hj) ?_ ?_
      · rw [getD_set_ne true (by omega)]; exact hge i h1 h2
      · have := cntM_drop (f := fun i => !listed.getD i true) (g := fun i => !(listed.setIfInBounds j true).getD i true) (j := j) (by simp only [hjun]; rfl) (by simp only [g1]; rfl) (fun i hi => by simp only [getD_set_ne true (Ne.symm hi)]) n hjn
        omega
      · have old : ∀ i, i ≠ j → (listed.setIfInBounds j true).getD i true = true → listed.getD i true = true := fun i h1 h2 => by rwa [getD_set_ne true (Ne.symm h1)] at h2
        have new : ∀ i, listed.getD i true = true → (listed.setIfInBounds j true).getD i true = true := fun i h => by
          by_cases e : j = i
          · subst e; exact g1
          · rwa [getD_set_ne true e]
        have hs := hM.sz
        refine ⟨?_, Nat.le_trans hs hs2, fun i hi h hr => ?_, fun i hi h => ?_, fun i k hi hk h1 h2 hne => ?_, fun k o e hk h1 ho he hb => ?_⟩
        · show J ((listed.setIfInBounds j true).getD i0 true) W'
          by_cases e : j = i0
          · subst e; rw [g1]; simpa using hD
          · rw [getD_set_ne true e]; rw [show (j == i0) = false by simpa using e, Bool.false_or] at hD; exact hD
        · by_cases e : i = j
          · subst e; simp only [if_pos]; exact hΦ
          · simp only [if_neg e]
            have hli := old i e h
            have h5 := hkeep i e (hr j hjn g1) _ _ (hM.at' i hi hli).2.2 (hM.fact i hi hli (fun k hk hlk => hr k hk (new k hlk)))
            have h6 := MonIL.at L 0 i hmono y (updV y j v) (lo i) _ W' W' (Nat.le_trans (hM.at' i hi hli).2.2 hs2) (Below.refl _ _) (fun q hq => by
              rw [Nat.zero_add] at hq
              have hne : q ≠ j := by
                rcases hq with hq | hq
                · rw [hq]; exact e
                · intro hqj
                  have := waits_listed hc (readB_at hret hi hq) hli
                  rw [hqj, hjun] at this
                  cases this
              simp [updV, hne])
            exact h6 h5
        · by_cases e : i = j
          · subst e; simp only [if_pos]; exact ⟨hs, hs2, Nat.le_refl _⟩
          · simp only [if_neg e]; have := hM.at' i hi (old i e h); exact ⟨this.1, this.2.1, by omega⟩
        · by_cases e : i = j
          · have e2 : k ≠ j := fun h => hne (by rw [e, h])
            simp only [if_pos e, if_neg e2]
            exact Or.inr (hM.at' k hk (old k e2 h2)).2.2
          · by_cases e2 : k = j
            · simp only [if_neg e, if_pos e2]
              exact Or.inl (hM.at' i hi (old i e h1)).2.2
            · simp only [if_neg e, if_neg e2]
              exact hM.apart i k hi hk (old i e h1) (old k e2 h2) hne
        · obtain ⟨o', ho', hd'⟩ := depsB_at hdep hk
          rw [ho] at ho'
          cases ho'
          have hlt := hd' e he hb
          by_cases e1 : k = j
          · subst e1
            rw [hoj] at ho
            cases ho
            have h3 := getD_to _ _ (hall e he hb)
            have e2 : e.on ≠ k := by omega
            simp only [if_pos, if_neg e2]
            exact (hM.at' e.on (by omega) h3).2.2
          · have h4 := old k e1 h1
            have h5 := getD_to _ _ (hc k o ho h4 e he hb)
            have e2 : e.on ≠ j := fun h => by rw [h, hjun] at h5; cases h5
            simp only [if_neg e1, if_neg e2]
            exact hM.order k o e hk h4 ho he hb
/-- **A region whose first operations come in whatever order, each with a fact of its own.** -/
theorem wp_region_stj {id : Nat} {a : Act} {w : World} {l : List Oper} (J : Bool → World → Prop) (i0 : Nat) (L : List It) (hi0 : Nat.blt i0 L.length = true) (hJ0 : J false (w.drewN 1)) (hm : P.follows .mixedOrders = true) (hB : stB l.toArray L.length (L.map It.ret) (L.map It.reads) = true) (hmono : MonIL 0 L)
    (h : ∀ F : (Nat → Value) → Act, F = (fun y => fills 0 (l.take L.length) y a) → HopsK P l.toArray Q w J i0 F L 0 (l.take L.length) ∧ ∀ y lo hi W, MadeJ w J i0 L l.toArray L.length (fun _ => true) y lo hi W → wpList P l.toArray Q (l.drop L.length) (F y) W) : (Code.region id l.toArray true).wp P Q a w := by
  unfold stB makeB at hB
  simp only [Bool.and_eq_true] at hB
  obtain ⟨⟨⟨⟨h0, h2⟩, h3⟩, h4⟩, h5⟩ := hB
  have hn : L.length ≤ l.length := by simpa using Nat.le_of_ble_eq_true h0
  refine wp_region_any hm ?_
  have hl2 : (l.drop L.length).length = l.toArray.size - L.length := by simp
  have F := stj_go (P := P) (Q := Q) (w := w) (J := J) (i0 := i0) (fill := fun y => fills 0 (l.take L.length) y a) (L := L) (n := L.length) (ops := l.toArray) (l1 := l.take L.length) (l2 := l.drop L.length) (by simpa using hi0) h2 h3 h5
    (fun j o => by
      rw [List.getElem?_take]
      split
      · rename_i h; simp [h]
      · rename_i h; constructor
        · intro h'; cases h'
        · intro h'; exact absurd h'.1 h)
    (fun j o ho => by rw [List.getElem?_drop] at ho; simpa using ho)
    (fun listed hs hg => by
      rw [hl2]
      have e : listed = Array.ofFn (n := l.toArray.size) fun i => decide (i.1 < L.length) := by
        refine Array.ext (by simp [hs]) (fun i h5 h6 => ?_)
        have := hg i
        simp only [Array.getElem_ofFn]
        have e1 : listed.getD i true = listed[i] := by simp [h5]
        rw [← e1, this]
        have : i < l.toArray.size := by omega
        by_cases h7 : i < L.length
        · simp [h7]
        · simp only [h7, false_or, decide_false, decide_eq_false_iff_not]; omega
      rw [e]; exact h4)
    hmono (h _ rfl).1 (h _ rfl).2 L.length 0 (Array.replicate l.toArray.size false) (firstY l a) (fun _ => 0) (fun _ => 0) (w.drewN 1) (by simp) (fun i h5 h6 => by simp at h6; simp [h6]) (closed_none _ _) ?_ ?_
  · have e : (l.drop L.length).length + L.length + 0 = l.toArray.size := by rw [hl2]; simp; omega
    rw [e, fills_self l a (l.take L.length) 0 (fun j o ho => by
      rw [List.getElem?_take] at ho
      split at ho
      · simpa using ho
      · cases ho)] at F
    exact F
  · have : ∀ k, k ≤ L.length → cntM (fun i => !(Array.replicate l.toArray.size false).getD i true) k = k := by
      intro k
      induction k with
      | zero => intro _; rfl
      | succ k ih =>
        intro hk
        have h5 : k < l.toArray.size := by simp; omega
        simp only [cntM]
        rw [ih (by omega)]
        have : (Array.replicate l.toArray.size false).getD k true = false := by simp at h5; simp [h5]
        simp only [this]; rfl
    exact this L.length (Nat.le_refl _)
  · have none : ∀ i, i < L.length → (Array.replicate l.toArray.size false).getD i true = true → False := fun i hi h => by
      have : i < l.length := by omega
      simp [this] at h
    have hi1 : i0 < l.length := by
      have : i0 < L.length := by simpa using hi0
      omega
    exact ⟨by simpa [hi1] using hJ0, Nat.le_refl _, fun i hi h => (none i hi h).elim, fun i hi h => (none i hi h).elim, fun i j hi _ h _ _ => (none i hi h).elim, fun j o e hj h _ _ _ => (none j hj h).elim⟩
theorem stpj_keeps {J : Bool → World → Prop} {i0 : Nat} {b : Bool} {L : List It} {i : Nat} {y : Nat → Value} {W W' : World} (rs : List Nat) (hr : (itL L i).ret = rs) (d : J (i == i0 || b) W') (hs : W.heap.size ≤ W'.heap.size) (h : Keeps y W W' (i :: rs) 0 L) : StpJ J i0 b L i y W W' := ⟨d, hs, fun j hj hn => Keeps.at L 0 j h (by rw [Nat.zero_add]; rw [hr] at hn; simp [hj, hn])⟩
/-- What is asked of an operation: A is the state, told by its slots. -/
def HopL (P : Program) (ops : Array Oper) (Q : Exit → Act → World → Prop) (w : World) (J : Bool → World → Prop) (i0 : Nat) (a : Act) (l : List Oper) (L : List It) (i : Nat) (o : Oper) : Prop :=
  ∀ (A : Act) (y : Nat → Value) (W : World) (b : Bool), (∀ (j : Nat) (o' : Oper) (d : Nat), l[j]? = some o' → o'.dst = some d → A.tmps.getD d undef = y j) → (∀ d, wrB d l = false → A.tmps.getD d undef = a.tmps.getD d undef) → ((i == i0) = true → b = false) → J b W → w.heap.size ≤ W.heap.size → (∀ e ∈ o.after, Region.binds .any e = true → ndB e = true → ∃ lo hi, w.heap.size ≤ lo ∧ hi ≤ W.heap.size ∧ (itL L e.on).p y lo hi W) →
    ∀ K : Act → World → Prop, Shut (∀ x W', StpJ J i0 b L i y W W' → (itL L i).p (updV y i x) W.heap.size W'.heap.size W' → K (A.put o.dst x) W') → if Region.wanted o (yielded ops A.tmps) = true then Oper.wp P o A W K Q else K (A.put o.dst undef) W
def HopsL (P : Program) (ops : Array Oper) (Q : Exit → Act → World → Prop) (w : World) (J : Bool → World → Prop) (i0 : Nat) (a : Act) (l : List Oper) (L : List It) : Nat → List Oper → Prop
  | _, [] => True
  | k, o :: r => HopL P ops Q w J i0 a l L k o ∧ HopsL P ops Q w J i0 a l L (k + 1) r
theorem hopsl_of {ops : Array Oper} {w : World} {J : Bool → World → Prop} {i0 : Nat} {a : Act} {l : List Oper} {L : List It} (hs : slotsB a.tmps.size l = true) (h1 : onceB l = true) : ∀ (r : List Oper) (k : Nat), (∀ j o, r[j]? = some o → l[k + j]? = some o) → HopsL P ops Q w J i0 a l L k r → HopsK P ops Q w J i0 (fun y => fills 0 l y a) L k r
  | [], _, _, _ => trivial
  | o :: r, k, hl, H => by
    refine ⟨fun y W b hb d hz hd K hK => ?_, hopsl_of hs h1 r (k + 1) (fun j o' ho => by have := hl (j + 1) o' (by simpa using ho); rwa [show k + 1 + j = k + (j + 1) by omega]) H.2⟩
    have hk : l[k]? = some o := hl 0 o rfl
    refine H.1 (fills 0 l y a) y W b (fun j o' d' hj hd' => ?_) (fun d' hd' => fills_other l 0 y a d' hd') hb d hz hd K (fun x W' hst hp => ?_)
    · have hlt : d' < a.tmps.size := by
        unfold slotsB at hs
        rw [List.all_eq_true] at hs
        have := hs o' (List.mem_of_getElem? hj)
        rw [hd'] at this
        simpa using this
      have := fills_at l 0 j y a o' d' h1 hj hd' hlt
      rwa [Nat.zero_add] at this
    · refine hK x _ W' hst hp ?_
      have := fills_upd l 0 k y a o x h1 hk
      rwa [Nat.zero_add] at this
/-- **A region whose first operations come in whatever order, the state told by its slots.** -/
theorem wp_region_sj {id : Nat} {a : Act} {w : World} {l : List Oper} (J : Bool → World → Prop) (i0 : Nat) (L : List It) (hi0 : Nat.blt i0 L.length = true) (hJ0 : J false (w.drewN 1)) (hm : P.follows .mixedOrders = true) (hB : stB l.toArray L.length (L.map It.ret) (L.map It.reads) = true) (hO : onceB (l.take L.length) = true) (hS : slotsB a.tmps.size (l.take L.length) = true) (hmono : MonIL 0 L)
    (hop : HopsL P l.toArray Q w J i0 a (l.take L.length) L 0 (l.take L.length))
    (hfin : ∀ y lo hi W, MadeJ w J i0 L l.toArray L.length (fun _ => true) y lo hi W → wpList P l.toArray Q (l.drop L.length) (fills 0 (l.take L.length) y a) W) : (Code.region id l.toArray true).wp P Q a w :=
  wp_region_stj J i0 L hi0 hJ0 hm hB hmono (fun F hF => by
    subst hF
    exact ⟨hopsl_of hS hO _ 0 (fun j o ho => by rwa [Nat.zero_add]) hop, hfin⟩)
end
end Go.Proofs.YtchoopnjckcohaaGreat
namespace Go.Proofs.YtchoopnjckcohaaGreat
open Go.RowKit Go.Maps Go.Shelf
attribute [local go_sem] Oper.semAt_some
/-! ### behind, where neither takes the empty word -/
/-- What all worlds keep: all that was there; once the operation has come up, what lies below B. -/
def JB (B : Nat) (w : World) : Bool → World → Prop := fun b W => Below (if b then B else w.heap.size) w W
theorem JB_first {B : Nat} {w W : World} (d : Below w.heap.size w W) : JB B w false W := d
theorem JB_low {B : Nat} {w W : World} {b : Bool} (h : B ≤ w.heap.size) (d : JB B w b W) : Below B w W := by
  cases b with
  | false => exact Below.mono (show Below w.heap.size w W from d) h
  | true => exact d
theorem JB_on {B : Nat} {w W W' : World} {b : Bool} (h : B ≤ w.heap.size) (d : JB B w b W) (d1 : Below W.heap.size W W') : JB B w b W' := by
  cases b with
  | false => exact Below.trans (show Below w.heap.size w W from d) (d1.mono (Below.size d))
  | true => exact Below.trans (show Below B w W from d) (d1.mono (Nat.le_trans h (Below.size d)))
theorem JB_put {B : Nat} {w W W' : World} {R : Nat → Prop} (h : B ≤ w.heap.size) (d : JB B w false W) (o : Only W W' R) (hR : ∀ k, R k → B ≤ k) : JB B w true W' :=
  (Below.mono (show Below w.heap.size w W from d) h).trans (o.toBelow (Nat.le_trans h (Below.size d)) hR)
/-- A row of edges. -/
def appM (B : Nat) (X : List EdT) : MkP := fun x _ _ W => ∃ z5 d5, x = .slice z5 X.length d5 ∧ W.ownsRow B 50 3 (.slice z5 X.length d5) X.length (X.flatMap encE)
theorem appM_mono {B : Nat} {X : List EdT} : MonoP (appM B X) := fun _ _ _ _ _ _ d ⟨z5, d5, e, h⟩ => ⟨z5, d5, e, own_below h d⟩
theorem appM_of {B lo hi : Nat} {x : Value} {X Y : List EdT} {z5 : Option Addr} {d5 : Nat} {W : World} (h : X = Y) (e : x = .slice z5 X.length d5) (o : W.ownsRow B 50 3 (.slice z5 X.length d5) X.length (X.flatMap encE)) : appM B Y x lo hi W := by
  subst h
  exact ⟨z5, d5, e, o⟩
/-- A box. -/
def boxM (B : Nat) : MkP := fun x lo hi W => x = .pointer (some ⟨lo, 0, none⟩) ∧ B ≤ lo ∧ lo < hi ∧ W.heap[lo]? = some (.cells #[.int .i64 0, .int .i64 0, .slice none 0 0, .slice none 0 0, .slice none 0 0] 25 (0, 0))
theorem boxM_mono {B : Nat} : MonoP (boxM B) := fun _ _ _ _ _ hs d ⟨e, l, l2, z⟩ => ⟨e, l, l2, (d.block _ (by omega)).trans z⟩
theorem boxM_keep {B lo hi : Nat} {x : Value} {W W' : World} {R : Nat → Prop} (hh : hi ≤ W.heap.size) (h : boxM B x lo hi W) (o : Only W W' R) (hR : ∀ k, R k → k < B) : boxM B x lo hi W' :=
  ⟨h.1, h.2.1, h.2.2.1, (o.block lo (by have := h.2.2.1; omega) (fun q => by have := hR _ q; have := h.2.1; omega)).trans h.2.2.2⟩
theorem behM {W0 w1 W : World} {p n : Nat} {v u0 u1 u2 u3 u4 : Value} {xs : List Value} (z : W.heap[p]? = some (.cells #[.int .i64 0, .int .i64 0, .slice none 0 0, .slice none 0 0, .slice none 0 0] 25 (0, 0))) (ow : W.ownsRow W0.heap.size 50 3 v n xs) (dd : Below W0.heap.size w1 W) (d1 : Below W0.heap.size W0 w1) (hp : W0.heap.size ≤ p) :
    ((((((W.setCell ⟨p, 0, none⟩ (u0)).setCell ⟨p, 1, none⟩ (u1)).setCell ⟨p, 2, none⟩ (u2)).setCell ⟨p, 3, none⟩ (u3)).setCell ⟨p, 4, none⟩ (u4))).heap[p]? = some (.cells #[u0, u1, u2, u3, u4] 25 (0, 0)) ∧ ((((((W.setCell ⟨p, 0, none⟩ (u0)).setCell ⟨p, 1, none⟩ (u1)).setCell ⟨p, 2, none⟩ (u2)).setCell ⟨p, 3, none⟩ (u3)).setCell ⟨p, 4, none⟩ (u4))).ownsRow W0.heap.size 50 3 v n xs ∧ W0.heap.size ≤ p ∧ Below W0.heap.size W0 ((((((W.setCell ⟨p, 0, none⟩ (u0)).setCell ⟨p, 1, none⟩ (u1)).setCell ⟨p, 2, none⟩ (u2)).setCell ⟨p, 3, none⟩ (u3)).setCell ⟨p, 4, none⟩ (u4))) := by
  have o := only5 W p u0 u1 u2 u3 u4
  exact ⟨set5 W p _ _ _ _ _ _ _ _ _ _ 25 z, row_only ow o (fun k hk e => by subst e; exact row_tag ow z (by decide) hk), hp, (d1.trans dd).trans (o.toBelow (d1.trans dd).size (fun k hk => by rw [hk]; exact hp))⟩
set_option maxRecDepth 100000 in
set_option maxHeartbeats 4000000 in
theorem behind_no (w : World) (N m n1 n2 n3 l1 l2 l3 : Nat) (n' m' : Int) (a1 a2 a3 b1 b2 b3 : Option Addr) (c1 c2 c3 d1 d2 d3 : Nat) (Sa Fa Sb Fb : List Int) (Ea Eb : List EdT) (en : Hid (Sa.length = n1 ∧ Fa.length = n2 ∧ Ea.length = n3 ∧ Sb.length = l1 ∧ Fb.length = l2 ∧ Eb.length = l3)) (hA : Hid (RdA w a1 a2 a3 Sa Fa Ea)) (hB : Hid (RdA w b1 b2 b3 Sb Fb Eb)) (zB : b1 = none → d1 = 0) (hN : N ≤ 4096) (hm : m ≤ 128) (h1 : n1 ≤ 2000000) (h2 : n2 ≤ 2000000) (h3 : n3 ≤ 2000000) (h4 : l1 ≤ 2000000) (h5 : l2 ≤ 2000000) (h6 : l3 ≤ 2000000) (hS : Hid (SsE Ea)) (hF : Hid (∀ e ∈ Ea, (0 ≤ e.1 ∧ e.1 < (N : Int)) ∧ (0 ≤ e.2.1 ∧ e.2.1 < (m : Int)) ∧ (0 ≤ e.2.2 ∧ e.2.2 < (N : Int)))) (hG : Hid (∀ x ∈ Fa, ∃ q : Nat, q < N ∧ x = (q : Int))) (zB3 : b3 = none → d3 = 0) (hle : (brL Ea Fa Sb m N).length ≤ 65536) (hsm : (brL Ea Fa Sb m N).length + l3 ≤ 65536) (hSa : Hid (∀ x ∈ Sa, ∃ q : Nat, q < N ∧ x = (q : Int))) (M : Nat) (eM : Hid (n' = (M : Int))) (hM : M ≤ 8192) (hSb : Hid (∀ x ∈ Sb, ∃ q : Nat, q < M ∧ x = (q : Int))) (hFb : Hid (∀ x ∈ Fb, ∃ q : Nat, q < M ∧ x = (q : Int))) (emA : Hid (emptB Sa Fa = false)) (emB : Hid (emptB Sb Fb = false)) :
    Calls Tryz.prog 32 #[.agg #[.int .i64 (N : Int), .int .i64 (m : Int), .slice a1 n1 c1, .slice a2 n2 c2, .slice a3 n3 c3], .agg #[.int .i64 n', .int .i64 m', .slice b1 l1 d1, .slice b2 l2 d2, .slice b3 l3 d3]] w fun e w' => ∃ z5 d5, e = .returned (.tuple #[.agg #[.int .i64 n', .int .i64 (m : Int), .slice a1 n1 c1, .slice b2 l2 d2, .slice z5 (brL Ea Fa Sb m N ++ Eb).length d5], .int .i64 0]) ∧ Hid (w'.ownsRow w.heap.size 50 3 (.slice z5 (brL Ea Fa Sb m N ++ Eb).length d5) (brL Ea Fa Sb m N ++ Eb).length ((brL Ea Fa Sb m N ++ Eb).flatMap encE) ∧ Below w.heap.size w w') := by
  obtain ⟨W0, hW0⟩ : ∃ W0, ((w.alloc (.cells #[.int .i64 (N : Int), .int .i64 (m : Int), .slice a1 n1 c1, .slice a2 n2 c2, .slice a3 n3 c3] 25)).alloc (.cells #[.int .i64 n', .int .i64 m', .slice b1 l1 d1, .slice b2 l2 d2, .slice b3 l3 d3] 25)).alloc (.cells #[.int .i64 0, .int .i64 0, .slice none 0 0, .slice none 0 0, .slice none 0 0] 25) = W0 := ⟨_, rfl⟩
  have HD := hide (box3b w #[.int .i64 (N : Int), .int .i64 (m : Int), .slice a1 n1 c1, .slice a2 n2 c2, .slice a3 n3 c3] #[.int .i64 n', .int .i64 m', .slice b1 l1 d1, .slice b2 l2 d2, .slice b3 l3 d3] #[.int .i64 0, .int .i64 0, .slice none 0 0, .slice none 0 0, .slice none 0 0] 25)
  rw [hW0] at HD
  have TB := bridged_any W0 N m n1 n2 n3 a1 a2 a3 b1 c1 c2 c3 l1 d1 Ea Fa Sb en.out.2.1 en.out.2.2.1 en.out.2.2.2.1 zB hN hm (hide (hA.out.e.on HD.out.1)) (hide (hA.out.f.on HD.out.1)) (hide (hB.out.s.on HD.out.1)) h2 h3 h4 hS hF hG
  have y0 : W0.cell? ⟨w.heap.size, 0, none⟩ = some (.int .i64 (N : Int)) := cell_of HD.out.2.1 rfl
  have y1 : W0.cell? ⟨w.heap.size, 1, none⟩ = some (.int .i64 (m : Int)) := cell_of HD.out.2.1 rfl
  have y2 : W0.cell? ⟨w.heap.size, 2, none⟩ = some (.slice a1 n1 c1) := cell_of HD.out.2.1 rfl
  have y3 : W0.cell? ⟨w.heap.size, 3, none⟩ = some (.slice a2 n2 c2) := cell_of HD.out.2.1 rfl
  have y4 : W0.cell? ⟨w.heap.size, 4, none⟩ = some (.slice a3 n3 c3) := cell_of HD.out.2.1 rfl
  have x0 : W0.cell? ⟨w.heap.size + 1, 0, none⟩ = some (.int .i64 n') := cell_of HD.out.2.2.1 rfl
  have x1 : W0.cell? ⟨w.heap.size + 1, 1, none⟩ = some (.int .i64 m') := cell_of HD.out.2.2.1 rfl
  have x2 : W0.cell? ⟨w.heap.size + 1, 2, none⟩ = some (.slice b1 l1 d1) := cell_of HD.out.2.2.1 rfl
  have x3 : W0.cell? ⟨w.heap.size + 1, 3, none⟩ = some (.slice b2 l2 d2) := cell_of HD.out.2.2.1 rfl
  have x4 : W0.cell? ⟨w.heap.size + 1, 4, none⟩ = some (.slice b3 l3 d3) := cell_of HD.out.2.2.1 rfl
  unfold BrP at TB
  simp only [if_neg (show ¬ 65536 < (brL Ea Fa Sb m N).length by omega)] at TB
  obtain ⟨E, hE⟩ : ∃ E, brL Ea Fa Sb m N = E := ⟨_, rfl⟩
  rw [hE] at TB hle hsm ⊢
  clear hE
  have jb : ¬ (65536 : Int) < (E.length : Int) + (l3 : Int) := by omega
  have jw : IntKind.i64.wrap ((E.length : Int) + (l3 : Int)) = (E.length : Int) + (l3 : Int) := by rw [IntKind.wrap_i64]; omega
  go_enter Tryz.func32, Tryz.ntmps32
  go_upto_region 4 with (go_at_call 54; refine TB.mono ?_; rintro e w1 ⟨v1, rfl, O1, D1⟩; obtain ⟨ae, cf, rfl⟩ := own_slice O1; have HF1 := hide (And.intro O1 D1); have x4 : w1.cell? ⟨w.heap.size + 1, 4, none⟩ = some (.slice b3 l3 d3) := cell_of (blk_on HD.out.2.2.1 D1) rfl; clear D1 O1)
  clear TB y0 y1 y2 y3 y4 x0 x1 x2 x3 x4
  have HA1 := hide (blk_on HD.out.2.1 HF1.out.2)
  have HB1 := hide (blk_on HD.out.2.2.1 HF1.out.2)
  have OW : Hid (∀ W, Below w1.heap.size w1 W → W.ownsRow W0.heap.size 50 3 (.slice ae E.length cf) E.length (E.flatMap encE)) := hide (fun W d => own_below HF1.out.1 d)
  have RX : Hid (∀ W, Below w1.heap.size w1 W → RdE W b3 Eb) := hide (fun W d => (hB.out.e.on (HD.out.1.trans (HF1.out.2.mono HD.out.1.size))).on d)
  have hs0 : W0.heap.size ≤ w1.heap.size := HF1.out.2.size
  have hbk : Hid (∀ k, (Value.slice ae E.length cf).ownBlock = some k → W0.heap.size ≤ k) := hide (fun k hk => (HF1.out.1.lt k hk).1)
  have hbl : Hid (∀ k, (Value.slice ae E.length cf).ownBlock = some k → k < w1.heap.size) := hide (fun k hk => (HF1.out.1.lt k hk).2)
  have hkA : w.heap.size < W0.heap.size := by have := HD.out.2.2.2.2; omega
  have hkB : w.heap.size + 1 < W0.heap.size := by have := HD.out.2.2.2.2; omega
  have hlen : E.length + Eb.length ≤ 4194304 := by have := en.out.2.2.2.2.2; omega
  obtain ⟨EE, hEE⟩ : ∃ EE, E ++ Eb = EE := ⟨_, rfl⟩
  have HE := hide hEE
  have HP0 := hide hEE
  clear hEE
  go_cut [8] from 8 to 40 (fun v8 W => ∃ p8 z5 d5, v8 = .pointer (some ⟨p8, 0, none⟩) ∧ Hid (W.heap[p8]? = some (.cells #[.int .i64 n', .int .i64 (m : Int), .slice a1 n1 c1, .slice b2 l2 d2, .slice z5 EE.length d5] 25 (0, 0)) ∧ W.ownsRow W0.heap.size 50 3 (.slice z5 EE.length d5) EE.length (EE.flatMap encE) ∧ W0.heap.size ≤ p8 ∧ Below W0.heap.size W0 W))
  case first =>
    have hmo : MonIL 0 [vI 0 (.pointer (some ⟨w.heap.size + 1, 0, none⟩)), vI 1 (.int .i64 n'), vI 2 (.pointer (some ⟨w.heap.size, 1, none⟩)), vI 3 (.int .i64 (m : Int)), vI 4 (.pointer (some ⟨w.heap.size, 2, none⟩)), vI 5 (.slice a1 n1 c1), vI 6 (.pointer (some ⟨w.heap.size + 1, 3, none⟩)), vI 7 (.slice b2 l2 d2), vI 8 (.slice ae E.length cf), vI 9 (.pointer (some ⟨w.heap.size + 1, 4, none⟩)), vI 10 (.slice b3 l3 d3), pI 11 (appM W0.heap.size EE), ⟨[11], [], fun y _ _ _ => y 12 = .agg #[.int .i64 n', .int .i64 (m : Int), .slice a1 n1 c1, .slice b2 l2 d2, y 11]⟩, pI 13 (boxM w1.heap.size)] := ⟨vI_mono _ _, vI_mono _ _, vI_mono _ _, vI_mono _ _, vI_mono _ _, vI_mono _ _, vI_mono _ _, vI_mono _ _, vI_mono _ _, vI_mono _ _, vI_mono _ _, pI_mono appM_mono, (fun _ _ _ _ _ _ _ _ hy h => by dsimp only at hy h ⊢; rw [hy 12 (Or.inl rfl), hy 11 (Or.inr (by simp))]; exact h), pI_mono boxM_mono, trivial⟩
    refine wp_region_sj (JB W0.heap.size w1) 11 [vI 0 (.pointer (some ⟨w.heap.size + 1, 0, none⟩)), vI 1 (.int .i64 n'), vI 2 (.pointer (some ⟨w.heap.size, 1, none⟩)), vI 3 (.int .i64 (m : Int)), vI 4 (.pointer (some ⟨w.heap.size, 2, none⟩)), vI 5 (.slice a1 n1 c1), vI 6 (.pointer (some ⟨w.heap.size + 1, 3, none⟩)), vI 7 (.slice b2 l2 d2), vI 8 (.slice ae E.length cf), vI 9 (.pointer (some ⟨w.heap.size + 1, 4, none⟩)), vI 10 (.slice b3 l3 d3), pI 11 (appM W0.heap.size EE), ⟨[11], [], fun y _ _ _ => y 12 = .agg #[.int .i64 n', .int .i64 (m : Int), .slice a1 n1 c1, .slice b2 l2 d2, y 11]⟩, pI 13 (boxM w1.heap.size)] (by kernel_rfl) (JB_first ⟨rfl, rfl, rfl, Nat.le_refl _, fun _ _ => rfl⟩) (by kernel_rfl) (by kernel_rfl) (by kernel_rfl) (by kernel_rfl) hmo ⟨?o0, ?o1, ?o2, ?o3, ?o4, ?o5, ?o6, ?o7, ?o8, ?o9, ?o10, ?o11, ?o12, ?o13, trivial⟩ ?fin
    case o0 =>
      intro At yy W bb hy hb hbb d hz hd K hK
      have s3 : At.tmps.getD 3 undef = .pointer (some ⟨w.heap.size + 1, 0, none⟩) := hb 3 rfl
      have s3' := s3
      rw [Array.getD_eq_getD_getElem?] at s3'
      clear hd hy hb
      go_simp
      exact hK.out _ W (stpj_of hmo d (Below.refl _ _)) (if_pos rfl)
    case o1 =>
      intro At yy W bb hy hb hbb d hz hd K hK
      have e0 : yy 0 = .pointer (some ⟨w.heap.size + 1, 0, none⟩) := by obtain ⟨_, _, _, _, e⟩ := hd ⟨0, .data⟩ (by simp) rfl rfl; exact e
      have s28 := (hy 0 _ 28 rfl rfl).trans e0
      have s28' := s28
      rw [Array.getD_eq_getD_getElem?] at s28'
      clear hd hy hb
      have dl := JB_low hs0 d
      have bxA := (dl.block _ hkA).trans HA1.out
      have bxB := (dl.block _ hkB).trans HB1.out
      have y1 : W.cell? ⟨w.heap.size, 1, none⟩ = some (.int .i64 (m : Int)) := cell_of bxA rfl
      have y2 : W.cell? ⟨w.heap.size, 2, none⟩ = some (.slice a1 n1 c1) := cell_of bxA rfl
      have x0 : W.cell? ⟨w.heap.size + 1, 0, none⟩ = some (.int .i64 n') := cell_of bxB rfl
      have x3 : W.cell? ⟨w.heap.size + 1, 3, none⟩ = some (.slice b2 l2 d2) := cell_of bxB rfl
      have x4 : W.cell? ⟨w.heap.size + 1, 4, none⟩ = some (.slice b3 l3 d3) := cell_of bxB rfl
      clear dl bxA bxB
      go_simp
      exact hK.out _ W (stpj_of hmo d (Below.refl _ _)) (if_pos rfl)
    case o2 =>
      intro At yy W bb hy hb hbb d hz hd K hK
      have s2 : At.tmps.getD 2 undef = .pointer (some ⟨w.heap.size, 0, none⟩) := hb 2 rfl
      have s2' := s2
      rw [Array.getD_eq_getD_getElem?] at s2'
      clear hd hy hb
      go_simp
      exact hK.out _ W (stpj_of hmo d (Below.refl _ _)) (if_pos rfl)
    case o3 =>
      intro At yy W bb hy hb hbb d hz hd K hK
      have e2 : yy 2 = .pointer (some ⟨w.heap.size, 1, none⟩) := by obtain ⟨_, _, _, _, e⟩ := hd ⟨2, .data⟩ (by simp) rfl rfl; exact e
      have s30 := (hy 2 _ 30 rfl rfl).trans e2
      have s30' := s30
      rw [Array.getD_eq_getD_getElem?] at s30'
      clear hd hy hb
      have dl := JB_low hs0 d
      have bxA := (dl.block _ hkA).trans HA1.out
      have bxB := (dl.block _ hkB).trans HB1.out
      have y1 : W.cell? ⟨w.heap.size, 1, none⟩ = some (.int .i64 (m : Int)) := cell_of bxA rfl
      have y2 : W.cell? ⟨w.heap.size, 2, none⟩ = some (.slice a1 n1 c1) := cell_of bxA rfl
      have x0 : W.cell? ⟨w.heap.size + 1, 0, none⟩ = some (.int .i64 n') := cell_of bxB rfl
      have x3 : W.cell? ⟨w.heap.size + 1, 3, none⟩ = some (.slice b2 l2 d2) := cell_of bxB rfl
      have x4 : W.cell? ⟨w.heap.size + 1, 4, none⟩ = some (.slice b3 l3 d3) := cell_of bxB rfl
      clear dl bxA bxB
      go_simp
      exact hK.out _ W (stpj_of hmo d (Below.refl _ _)) (if_pos rfl)
    case o4 =>
      intro At yy W bb hy hb hbb d hz hd K hK
      have s2 : At.tmps.getD 2 undef = .pointer (some ⟨w.heap.size, 0, none⟩) := hb 2 rfl
      have s2' := s2
      rw [Array.getD_eq_getD_getElem?] at s2'
      clear hd hy hb
      go_simp
      exact hK.out _ W (stpj_of hmo d (Below.refl _ _)) (if_pos rfl)
    case o5 =>
      intro At yy W bb hy hb hbb d hz hd K hK
      have e4 : yy 4 = .pointer (some ⟨w.heap.size, 2, none⟩) := by obtain ⟨_, _, _, _, e⟩ := hd ⟨4, .data⟩ (by simp) rfl rfl; exact e
      have s32 := (hy 4 _ 32 rfl rfl).trans e4
      have s32' := s32
      rw [Array.getD_eq_getD_getElem?] at s32'
      clear hd hy hb
      have dl := JB_low hs0 d
      have bxA := (dl.block _ hkA).trans HA1.out
      have bxB := (dl.block _ hkB).trans HB1.out
      have y1 : W.cell? ⟨w.heap.size, 1, none⟩ = some (.int .i64 (m : Int)) := cell_of bxA rfl
      have y2 : W.cell? ⟨w.heap.size, 2, none⟩ = some (.slice a1 n1 c1) := cell_of bxA rfl
      have x0 : W.cell? ⟨w.heap.size + 1, 0, none⟩ = some (.int .i64 n') := cell_of bxB rfl
      have x3 : W.cell? ⟨w.heap.size + 1, 3, none⟩ = some (.slice b2 l2 d2) := cell_of bxB rfl
      have x4 : W.cell? ⟨w.heap.size + 1, 4, none⟩ = some (.slice b3 l3 d3) := cell_of bxB rfl
      clear dl bxA bxB
      go_simp
      exact hK.out _ W (stpj_of hmo d (Below.refl _ _)) (if_pos rfl)
    case o6 =>
      intro At yy W bb hy hb hbb d hz hd K hK
      have s3 : At.tmps.getD 3 undef = .pointer (some ⟨w.heap.size + 1, 0, none⟩) := hb 3 rfl
      have s3' := s3
      rw [Array.getD_eq_getD_getElem?] at s3'
      clear hd hy hb
      go_simp
      exact hK.out _ W (stpj_of hmo d (Below.refl _ _)) (if_pos rfl)
    case o7 =>
      intro At yy W bb hy hb hbb d hz hd K hK
      have e6 : yy 6 = .pointer (some ⟨w.heap.size + 1, 3, none⟩) := by obtain ⟨_, _, _, _, e⟩ := hd ⟨6, .data⟩ (by simp) rfl rfl; exact e
      have s34 := (hy 6 _ 34 rfl rfl).trans e6
      have s34' := s34
      rw [Array.getD_eq_getD_getElem?] at s34'
      clear hd hy hb
      have dl := JB_low hs0 d
      have bxA := (dl.block _ hkA).trans HA1.out
      have bxB := (dl.block _ hkB).trans HB1.out
      have y1 : W.cell? ⟨w.heap.size, 1, none⟩ = some (.int .i64 (m : Int)) := cell_of bxA rfl
      have y2 : W.cell? ⟨w.heap.size, 2, none⟩ = some (.slice a1 n1 c1) := cell_of bxA rfl
      have x0 : W.cell? ⟨w.heap.size + 1, 0, none⟩ = some (.int .i64 n') := cell_of bxB rfl
      have x3 : W.cell? ⟨w.heap.size + 1, 3, none⟩ = some (.slice b2 l2 d2) := cell_of bxB rfl
      have x4 : W.cell? ⟨w.heap.size + 1, 4, none⟩ = some (.slice b3 l3 d3) := cell_of bxB rfl
      clear dl bxA bxB
      go_simp
      exact hK.out _ W (stpj_of hmo d (Below.refl _ _)) (if_pos rfl)
    case o8 =>
      intro At yy W bb hy hb hbb d hz hd K hK
      have s6 : At.tmps.getD 6 undef = .slice ae E.length cf := hb 6 rfl
      have s6' := s6
      rw [Array.getD_eq_getD_getElem?] at s6'
      clear hd hy hb
      go_simp
      exact hK.out _ W (stpj_of hmo d (Below.refl _ _)) (if_pos rfl)
    case o9 =>
      intro At yy W bb hy hb hbb d hz hd K hK
      have s3 : At.tmps.getD 3 undef = .pointer (some ⟨w.heap.size + 1, 0, none⟩) := hb 3 rfl
      have s3' := s3
      rw [Array.getD_eq_getD_getElem?] at s3'
      clear hd hy hb
      go_simp
      exact hK.out _ W (stpj_of hmo d (Below.refl _ _)) (if_pos rfl)
    case o10 =>
      intro At yy W bb hy hb hbb d hz hd K hK
      have e9 : yy 9 = .pointer (some ⟨w.heap.size + 1, 4, none⟩) := by obtain ⟨_, _, _, _, e⟩ := hd ⟨9, .data⟩ (by simp) rfl rfl; exact e
      have s37 := (hy 9 _ 37 rfl rfl).trans e9
      have s37' := s37
      rw [Array.getD_eq_getD_getElem?] at s37'
      clear hd hy hb
      have dl := JB_low hs0 d
      have bxA := (dl.block _ hkA).trans HA1.out
      have bxB := (dl.block _ hkB).trans HB1.out
      have y1 : W.cell? ⟨w.heap.size, 1, none⟩ = some (.int .i64 (m : Int)) := cell_of bxA rfl
      have y2 : W.cell? ⟨w.heap.size, 2, none⟩ = some (.slice a1 n1 c1) := cell_of bxA rfl
      have x0 : W.cell? ⟨w.heap.size + 1, 0, none⟩ = some (.int .i64 n') := cell_of bxB rfl
      have x3 : W.cell? ⟨w.heap.size + 1, 3, none⟩ = some (.slice b2 l2 d2) := cell_of bxB rfl
      have x4 : W.cell? ⟨w.heap.size + 1, 4, none⟩ = some (.slice b3 l3 d3) := cell_of bxB rfl
      clear dl bxA bxB
      go_simp
      exact hK.out _ W (stpj_of hmo d (Below.refl _ _)) (if_pos rfl)
    case o11 =>
      intro At yy W bb hy hb hbb d hz hd K hK
      have e8 : yy 8 = .slice ae E.length cf := by obtain ⟨_, _, _, _, e⟩ := hd ⟨8, .data⟩ (by simp) rfl rfl; exact e
      have e10 : yy 10 = .slice b3 l3 d3 := by obtain ⟨_, _, _, _, e⟩ := hd ⟨10, .data⟩ (by simp) rfl rfl; exact e
      have s36 := (hy 8 _ 36 rfl rfl).trans e8
      have s36' := s36
      rw [Array.getD_eq_getD_getElem?] at s36'
      have s38 := (hy 10 _ 38 rfl rfl).trans e10
      have s38' := s38
      rw [Array.getD_eq_getD_getElem?] at s38'
      clear hd hb
      have hb0 := hbb rfl
      subst hb0
      refine step_appM rfl _ _ rfl W0.heap.size (.slice ae E.length cf) E s36 (OW.out _ d) b3 l3 d3 Eb en.out.2.2.2.2.2 zB3 s38 (RX.out _ d) hlen (Nat.le_trans hs0 hz) ?_
      intro z5 d5 w4 HO4 HG4
      exact hK.out _ w4 (stpj_keeps [] rfl (JB_put hs0 d HG4.out hbk.out) HG4.out.size ⟨.inr (fun _ _ _ h => h), .inr (fun _ _ _ h => h), .inr (fun _ _ _ h => h), .inr (fun _ _ _ h => h), .inr (fun _ _ _ h => h), .inr (fun _ _ _ h => h), .inr (fun _ _ _ h => h), .inr (fun _ _ _ h => h), .inr (fun _ _ _ h => h), .inr (fun _ _ _ h => h), .inr (fun _ _ _ h => h), .inl (by simp), .inr (fun _ _ _ h => h), .inr (fun _ _ hh h => boxM_keep hh h HG4.out hbl.out), trivial⟩) (appM_of (lo := 0) (hi := 0) HE.out (if_pos rfl) HO4.out)
    case o12 =>
      intro At yy W bb hy hb hbb d hz hd K hK
      have e1 : yy 1 = .int .i64 n' := by obtain ⟨_, _, _, _, e⟩ := hd ⟨1, .data⟩ (by simp) rfl rfl; exact e
      have e3 : yy 3 = .int .i64 (m : Int) := by obtain ⟨_, _, _, _, e⟩ := hd ⟨3, .data⟩ (by simp) rfl rfl; exact e
      have e5 : yy 5 = .slice a1 n1 c1 := by obtain ⟨_, _, _, _, e⟩ := hd ⟨5, .data⟩ (by simp) rfl rfl; exact e
      have e7 : yy 7 = .slice b2 l2 d2 := by obtain ⟨_, _, _, _, e⟩ := hd ⟨7, .data⟩ (by simp) rfl rfl; exact e
      have f11 := hd ⟨11, .data⟩ (by simp) rfl rfl
      obtain ⟨_, _, _, _, z5, d5, e11, _⟩ := f11
      have s29 := (hy 1 _ 29 rfl rfl).trans e1
      have s29' := s29
      rw [Array.getD_eq_getD_getElem?] at s29'
      have s31 := (hy 3 _ 31 rfl rfl).trans e3
      have s31' := s31
      rw [Array.getD_eq_getD_getElem?] at s31'
      have s33 := (hy 5 _ 33 rfl rfl).trans e5
      have s33' := s33
      rw [Array.getD_eq_getD_getElem?] at s33'
      have s35 := (hy 7 _ 35 rfl rfl).trans e7
      have s35' := s35
      rw [Array.getD_eq_getD_getElem?] at s35'
      have s39 := (hy 11 _ 39 rfl rfl).trans e11
      have s39' := s39
      rw [Array.getD_eq_getD_getElem?] at s39'
      clear hd hy hb
      go_simp
      exact hK.out _ W (stpj_of hmo d (Below.refl _ _)) (by show updV yy 12 _ 12 = .agg #[_, _, _, _, updV yy 12 _ 11]; rw [show ∀ x, updV yy 12 x 12 = x from fun x => if_pos rfl, show ∀ x, updV yy 12 x 11 = yy 11 from fun x => if_neg (by decide), e11])
    case o13 =>
      intro At yy W bb hy hb hbb d hz hd K hK
      clear hd hy hb
      go_simp
      exact hK.out _ _ (stpj_of hmo (JB_on hs0 d ((Below.refl _ _).alloc (Nat.le_refl _) _)) ((Below.refl _ _).alloc (Nat.le_refl _) _)) ⟨if_pos rfl, hz, by simp, World.alloc_heap_new _ _⟩
    case fin =>
      intro yy lo hi W hM
      show wpList _ _ _ [_] _ _
      have e0 : yy 0 = .pointer (some ⟨w.heap.size + 1, 0, none⟩) := hM.fact 0 (by simp) rfl (notR_all 0 rfl)
      have e1 : yy 1 = .int .i64 n' := hM.fact 1 (by simp) rfl (notR_all 1 rfl)
      have e2 : yy 2 = .pointer (some ⟨w.heap.size, 1, none⟩) := hM.fact 2 (by simp) rfl (notR_all 2 rfl)
      have e3 : yy 3 = .int .i64 (m : Int) := hM.fact 3 (by simp) rfl (notR_all 3 rfl)
      have e4 : yy 4 = .pointer (some ⟨w.heap.size, 2, none⟩) := hM.fact 4 (by simp) rfl (notR_all 4 rfl)
      have e5 : yy 5 = .slice a1 n1 c1 := hM.fact 5 (by simp) rfl (notR_all 5 rfl)
      have e6 : yy 6 = .pointer (some ⟨w.heap.size + 1, 3, none⟩) := hM.fact 6 (by simp) rfl (notR_all 6 rfl)
      have e7 : yy 7 = .slice b2 l2 d2 := hM.fact 7 (by simp) rfl (notR_all 7 rfl)
      have e8 : yy 8 = .slice ae E.length cf := hM.fact 8 (by simp) rfl (notR_all 8 rfl)
      have e9 : yy 9 = .pointer (some ⟨w.heap.size + 1, 4, none⟩) := hM.fact 9 (by simp) rfl (notR_all 9 rfl)
      have e10 : yy 10 = .slice b3 l3 d3 := hM.fact 10 (by simp) rfl (notR_all 10 rfl)
      obtain ⟨z5, d5, e11, O11⟩ := hM.fact 11 (by simp) rfl (notR_all 11 rfl)
      have e12 := hM.fact 12 (by simp) rfl (notR_all 12 rfl)
      replace e12 : yy 12 = .agg #[.int .i64 n', .int .i64 (m : Int), .slice a1 n1 c1, .slice b2 l2 d2, yy 11] := e12
      rw [e11] at e12
      obtain ⟨e13, l13, _, z13⟩ := hM.fact 13 (by simp) rfl (notR_all 13 rfl)
      have dd : Below W0.heap.size w1 W := hM.d
      simp only [fills, Act.put, List.take, List.length, List.setIfInBounds_toArray, List.set_cons_zero, List.set_cons_succ, e0, e1, e2, e3, e4, e5, e6, e7, e8, e9, e10, e11, e12, e13]
      generalize lo 13 = p8 at z13 l13 ⊢
      clear hM hmo e0 e1 e2 e3 e4 e5 e6 e7 e8 e9 e10 e11 e12 e13
      have HF := hide (behM (u0 := .int .i64 n') (u1 := .int .i64 (m : Int)) (u2 := .slice a1 n1 c1) (u3 := .slice b2 l2 d2) (u4 := .slice z5 EE.length d5) z13 O11 dd HF1.out.2 (Nat.le_trans hs0 l13))
      have o0 : W.cell? ⟨p8, 0, none⟩ = some (.int .i64 0) := cell_of z13 rfl
      have o1 : W.cell? ⟨p8, 1, none⟩ = some (.int .i64 0) := cell_of z13 rfl
      have o2 : W.cell? ⟨p8, 2, none⟩ = some (.slice none 0 0) := cell_of z13 rfl
      have o3 : W.cell? ⟨p8, 3, none⟩ = some (.slice none 0 0) := cell_of z13 rfl
      have o4 : W.cell? ⟨p8, 4, none⟩ = some (.slice none 0 0) := cell_of z13 rfl
      have g0 : W.frozen? ⟨p8, 0, none⟩ = false := fz_of z13
      have g1 : W.frozen? ⟨p8, 1, none⟩ = false := fz_of z13
      have g2 : W.frozen? ⟨p8, 2, none⟩ = false := fz_of z13
      have g3 : W.frozen? ⟨p8, 3, none⟩ = false := fz_of z13
      have g4 : W.frozen? ⟨p8, 4, none⟩ = false := fz_of z13
      clear z13 O11 dd
      go_wp2_with fail
      go_meet
      exact ⟨p8, z5, d5, rfl, HF⟩
  case rest =>
    obtain ⟨p8, z5, d5, rfl, HC⟩ := hcut
    rename World => wz
    clear OW RX hbk hbl HA1 HB1 hlen
    have DZ : Hid (Below w.heap.size w wz) := hide (HD.out.1.trans (HC.out.2.2.2.mono HD.out.1.size))
    have HA2 := hide (blk_on HD.out.2.1 HC.out.2.2.2)
    have HB2 := hide (blk_on HD.out.2.2.1 HC.out.2.2.2)
    have TA := takesEmpty_any wz N (m : Int) a1 a2 a3 c1 c2 c3 n3 Sa Fa (hide (hA.out.s.on DZ.out)) (hide (hA.out.f.on DZ.out)) hSa hG (by have := en.out.1; omega) (by have := en.out.2.1; omega) (by omega)
    rw [emA.out, en.out.1, en.out.2.1] at TA
    have y0 : wz.cell? ⟨w.heap.size, 0, none⟩ = some (.int .i64 (N : Int)) := cell_of HA2.out rfl
    have y1 : wz.cell? ⟨w.heap.size, 1, none⟩ = some (.int .i64 (m : Int)) := cell_of HA2.out rfl
    have y2 : wz.cell? ⟨w.heap.size, 2, none⟩ = some (.slice a1 n1 c1) := cell_of HA2.out rfl
    have y3 : wz.cell? ⟨w.heap.size, 3, none⟩ = some (.slice a2 n2 c2) := cell_of HA2.out rfl
    have y4 : wz.cell? ⟨w.heap.size, 4, none⟩ = some (.slice a3 n3 c3) := cell_of HA2.out rfl
    go_upto_region 7 with (go_at_call 55; refine TA.mono ?_; rintro e w5 ⟨rfl, D5⟩; have H5 := hide D5; clear D5)
    clear TA y0 y1 y2 y3 y4
    have DZ5 : Hid (Below w.heap.size w w5) := hide (DZ.out.trans (H5.out.mono DZ.out.size))
    have TB := takesEmpty_any w5 M m' b1 b2 b3 d1 d2 d3 l3 Sb Fb (hide (hB.out.s.on DZ5.out)) (hide (hB.out.f.on DZ5.out)) hSb hFb (by have := en.out.2.2.2.1; omega) (by have := en.out.2.2.2.2.1; omega) (by omega)
    rw [emB.out, en.out.2.2.2.1, en.out.2.2.2.2.1, ← eM.out] at TB
    have HB5 := hide (blk_on HB2.out H5.out)
    have x0 : w5.cell? ⟨w.heap.size + 1, 0, none⟩ = some (.int .i64 n') := cell_of HB5.out rfl
    have x1 : w5.cell? ⟨w.heap.size + 1, 1, none⟩ = some (.int .i64 m') := cell_of HB5.out rfl
    have x2 : w5.cell? ⟨w.heap.size + 1, 2, none⟩ = some (.slice b1 l1 d1) := cell_of HB5.out rfl
    have x3 : w5.cell? ⟨w.heap.size + 1, 3, none⟩ = some (.slice b2 l2 d2) := cell_of HB5.out rfl
    have x4 : w5.cell? ⟨w.heap.size + 1, 4, none⟩ = some (.slice b3 l3 d3) := cell_of HB5.out rfl
    go_upto_region 9 with (go_at_call 55; refine TB.mono ?_; rintro e w6 ⟨rfl, D6⟩; have H6 := hide D6; clear D6)
    clear TB x0 x1 x2 x3 x4
    have F8 := blk_on (blk_on HC.out.1 H5.out) H6.out
    have F4 := blk_on (blk_on (blk_on HD.out.2.2.2.1 HC.out.2.2.2) H5.out) H6.out
    have o0 : w6.cell? ⟨p8, 0, none⟩ = some (.int .i64 n') := cell_of F8 rfl
    have o1 : w6.cell? ⟨p8, 1, none⟩ = some (.int .i64 (m : Int)) := cell_of F8 rfl
    have o2 : w6.cell? ⟨p8, 2, none⟩ = some (.slice a1 n1 c1) := cell_of F8 rfl
    have o3 : w6.cell? ⟨p8, 3, none⟩ = some (.slice b2 l2 d2) := cell_of F8 rfl
    have o4 : w6.cell? ⟨p8, 4, none⟩ = some (.slice z5 EE.length d5) := cell_of F8 rfl
    have q0 : w6.cell? ⟨w.heap.size + 1 + 1, 0, none⟩ = some (.int .i64 0) := cell_of F4 rfl
    have g0 : w6.frozen? ⟨w.heap.size + 1 + 1, 0, none⟩ = false := fz_of F4
    have q1 : w6.cell? ⟨w.heap.size + 1 + 1, 1, none⟩ = some (.int .i64 0) := cell_of F4 rfl
    have g1 : w6.frozen? ⟨w.heap.size + 1 + 1, 1, none⟩ = false := fz_of F4
    have q2 : w6.cell? ⟨w.heap.size + 1 + 1, 2, none⟩ = some (.slice none 0 0) := cell_of F4 rfl
    have g2 : w6.frozen? ⟨w.heap.size + 1 + 1, 2, none⟩ = false := fz_of F4
    have q3 : w6.cell? ⟨w.heap.size + 1 + 1, 3, none⟩ = some (.slice none 0 0) := cell_of F4 rfl
    have g3 : w6.frozen? ⟨w.heap.size + 1 + 1, 3, none⟩ = false := fz_of F4
    have q4 : w6.cell? ⟨w.heap.size + 1 + 1, 4, none⟩ = some (.slice none 0 0) := cell_of F4 rfl
    have g4 : w6.frozen? ⟨w.heap.size + 1 + 1, 4, none⟩ = false := fz_of F4
    have O6 := hide (And.intro (set5 w6 (w.heap.size + 1 + 1) _ _ _ _ _ (.int .i64 n') (.int .i64 (m : Int)) (.slice a1 n1 c1) (.slice b2 l2 d2) (.slice z5 EE.length d5) 25 F4) (only5 w6 (w.heap.size + 1 + 1) (.int .i64 n') (.int .i64 (m : Int)) (.slice a1 n1 c1) (.slice b2 l2 d2) (.slice z5 EE.length d5)))
    have HO := hide (row_only (own_below (own_below HC.out.2.1 H5.out) H6.out) O6.out.2 (fun k hk e => by subst e; exact row_tag (own_below (own_below HC.out.2.1 H5.out) H6.out) F4 (by decide) hk))
    clear F8 F4
    go_wp2_with fail
    refine bodyPost_ret (results_c1 (p := 4) (q := 5) (ty := 25) rfl _ _ (w.heap.size + 1 + 1) 25 _ (0, 0) _ _ rfl rfl O6.out.1 Tryz.underlying25 rfl (by kernel_rfl)) rfl ?_
    have s1 := HD.out.2.2.2.2
    have s2 := DZ5.out.size
    have s3 := H6.out.size
    have d6 := DZ5.out.trans (H6.out.mono DZ5.out.size)
    exact ⟨z5, d5, by rw [HP0.out]; rfl, hide (by rw [HP0.out]; exact ⟨owns_down HO.out (by omega), d6.trans (O6.out.2.toBelow (by omega) (fun k hk => by omega))⟩)⟩
/-! ### behind, whole -/
structure BhI (W0 W : World) (p B0 : Nat) (n m : Int) (vS vF : Value) (z5 : Option Addr) (d5 : Nat) (SL FL : List Int) (EE : List EdT) : Prop where
  bx : W.heap[p]? = some (.cells #[.int .i64 n, .int .i64 m, vS, vF, .slice z5 EE.length d5] 25 (0, 0))
  rs : W.ownsRow B0 3 1 vS SL.length (SL.map (Value.int .i64))
  rf : W.ownsRow B0 3 1 vF FL.length (FL.map (Value.int .i64))
  re : W.ownsRow B0 50 3 (.slice z5 EE.length d5) EE.length (EE.flatMap encE)
  ne : ∀ g, vS.ownBlock = some g → vF.ownBlock ≠ some g
  be : Below W0.heap.size W0 W
  ge : W0.heap.size ≤ p
theorem BhI.on {W0 W W' : World} {p B0 d5 : Nat} {n m : Int} {vS vF : Value} {z5 : Option Addr} {SL FL : List Int} {EE : List EdT} (h : BhI W0 W p B0 n m vS vF z5 d5 SL FL EE) (d : Below W.heap.size W W') : BhI W0 W' p B0 n m vS vF z5 d5 SL FL EE :=
  ⟨blk_on h.bx d, own_below h.rs d, own_below h.rf d, own_below h.re d, h.ne, h.be.trans (d.mono h.be.size), h.ge⟩
end Go.Proofs.YtchoopnjckcohaaGreat
