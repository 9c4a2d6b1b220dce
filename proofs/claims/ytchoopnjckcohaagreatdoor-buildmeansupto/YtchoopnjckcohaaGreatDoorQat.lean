import Derived.Test.YtchoopnjckcohaaGreatDoorQao
import Derived.Lib.AppendZerosOnto
set_option maxRecDepth 100000
set_option maxHeartbeats 40000000
namespace Go.Proofs.YtchoopnjckcohaaGreatDoor
open Go.RowKit Go.Maps Go.Shelf
attribute [local go_sem] Oper.semAt_some
theorem grow_any (w : World) (n : Nat) (hn : n ≤ 8388608) :
 Calls Tryz.prog 124 #[.slice none 0 0, .int .i64 (n : Int)] w fun e w' => ∃ v, e = .returned v ∧ Hid (w'.ownsRow w.heap.size 3 1 v 0 [] ∧ Below w.heap.size w w') := by
 obtain ⟨i9, hi9, hz90, hz91, hz92⟩ := info_parts info3
 by_cases h0 : n = 0
 · subst h0
   go_enter Tryz.func124, Tryz.ntmps124
   go_wp2_with fail
   go_ret
   exact ⟨_, rfl, hide ⟨World.ownsRow_nil _ _ _ _, Below.refl _ _⟩⟩
 · have h1 : ¬ ((n : Int) < 0) := by omega
   have h4 : (n : Int) > 0 := by omega
   have hrz : ∀ ty, (Builtin.append_ #[22, 3] ty #[.slice none 0 0, .int .i64 (n : Int)]).run Tryz.prog w =
    .ok (.slice (some ⟨w.heap.size, 0, none⟩) n (grownCap w n 0 3)) (w.drew.alloc (.cells (([] : List Value).toArray ++ Builtin.zeroCells (Value.int .i64 0).cells n ++ Builtin.zeroCells (Value.int .i64 0).cells (grownCap w n 0 3 - n)) 3)) := fun ty => by
    have q := Lib.run_append_grow_zeros w 22 3 ty 3 i9 (.int .i64 0) .i64 .i64 Tryz.underlying22 Tryz.underlying3 hi9 hz90 none 0 0 [] (run_firstCells_none w.drew i9.size 0 0 0) n (by omega) (by omega) (by omega) (by omega) (by rw [hz92]; omega) (by rw [Nat.zero_add, nextslicecap_zero (by omega), hz92]; omega)
    rw [Nat.zero_add] at q
    exact q
   have hGn : n ≤ grownCap w n 0 3 := grownCap_ge w _ _ _
   have hG63 := grownCap_le_maxLen w n 0 3 (by unfold maxLen; omega)
   generalize grownCap w n 0 3 = G at hrz hGn hG63
   have hG64 : G ≤ 9223372036854775807 := by unfold maxLen at hG63; omega
   obtain ⟨Wn, hWn⟩ : ∃ Wn, w.drew.alloc (.cells (([] : List Value).toArray ++ Builtin.zeroCells (Value.int .i64 0).cells n ++ Builtin.zeroCells (Value.int .i64 0).cells (G - n)) 3) = Wn := ⟨_, rfl⟩
   rw [hWn] at hrz
   have J : Hid (Wn.ownsRow w.heap.size 3 1 (.slice (some ⟨w.heap.size, 0, none⟩) 0 G) 0 [] ∧ Below w.heap.size w Wn) := hide (by
    rw [← hWn]
    refine ⟨⟨rfl, .inr ⟨w.heap.size, G, _, rfl, Nat.le_refl _, World.alloc_heap_new w.drew _, Nat.zero_le _, hG63, ?_, by simp⟩⟩, ?_⟩
    · rw [Array.size_append, Array.size_append, size_zeroCells, size_zeroCells]
      simp [Value.cells]
      omega
    · have q : Below w.heap.size w w.drew := ⟨rfl, rfl, rfl, Nat.le_refl _, fun _ _ => rfl⟩
      exact q.alloc (Nat.le_refl _) _)
   clear hWn
   go_enter Tryz.func124, Tryz.ntmps124
   go_wp2_with (at_builtin; refine Lib.wpList_append_run _ rfl _ _ _ _ rfl _ _ rfl rfl _ _ (hrz _) ?_)
   all_goals (go_ret; exact ⟨_, rfl, J⟩)
theorem concat_any (w : World) (h : Nat) (a1 a2 : Option Addr) (n1 n2 c1 c2 : Nat) (L1 L2 : List Int) (e1 : L1.length = n1) (e2 : L2.length = n2) (hl1 : n1 ≤ 4194304) (hl2 : n2 ≤ 4194304) (z1 : a1 = none → c1 = 0) (z2 : a2 = none → c2 = 0) (h1 : Hid (RdN w a1 L1)) (h2 : Hid (RdN w a2 L2)) (hb : w.heap[h]? = some (.cells #[.slice a1 n1 c1, .slice a2 n2 c2] 22 (0, 0))) :
 Calls Tryz.prog 83 #[.slice (some ⟨h, 0, none⟩) 2 2] w fun e w' => ∃ v, e = .returned v ∧ Hid (w'.ownsRow w.heap.size 3 1 v (L1 ++ L2).length ((L1 ++ L2).map (Value.int .i64)) ∧ Below w.heap.size w w') := by
 have HL := hide (And.intro e1 e2)
 clear e1 e2
 have hb : Hid (∀ W, Below w.heap.size w W → W.heap[h]? = some (.cells #[.slice a1 n1 c1, .slice a2 n2 c2] 22 (0, 0))) := hide (fun W d => blk_on hb d)
 go_enter Tryz.func83, Tryz.ntmps83
 go_wp2_with fail
 go_loopw [3, 11] (fun sv iv wr => Hid (Below w.heap.size w wr) ∧ ((sv = .int .i64 0 ∧ iv = .int .i64 0) ∨ (sv = .int .i64 (n1 : Int) ∧ iv = .int .i64 1) ∨ (sv = .int .i64 ((n1 : Int) + (n2 : Int)) ∧ iv = .int .i64 2))) (fun _ iv _ => 2 - (intOf iv).toNat)
 case atStart => exact ⟨hide (Below.refl _ _), .inl ⟨rfl, rfl⟩⟩
 case round =>
  obtain ⟨HY, hc⟩ := hrel
  rcases hc with ⟨rfl, rfl⟩ | ⟨rfl, rfl⟩ | ⟨rfl, rfl⟩
  · have q0 := hb.out wr HY.out
    have q : wr.cell? ⟨h, 0, none⟩ = some (.slice a1 n1 c1) := cell_of q0 rfl
    clear q0
    have r0 : ¬ (n1 : Int) < 0 := by omega
    have r1 : IntKind.i64.wrap (n1 : Int) = (n1 : Int) := by rw [IntKind.wrap_i64]; omega
    go_wp2_with fail
    refine ⟨⟨HY, .inr (.inl ⟨by simp, by simp⟩)⟩, by simp [intOf]⟩
  · have q0 := hb.out wr HY.out
    have q : wr.cell? ⟨h, 1, none⟩ = some (.slice a2 n2 c2) := cell_of q0 rfl
    clear q0
    have r0 : ¬ (n1 : Int) + (n2 : Int) < 0 := by omega
    have r1 : IntKind.i64.wrap ((n1 : Int) + (n2 : Int)) = (n1 : Int) + (n2 : Int) := by rw [IntKind.wrap_i64]; omega
    go_wp2_with fail
    refine ⟨⟨HY, .inr (.inr ⟨by simp, by simp⟩)⟩, by simp [intOf]⟩
  · have TG := grow_any wr (n1 + n2) (by omega)
    rw [show ((n1 + n2 : Nat) : Int) = (n1 : Int) + (n2 : Int) by omega] at TG
    go_wp2_with (go_at_call 124; refine TG.mono ?_; rintro e w1 ⟨v6, rfl, H6⟩)
    clear TG
    have H0 : Hid (w1.ownsRow w.heap.size 3 1 v6 0 [] ∧ Below w.heap.size w w1) := hide ⟨owns_down H6.out.1 HY.out.size, HY.out.trans (H6.out.2.mono HY.out.size)⟩
    clear HY H6
    go_loopw [6, 27] (fun v6 iv wr => ∃ i : Nat, i ≤ 2 ∧ iv = .int .i64 (i : Int) ∧ Hid (wr.ownsRow w.heap.size 3 1 v6 (if i = 0 then [] else if i = 1 then L1 else L1 ++ L2).length ((if i = 0 then [] else if i = 1 then L1 else L1 ++ L2).map (Value.int .i64)) ∧ Below w.heap.size w wr)) (fun _ iv _ => 2 - (intOf iv).toNat)
    case atStart => exact ⟨0, by omega, rfl, H0⟩
    case round =>
     obtain ⟨i, hi, rfl, HY⟩ := hrel
     clear H0
     rcases (show i = 0 ∨ i = 1 ∨ i = 2 by omega) with rfl | rfl | rfl
     · have HY : Hid (wr.ownsRow w.heap.size 3 1 u6 ([] : List Int).length (([] : List Int).map (Value.int .i64)) ∧ Below w.heap.size w wr) := HY
       have q0 := hb.out wr HY.out.2
       have q : wr.cell? ⟨h, 0, none⟩ = some (.slice a1 n1 c1) := cell_of q0 rfl
       clear q0
       go_wp2_with (at_builtin; refine wpList_appL rfl _ _ rfl w.heap.size u6 ([] : List Int) rfl HY.out.1 a1 n1 c1 L1 HL.out.1 z1 rfl (h1.out.on HY.out.2) (by have := HL.out; simp only [List.length_nil]; omega) HY.out.2.size ?_; intro v5 w5 HO5 HG5)
       refine ⟨⟨1, by omega, by go_num, hide ⟨HO5.out, HY.out.2.trans (HG5.out.toBelow HY.out.2.size (fun k hk => (HY.out.1.lt k hk).1))⟩⟩, by simp [intOf]⟩
     · have HY : Hid (wr.ownsRow w.heap.size 3 1 u6 L1.length (L1.map (Value.int .i64)) ∧ Below w.heap.size w wr) := HY
       have q0 := hb.out wr HY.out.2
       have q : wr.cell? ⟨h, 1, none⟩ = some (.slice a2 n2 c2) := cell_of q0 rfl
       clear q0
       go_wp2_with (at_builtin; refine wpList_appL rfl _ _ rfl w.heap.size u6 L1 rfl HY.out.1 a2 n2 c2 L2 HL.out.2 z2 rfl (h2.out.on HY.out.2) (by have := HL.out; omega) HY.out.2.size ?_; intro v5 w5 HO5 HG5)
       refine ⟨⟨2, by omega, by go_num, hide ⟨HO5.out, HY.out.2.trans (HG5.out.toBelow HY.out.2.size (fun k hk => (HY.out.1.lt k hk).1))⟩⟩, by simp [intOf]⟩
     · have HY : Hid (wr.ownsRow w.heap.size 3 1 u6 (L1 ++ L2).length ((L1 ++ L2).map (Value.int .i64)) ∧ Below w.heap.size w wr) := HY
       go_wp2_with fail
       refine bodyPost_ret (results_tmp rfl _ _ _) rfl ?_
       exact ⟨_, rfl, HY⟩
theorem results_c2 {P : Program} {fn : Func} {p q r : Tmp} {ty : TypeId} (h : fn.results = #[.cell p ty, .cell q ty, .tmp r]) (tmps : Array Value) (w : World) (g g' : Nat) (t : TypeId) (cs cs' : Array Value) (fr : Nat × Nat) (d : TypeDesc) (x : Value)
 (hp : tmps.getD p undef = .pointer (some ⟨g, 0, none⟩)) (hp2 : tmps.getD q undef = .pointer (some ⟨g', 0, none⟩)) (hq : tmps.getD r undef = x) (hg : w.heap[g]? = some (.cells cs t fr)) (hg2 : w.heap[g']? = some (.cells cs' t fr))
 (hu : P.underlying ty = some d) (hd : (match d with | .struct _ | .array _ _ => true | _ => false) = true) (hi : (P.info? ty).map (·.size) = some cs.size) (hi2 : (P.info? ty).map (·.size) = some cs'.size) :
 (results fn tmps).run P w = .ok (.tuple #[.agg cs, .agg cs', x]) w := by
 have hp' : tmps[p]?.getD undef = .pointer (some ⟨g, 0, none⟩) := by simpa using hp
 have hp2' : tmps[q]?.getD undef = .pointer (some ⟨g', 0, none⟩) := by simpa using hp2
 have hq' : tmps[r]?.getD undef = x := by simpa using hq
 simp [results, h, hp', hp2', hq', asAddr, run_loadVar_row w g t ty cs fr d hg hu hd hi, run_loadVar_row w g' t ty cs' fr d hg2 hu hd hi2]
theorem two5 {W : World} {g g' : Nat} {v0 v1 v2 v3 v4 u0 u1 u2 u3 u4 x0 x1 x2 x3 x4 z0 z1 z2 z3 z4 : Value} (h : W.heap[g]? = some (.cells #[v0, v1, v2, v3, v4] 25 (0, 0))) (h' : W.heap[g']? = some (.cells #[u0, u1, u2, u3, u4] 25 (0, 0))) (ne : g ≠ g') :
 ((((((((((W.setCell ⟨g, 0, none⟩ (x0)).setCell ⟨g, 1, none⟩ (x1)).setCell ⟨g, 2, none⟩ (x2)).setCell ⟨g, 3, none⟩ (x3)).setCell ⟨g, 4, none⟩ (x4)).setCell ⟨g', 0, none⟩ (z0)).setCell ⟨g', 1, none⟩ (z1)).setCell ⟨g', 2, none⟩ (z2)).setCell ⟨g', 3, none⟩ (z3)).setCell ⟨g', 4, none⟩ (z4)).heap[g]? = some (.cells #[x0, x1, x2, x3, x4] 25 (0, 0)) ∧ ((((((((((W.setCell ⟨g, 0, none⟩ (x0)).setCell ⟨g, 1, none⟩ (x1)).setCell ⟨g, 2, none⟩ (x2)).setCell ⟨g, 3, none⟩ (x3)).setCell ⟨g, 4, none⟩ (x4)).setCell ⟨g', 0, none⟩ (z0)).setCell ⟨g', 1, none⟩ (z1)).setCell ⟨g', 2, none⟩ (z2)).setCell ⟨g', 3, none⟩ (z3)).setCell ⟨g', 4, none⟩ (z4)).heap[g']? = some (.cells #[z0, z1, z2, z3, z4] 25 (0, 0)) ∧ Only W ((((((((((W.setCell ⟨g, 0, none⟩ (x0)).setCell ⟨g, 1, none⟩ (x1)).setCell ⟨g, 2, none⟩ (x2)).setCell ⟨g, 3, none⟩ (x3)).setCell ⟨g, 4, none⟩ (x4)).setCell ⟨g', 0, none⟩ (z0)).setCell ⟨g', 1, none⟩ (z1)).setCell ⟨g', 2, none⟩ (z2)).setCell ⟨g', 3, none⟩ (z3)).setCell ⟨g', 4, none⟩ (z4)) (fun k => k = g ∨ k = g') := by
 have s1 := set5 W g _ _ _ _ _ x0 x1 x2 x3 x4 25 h
 have o1 := only5 W g x0 x1 x2 x3 x4
 have t1 := (o1.block g' (Array.getElem?_eq_some_iff.1 h').1 (fun e => ne e.symm)).trans h'
 generalize (((((W.setCell ⟨g, 0, none⟩ (x0)).setCell ⟨g, 1, none⟩ (x1)).setCell ⟨g, 2, none⟩ (x2)).setCell ⟨g, 3, none⟩ (x3)).setCell ⟨g, 4, none⟩ (x4)) = W1 at s1 o1 t1 ⊢
 have s2 := set5 W1 g' _ _ _ _ _ z0 z1 z2 z3 z4 25 t1
 have o2 := only5 W1 g' z0 z1 z2 z3 z4
 have s3 := (o2.block g (Array.getElem?_eq_some_iff.1 s1).1 (fun e => ne e)).trans s1
 exact ⟨s3, s2, ⟨o2.os.trans o1.os, o2.tape.trans o1.tape, o2.output.trans o1.output, Nat.le_trans o1.size o2.size, fun k hk hn => (o2.block k (Nat.lt_of_lt_of_le hk o1.size) (fun e => hn (.inr e))).trans (o1.block k hk (fun e => hn (.inl e)))⟩⟩
theorem both_a (w : World) (n m n' m' : Int) (a1 a2 a3 b1 b2 b3 : Option Addr) (c1 c2 c3 d1 d2 d3 : Nat) (Sa Fa Sb Fb : List Int) (Ea Eb : List EdT) (hA : Hid (RdA w a1 a2 a3 Sa Fa Ea)) (_hB : Hid (RdA w b1 b2 b3 Sb Fb Eb)) (h1 : Sa.length ≤ 4194304) (h2 : Fa.length ≤ 4194304) (h3 : Ea.length ≤ 4194304) (_h4 : Sb.length ≤ 4194304) (_h5 : Fb.length ≤ 4194304) (_h6 : Eb.length ≤ 4194304) (em : mayA n m Sa Fa Ea = false) :
 Calls Tryz.prog 55 #[.agg #[.int .i64 n, .int .i64 m, .slice a1 Sa.length c1, .slice a2 Fa.length c2, .slice a3 Ea.length c3], .agg #[.int .i64 n', .int .i64 m', .slice b1 Sb.length d1, .slice b2 Fb.length d2, .slice b3 Eb.length d3]] w fun e w' => e = .returned (.tuple #[.agg #[.int .i64 0, .int .i64 0, .slice none 0 0, .slice none 0 0, .slice none 0 0], .agg #[.int .i64 0, .int .i64 0, .slice none 0 0, .slice none 0 0, .slice none 0 0], .int .i64 2]) ∧ Below w.heap.size w w' := by
 obtain ⟨W0, hW0⟩ : ∃ W0, (((w.alloc (.cells #[.int .i64 n, .int .i64 m, .slice a1 Sa.length c1, .slice a2 Fa.length c2, .slice a3 Ea.length c3] 25)).alloc (.cells #[.int .i64 n', .int .i64 m', .slice b1 Sb.length d1, .slice b2 Fb.length d2, .slice b3 Eb.length d3] 25)).alloc (.cells #[.int .i64 0, .int .i64 0, .slice none 0 0, .slice none 0 0, .slice none 0 0] 25)).alloc (.cells #[.int .i64 0, .int .i64 0, .slice none 0 0, .slice none 0 0, .slice none 0 0] 25) = W0 := ⟨_, rfl⟩
 have HD := hide (And.intro (box4 w (.cells #[.int .i64 n, .int .i64 m, .slice a1 Sa.length c1, .slice a2 Fa.length c2, .slice a3 Ea.length c3] 25) (.cells #[.int .i64 n', .int .i64 m', .slice b1 Sb.length d1, .slice b2 Fb.length d2, .slice b3 Eb.length d3] 25) (.cells #[.int .i64 0, .int .i64 0, .slice none 0 0, .slice none 0 0, .slice none 0 0] 25) (.cells #[.int .i64 0, .int .i64 0, .slice none 0 0, .slice none 0 0, .slice none 0 0] 25)) (show ((((w.alloc (.cells #[.int .i64 n, .int .i64 m, .slice a1 Sa.length c1, .slice a2 Fa.length c2, .slice a3 Ea.length c3] 25)).alloc (.cells #[.int .i64 n', .int .i64 m', .slice b1 Sb.length d1, .slice b2 Fb.length d2, .slice b3 Eb.length d3] 25)).alloc (.cells #[.int .i64 0, .int .i64 0, .slice none 0 0, .slice none 0 0, .slice none 0 0] 25)).alloc (.cells #[.int .i64 0, .int .i64 0, .slice none 0 0, .slice none 0 0, .slice none 0 0] 25)).heap.size = w.heap.size + 4 by simp))
 rw [hW0] at HD
 obtain ⟨y0, y1, y2, y3, y4⟩ := zd5 HD.out.1.2.1 rfl rfl rfl rfl rfl
 have TN := normal_bad W0 n m a1 a2 a3 c1 c2 c3 Sa Fa Ea (hide (hA.out.on HD.out.1.1)) h1 h2 h3 em
 clear em
 go_enter Tryz.func55, Tryz.ntmps55
 go_upto_region 3 with (go_at_call 48; refine TN.mono ?_; rintro e w1 ⟨rfl, D1⟩; have HF1 := hide D1; have F4 := blk_on HD.out.1.2.2.2.1 D1; obtain ⟨o0, o1, o2, o3, o4⟩ := zd5 F4 rfl rfl rfl rfl rfl; have f0 : w1.frozen? ⟨w.heap.size + 1 + 1, 0, none⟩ = false := fz_of F4; have f1 : w1.frozen? ⟨w.heap.size + 1 + 1, 1, none⟩ = false := fz_of F4; have f2 : w1.frozen? ⟨w.heap.size + 1 + 1, 2, none⟩ = false := fz_of F4; have f3 : w1.frozen? ⟨w.heap.size + 1 + 1, 3, none⟩ = false := fz_of F4; have f4 : w1.frozen? ⟨w.heap.size + 1 + 1, 4, none⟩ = false := fz_of F4; clear F4 D1)
 obtain ⟨W2, hW2⟩ : ∃ W2, (((((w1.setCell ⟨w.heap.size + 1 + 1, 0, none⟩ (.int .i64 0)).setCell ⟨w.heap.size + 1 + 1, 1, none⟩ (.int .i64 0)).setCell ⟨w.heap.size + 1 + 1, 2, none⟩ (.slice none 0 0)).setCell ⟨w.heap.size + 1 + 1, 3, none⟩ (.slice none 0 0)).setCell ⟨w.heap.size + 1 + 1, 4, none⟩ (.slice none 0 0)) = W2 := ⟨_, rfl⟩
 rw [hW2]
 have H2 : Hid (W2.heap[w.heap.size + 1 + 1]? = some (.cells #[.int .i64 0, .int .i64 0, .slice none 0 0, .slice none 0 0, .slice none 0 0] 25 (0, 0)) ∧ W2.heap[w.heap.size + 1 + 1 + 1]? = some (.cells #[.int .i64 0, .int .i64 0, .slice none 0 0, .slice none 0 0, .slice none 0 0] 25 (0, 0)) ∧ Below w.heap.size w W2) := hide (by
  have q4 := blk_on HD.out.1.2.2.2.1 HF1.out
  have q5 := blk_on HD.out.1.2.2.2.2 HF1.out
  have o := only5 w1 (w.heap.size + 1 + 1) (.int .i64 0) (.int .i64 0) (.slice none 0 0) (.slice none 0 0) (.slice none 0 0)
  have d := HD.out.1.1.trans (HF1.out.mono HD.out.1.1.size)
  rw [← hW2]
  exact ⟨set5 w1 (w.heap.size + 1 + 1) _ _ _ _ _ _ _ _ _ _ 25 q4, (o.block _ (Array.getElem?_eq_some_iff.1 q5).1 (by omega)).trans q5, d.trans (o.toBelow d.size (fun k hk => by omega))⟩)
 clear hW2 HF1 o0 f0 o1 f1 o2 f2 o3 f3 o4 f4
 obtain ⟨o0, o1, o2, o3, o4⟩ := zd5 H2.out.1 rfl rfl rfl rfl rfl
 have f0 : W2.frozen? ⟨w.heap.size + 1 + 1, 0, none⟩ = false := fz_of H2.out.1
 have f1 : W2.frozen? ⟨w.heap.size + 1 + 1, 1, none⟩ = false := fz_of H2.out.1
 have f2 : W2.frozen? ⟨w.heap.size + 1 + 1, 2, none⟩ = false := fz_of H2.out.1
 have f3 : W2.frozen? ⟨w.heap.size + 1 + 1, 3, none⟩ = false := fz_of H2.out.1
 have f4 : W2.frozen? ⟨w.heap.size + 1 + 1, 4, none⟩ = false := fz_of H2.out.1
 obtain ⟨p0, p1, p2, p3, p4⟩ := zd5 H2.out.2.1 rfl rfl rfl rfl rfl
 have g0 : W2.frozen? ⟨w.heap.size + 1 + 1 + 1, 0, none⟩ = false := fz_of H2.out.2.1
 have g1 : W2.frozen? ⟨w.heap.size + 1 + 1 + 1, 1, none⟩ = false := fz_of H2.out.2.1
 have g2 : W2.frozen? ⟨w.heap.size + 1 + 1 + 1, 2, none⟩ = false := fz_of H2.out.2.1
 have g3 : W2.frozen? ⟨w.heap.size + 1 + 1 + 1, 3, none⟩ = false := fz_of H2.out.2.1
 have g4 : W2.frozen? ⟨w.heap.size + 1 + 1 + 1, 4, none⟩ = false := fz_of H2.out.2.1
 have O6 := hide (two5 (x0 := .int .i64 0) (x1 := .int .i64 0) (x2 := .slice none 0 0) (x3 := .slice none 0 0) (x4 := .slice none 0 0) (z0 := .int .i64 0) (z1 := .int .i64 0) (z2 := .slice none 0 0) (z3 := .slice none 0 0) (z4 := .slice none 0 0) H2.out.1 H2.out.2.1 (by omega))
 go_wp2_with fail
 refine bodyPost_ret (results_c2 (p := 4) (q := 5) (r := 6) (ty := 25) rfl _ _ (w.heap.size + 1 + 1) (w.heap.size + 1 + 1 + 1) 25 _ _ (0, 0) _ _ rfl rfl rfl O6.out.1 O6.out.2.1 Tryz.underlying25 rfl (by kernel_rfl) (by kernel_rfl)) rfl ?_
 exact ⟨rfl, H2.out.2.2.trans (O6.out.2.2.toBelow H2.out.2.2.size (fun k hk => by omega))⟩
theorem ownO_own {B : Nat} {w : World} {g1 k1 g2 k2 g3 k3 : Nat} {S F : List Int} {E : List EdT} (h : Own B w g1 k1 g2 k2 g3 k3 S F E) : OwnO B w (.slice (some ⟨g1, 0, none⟩) S.length k1) (.slice (some ⟨g2, 0, none⟩) F.length k2) (.slice (some ⟨g3, 0, none⟩) E.length k3) S F E :=
 ⟨h.s, h.f, h.e, fun g hg hh => by
  simp only [Value.ownBlock, Option.some.injEq] at hg hh
  exact h.n12 (hg.trans hh.symm)⟩
theorem both_b (w : World) (n m n' m' : Int) (a1 a2 a3 b1 b2 b3 : Option Addr) (c1 c2 c3 d1 d2 d3 : Nat) (Sa Fa Sb Fb : List Int) (Ea Eb : List EdT) (hA : Hid (RdA w a1 a2 a3 Sa Fa Ea)) (hB : Hid (RdA w b1 b2 b3 Sb Fb Eb)) (h1 : Sa.length ≤ 4194304) (h2 : Fa.length ≤ 4194304) (h3 : Ea.length ≤ 4194304) (h4 : Sb.length ≤ 4194304) (h5 : Fb.length ≤ 4194304) (h6 : Eb.length ≤ 4194304) (em : mayA n m Sa Fa Ea = true) (em' : mayA n' m' Sb Fb Eb = false) :
 Calls Tryz.prog 55 #[.agg #[.int .i64 n, .int .i64 m, .slice a1 Sa.length c1, .slice a2 Fa.length c2, .slice a3 Ea.length c3], .agg #[.int .i64 n', .int .i64 m', .slice b1 Sb.length d1, .slice b2 Fb.length d2, .slice b3 Eb.length d3]] w fun e w' => e = .returned (.tuple #[.agg #[.int .i64 0, .int .i64 0, .slice none 0 0, .slice none 0 0, .slice none 0 0], .agg #[.int .i64 0, .int .i64 0, .slice none 0 0, .slice none 0 0, .slice none 0 0], .int .i64 2]) ∧ Below w.heap.size w w' := by
 obtain ⟨W0, hW0⟩ : ∃ W0, (((w.alloc (.cells #[.int .i64 n, .int .i64 m, .slice a1 Sa.length c1, .slice a2 Fa.length c2, .slice a3 Ea.length c3] 25)).alloc (.cells #[.int .i64 n', .int .i64 m', .slice b1 Sb.length d1, .slice b2 Fb.length d2, .slice b3 Eb.length d3] 25)).alloc (.cells #[.int .i64 0, .int .i64 0, .slice none 0 0, .slice none 0 0, .slice none 0 0] 25)).alloc (.cells #[.int .i64 0, .int .i64 0, .slice none 0 0, .slice none 0 0, .slice none 0 0] 25) = W0 := ⟨_, rfl⟩
 have HD := hide (And.intro (box4 w (.cells #[.int .i64 n, .int .i64 m, .slice a1 Sa.length c1, .slice a2 Fa.length c2, .slice a3 Ea.length c3] 25) (.cells #[.int .i64 n', .int .i64 m', .slice b1 Sb.length d1, .slice b2 Fb.length d2, .slice b3 Eb.length d3] 25) (.cells #[.int .i64 0, .int .i64 0, .slice none 0 0, .slice none 0 0, .slice none 0 0] 25) (.cells #[.int .i64 0, .int .i64 0, .slice none 0 0, .slice none 0 0, .slice none 0 0] 25)) (show ((((w.alloc (.cells #[.int .i64 n, .int .i64 m, .slice a1 Sa.length c1, .slice a2 Fa.length c2, .slice a3 Ea.length c3] 25)).alloc (.cells #[.int .i64 n', .int .i64 m', .slice b1 Sb.length d1, .slice b2 Fb.length d2, .slice b3 Eb.length d3] 25)).alloc (.cells #[.int .i64 0, .int .i64 0, .slice none 0 0, .slice none 0 0, .slice none 0 0] 25)).alloc (.cells #[.int .i64 0, .int .i64 0, .slice none 0 0, .slice none 0 0, .slice none 0 0] 25)).heap.size = w.heap.size + 4 by simp))
 rw [hW0] at HD
 obtain ⟨y0, y1, y2, y3, y4⟩ := zd5 HD.out.1.2.1 rfl rfl rfl rfl rfl
 have TN := normal_ok W0 n m a1 a2 a3 c1 c2 c3 Sa Fa Ea (hide (hA.out.on HD.out.1.1)) h1 h2 h3 em
 obtain ⟨S1, hS1⟩ : ∃ X, riseL Sa = X := ⟨_, rfl⟩
 obtain ⟨F1, hF1⟩ : ∃ X, riseL Fa = X := ⟨_, rfl⟩
 obtain ⟨E1, hE1⟩ : ∃ X, riseE Ea = X := ⟨_, rfl⟩
 rw [hS1, hF1, hE1] at TN
 clear em hS1 hF1 hE1
 go_enter Tryz.func55, Tryz.ntmps55
 go_upto_region 4 with (go_at_call 48; refine TN.mono ?_; rintro e w1 ⟨g1, k1, g2, k2, g3, k3, rfl, HO, D1⟩; have HF1 := hide (And.intro D1 HO); have F4 := blk_on HD.out.1.2.2.2.1 D1; obtain ⟨o0, o1, o2, o3, o4⟩ := zd5 F4 rfl rfl rfl rfl rfl; have f0 : w1.frozen? ⟨w.heap.size + 1 + 1, 0, none⟩ = false := fz_of F4; have f1 : w1.frozen? ⟨w.heap.size + 1 + 1, 1, none⟩ = false := fz_of F4; have f2 : w1.frozen? ⟨w.heap.size + 1 + 1, 2, none⟩ = false := fz_of F4; have f3 : w1.frozen? ⟨w.heap.size + 1 + 1, 3, none⟩ = false := fz_of F4; have f4 : w1.frozen? ⟨w.heap.size + 1 + 1, 4, none⟩ = false := fz_of F4; clear F4 D1 HO)
 obtain ⟨W2, hW2⟩ : ∃ W2, (((((w1.setCell ⟨w.heap.size + 1 + 1, 0, none⟩ (.int .i64 n)).setCell ⟨w.heap.size + 1 + 1, 1, none⟩ (.int .i64 m)).setCell ⟨w.heap.size + 1 + 1, 2, none⟩ (.slice (some ⟨g1, 0, none⟩) S1.length k1)).setCell ⟨w.heap.size + 1 + 1, 3, none⟩ (.slice (some ⟨g2, 0, none⟩) F1.length k2)).setCell ⟨w.heap.size + 1 + 1, 4, none⟩ (.slice (some ⟨g3, 0, none⟩) E1.length k3)) = W2 := ⟨_, rfl⟩
 rw [hW2]
 have H2 : Hid (W2.heap[w.heap.size + 1 + 1]? = some (.cells #[.int .i64 n, .int .i64 m, .slice (some ⟨g1, 0, none⟩) S1.length k1, .slice (some ⟨g2, 0, none⟩) F1.length k2, .slice (some ⟨g3, 0, none⟩) E1.length k3] 25 (0, 0)) ∧ W2.heap[w.heap.size + 1 + 1 + 1]? = some (.cells #[.int .i64 0, .int .i64 0, .slice none 0 0, .slice none 0 0, .slice none 0 0] 25 (0, 0)) ∧ Below w.heap.size w W2 ∧ W2.heap[w.heap.size + 1]? = some (.cells #[.int .i64 n', .int .i64 m', .slice b1 Sb.length d1, .slice b2 Fb.length d2, .slice b3 Eb.length d3] 25 (0, 0)) ∧ OwnO w.heap.size W2 (.slice (some ⟨g1, 0, none⟩) S1.length k1) (.slice (some ⟨g2, 0, none⟩) F1.length k2) (.slice (some ⟨g3, 0, none⟩) E1.length k3) S1 F1 E1) := hide (by
  have q4 := blk_on HD.out.1.2.2.2.1 HF1.out.1
  have q5 := blk_on HD.out.1.2.2.2.2 HF1.out.1
  have q1 := blk_on HD.out.1.2.2.1 HF1.out.1
  have o := only5 w1 (w.heap.size + 1 + 1) (.int .i64 n) (.int .i64 m) (.slice (some ⟨g1, 0, none⟩) S1.length k1) (.slice (some ⟨g2, 0, none⟩) F1.length k2) (.slice (some ⟨g3, 0, none⟩) E1.length k3)
  have d := HD.out.1.1.trans (HF1.out.1.mono HD.out.1.1.size)
  have s0 := HD.out.1.1.size
  have ow : OwnO W0.heap.size w1 (.slice (some ⟨g1, 0, none⟩) S1.length k1) (.slice (some ⟨g2, 0, none⟩) F1.length k2) (.slice (some ⟨g3, 0, none⟩) E1.length k3) S1 F1 E1 := ownO_own HF1.out.2
  rw [← hW2]
  exact ⟨set5 w1 (w.heap.size + 1 + 1) _ _ _ _ _ _ _ _ _ _ 25 q4, (o.block _ (Array.getElem?_eq_some_iff.1 q5).1 (by omega)).trans q5, d.trans (o.toBelow d.size (fun k hk => by omega)), (o.block _ (Array.getElem?_eq_some_iff.1 q1).1 (by omega)).trans q1, (ow.keep q4 o).down (by omega)⟩)
 clear hW2 HF1 TN o0 f0 y0 o1 f1 y1 o2 f2 y2 o3 f3 y3 o4 f4 y4
 obtain ⟨y0, y1, y2, y3, y4⟩ := zd5 H2.out.2.2.2.1 rfl rfl rfl rfl rfl
 have TB := normal_bad W2 n' m' b1 b2 b3 d1 d2 d3 Sb Fb Eb (hide (hB.out.on H2.out.2.2.1)) h4 h5 h6 em'
 clear em'
 go_upto_region 6 with (go_at_call 48; refine TB.mono ?_; rintro e w3 ⟨rfl, D3⟩; have HF3 := hide D3; have F5 := blk_on H2.out.2.1 D3; obtain ⟨o0, o1, o2, o3, o4⟩ := zd5 F5 rfl rfl rfl rfl rfl; have f0 : w3.frozen? ⟨w.heap.size + 1 + 1 + 1, 0, none⟩ = false := fz_of F5; have f1 : w3.frozen? ⟨w.heap.size + 1 + 1 + 1, 1, none⟩ = false := fz_of F5; have f2 : w3.frozen? ⟨w.heap.size + 1 + 1 + 1, 2, none⟩ = false := fz_of F5; have f3 : w3.frozen? ⟨w.heap.size + 1 + 1 + 1, 3, none⟩ = false := fz_of F5; have f4 : w3.frozen? ⟨w.heap.size + 1 + 1 + 1, 4, none⟩ = false := fz_of F5; clear F5 D3)
 obtain ⟨W4, hW4⟩ : ∃ W4, (((((w3.setCell ⟨w.heap.size + 1 + 1 + 1, 0, none⟩ (.int .i64 0)).setCell ⟨w.heap.size + 1 + 1 + 1, 1, none⟩ (.int .i64 0)).setCell ⟨w.heap.size + 1 + 1 + 1, 2, none⟩ (.slice none 0 0)).setCell ⟨w.heap.size + 1 + 1 + 1, 3, none⟩ (.slice none 0 0)).setCell ⟨w.heap.size + 1 + 1 + 1, 4, none⟩ (.slice none 0 0)) = W4 := ⟨_, rfl⟩
 rw [hW4]
 have H4 : Hid (W4.heap[w.heap.size + 1 + 1]? = some (.cells #[.int .i64 n, .int .i64 m, .slice (some ⟨g1, 0, none⟩) S1.length k1, .slice (some ⟨g2, 0, none⟩) F1.length k2, .slice (some ⟨g3, 0, none⟩) E1.length k3] 25 (0, 0)) ∧ W4.heap[w.heap.size + 1 + 1 + 1]? = some (.cells #[.int .i64 0, .int .i64 0, .slice none 0 0, .slice none 0 0, .slice none 0 0] 25 (0, 0)) ∧ Below w.heap.size w W4) := hide (by
  have q4 := blk_on H2.out.1 HF3.out
  have q5 := blk_on H2.out.2.1 HF3.out
  have o := only5 w3 (w.heap.size + 1 + 1 + 1) (.int .i64 0) (.int .i64 0) (.slice none 0 0) (.slice none 0 0) (.slice none 0 0)
  have d := H2.out.2.2.1.trans (HF3.out.mono H2.out.2.2.1.size)
  rw [← hW4]
  exact ⟨(o.block _ (Array.getElem?_eq_some_iff.1 q4).1 (by omega)).trans q4, set5 w3 (w.heap.size + 1 + 1 + 1) _ _ _ _ _ _ _ _ _ _ 25 q5, d.trans (o.toBelow d.size (fun k hk => by omega))⟩)
 clear hW4 HF3 TB H2 o0 f0 y0 o1 f1 y1 o2 f2 y2 o3 f3 y3 o4 f4 y4
 obtain ⟨o0, o1, o2, o3, o4⟩ := zd5 H4.out.1 rfl rfl rfl rfl rfl
 have f0 : W4.frozen? ⟨w.heap.size + 1 + 1, 0, none⟩ = false := fz_of H4.out.1
 have f1 : W4.frozen? ⟨w.heap.size + 1 + 1, 1, none⟩ = false := fz_of H4.out.1
 have f2 : W4.frozen? ⟨w.heap.size + 1 + 1, 2, none⟩ = false := fz_of H4.out.1
 have f3 : W4.frozen? ⟨w.heap.size + 1 + 1, 3, none⟩ = false := fz_of H4.out.1
 have f4 : W4.frozen? ⟨w.heap.size + 1 + 1, 4, none⟩ = false := fz_of H4.out.1
 obtain ⟨p0, p1, p2, p3, p4⟩ := zd5 H4.out.2.1 rfl rfl rfl rfl rfl
 have g0 : W4.frozen? ⟨w.heap.size + 1 + 1 + 1, 0, none⟩ = false := fz_of H4.out.2.1
 have g1 : W4.frozen? ⟨w.heap.size + 1 + 1 + 1, 1, none⟩ = false := fz_of H4.out.2.1
 have g2 : W4.frozen? ⟨w.heap.size + 1 + 1 + 1, 2, none⟩ = false := fz_of H4.out.2.1
 have g3 : W4.frozen? ⟨w.heap.size + 1 + 1 + 1, 3, none⟩ = false := fz_of H4.out.2.1
 have g4 : W4.frozen? ⟨w.heap.size + 1 + 1 + 1, 4, none⟩ = false := fz_of H4.out.2.1
 have O6 := hide (two5 (x0 := .int .i64 0) (z0 := .int .i64 0) (x1 := .int .i64 0) (z1 := .int .i64 0) (x2 := .slice none 0 0) (z2 := .slice none 0 0) (x3 := .slice none 0 0) (z3 := .slice none 0 0) (x4 := .slice none 0 0) (z4 := .slice none 0 0) H4.out.1 H4.out.2.1 (by omega))
 go_wp2_with fail
 refine bodyPost_ret (results_c2 (p := 4) (q := 5) (r := 6) (ty := 25) rfl _ _ (w.heap.size + 1 + 1) (w.heap.size + 1 + 1 + 1) 25 _ _ (0, 0) _ _ rfl rfl rfl O6.out.1 O6.out.2.1 Tryz.underlying25 rfl (by kernel_rfl) (by kernel_rfl)) rfl ?_
 exact ⟨rfl, H4.out.2.2.trans (O6.out.2.2.toBelow H4.out.2.2.size (fun k hk => by omega))⟩
theorem both_m (w : World) (n m n' m' : Int) (a1 a2 a3 b1 b2 b3 : Option Addr) (c1 c2 c3 d1 d2 d3 : Nat) (Sa Fa Sb Fb : List Int) (Ea Eb : List EdT) (hA : Hid (RdA w a1 a2 a3 Sa Fa Ea)) (hB : Hid (RdA w b1 b2 b3 Sb Fb Eb)) (h1 : Sa.length ≤ 4194304) (h2 : Fa.length ≤ 4194304) (h3 : Ea.length ≤ 4194304) (h4 : Sb.length ≤ 4194304) (h5 : Fb.length ≤ 4194304) (h6 : Eb.length ≤ 4194304) (em : mayA n m Sa Fa Ea = true) (em' : mayA n' m' Sb Fb Eb = true) (hm : m ≠ m') :
 Calls Tryz.prog 55 #[.agg #[.int .i64 n, .int .i64 m, .slice a1 Sa.length c1, .slice a2 Fa.length c2, .slice a3 Ea.length c3], .agg #[.int .i64 n', .int .i64 m', .slice b1 Sb.length d1, .slice b2 Fb.length d2, .slice b3 Eb.length d3]] w fun e w' => e = .returned (.tuple #[.agg #[.int .i64 0, .int .i64 0, .slice none 0 0, .slice none 0 0, .slice none 0 0], .agg #[.int .i64 0, .int .i64 0, .slice none 0 0, .slice none 0 0, .slice none 0 0], .int .i64 6]) ∧ Below w.heap.size w w' := by
 obtain ⟨W0, hW0⟩ : ∃ W0, (((w.alloc (.cells #[.int .i64 n, .int .i64 m, .slice a1 Sa.length c1, .slice a2 Fa.length c2, .slice a3 Ea.length c3] 25)).alloc (.cells #[.int .i64 n', .int .i64 m', .slice b1 Sb.length d1, .slice b2 Fb.length d2, .slice b3 Eb.length d3] 25)).alloc (.cells #[.int .i64 0, .int .i64 0, .slice none 0 0, .slice none 0 0, .slice none 0 0] 25)).alloc (.cells #[.int .i64 0, .int .i64 0, .slice none 0 0, .slice none 0 0, .slice none 0 0] 25) = W0 := ⟨_, rfl⟩
 have HD := hide (And.intro (box4 w (.cells #[.int .i64 n, .int .i64 m, .slice a1 Sa.length c1, .slice a2 Fa.length c2, .slice a3 Ea.length c3] 25) (.cells #[.int .i64 n', .int .i64 m', .slice b1 Sb.length d1, .slice b2 Fb.length d2, .slice b3 Eb.length d3] 25) (.cells #[.int .i64 0, .int .i64 0, .slice none 0 0, .slice none 0 0, .slice none 0 0] 25) (.cells #[.int .i64 0, .int .i64 0, .slice none 0 0, .slice none 0 0, .slice none 0 0] 25)) (show ((((w.alloc (.cells #[.int .i64 n, .int .i64 m, .slice a1 Sa.length c1, .slice a2 Fa.length c2, .slice a3 Ea.length c3] 25)).alloc (.cells #[.int .i64 n', .int .i64 m', .slice b1 Sb.length d1, .slice b2 Fb.length d2, .slice b3 Eb.length d3] 25)).alloc (.cells #[.int .i64 0, .int .i64 0, .slice none 0 0, .slice none 0 0, .slice none 0 0] 25)).alloc (.cells #[.int .i64 0, .int .i64 0, .slice none 0 0, .slice none 0 0, .slice none 0 0] 25)).heap.size = w.heap.size + 4 by simp))
 rw [hW0] at HD
 obtain ⟨y0, y1, y2, y3, y4⟩ := zd5 HD.out.1.2.1 rfl rfl rfl rfl rfl
 have TN := normal_ok W0 n m a1 a2 a3 c1 c2 c3 Sa Fa Ea (hide (hA.out.on HD.out.1.1)) h1 h2 h3 em
 obtain ⟨S1, hS1⟩ : ∃ X, riseL Sa = X := ⟨_, rfl⟩
 obtain ⟨F1, hF1⟩ : ∃ X, riseL Fa = X := ⟨_, rfl⟩
 obtain ⟨E1, hE1⟩ : ∃ X, riseE Ea = X := ⟨_, rfl⟩
 rw [hS1, hF1, hE1] at TN
 clear em hS1 hF1 hE1
 go_enter Tryz.func55, Tryz.ntmps55
 go_upto_region 4 with (go_at_call 48; refine TN.mono ?_; rintro e w1 ⟨g1, k1, g2, k2, g3, k3, rfl, HO, D1⟩; have HF1 := hide (And.intro D1 HO); have F4 := blk_on HD.out.1.2.2.2.1 D1; obtain ⟨o0, o1, o2, o3, o4⟩ := zd5 F4 rfl rfl rfl rfl rfl; have f0 : w1.frozen? ⟨w.heap.size + 1 + 1, 0, none⟩ = false := fz_of F4; have f1 : w1.frozen? ⟨w.heap.size + 1 + 1, 1, none⟩ = false := fz_of F4; have f2 : w1.frozen? ⟨w.heap.size + 1 + 1, 2, none⟩ = false := fz_of F4; have f3 : w1.frozen? ⟨w.heap.size + 1 + 1, 3, none⟩ = false := fz_of F4; have f4 : w1.frozen? ⟨w.heap.size + 1 + 1, 4, none⟩ = false := fz_of F4; clear F4 D1 HO)
 obtain ⟨W2, hW2⟩ : ∃ W2, (((((w1.setCell ⟨w.heap.size + 1 + 1, 0, none⟩ (.int .i64 n)).setCell ⟨w.heap.size + 1 + 1, 1, none⟩ (.int .i64 m)).setCell ⟨w.heap.size + 1 + 1, 2, none⟩ (.slice (some ⟨g1, 0, none⟩) S1.length k1)).setCell ⟨w.heap.size + 1 + 1, 3, none⟩ (.slice (some ⟨g2, 0, none⟩) F1.length k2)).setCell ⟨w.heap.size + 1 + 1, 4, none⟩ (.slice (some ⟨g3, 0, none⟩) E1.length k3)) = W2 := ⟨_, rfl⟩
 rw [hW2]
 have H2 : Hid (W2.heap[w.heap.size + 1 + 1]? = some (.cells #[.int .i64 n, .int .i64 m, .slice (some ⟨g1, 0, none⟩) S1.length k1, .slice (some ⟨g2, 0, none⟩) F1.length k2, .slice (some ⟨g3, 0, none⟩) E1.length k3] 25 (0, 0)) ∧ W2.heap[w.heap.size + 1 + 1 + 1]? = some (.cells #[.int .i64 0, .int .i64 0, .slice none 0 0, .slice none 0 0, .slice none 0 0] 25 (0, 0)) ∧ Below w.heap.size w W2 ∧ W2.heap[w.heap.size + 1]? = some (.cells #[.int .i64 n', .int .i64 m', .slice b1 Sb.length d1, .slice b2 Fb.length d2, .slice b3 Eb.length d3] 25 (0, 0)) ∧ OwnO w.heap.size W2 (.slice (some ⟨g1, 0, none⟩) S1.length k1) (.slice (some ⟨g2, 0, none⟩) F1.length k2) (.slice (some ⟨g3, 0, none⟩) E1.length k3) S1 F1 E1) := hide (by
  have q4 := blk_on HD.out.1.2.2.2.1 HF1.out.1
  have q5 := blk_on HD.out.1.2.2.2.2 HF1.out.1
  have q1 := blk_on HD.out.1.2.2.1 HF1.out.1
  have o := only5 w1 (w.heap.size + 1 + 1) (.int .i64 n) (.int .i64 m) (.slice (some ⟨g1, 0, none⟩) S1.length k1) (.slice (some ⟨g2, 0, none⟩) F1.length k2) (.slice (some ⟨g3, 0, none⟩) E1.length k3)
  have d := HD.out.1.1.trans (HF1.out.1.mono HD.out.1.1.size)
  have s0 := HD.out.1.1.size
  have ow : OwnO W0.heap.size w1 (.slice (some ⟨g1, 0, none⟩) S1.length k1) (.slice (some ⟨g2, 0, none⟩) F1.length k2) (.slice (some ⟨g3, 0, none⟩) E1.length k3) S1 F1 E1 := ownO_own HF1.out.2
  rw [← hW2]
  exact ⟨set5 w1 (w.heap.size + 1 + 1) _ _ _ _ _ _ _ _ _ _ 25 q4, (o.block _ (Array.getElem?_eq_some_iff.1 q5).1 (by omega)).trans q5, d.trans (o.toBelow d.size (fun k hk => by omega)), (o.block _ (Array.getElem?_eq_some_iff.1 q1).1 (by omega)).trans q1, (ow.keep q4 o).down (by omega)⟩)
 clear hW2 HF1 TN o0 f0 y0 o1 f1 y1 o2 f2 y2 o3 f3 y3 o4 f4 y4
 obtain ⟨y0, y1, y2, y3, y4⟩ := zd5 H2.out.2.2.2.1 rfl rfl rfl rfl rfl
 have TB := normal_ok W2 n' m' b1 b2 b3 d1 d2 d3 Sb Fb Eb (hide (hB.out.on H2.out.2.2.1)) h4 h5 h6 em'
 obtain ⟨S2, hS2⟩ : ∃ X, riseL Sb = X := ⟨_, rfl⟩
 obtain ⟨F2, hF2⟩ : ∃ X, riseL Fb = X := ⟨_, rfl⟩
 obtain ⟨E2, hE2⟩ : ∃ X, riseE Eb = X := ⟨_, rfl⟩
 rw [hS2, hF2, hE2] at TB
 have HR2 := hide (And.intro hS2 (And.intro hF2 hE2))
 clear em' hS2 hF2 hE2
 go_upto_region 7 with (go_at_call 48; refine TB.mono ?_; rintro e w3 ⟨r1, q1, r2, q2, r3, q3, rfl, HO, D3⟩; have HF3 := hide (And.intro D3 HO); have F5 := blk_on H2.out.2.1 D3; obtain ⟨o0, o1, o2, o3, o4⟩ := zd5 F5 rfl rfl rfl rfl rfl; have f0 : w3.frozen? ⟨w.heap.size + 1 + 1 + 1, 0, none⟩ = false := fz_of F5; have f1 : w3.frozen? ⟨w.heap.size + 1 + 1 + 1, 1, none⟩ = false := fz_of F5; have f2 : w3.frozen? ⟨w.heap.size + 1 + 1 + 1, 2, none⟩ = false := fz_of F5; have f3 : w3.frozen? ⟨w.heap.size + 1 + 1 + 1, 3, none⟩ = false := fz_of F5; have f4 : w3.frozen? ⟨w.heap.size + 1 + 1 + 1, 4, none⟩ = false := fz_of F5; clear F5 D3 HO)
 obtain ⟨W4, hW4⟩ : ∃ W4, (((((w3.setCell ⟨w.heap.size + 1 + 1 + 1, 0, none⟩ (.int .i64 n')).setCell ⟨w.heap.size + 1 + 1 + 1, 1, none⟩ (.int .i64 m')).setCell ⟨w.heap.size + 1 + 1 + 1, 2, none⟩ (.slice (some ⟨r1, 0, none⟩) S2.length q1)).setCell ⟨w.heap.size + 1 + 1 + 1, 3, none⟩ (.slice (some ⟨r2, 0, none⟩) F2.length q2)).setCell ⟨w.heap.size + 1 + 1 + 1, 4, none⟩ (.slice (some ⟨r3, 0, none⟩) E2.length q3)) = W4 := ⟨_, rfl⟩
 rw [hW4]
 have H4 : Hid (W4.heap[w.heap.size + 1 + 1]? = some (.cells #[.int .i64 n, .int .i64 m, .slice (some ⟨g1, 0, none⟩) S1.length k1, .slice (some ⟨g2, 0, none⟩) F1.length k2, .slice (some ⟨g3, 0, none⟩) E1.length k3] 25 (0, 0)) ∧ W4.heap[w.heap.size + 1 + 1 + 1]? = some (.cells #[.int .i64 n', .int .i64 m', .slice (some ⟨r1, 0, none⟩) S2.length q1, .slice (some ⟨r2, 0, none⟩) F2.length q2, .slice (some ⟨r3, 0, none⟩) E2.length q3] 25 (0, 0)) ∧ Below w.heap.size w W4 ∧ OwnO w.heap.size W4 (.slice (some ⟨g1, 0, none⟩) S1.length k1) (.slice (some ⟨g2, 0, none⟩) F1.length k2) (.slice (some ⟨g3, 0, none⟩) E1.length k3) S1 F1 E1 ∧ OwnO w.heap.size W4 (.slice (some ⟨r1, 0, none⟩) S2.length q1) (.slice (some ⟨r2, 0, none⟩) F2.length q2) (.slice (some ⟨r3, 0, none⟩) E2.length q3) S2 F2 E2) := hide (by
  have q4 := blk_on H2.out.1 HF3.out.1
  have q5 := blk_on H2.out.2.1 HF3.out.1
  have o := only5 w3 (w.heap.size + 1 + 1 + 1) (.int .i64 n') (.int .i64 m') (.slice (some ⟨r1, 0, none⟩) S2.length q1) (.slice (some ⟨r2, 0, none⟩) F2.length q2) (.slice (some ⟨r3, 0, none⟩) E2.length q3)
  have d := H2.out.2.2.1.trans (HF3.out.1.mono H2.out.2.2.1.size)
  have ow : OwnO W2.heap.size w3 (.slice (some ⟨r1, 0, none⟩) S2.length q1) (.slice (some ⟨r2, 0, none⟩) F2.length q2) (.slice (some ⟨r3, 0, none⟩) E2.length q3) S2 F2 E2 := ownO_own HF3.out.2
  rw [← hW4]
  exact ⟨(o.block _ (Array.getElem?_eq_some_iff.1 q4).1 (by omega)).trans q4, set5 w3 (w.heap.size + 1 + 1 + 1) _ _ _ _ _ _ _ _ _ _ 25 q5, d.trans (o.toBelow d.size (fun k hk => by omega)), (H2.out.2.2.2.2.on HF3.out.1).keep q5 o, (ow.keep q5 o).down H2.out.2.2.1.size⟩)
 clear hW4 HF3 TB H2 o0 f0 y0 o1 f1 y1 o2 f2 y2 o3 f3 y3 o4 f4 y4
 have hm2 : (m == m') = false := by simpa using hm
 obtain ⟨o0, o1, o2, o3, o4⟩ := zd5 H4.out.1 rfl rfl rfl rfl rfl
 have f0 : W4.frozen? ⟨w.heap.size + 1 + 1, 0, none⟩ = false := fz_of H4.out.1
 have f1 : W4.frozen? ⟨w.heap.size + 1 + 1, 1, none⟩ = false := fz_of H4.out.1
 have f2 : W4.frozen? ⟨w.heap.size + 1 + 1, 2, none⟩ = false := fz_of H4.out.1
 have f3 : W4.frozen? ⟨w.heap.size + 1 + 1, 3, none⟩ = false := fz_of H4.out.1
 have f4 : W4.frozen? ⟨w.heap.size + 1 + 1, 4, none⟩ = false := fz_of H4.out.1
 obtain ⟨p0, p1, p2, p3, p4⟩ := zd5 H4.out.2.1 rfl rfl rfl rfl rfl
 have g0 : W4.frozen? ⟨w.heap.size + 1 + 1 + 1, 0, none⟩ = false := fz_of H4.out.2.1
 have g1 : W4.frozen? ⟨w.heap.size + 1 + 1 + 1, 1, none⟩ = false := fz_of H4.out.2.1
 have g2 : W4.frozen? ⟨w.heap.size + 1 + 1 + 1, 2, none⟩ = false := fz_of H4.out.2.1
 have g3 : W4.frozen? ⟨w.heap.size + 1 + 1 + 1, 3, none⟩ = false := fz_of H4.out.2.1
 have g4 : W4.frozen? ⟨w.heap.size + 1 + 1 + 1, 4, none⟩ = false := fz_of H4.out.2.1
 have O6 := hide (two5 (x0 := .int .i64 0) (z0 := .int .i64 0) (x1 := .int .i64 0) (z1 := .int .i64 0) (x2 := .slice none 0 0) (z2 := .slice none 0 0) (x3 := .slice none 0 0) (z3 := .slice none 0 0) (x4 := .slice none 0 0) (z4 := .slice none 0 0) H4.out.1 H4.out.2.1 (by omega))
 go_wp2_with fail
 refine bodyPost_ret (results_c2 (p := 4) (q := 5) (r := 6) (ty := 25) rfl _ _ (w.heap.size + 1 + 1) (w.heap.size + 1 + 1 + 1) 25 _ _ (0, 0) _ _ rfl rfl rfl O6.out.1 O6.out.2.1 Tryz.underlying25 rfl (by kernel_rfl) (by kernel_rfl)) rfl ?_
 exact ⟨rfl, H4.out.2.2.1.trans (O6.out.2.2.toBelow H4.out.2.2.1.size (fun k hk => by omega))⟩
end Go.Proofs.YtchoopnjckcohaaGreatDoor
