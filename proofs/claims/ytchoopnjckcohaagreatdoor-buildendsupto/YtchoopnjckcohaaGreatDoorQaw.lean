import Derived.Test.YtchoopnjckcohaaGreatDoorQav
namespace Go.Proofs.YtchoopnjckcohaaGreatDoor
open Go.RowKit Go.Maps Go.Shelf
attribute [local go_sem] Oper.semAt_some

/-! ### endingAt, startingAt -/
theorem rchL_mask {w : World} {N : Nat} {mv : Int} {a1 a2 a3 : Option Addr} {St Fi : List Int} {Ed : List EdT} (hG : ArgA w N mv a1 a2 a3 St Fi Ed) (b : Bool) {M : Nat → Bool} (hM : ∀ q, q < N → (M q = true ↔ ∃ k, Wlk (fun q => (q : Int) ∈ if b then Fi else St) (stepE b Ed) k q)) : rchL b (N : Int) mv St Fi Ed = maskL N M := by
  unfold rchL
  rw [if_pos hG.may, Int.toNat_natCast]
  unfold maskL
  refine congrArg natL (List.filter_congr fun q hq => ?_)
  rw [Bool.eq_iff_iff]
  exact (cdec _).trans (hM q (List.mem_range.1 hq)).symm
theorem preach_o (w : World) (n m : Int) (a1 a2 a3 : Option Addr) (c1 c2 c3 : Nat) (St Fi : List Int) (Ed : List EdT) (hA : RdA w a1 a2 a3 St Fi Ed) (h1 : St.length ≤ 4194304) (h2 : Fi.length ≤ 4194304) (_h3 : Ed.length ≤ 4194304) (hT : TabAt w) (h0 : 0 < w.heap.size) (em : mayA n m St Fi Ed = true) : Calls Tryz.prog 39 #[.agg #[.int .i64 n, .int .i64 m, .slice a1 St.length c1, .slice a2 Fi.length c2, .slice a3 Ed.length c3]] w fun e w' => ∃ v, e = .returned (.tuple #[v, .int .i64 0]) ∧ OwnL w.heap.size w' v (rchL false n m St Fi Ed) ∧ Below w.heap.size w w' := by
  obtain ⟨N, rfl, hG⟩ := arg_of hA h1 h2 em
  refine (preach_ok w N m a1 a2 a3 c1 c2 c3 St Fi Ed hG hT h0).mono ?_
  rintro e w' ⟨v, rfl, hv, d⟩
  refine ⟨v, rfl, ?_, d⟩
  rw [rchL_mask hG false (fun q _ => cdec _)]
  exact ansR_is hv (hG.hS false) (hG.hE false) (fun q _ => cdec _)
theorem pcoreach_o (w : World) (n m : Int) (a1 a2 a3 : Option Addr) (c1 c2 c3 : Nat) (St Fi : List Int) (Ed : List EdT) (hA : RdA w a1 a2 a3 St Fi Ed) (h1 : St.length ≤ 4194304) (h2 : Fi.length ≤ 4194304) (_h3 : Ed.length ≤ 4194304) (hT : TabAt w) (h0 : 0 < w.heap.size) (em : mayA n m St Fi Ed = true) : Calls Tryz.prog 37 #[.agg #[.int .i64 n, .int .i64 m, .slice a1 St.length c1, .slice a2 Fi.length c2, .slice a3 Ed.length c3]] w fun e w' => ∃ v, e = .returned (.tuple #[v, .int .i64 0]) ∧ OwnL w.heap.size w' v (rchL true n m St Fi Ed) ∧ Below w.heap.size w w' := by
  obtain ⟨N, rfl, hG⟩ := arg_of hA h1 h2 em
  refine (pcoreach_ok w N m a1 a2 a3 c1 c2 c3 St Fi Ed hG hT h0).mono ?_
  rintro e w' ⟨v, rfl, hv, d⟩
  refine ⟨v, rfl, ?_, d⟩
  rw [rchL_mask hG true (fun q _ => cdec _)]
  exact ansR_is hv (hG.hS true) (hG.hE true) (fun q _ => cdec _)
set_option maxRecDepth 100000 in
set_option maxHeartbeats 4000000 in
theorem ending_bad (w : World) (n m : Int) (a1 a2 a3 : Option Addr) (c1 c2 c3 : Nat) (St Fi : List Int) (Ed : List EdT) (_hA : Hid (RdA w a1 a2 a3 St Fi Ed)) (_h1 : St.length ≤ 4194304) (_h2 : Fi.length ≤ 4194304) (_h3 : Ed.length ≤ 4194304) (v : Value) (x : Int) (hx : x ≠ 0) :
    Calls Tryz.prog 38 #[.agg #[.int .i64 n, .int .i64 m, .slice a1 St.length c1, .slice a2 Fi.length c2, .slice a3 Ed.length c3], v, .int .i64 x] w fun e w' => e = .returned (.tuple #[.agg #[.int .i64 0, .int .i64 0, .slice none 0 0, .slice none 0 0, .slice none 0 0], .int .i64 x]) ∧ Below w.heap.size w w' := by
  obtain ⟨W0, hW0⟩ : ∃ W0, (w.alloc (.cells #[.int .i64 n, .int .i64 m, .slice a1 St.length c1, .slice a2 Fi.length c2, .slice a3 Ed.length c3] 25)).alloc (.cells #[.int .i64 0, .int .i64 0, .slice none 0 0, .slice none 0 0, .slice none 0 0] 25) = W0 := ⟨_, rfl⟩
  have HD := hide (box2 w #[.int .i64 n, .int .i64 m, .slice a1 St.length c1, .slice a2 Fi.length c2, .slice a3 Ed.length c3] #[.int .i64 0, .int .i64 0, .slice none 0 0, .slice none 0 0, .slice none 0 0] 25)
  rw [hW0] at HD
  have hx2 : (x == 0) = false := by simpa using hx
  have F4 := HD.out.2.2.1
  have o0 : W0.cell? ⟨w.heap.size + 1, 0, none⟩ = some (.int .i64 0) := cell_of F4 rfl
  have fz0 : W0.frozen? ⟨w.heap.size + 1, 0, none⟩ = false := fz_of F4
  have o1 : W0.cell? ⟨w.heap.size + 1, 1, none⟩ = some (.int .i64 0) := cell_of F4 rfl
  have fz1 : W0.frozen? ⟨w.heap.size + 1, 1, none⟩ = false := fz_of F4
  have o2 : W0.cell? ⟨w.heap.size + 1, 2, none⟩ = some (.slice none 0 0) := cell_of F4 rfl
  have fz2 : W0.frozen? ⟨w.heap.size + 1, 2, none⟩ = false := fz_of F4
  have o3 : W0.cell? ⟨w.heap.size + 1, 3, none⟩ = some (.slice none 0 0) := cell_of F4 rfl
  have fz3 : W0.frozen? ⟨w.heap.size + 1, 3, none⟩ = false := fz_of F4
  have o4 : W0.cell? ⟨w.heap.size + 1, 4, none⟩ = some (.slice none 0 0) := cell_of F4 rfl
  have fz4 : W0.frozen? ⟨w.heap.size + 1, 4, none⟩ = false := fz_of F4
  have O6 := hide (And.intro (set5 W0 (w.heap.size + 1) _ _ _ _ _ (.int .i64 0) (.int .i64 0) (.slice none 0 0) (.slice none 0 0) (.slice none 0 0) 25 F4) (only5 W0 (w.heap.size + 1) (.int .i64 0) (.int .i64 0) (.slice none 0 0) (.slice none 0 0) (.slice none 0 0)))
  clear F4
  go_enter Tryz.func38, Tryz.ntmps38
  go_wp2_with fail
  refine bodyPost_ret (results_c1 (p := 6) (q := 7) (ty := 25) rfl _ _ (w.heap.size + 1) 25 _ (0, 0) _ _ rfl rfl O6.out.1 Tryz.underlying25 rfl (by kernel_rfl)) rfl ?_
  have s1 := HD.out.2.2.2
  exact ⟨rfl, HD.out.1.trans (O6.out.2.toBelow (by omega) (fun k hk => by omega))⟩
set_option maxRecDepth 100000 in
set_option maxHeartbeats 4000000 in
theorem ending_ok (w : World) (n m : Int) (a1 a2 a3 : Option Addr) (c1 c2 c3 : Nat) (St Fi : List Int) (Ed : List EdT) (hA : Hid (RdA w a1 a2 a3 St Fi Ed)) (h1 : St.length ≤ 4194304) (h2 : Fi.length ≤ 4194304) (h3 : Ed.length ≤ 4194304) (em : mayA n m St Fi Ed = true) (av : Option Addr) (L : List Int) (cv B : Nat) (hL : Hid (w.ownsRow B 3 1 (.slice av L.length cv) L.length (L.map (Value.int .i64)))) :
    Calls Tryz.prog 38 #[.agg #[.int .i64 n, .int .i64 m, .slice a1 St.length c1, .slice a2 Fi.length c2, .slice a3 Ed.length c3], .slice av L.length cv, .int .i64 0] w fun e w' => ∃ g1 k1 g3 k3, e = .returned (.tuple #[.agg #[.int .i64 n, .int .i64 m, .slice (some ⟨g1, 0, none⟩) (riseL St).length k1, .slice av L.length cv, .slice (some ⟨g3, 0, none⟩) (riseE Ed).length k3], .int .i64 0]) ∧ Hid (w'.ownsRow w.heap.size 3 1 (.slice (some ⟨g1, 0, none⟩) (riseL St).length k1) (riseL St).length ((riseL St).map (Value.int .i64)) ∧ w'.ownsRow w.heap.size 61 3 (.slice (some ⟨g3, 0, none⟩) (riseE Ed).length k3) (riseE Ed).length ((riseE Ed).flatMap encE) ∧ w'.ownsRow B 3 1 (.slice av L.length cv) L.length (L.map (Value.int .i64)) ∧ Below w.heap.size w w') := by
  obtain ⟨W0, hW0⟩ : ∃ W0, (w.alloc (.cells #[.int .i64 n, .int .i64 m, .slice a1 St.length c1, .slice a2 Fi.length c2, .slice a3 Ed.length c3] 25)).alloc (.cells #[.int .i64 0, .int .i64 0, .slice none 0 0, .slice none 0 0, .slice none 0 0] 25) = W0 := ⟨_, rfl⟩
  have HD := hide (box2 w #[.int .i64 n, .int .i64 m, .slice a1 St.length c1, .slice a2 Fi.length c2, .slice a3 Ed.length c3] #[.int .i64 0, .int .i64 0, .slice none 0 0, .slice none 0 0, .slice none 0 0] 25)
  rw [hW0] at HD
  have TN := normal_ok W0 n m a1 a2 a3 c1 c2 c3 St Fi Ed (hide (hA.out.on HD.out.1)) h1 h2 h3 em
  clear em
  generalize riseL St = S1 at *
  generalize riseL Fi = F1 at *
  generalize riseE Ed = E1 at *
  have y0 : W0.cell? ⟨w.heap.size, 0, none⟩ = some (.int .i64 n) := cell_of HD.out.2.1 rfl
  have y1 : W0.cell? ⟨w.heap.size, 1, none⟩ = some (.int .i64 m) := cell_of HD.out.2.1 rfl
  have y2 : W0.cell? ⟨w.heap.size, 2, none⟩ = some (.slice a1 St.length c1) := cell_of HD.out.2.1 rfl
  have y3 : W0.cell? ⟨w.heap.size, 3, none⟩ = some (.slice a2 Fi.length c2) := cell_of HD.out.2.1 rfl
  have y4 : W0.cell? ⟨w.heap.size, 4, none⟩ = some (.slice a3 Ed.length c3) := cell_of HD.out.2.1 rfl
  go_enter Tryz.func38, Tryz.ntmps38
  go_upto_region 4 with (go_at_call 48; refine TN.mono ?_; rintro e w1 ⟨g1, k1, g2, k2, g3, k3, rfl, O1, D1⟩; have H1 := hide (And.intro O1 D1); clear O1 D1)
  clear TN y0 y1 y2 y3 y4
  obtain ⟨W1, hW1⟩ : ∃ W, w1.alloc (.cells #[.int .i64 n, .int .i64 m, .slice (some ⟨g1, 0, none⟩) S1.length k1, .slice (some ⟨g2, 0, none⟩) F1.length k2, .slice (some ⟨g3, 0, none⟩) E1.length k3] 25) = W := ⟨_, rfl⟩
  have HW : Hid (W1.heap[w1.heap.size]? = some (.cells #[.int .i64 n, .int .i64 m, .slice (some ⟨g1, 0, none⟩) S1.length k1, .slice (some ⟨g2, 0, none⟩) F1.length k2, .slice (some ⟨g3, 0, none⟩) E1.length k3] 25 (0, 0)) ∧ Below w1.heap.size w1 W1) := hide (by rw [← hW1]; exact ⟨World.alloc_heap_new _ _, (Below.refl _ _).alloc (Nat.le_refl _) _⟩)
  rw [hW1]
  clear hW1
  have z0 : W1.cell? ⟨w1.heap.size, 3, none⟩ = some (.slice (some ⟨g2, 0, none⟩) F1.length k2) := cell_of HW.out.1 rfl
  have z1 : W1.frozen? ⟨w1.heap.size, 3, none⟩ = false := fz_of HW.out.1
  go_upto_region 5 with fail
  clear z0 z1
  obtain ⟨W2, hW2⟩ : ∃ W, W1.setCell ⟨w1.heap.size, 3, none⟩ (.slice av L.length cv) = W := ⟨_, rfl⟩
  have HW2 : Hid (W2.heap[w1.heap.size]? = some (.cells #[.int .i64 n, .int .i64 m, .slice (some ⟨g1, 0, none⟩) S1.length k1, .slice av L.length cv, .slice (some ⟨g3, 0, none⟩) E1.length k3] 25 (0, 0)) ∧ W2.heap[w.heap.size + 1]? = some (.cells #[.int .i64 0, .int .i64 0, .slice none 0 0, .slice none 0 0, .slice none 0 0] 25 (0, 0)) ∧ OwnO w.heap.size W2 (.slice (some ⟨g1, 0, none⟩) S1.length k1) (.slice (some ⟨g2, 0, none⟩) F1.length k2) (.slice (some ⟨g3, 0, none⟩) E1.length k3) S1 F1 E1 ∧ Below w.heap.size w W2 ∧ w.heap.size + 2 ≤ W2.heap.size) := hide (by
    have o := only_set W1 w1.heap.size 3 (.slice av L.length cv)
    rw [hW2] at o
    have q : W2.heap[w1.heap.size]? = some (.cells #[.int .i64 n, .int .i64 m, .slice (some ⟨g1, 0, none⟩) S1.length k1, .slice av L.length cv, .slice (some ⟨g3, 0, none⟩) E1.length k3] 25 (0, 0)) := by
      rw [← hW2]
      exact heap_setCell_same _ _ 3 _ 25 _ HW.out.1
    have s0 := HD.out.2.2.2
    have s1 := H1.out.2.size
    have s2 := HW.out.2.size
    have s3 := o.size
    have dd := (HD.out.1.trans (H1.out.2.mono HD.out.1.size))
    have d3 := dd.trans (HW.out.2.mono dd.size)
    exact ⟨q, (o.block _ (by omega) (by omega)).trans (blk_on (blk_on HD.out.2.2.1 H1.out.2) HW.out.2), (((ownO_own H1.out.1).on HW.out.2).keep HW.out.1 o).down (by omega), d3.trans (o.toBelow d3.size (fun k hk => by omega)), by omega⟩)
  rw [hW2]
  clear hW2 HW H1
  have F3 := HW2.out.1
  have F4 := HW2.out.2.1
  have p0 : W2.cell? ⟨w1.heap.size, 0, none⟩ = some (.int .i64 n) := cell_of F3 rfl
  have p1 : W2.cell? ⟨w1.heap.size, 1, none⟩ = some (.int .i64 m) := cell_of F3 rfl
  have p2 : W2.cell? ⟨w1.heap.size, 2, none⟩ = some (.slice (some ⟨g1, 0, none⟩) S1.length k1) := cell_of F3 rfl
  have p3 : W2.cell? ⟨w1.heap.size, 3, none⟩ = some (.slice av L.length cv) := cell_of F3 rfl
  have p4 : W2.cell? ⟨w1.heap.size, 4, none⟩ = some (.slice (some ⟨g3, 0, none⟩) E1.length k3) := cell_of F3 rfl
  have o0 : W2.cell? ⟨w.heap.size + 1, 0, none⟩ = some (.int .i64 0) := cell_of F4 rfl
  have fz0 : W2.frozen? ⟨w.heap.size + 1, 0, none⟩ = false := fz_of F4
  have o1 : W2.cell? ⟨w.heap.size + 1, 1, none⟩ = some (.int .i64 0) := cell_of F4 rfl
  have fz1 : W2.frozen? ⟨w.heap.size + 1, 1, none⟩ = false := fz_of F4
  have o2 : W2.cell? ⟨w.heap.size + 1, 2, none⟩ = some (.slice none 0 0) := cell_of F4 rfl
  have fz2 : W2.frozen? ⟨w.heap.size + 1, 2, none⟩ = false := fz_of F4
  have o3 : W2.cell? ⟨w.heap.size + 1, 3, none⟩ = some (.slice none 0 0) := cell_of F4 rfl
  have fz3 : W2.frozen? ⟨w.heap.size + 1, 3, none⟩ = false := fz_of F4
  have o4 : W2.cell? ⟨w.heap.size + 1, 4, none⟩ = some (.slice none 0 0) := cell_of F4 rfl
  have fz4 : W2.frozen? ⟨w.heap.size + 1, 4, none⟩ = false := fz_of F4
  have O6 := hide (And.intro (set5 W2 (w.heap.size + 1) _ _ _ _ _ (.int .i64 n) (.int .i64 m) (.slice (some ⟨g1, 0, none⟩) S1.length k1) (.slice av L.length cv) (.slice (some ⟨g3, 0, none⟩) E1.length k3) 25 F4) (only5 W2 (w.heap.size + 1) (.int .i64 n) (.int .i64 m) (.slice (some ⟨g1, 0, none⟩) S1.length k1) (.slice av L.length cv) (.slice (some ⟨g3, 0, none⟩) E1.length k3)))
  have HO := hide (HW2.out.2.2.1.keep F4 O6.out.2)
  clear F3 F4
  go_wp2_with fail
  refine bodyPost_ret (results_c1 (p := 6) (q := 7) (ty := 25) rfl _ _ (w.heap.size + 1) 25 _ (0, 0) _ _ rfl rfl O6.out.1 Tryz.underlying25 rfl (by kernel_rfl)) rfl ?_
  have dw := HW2.out.2.2.2.1
  have sz := HW2.out.2.2.2.2
  have dq : Below w.heap.size W2 _ := O6.out.2.toBelow (B := w.heap.size) (by omega) (fun k hk => by omega)
  have F4 := HW2.out.2.1
  exact ⟨g1, k1, g3, k3, rfl, hide ⟨HO.out.s, HO.out.e, own_keep (own_below hL.out dw) F4 (by decide) O6.out.2, dw.trans dq⟩⟩
set_option maxRecDepth 100000 in
set_option maxHeartbeats 4000000 in
theorem starting_bad (w : World) (n m : Int) (a1 a2 a3 : Option Addr) (c1 c2 c3 : Nat) (St Fi : List Int) (Ed : List EdT) (_hA : Hid (RdA w a1 a2 a3 St Fi Ed)) (_h1 : St.length ≤ 4194304) (_h2 : Fi.length ≤ 4194304) (_h3 : Ed.length ≤ 4194304) (v : Value) (x : Int) (hx : x ≠ 0) :
    Calls Tryz.prog 40 #[.agg #[.int .i64 n, .int .i64 m, .slice a1 St.length c1, .slice a2 Fi.length c2, .slice a3 Ed.length c3], v, .int .i64 x] w fun e w' => e = .returned (.tuple #[.agg #[.int .i64 0, .int .i64 0, .slice none 0 0, .slice none 0 0, .slice none 0 0], .int .i64 x]) ∧ Below w.heap.size w w' := by
  obtain ⟨W0, hW0⟩ : ∃ W0, (w.alloc (.cells #[.int .i64 n, .int .i64 m, .slice a1 St.length c1, .slice a2 Fi.length c2, .slice a3 Ed.length c3] 25)).alloc (.cells #[.int .i64 0, .int .i64 0, .slice none 0 0, .slice none 0 0, .slice none 0 0] 25) = W0 := ⟨_, rfl⟩
  have HD := hide (box2 w #[.int .i64 n, .int .i64 m, .slice a1 St.length c1, .slice a2 Fi.length c2, .slice a3 Ed.length c3] #[.int .i64 0, .int .i64 0, .slice none 0 0, .slice none 0 0, .slice none 0 0] 25)
  rw [hW0] at HD
  have hx2 : (x == 0) = false := by simpa using hx
  have F4 := HD.out.2.2.1
  have o0 : W0.cell? ⟨w.heap.size + 1, 0, none⟩ = some (.int .i64 0) := cell_of F4 rfl
  have fz0 : W0.frozen? ⟨w.heap.size + 1, 0, none⟩ = false := fz_of F4
  have o1 : W0.cell? ⟨w.heap.size + 1, 1, none⟩ = some (.int .i64 0) := cell_of F4 rfl
  have fz1 : W0.frozen? ⟨w.heap.size + 1, 1, none⟩ = false := fz_of F4
  have o2 : W0.cell? ⟨w.heap.size + 1, 2, none⟩ = some (.slice none 0 0) := cell_of F4 rfl
  have fz2 : W0.frozen? ⟨w.heap.size + 1, 2, none⟩ = false := fz_of F4
  have o3 : W0.cell? ⟨w.heap.size + 1, 3, none⟩ = some (.slice none 0 0) := cell_of F4 rfl
  have fz3 : W0.frozen? ⟨w.heap.size + 1, 3, none⟩ = false := fz_of F4
  have o4 : W0.cell? ⟨w.heap.size + 1, 4, none⟩ = some (.slice none 0 0) := cell_of F4 rfl
  have fz4 : W0.frozen? ⟨w.heap.size + 1, 4, none⟩ = false := fz_of F4
  have O6 := hide (And.intro (set5 W0 (w.heap.size + 1) _ _ _ _ _ (.int .i64 0) (.int .i64 0) (.slice none 0 0) (.slice none 0 0) (.slice none 0 0) 25 F4) (only5 W0 (w.heap.size + 1) (.int .i64 0) (.int .i64 0) (.slice none 0 0) (.slice none 0 0) (.slice none 0 0)))
  clear F4
  go_enter Tryz.func40, Tryz.ntmps40
  go_wp2_with fail
  refine bodyPost_ret (results_c1 (p := 6) (q := 7) (ty := 25) rfl _ _ (w.heap.size + 1) 25 _ (0, 0) _ _ rfl rfl O6.out.1 Tryz.underlying25 rfl (by kernel_rfl)) rfl ?_
  have s1 := HD.out.2.2.2
  exact ⟨rfl, HD.out.1.trans (O6.out.2.toBelow (by omega) (fun k hk => by omega))⟩
set_option maxRecDepth 100000 in
set_option maxHeartbeats 4000000 in
theorem starting_ok (w : World) (n m : Int) (a1 a2 a3 : Option Addr) (c1 c2 c3 : Nat) (St Fi : List Int) (Ed : List EdT) (hA : Hid (RdA w a1 a2 a3 St Fi Ed)) (h1 : St.length ≤ 4194304) (h2 : Fi.length ≤ 4194304) (h3 : Ed.length ≤ 4194304) (em : mayA n m St Fi Ed = true) (av : Option Addr) (L : List Int) (cv B : Nat) (hL : Hid (w.ownsRow B 3 1 (.slice av L.length cv) L.length (L.map (Value.int .i64)))) :
    Calls Tryz.prog 40 #[.agg #[.int .i64 n, .int .i64 m, .slice a1 St.length c1, .slice a2 Fi.length c2, .slice a3 Ed.length c3], .slice av L.length cv, .int .i64 0] w fun e w' => ∃ g2 k2 g3 k3, e = .returned (.tuple #[.agg #[.int .i64 n, .int .i64 m, .slice av L.length cv, .slice (some ⟨g2, 0, none⟩) (riseL Fi).length k2, .slice (some ⟨g3, 0, none⟩) (riseE Ed).length k3], .int .i64 0]) ∧ Hid (w'.ownsRow w.heap.size 3 1 (.slice (some ⟨g2, 0, none⟩) (riseL Fi).length k2) (riseL Fi).length ((riseL Fi).map (Value.int .i64)) ∧ w'.ownsRow w.heap.size 61 3 (.slice (some ⟨g3, 0, none⟩) (riseE Ed).length k3) (riseE Ed).length ((riseE Ed).flatMap encE) ∧ w'.ownsRow B 3 1 (.slice av L.length cv) L.length (L.map (Value.int .i64)) ∧ Below w.heap.size w w') := by
  obtain ⟨W0, hW0⟩ : ∃ W0, (w.alloc (.cells #[.int .i64 n, .int .i64 m, .slice a1 St.length c1, .slice a2 Fi.length c2, .slice a3 Ed.length c3] 25)).alloc (.cells #[.int .i64 0, .int .i64 0, .slice none 0 0, .slice none 0 0, .slice none 0 0] 25) = W0 := ⟨_, rfl⟩
  have HD := hide (box2 w #[.int .i64 n, .int .i64 m, .slice a1 St.length c1, .slice a2 Fi.length c2, .slice a3 Ed.length c3] #[.int .i64 0, .int .i64 0, .slice none 0 0, .slice none 0 0, .slice none 0 0] 25)
  rw [hW0] at HD
  have TN := normal_ok W0 n m a1 a2 a3 c1 c2 c3 St Fi Ed (hide (hA.out.on HD.out.1)) h1 h2 h3 em
  clear em
  generalize riseL St = S1 at *
  generalize riseL Fi = F1 at *
  generalize riseE Ed = E1 at *
  have y0 : W0.cell? ⟨w.heap.size, 0, none⟩ = some (.int .i64 n) := cell_of HD.out.2.1 rfl
  have y1 : W0.cell? ⟨w.heap.size, 1, none⟩ = some (.int .i64 m) := cell_of HD.out.2.1 rfl
  have y2 : W0.cell? ⟨w.heap.size, 2, none⟩ = some (.slice a1 St.length c1) := cell_of HD.out.2.1 rfl
  have y3 : W0.cell? ⟨w.heap.size, 3, none⟩ = some (.slice a2 Fi.length c2) := cell_of HD.out.2.1 rfl
  have y4 : W0.cell? ⟨w.heap.size, 4, none⟩ = some (.slice a3 Ed.length c3) := cell_of HD.out.2.1 rfl
  go_enter Tryz.func40, Tryz.ntmps40
  go_upto_region 4 with (go_at_call 48; refine TN.mono ?_; rintro e w1 ⟨g1, k1, g2, k2, g3, k3, rfl, O1, D1⟩; have H1 := hide (And.intro O1 D1); clear O1 D1)
  clear TN y0 y1 y2 y3 y4
  obtain ⟨W1, hW1⟩ : ∃ W, w1.alloc (.cells #[.int .i64 n, .int .i64 m, .slice (some ⟨g1, 0, none⟩) S1.length k1, .slice (some ⟨g2, 0, none⟩) F1.length k2, .slice (some ⟨g3, 0, none⟩) E1.length k3] 25) = W := ⟨_, rfl⟩
  have HW : Hid (W1.heap[w1.heap.size]? = some (.cells #[.int .i64 n, .int .i64 m, .slice (some ⟨g1, 0, none⟩) S1.length k1, .slice (some ⟨g2, 0, none⟩) F1.length k2, .slice (some ⟨g3, 0, none⟩) E1.length k3] 25 (0, 0)) ∧ Below w1.heap.size w1 W1) := hide (by rw [← hW1]; exact ⟨World.alloc_heap_new _ _, (Below.refl _ _).alloc (Nat.le_refl _) _⟩)
  rw [hW1]
  clear hW1
  have z0 : W1.cell? ⟨w1.heap.size, 2, none⟩ = some (.slice (some ⟨g1, 0, none⟩) S1.length k1) := cell_of HW.out.1 rfl
  have z1 : W1.frozen? ⟨w1.heap.size, 2, none⟩ = false := fz_of HW.out.1
  go_upto_region 5 with fail
  clear z0 z1
  obtain ⟨W2, hW2⟩ : ∃ W, W1.setCell ⟨w1.heap.size, 2, none⟩ (.slice av L.length cv) = W := ⟨_, rfl⟩
  have HW2 : Hid (W2.heap[w1.heap.size]? = some (.cells #[.int .i64 n, .int .i64 m, .slice av L.length cv, .slice (some ⟨g2, 0, none⟩) F1.length k2, .slice (some ⟨g3, 0, none⟩) E1.length k3] 25 (0, 0)) ∧ W2.heap[w.heap.size + 1]? = some (.cells #[.int .i64 0, .int .i64 0, .slice none 0 0, .slice none 0 0, .slice none 0 0] 25 (0, 0)) ∧ OwnO w.heap.size W2 (.slice (some ⟨g1, 0, none⟩) S1.length k1) (.slice (some ⟨g2, 0, none⟩) F1.length k2) (.slice (some ⟨g3, 0, none⟩) E1.length k3) S1 F1 E1 ∧ Below w.heap.size w W2 ∧ w.heap.size + 2 ≤ W2.heap.size) := hide (by
    have o := only_set W1 w1.heap.size 2 (.slice av L.length cv)
    rw [hW2] at o
    have q : W2.heap[w1.heap.size]? = some (.cells #[.int .i64 n, .int .i64 m, .slice av L.length cv, .slice (some ⟨g2, 0, none⟩) F1.length k2, .slice (some ⟨g3, 0, none⟩) E1.length k3] 25 (0, 0)) := by
      rw [← hW2]
      exact heap_setCell_same _ _ 2 _ 25 _ HW.out.1
    have s0 := HD.out.2.2.2
    have s1 := H1.out.2.size
    have s2 := HW.out.2.size
    have s3 := o.size
    have dd := (HD.out.1.trans (H1.out.2.mono HD.out.1.size))
    have d3 := dd.trans (HW.out.2.mono dd.size)
    exact ⟨q, (o.block _ (by omega) (by omega)).trans (blk_on (blk_on HD.out.2.2.1 H1.out.2) HW.out.2), (((ownO_own H1.out.1).on HW.out.2).keep HW.out.1 o).down (by omega), d3.trans (o.toBelow d3.size (fun k hk => by omega)), by omega⟩)
  rw [hW2]
  clear hW2 HW H1
  have F3 := HW2.out.1
  have F4 := HW2.out.2.1
  have p0 : W2.cell? ⟨w1.heap.size, 0, none⟩ = some (.int .i64 n) := cell_of F3 rfl
  have p1 : W2.cell? ⟨w1.heap.size, 1, none⟩ = some (.int .i64 m) := cell_of F3 rfl
  have p2 : W2.cell? ⟨w1.heap.size, 2, none⟩ = some (.slice av L.length cv) := cell_of F3 rfl
  have p3 : W2.cell? ⟨w1.heap.size, 3, none⟩ = some (.slice (some ⟨g2, 0, none⟩) F1.length k2) := cell_of F3 rfl
  have p4 : W2.cell? ⟨w1.heap.size, 4, none⟩ = some (.slice (some ⟨g3, 0, none⟩) E1.length k3) := cell_of F3 rfl
  have o0 : W2.cell? ⟨w.heap.size + 1, 0, none⟩ = some (.int .i64 0) := cell_of F4 rfl
  have fz0 : W2.frozen? ⟨w.heap.size + 1, 0, none⟩ = false := fz_of F4
  have o1 : W2.cell? ⟨w.heap.size + 1, 1, none⟩ = some (.int .i64 0) := cell_of F4 rfl
  have fz1 : W2.frozen? ⟨w.heap.size + 1, 1, none⟩ = false := fz_of F4
  have o2 : W2.cell? ⟨w.heap.size + 1, 2, none⟩ = some (.slice none 0 0) := cell_of F4 rfl
  have fz2 : W2.frozen? ⟨w.heap.size + 1, 2, none⟩ = false := fz_of F4
  have o3 : W2.cell? ⟨w.heap.size + 1, 3, none⟩ = some (.slice none 0 0) := cell_of F4 rfl
  have fz3 : W2.frozen? ⟨w.heap.size + 1, 3, none⟩ = false := fz_of F4
  have o4 : W2.cell? ⟨w.heap.size + 1, 4, none⟩ = some (.slice none 0 0) := cell_of F4 rfl
  have fz4 : W2.frozen? ⟨w.heap.size + 1, 4, none⟩ = false := fz_of F4
  have O6 := hide (And.intro (set5 W2 (w.heap.size + 1) _ _ _ _ _ (.int .i64 n) (.int .i64 m) (.slice av L.length cv) (.slice (some ⟨g2, 0, none⟩) F1.length k2) (.slice (some ⟨g3, 0, none⟩) E1.length k3) 25 F4) (only5 W2 (w.heap.size + 1) (.int .i64 n) (.int .i64 m) (.slice av L.length cv) (.slice (some ⟨g2, 0, none⟩) F1.length k2) (.slice (some ⟨g3, 0, none⟩) E1.length k3)))
  have HO := hide (HW2.out.2.2.1.keep F4 O6.out.2)
  clear F3 F4
  go_wp2_with fail
  refine bodyPost_ret (results_c1 (p := 6) (q := 7) (ty := 25) rfl _ _ (w.heap.size + 1) 25 _ (0, 0) _ _ rfl rfl O6.out.1 Tryz.underlying25 rfl (by kernel_rfl)) rfl ?_
  have dw := HW2.out.2.2.2.1
  have sz := HW2.out.2.2.2.2
  have dq : Below w.heap.size W2 _ := O6.out.2.toBelow (B := w.heap.size) (by omega) (fun k hk => by omega)
  have F4 := HW2.out.2.1
  exact ⟨g2, k2, g3, k3, rfl, hide ⟨HO.out.f, HO.out.e, own_keep (own_below hL.out dw) F4 (by decide) O6.out.2, dw.trans dq⟩⟩
set_option maxRecDepth 100000 in
set_option maxHeartbeats 4000000 in
theorem prefixes_bad (w : World) (n m : Int) (a1 a2 a3 : Option Addr) (c1 c2 c3 : Nat) (St Fi : List Int) (Ed : List EdT) (hA : Hid (RdA w a1 a2 a3 St Fi Ed)) (h1 : St.length ≤ 4194304) (h2 : Fi.length ≤ 4194304) (h3 : Ed.length ≤ 4194304) (hT : Hid (TabAt w ∧ 0 < w.heap.size)) (em : mayA n m St Fi Ed = false) :
    Calls Tryz.prog 8 #[.agg #[.int .i64 n, .int .i64 m, .slice a1 St.length c1, .slice a2 Fi.length c2, .slice a3 Ed.length c3]] w fun e w' => e = .returned (.tuple #[.agg #[.int .i64 0, .int .i64 0, .slice none 0 0, .slice none 0 0, .slice none 0 0], .int .i64 2]) ∧ Below w.heap.size w w' := by
  obtain ⟨W0, hW0⟩ : ∃ W0, (w.alloc (.cells #[.int .i64 n, .int .i64 m, .slice a1 St.length c1, .slice a2 Fi.length c2, .slice a3 Ed.length c3] 25)).alloc (.cells #[.int .i64 0, .int .i64 0, .slice none 0 0, .slice none 0 0, .slice none 0 0] 25) = W0 := ⟨_, rfl⟩
  have HD := hide (box2 w #[.int .i64 n, .int .i64 m, .slice a1 St.length c1, .slice a2 Fi.length c2, .slice a3 Ed.length c3] #[.int .i64 0, .int .i64 0, .slice none 0 0, .slice none 0 0, .slice none 0 0] 25)
  rw [hW0] at HD
  have TC := pcoreach_u W0 n m a1 a2 a3 c1 c2 c3 St Fi Ed (hA.out.on HD.out.1) h1 h2 h3 (hT.out.1.below HD.out.1 hT.out.2) (Nat.lt_of_lt_of_le hT.out.2 HD.out.1.size)
  rw [errN_bad em] at TC
  clear em
  have y0 : W0.cell? ⟨w.heap.size, 0, none⟩ = some (.int .i64 n) := cell_of HD.out.2.1 rfl
  have y1 : W0.cell? ⟨w.heap.size, 1, none⟩ = some (.int .i64 m) := cell_of HD.out.2.1 rfl
  have y2 : W0.cell? ⟨w.heap.size, 2, none⟩ = some (.slice a1 St.length c1) := cell_of HD.out.2.1 rfl
  have y3 : W0.cell? ⟨w.heap.size, 3, none⟩ = some (.slice a2 Fi.length c2) := cell_of HD.out.2.1 rfl
  have y4 : W0.cell? ⟨w.heap.size, 4, none⟩ = some (.slice a3 Ed.length c3) := cell_of HD.out.2.1 rfl
  go_enter Tryz.func8, Tryz.ntmps8
  go_upto_region 2 with (go_at_call 37; refine TC.mono ?_; rintro e w1 ⟨v, rfl, hv, D1⟩; have H1 := hide (And.intro hv D1); clear hv D1)
  clear TC y0 y1 y2 y3 y4
  have TE := ending_bad w1 n m a1 a2 a3 c1 c2 c3 St Fi Ed (hide ((hA.out.on HD.out.1).on H1.out.2)) h1 h2 h3 v 2 (by decide)
  have y0 : w1.cell? ⟨w.heap.size, 0, none⟩ = some (.int .i64 n) := cell_of (blk_on HD.out.2.1 H1.out.2) rfl
  have y1 : w1.cell? ⟨w.heap.size, 1, none⟩ = some (.int .i64 m) := cell_of (blk_on HD.out.2.1 H1.out.2) rfl
  have y2 : w1.cell? ⟨w.heap.size, 2, none⟩ = some (.slice a1 St.length c1) := cell_of (blk_on HD.out.2.1 H1.out.2) rfl
  have y3 : w1.cell? ⟨w.heap.size, 3, none⟩ = some (.slice a2 Fi.length c2) := cell_of (blk_on HD.out.2.1 H1.out.2) rfl
  have y4 : w1.cell? ⟨w.heap.size, 4, none⟩ = some (.slice a3 Ed.length c3) := cell_of (blk_on HD.out.2.1 H1.out.2) rfl
  go_wp2_with (go_at_call 38; refine TE.mono ?_; rintro e w2 ⟨rfl, D2⟩; have H2 := hide D2; clear D2; have F4 := blk_on (blk_on HD.out.2.2.1 H1.out.2) H2.out; have o0 : w2.cell? ⟨w.heap.size + 1, 0, none⟩ = some (.int .i64 0) := cell_of F4 rfl; have fz0 : w2.frozen? ⟨w.heap.size + 1, 0, none⟩ = false := fz_of F4; have o1 : w2.cell? ⟨w.heap.size + 1, 1, none⟩ = some (.int .i64 0) := cell_of F4 rfl; have fz1 : w2.frozen? ⟨w.heap.size + 1, 1, none⟩ = false := fz_of F4; have o2 : w2.cell? ⟨w.heap.size + 1, 2, none⟩ = some (.slice none 0 0) := cell_of F4 rfl; have fz2 : w2.frozen? ⟨w.heap.size + 1, 2, none⟩ = false := fz_of F4; have o3 : w2.cell? ⟨w.heap.size + 1, 3, none⟩ = some (.slice none 0 0) := cell_of F4 rfl; have fz3 : w2.frozen? ⟨w.heap.size + 1, 3, none⟩ = false := fz_of F4; have o4 : w2.cell? ⟨w.heap.size + 1, 4, none⟩ = some (.slice none 0 0) := cell_of F4 rfl; have fz4 : w2.frozen? ⟨w.heap.size + 1, 4, none⟩ = false := fz_of F4; have O6 := hide (And.intro (set5 w2 (w.heap.size + 1) _ _ _ _ _ (.int .i64 0) (.int .i64 0) (.slice none 0 0) (.slice none 0 0) (.slice none 0 0) 25 F4) (only5 w2 (w.heap.size + 1) (.int .i64 0) (.int .i64 0) (.slice none 0 0) (.slice none 0 0) (.slice none 0 0))); clear F4)
  refine bodyPost_ret (results_c1 (p := 2) (q := 3) (ty := 25) rfl _ _ (w.heap.size + 1) 25 _ (0, 0) _ _ rfl rfl O6.out.1 Tryz.underlying25 rfl (by kernel_rfl)) rfl ?_
  have s1 := HD.out.2.2.2
  have d1 := HD.out.1.trans (H1.out.2.mono HD.out.1.size)
  have d2 := d1.trans (H2.out.mono d1.size)
  have s2 := H1.out.2.size
  have s3 := H2.out.size
  exact ⟨rfl, d2.trans (O6.out.2.toBelow d2.size (fun k hk => by omega))⟩
set_option maxRecDepth 100000 in
set_option maxHeartbeats 4000000 in
theorem prefixes_ok (w : World) (n m : Int) (a1 a2 a3 : Option Addr) (c1 c2 c3 : Nat) (St Fi : List Int) (Ed : List EdT) (hA : Hid (RdA w a1 a2 a3 St Fi Ed)) (h1 : St.length ≤ 4194304) (h2 : Fi.length ≤ 4194304) (h3 : Ed.length ≤ 4194304) (hT : Hid (TabAt w ∧ 0 < w.heap.size)) (em : mayA n m St Fi Ed = true) :
    Calls Tryz.prog 8 #[.agg #[.int .i64 n, .int .i64 m, .slice a1 St.length c1, .slice a2 Fi.length c2, .slice a3 Ed.length c3]] w fun e w' => ∃ g1 k1 av cv g3 k3, e = .returned (.tuple #[.agg #[.int .i64 n, .int .i64 m, .slice (some ⟨g1, 0, none⟩) (riseL St).length k1, .slice av (rchL true n m St Fi Ed).length cv, .slice (some ⟨g3, 0, none⟩) (riseE Ed).length k3], .int .i64 0]) ∧ Hid (RdA w' (some ⟨g1, 0, none⟩) av (some ⟨g3, 0, none⟩) (riseL St) (rchL true n m St Fi Ed) (riseE Ed) ∧ Below w.heap.size w w') := by
  obtain ⟨W0, hW0⟩ : ∃ W0, (w.alloc (.cells #[.int .i64 n, .int .i64 m, .slice a1 St.length c1, .slice a2 Fi.length c2, .slice a3 Ed.length c3] 25)).alloc (.cells #[.int .i64 0, .int .i64 0, .slice none 0 0, .slice none 0 0, .slice none 0 0] 25) = W0 := ⟨_, rfl⟩
  have HD := hide (box2 w #[.int .i64 n, .int .i64 m, .slice a1 St.length c1, .slice a2 Fi.length c2, .slice a3 Ed.length c3] #[.int .i64 0, .int .i64 0, .slice none 0 0, .slice none 0 0, .slice none 0 0] 25)
  rw [hW0] at HD
  have TC := pcoreach_o W0 n m a1 a2 a3 c1 c2 c3 St Fi Ed (hA.out.on HD.out.1) h1 h2 h3 (hT.out.1.below HD.out.1 hT.out.2) (Nat.lt_of_lt_of_le hT.out.2 HD.out.1.size) em
  generalize rchL true n m St Fi Ed = RR at TC ⊢
  have y0 : W0.cell? ⟨w.heap.size, 0, none⟩ = some (.int .i64 n) := cell_of HD.out.2.1 rfl
  have y1 : W0.cell? ⟨w.heap.size, 1, none⟩ = some (.int .i64 m) := cell_of HD.out.2.1 rfl
  have y2 : W0.cell? ⟨w.heap.size, 2, none⟩ = some (.slice a1 St.length c1) := cell_of HD.out.2.1 rfl
  have y3 : W0.cell? ⟨w.heap.size, 3, none⟩ = some (.slice a2 Fi.length c2) := cell_of HD.out.2.1 rfl
  have y4 : W0.cell? ⟨w.heap.size, 4, none⟩ = some (.slice a3 Ed.length c3) := cell_of HD.out.2.1 rfl
  have EM := hide em
  clear em
  go_enter Tryz.func8, Tryz.ntmps8
  go_upto_region 2 with (go_at_call 37; refine TC.mono ?_; rintro e w1 ⟨v, rfl, hv, D1⟩; obtain ⟨av, cv, rfl⟩ := own_slice hv; have H1 := hide (And.intro hv D1); clear hv D1)
  clear TC y0 y1 y2 y3 y4
  have TE := ending_ok w1 n m a1 a2 a3 c1 c2 c3 St Fi Ed (hide ((hA.out.on HD.out.1).on H1.out.2)) h1 h2 h3 EM.out av RR cv W0.heap.size (hide H1.out.1)
  have y0 : w1.cell? ⟨w.heap.size, 0, none⟩ = some (.int .i64 n) := cell_of (blk_on HD.out.2.1 H1.out.2) rfl
  have y1 : w1.cell? ⟨w.heap.size, 1, none⟩ = some (.int .i64 m) := cell_of (blk_on HD.out.2.1 H1.out.2) rfl
  have y2 : w1.cell? ⟨w.heap.size, 2, none⟩ = some (.slice a1 St.length c1) := cell_of (blk_on HD.out.2.1 H1.out.2) rfl
  have y3 : w1.cell? ⟨w.heap.size, 3, none⟩ = some (.slice a2 Fi.length c2) := cell_of (blk_on HD.out.2.1 H1.out.2) rfl
  have y4 : w1.cell? ⟨w.heap.size, 4, none⟩ = some (.slice a3 Ed.length c3) := cell_of (blk_on HD.out.2.1 H1.out.2) rfl
  go_wp2_with (go_at_call 38; refine TE.mono ?_; rintro e w2 ⟨g1, k1, g3, k3, rfl, H2⟩; have F4 := blk_on (blk_on HD.out.2.2.1 H1.out.2) H2.out.2.2.2; have o0 : w2.cell? ⟨w.heap.size + 1, 0, none⟩ = some (.int .i64 0) := cell_of F4 rfl; have fz0 : w2.frozen? ⟨w.heap.size + 1, 0, none⟩ = false := fz_of F4; have o1 : w2.cell? ⟨w.heap.size + 1, 1, none⟩ = some (.int .i64 0) := cell_of F4 rfl; have fz1 : w2.frozen? ⟨w.heap.size + 1, 1, none⟩ = false := fz_of F4; have o2 : w2.cell? ⟨w.heap.size + 1, 2, none⟩ = some (.slice none 0 0) := cell_of F4 rfl; have fz2 : w2.frozen? ⟨w.heap.size + 1, 2, none⟩ = false := fz_of F4; have o3 : w2.cell? ⟨w.heap.size + 1, 3, none⟩ = some (.slice none 0 0) := cell_of F4 rfl; have fz3 : w2.frozen? ⟨w.heap.size + 1, 3, none⟩ = false := fz_of F4; have o4 : w2.cell? ⟨w.heap.size + 1, 4, none⟩ = some (.slice none 0 0) := cell_of F4 rfl; have fz4 : w2.frozen? ⟨w.heap.size + 1, 4, none⟩ = false := fz_of F4; have O6 := hide (And.intro (set5 w2 (w.heap.size + 1) _ _ _ _ _ (.int .i64 n) (.int .i64 m) (.slice (some ⟨g1, 0, none⟩) (riseL St).length k1) (.slice av RR.length cv) (.slice (some ⟨g3, 0, none⟩) (riseE Ed).length k3) 25 F4) (only5 w2 (w.heap.size + 1) (.int .i64 n) (.int .i64 m) (.slice (some ⟨g1, 0, none⟩) (riseL St).length k1) (.slice av RR.length cv) (.slice (some ⟨g3, 0, none⟩) (riseE Ed).length k3))); clear F4)
  refine bodyPost_ret (results_c1 (p := 2) (q := 3) (ty := 25) rfl _ _ (w.heap.size + 1) 25 _ (0, 0) _ _ rfl rfl O6.out.1 Tryz.underlying25 rfl (by kernel_rfl)) rfl ?_
  have s1 := HD.out.2.2.2
  have d1 := HD.out.1.trans (H1.out.2.mono HD.out.1.size)
  have d2 := d1.trans (H2.out.2.2.2.mono d1.size)
  have s2 := H1.out.2.size
  have s3 := H2.out.2.2.2.size
  refine ⟨g1, k1, av, cv, g3, k3, rfl, hide ⟨?_, d2.trans (O6.out.2.toBelow d2.size (fun k hk => by omega))⟩⟩
  have F4 := blk_on (blk_on HD.out.2.2.1 H1.out.2) H2.out.2.2.2
  exact ⟨own_rdN (own_keep H2.out.1 F4 (by decide) O6.out.2), own_rdN (own_keep H2.out.2.2.1 F4 (by decide) O6.out.2), own_rdE (own_keep H2.out.2.1 F4 (by decide) O6.out.2)⟩
set_option maxRecDepth 100000 in
set_option maxHeartbeats 4000000 in
theorem suffixes_bad (w : World) (n m : Int) (a1 a2 a3 : Option Addr) (c1 c2 c3 : Nat) (St Fi : List Int) (Ed : List EdT) (hA : Hid (RdA w a1 a2 a3 St Fi Ed)) (h1 : St.length ≤ 4194304) (h2 : Fi.length ≤ 4194304) (h3 : Ed.length ≤ 4194304) (hT : Hid (TabAt w ∧ 0 < w.heap.size)) (em : mayA n m St Fi Ed = false) :
    Calls Tryz.prog 9 #[.agg #[.int .i64 n, .int .i64 m, .slice a1 St.length c1, .slice a2 Fi.length c2, .slice a3 Ed.length c3]] w fun e w' => e = .returned (.tuple #[.agg #[.int .i64 0, .int .i64 0, .slice none 0 0, .slice none 0 0, .slice none 0 0], .int .i64 2]) ∧ Below w.heap.size w w' := by
  obtain ⟨W0, hW0⟩ : ∃ W0, (w.alloc (.cells #[.int .i64 n, .int .i64 m, .slice a1 St.length c1, .slice a2 Fi.length c2, .slice a3 Ed.length c3] 25)).alloc (.cells #[.int .i64 0, .int .i64 0, .slice none 0 0, .slice none 0 0, .slice none 0 0] 25) = W0 := ⟨_, rfl⟩
  have HD := hide (box2 w #[.int .i64 n, .int .i64 m, .slice a1 St.length c1, .slice a2 Fi.length c2, .slice a3 Ed.length c3] #[.int .i64 0, .int .i64 0, .slice none 0 0, .slice none 0 0, .slice none 0 0] 25)
  rw [hW0] at HD
  have TC := preach_u W0 n m a1 a2 a3 c1 c2 c3 St Fi Ed (hA.out.on HD.out.1) h1 h2 h3 (hT.out.1.below HD.out.1 hT.out.2) (Nat.lt_of_lt_of_le hT.out.2 HD.out.1.size)
  rw [errN_bad em] at TC
  clear em
  have y0 : W0.cell? ⟨w.heap.size, 0, none⟩ = some (.int .i64 n) := cell_of HD.out.2.1 rfl
  have y1 : W0.cell? ⟨w.heap.size, 1, none⟩ = some (.int .i64 m) := cell_of HD.out.2.1 rfl
  have y2 : W0.cell? ⟨w.heap.size, 2, none⟩ = some (.slice a1 St.length c1) := cell_of HD.out.2.1 rfl
  have y3 : W0.cell? ⟨w.heap.size, 3, none⟩ = some (.slice a2 Fi.length c2) := cell_of HD.out.2.1 rfl
  have y4 : W0.cell? ⟨w.heap.size, 4, none⟩ = some (.slice a3 Ed.length c3) := cell_of HD.out.2.1 rfl
  go_enter Tryz.func9, Tryz.ntmps9
  go_upto_region 2 with (go_at_call 39; refine TC.mono ?_; rintro e w1 ⟨v, rfl, hv, D1⟩; have H1 := hide (And.intro hv D1); clear hv D1)
  clear TC y0 y1 y2 y3 y4
  have TE := starting_bad w1 n m a1 a2 a3 c1 c2 c3 St Fi Ed (hide ((hA.out.on HD.out.1).on H1.out.2)) h1 h2 h3 v 2 (by decide)
  have y0 : w1.cell? ⟨w.heap.size, 0, none⟩ = some (.int .i64 n) := cell_of (blk_on HD.out.2.1 H1.out.2) rfl
  have y1 : w1.cell? ⟨w.heap.size, 1, none⟩ = some (.int .i64 m) := cell_of (blk_on HD.out.2.1 H1.out.2) rfl
  have y2 : w1.cell? ⟨w.heap.size, 2, none⟩ = some (.slice a1 St.length c1) := cell_of (blk_on HD.out.2.1 H1.out.2) rfl
  have y3 : w1.cell? ⟨w.heap.size, 3, none⟩ = some (.slice a2 Fi.length c2) := cell_of (blk_on HD.out.2.1 H1.out.2) rfl
  have y4 : w1.cell? ⟨w.heap.size, 4, none⟩ = some (.slice a3 Ed.length c3) := cell_of (blk_on HD.out.2.1 H1.out.2) rfl
  go_wp2_with (go_at_call 40; refine TE.mono ?_; rintro e w2 ⟨rfl, D2⟩; have H2 := hide D2; clear D2; have F4 := blk_on (blk_on HD.out.2.2.1 H1.out.2) H2.out; have o0 : w2.cell? ⟨w.heap.size + 1, 0, none⟩ = some (.int .i64 0) := cell_of F4 rfl; have fz0 : w2.frozen? ⟨w.heap.size + 1, 0, none⟩ = false := fz_of F4; have o1 : w2.cell? ⟨w.heap.size + 1, 1, none⟩ = some (.int .i64 0) := cell_of F4 rfl; have fz1 : w2.frozen? ⟨w.heap.size + 1, 1, none⟩ = false := fz_of F4; have o2 : w2.cell? ⟨w.heap.size + 1, 2, none⟩ = some (.slice none 0 0) := cell_of F4 rfl; have fz2 : w2.frozen? ⟨w.heap.size + 1, 2, none⟩ = false := fz_of F4; have o3 : w2.cell? ⟨w.heap.size + 1, 3, none⟩ = some (.slice none 0 0) := cell_of F4 rfl; have fz3 : w2.frozen? ⟨w.heap.size + 1, 3, none⟩ = false := fz_of F4; have o4 : w2.cell? ⟨w.heap.size + 1, 4, none⟩ = some (.slice none 0 0) := cell_of F4 rfl; have fz4 : w2.frozen? ⟨w.heap.size + 1, 4, none⟩ = false := fz_of F4; have O6 := hide (And.intro (set5 w2 (w.heap.size + 1) _ _ _ _ _ (.int .i64 0) (.int .i64 0) (.slice none 0 0) (.slice none 0 0) (.slice none 0 0) 25 F4) (only5 w2 (w.heap.size + 1) (.int .i64 0) (.int .i64 0) (.slice none 0 0) (.slice none 0 0) (.slice none 0 0))); clear F4)
  refine bodyPost_ret (results_c1 (p := 2) (q := 3) (ty := 25) rfl _ _ (w.heap.size + 1) 25 _ (0, 0) _ _ rfl rfl O6.out.1 Tryz.underlying25 rfl (by kernel_rfl)) rfl ?_
  have s1 := HD.out.2.2.2
  have d1 := HD.out.1.trans (H1.out.2.mono HD.out.1.size)
  have d2 := d1.trans (H2.out.mono d1.size)
  have s2 := H1.out.2.size
  have s3 := H2.out.size
  exact ⟨rfl, d2.trans (O6.out.2.toBelow d2.size (fun k hk => by omega))⟩
set_option maxRecDepth 100000 in
set_option maxHeartbeats 4000000 in
theorem suffixes_ok (w : World) (n m : Int) (a1 a2 a3 : Option Addr) (c1 c2 c3 : Nat) (St Fi : List Int) (Ed : List EdT) (hA : Hid (RdA w a1 a2 a3 St Fi Ed)) (h1 : St.length ≤ 4194304) (h2 : Fi.length ≤ 4194304) (h3 : Ed.length ≤ 4194304) (hT : Hid (TabAt w ∧ 0 < w.heap.size)) (em : mayA n m St Fi Ed = true) :
    Calls Tryz.prog 9 #[.agg #[.int .i64 n, .int .i64 m, .slice a1 St.length c1, .slice a2 Fi.length c2, .slice a3 Ed.length c3]] w fun e w' => ∃ g1 k1 av cv g3 k3, e = .returned (.tuple #[.agg #[.int .i64 n, .int .i64 m, .slice av (rchL false n m St Fi Ed).length cv, .slice (some ⟨g1, 0, none⟩) (riseL Fi).length k1, .slice (some ⟨g3, 0, none⟩) (riseE Ed).length k3], .int .i64 0]) ∧ Hid (RdA w' av (some ⟨g1, 0, none⟩) (some ⟨g3, 0, none⟩) (rchL false n m St Fi Ed) (riseL Fi) (riseE Ed) ∧ Below w.heap.size w w') := by
  obtain ⟨W0, hW0⟩ : ∃ W0, (w.alloc (.cells #[.int .i64 n, .int .i64 m, .slice a1 St.length c1, .slice a2 Fi.length c2, .slice a3 Ed.length c3] 25)).alloc (.cells #[.int .i64 0, .int .i64 0, .slice none 0 0, .slice none 0 0, .slice none 0 0] 25) = W0 := ⟨_, rfl⟩
  have HD := hide (box2 w #[.int .i64 n, .int .i64 m, .slice a1 St.length c1, .slice a2 Fi.length c2, .slice a3 Ed.length c3] #[.int .i64 0, .int .i64 0, .slice none 0 0, .slice none 0 0, .slice none 0 0] 25)
  rw [hW0] at HD
  have TC := preach_o W0 n m a1 a2 a3 c1 c2 c3 St Fi Ed (hA.out.on HD.out.1) h1 h2 h3 (hT.out.1.below HD.out.1 hT.out.2) (Nat.lt_of_lt_of_le hT.out.2 HD.out.1.size) em
  generalize rchL false n m St Fi Ed = RR at TC ⊢
  have y0 : W0.cell? ⟨w.heap.size, 0, none⟩ = some (.int .i64 n) := cell_of HD.out.2.1 rfl
  have y1 : W0.cell? ⟨w.heap.size, 1, none⟩ = some (.int .i64 m) := cell_of HD.out.2.1 rfl
  have y2 : W0.cell? ⟨w.heap.size, 2, none⟩ = some (.slice a1 St.length c1) := cell_of HD.out.2.1 rfl
  have y3 : W0.cell? ⟨w.heap.size, 3, none⟩ = some (.slice a2 Fi.length c2) := cell_of HD.out.2.1 rfl
  have y4 : W0.cell? ⟨w.heap.size, 4, none⟩ = some (.slice a3 Ed.length c3) := cell_of HD.out.2.1 rfl
  have EM := hide em
  clear em
  go_enter Tryz.func9, Tryz.ntmps9
  go_upto_region 2 with (go_at_call 39; refine TC.mono ?_; rintro e w1 ⟨v, rfl, hv, D1⟩; obtain ⟨av, cv, rfl⟩ := own_slice hv; have H1 := hide (And.intro hv D1); clear hv D1)
  clear TC y0 y1 y2 y3 y4
  have TE := starting_ok w1 n m a1 a2 a3 c1 c2 c3 St Fi Ed (hide ((hA.out.on HD.out.1).on H1.out.2)) h1 h2 h3 EM.out av RR cv W0.heap.size (hide H1.out.1)
  have y0 : w1.cell? ⟨w.heap.size, 0, none⟩ = some (.int .i64 n) := cell_of (blk_on HD.out.2.1 H1.out.2) rfl
  have y1 : w1.cell? ⟨w.heap.size, 1, none⟩ = some (.int .i64 m) := cell_of (blk_on HD.out.2.1 H1.out.2) rfl
  have y2 : w1.cell? ⟨w.heap.size, 2, none⟩ = some (.slice a1 St.length c1) := cell_of (blk_on HD.out.2.1 H1.out.2) rfl
  have y3 : w1.cell? ⟨w.heap.size, 3, none⟩ = some (.slice a2 Fi.length c2) := cell_of (blk_on HD.out.2.1 H1.out.2) rfl
  have y4 : w1.cell? ⟨w.heap.size, 4, none⟩ = some (.slice a3 Ed.length c3) := cell_of (blk_on HD.out.2.1 H1.out.2) rfl
  go_wp2_with (go_at_call 40; refine TE.mono ?_; rintro e w2 ⟨g1, k1, g3, k3, rfl, H2⟩; have F4 := blk_on (blk_on HD.out.2.2.1 H1.out.2) H2.out.2.2.2; have o0 : w2.cell? ⟨w.heap.size + 1, 0, none⟩ = some (.int .i64 0) := cell_of F4 rfl; have fz0 : w2.frozen? ⟨w.heap.size + 1, 0, none⟩ = false := fz_of F4; have o1 : w2.cell? ⟨w.heap.size + 1, 1, none⟩ = some (.int .i64 0) := cell_of F4 rfl; have fz1 : w2.frozen? ⟨w.heap.size + 1, 1, none⟩ = false := fz_of F4; have o2 : w2.cell? ⟨w.heap.size + 1, 2, none⟩ = some (.slice none 0 0) := cell_of F4 rfl; have fz2 : w2.frozen? ⟨w.heap.size + 1, 2, none⟩ = false := fz_of F4; have o3 : w2.cell? ⟨w.heap.size + 1, 3, none⟩ = some (.slice none 0 0) := cell_of F4 rfl; have fz3 : w2.frozen? ⟨w.heap.size + 1, 3, none⟩ = false := fz_of F4; have o4 : w2.cell? ⟨w.heap.size + 1, 4, none⟩ = some (.slice none 0 0) := cell_of F4 rfl; have fz4 : w2.frozen? ⟨w.heap.size + 1, 4, none⟩ = false := fz_of F4; have O6 := hide (And.intro (set5 w2 (w.heap.size + 1) _ _ _ _ _ (.int .i64 n) (.int .i64 m) (.slice av RR.length cv) (.slice (some ⟨g1, 0, none⟩) (riseL Fi).length k1) (.slice (some ⟨g3, 0, none⟩) (riseE Ed).length k3) 25 F4) (only5 w2 (w.heap.size + 1) (.int .i64 n) (.int .i64 m) (.slice av RR.length cv) (.slice (some ⟨g1, 0, none⟩) (riseL Fi).length k1) (.slice (some ⟨g3, 0, none⟩) (riseE Ed).length k3))); clear F4)
  refine bodyPost_ret (results_c1 (p := 2) (q := 3) (ty := 25) rfl _ _ (w.heap.size + 1) 25 _ (0, 0) _ _ rfl rfl O6.out.1 Tryz.underlying25 rfl (by kernel_rfl)) rfl ?_
  have s1 := HD.out.2.2.2
  have d1 := HD.out.1.trans (H1.out.2.mono HD.out.1.size)
  have d2 := d1.trans (H2.out.2.2.2.mono d1.size)
  have s2 := H1.out.2.size
  have s3 := H2.out.2.2.2.size
  refine ⟨g1, k1, av, cv, g3, k3, rfl, hide ⟨?_, d2.trans (O6.out.2.toBelow d2.size (fun k hk => by omega))⟩⟩
  have F4 := blk_on (blk_on HD.out.2.2.1 H1.out.2) H2.out.2.2.2
  exact ⟨own_rdN (own_keep H2.out.2.2.1 F4 (by decide) O6.out.2), own_rdN (own_keep H2.out.1 F4 (by decide) O6.out.2), own_rdE (own_keep H2.out.2.1 F4 (by decide) O6.out.2)⟩
end Go.Proofs.YtchoopnjckcohaaGreatDoor
