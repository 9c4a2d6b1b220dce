import Derived.Test.YtfoahpideglghaaGreatDoorMw
import Derived.Test.YtfoahpideglghaaGreatDoorTn
namespace Go.Proofs.YtfoahpideglghaaGreatDoor
open Go.RowKit Go.Maps Go.Shelf
attribute [local go_sem] Oper.semAt_some

/-! ### Reverse -/
set_option maxRecDepth 100000 in
set_option maxHeartbeats 1000000 in
theorem reverse_bad (w : World) (n m : Int) (a1 a2 a3 : Option Addr) (c1 c2 c3 : Nat) (St Fi : List Int) (Ed : List EdT) (hA : Hid (RdA w a1 a2 a3 St Fi Ed)) (h1 : St.length ≤ 4194304) (h2 : Fi.length ≤ 4194304) (h3 : Ed.length ≤ 4194304) (em : mayA n m St Fi Ed = false) :
    Calls Tryz.prog 23 #[.agg #[.int .i64 n, .int .i64 m, .slice a1 St.length c1, .slice a2 Fi.length c2, .slice a3 Ed.length c3]] w fun e w' => e = .returned (.tuple #[.agg #[.int .i64 0, .int .i64 0, .slice none 0 0, .slice none 0 0, .slice none 0 0], .int .i64 2]) ∧ Below w.heap.size w w' := by
  obtain ⟨W0, hW0⟩ : ∃ W0, (w.alloc (.cells #[.int .i64 n, .int .i64 m, .slice a1 St.length c1, .slice a2 Fi.length c2, .slice a3 Ed.length c3] 25)).alloc (.cells #[.int .i64 0, .int .i64 0, .slice none 0 0, .slice none 0 0, .slice none 0 0] 25) = W0 := ⟨_, rfl⟩
  have HD := hide (box2 w #[.int .i64 n, .int .i64 m, .slice a1 St.length c1, .slice a2 Fi.length c2, .slice a3 Ed.length c3] #[.int .i64 0, .int .i64 0, .slice none 0 0, .slice none 0 0, .slice none 0 0] 25)
  rw [hW0] at HD
  have B0 := HD.out.2.1
  have T1 := valid_any W0 n m a1 a2 a3 c1 c2 c3 St Fi Ed (hide (hA.out.on HD.out.1)) h1 h2 h3
  have k0 : W0.cell? ⟨w.heap.size, 0, none⟩ = some (.int .i64 n) := cell_of B0 rfl
  have k1 : W0.cell? ⟨w.heap.size, 1, none⟩ = some (.int .i64 m) := cell_of B0 rfl
  have k2 : W0.cell? ⟨w.heap.size, 2, none⟩ = some (.slice a1 St.length c1) := cell_of B0 rfl
  have k3 : W0.cell? ⟨w.heap.size, 3, none⟩ = some (.slice a2 Fi.length c2) := cell_of B0 rfl
  have k4 : W0.cell? ⟨w.heap.size, 4, none⟩ = some (.slice a3 Ed.length c3) := cell_of B0 rfl
  clear B0
  rw [em] at T1
  have T1 : Calls Tryz.prog 22 #[.agg #[.int .i64 n, .int .i64 m, .slice a1 St.length c1, .slice a2 Fi.length c2, .slice a3 Ed.length c3]] W0 fun e w' => e = .returned (.int .i64 2) ∧ Below W0.heap.size W0 w' := T1
  go_enter Tryz.func23, Tryz.ntmps23
  go_upto_region 3 with (go_at_call 22; refine T1.mono ?_; rintro e w1 ⟨rfl, d1⟩)
  have F3 := blk_on HD.out.2.2.1 d1
  have o0 : w1.cell? ⟨w.heap.size + 1, 0, none⟩ = some (.int .i64 0) := cell_of F3 rfl
  have f0 : w1.frozen? ⟨w.heap.size + 1, 0, none⟩ = false := fz_of F3
  have o1 : w1.cell? ⟨w.heap.size + 1, 1, none⟩ = some (.int .i64 0) := cell_of F3 rfl
  have f1 : w1.frozen? ⟨w.heap.size + 1, 1, none⟩ = false := fz_of F3
  have o2 : w1.cell? ⟨w.heap.size + 1, 2, none⟩ = some (.slice none 0 0) := cell_of F3 rfl
  have f2 : w1.frozen? ⟨w.heap.size + 1, 2, none⟩ = false := fz_of F3
  have o3 : w1.cell? ⟨w.heap.size + 1, 3, none⟩ = some (.slice none 0 0) := cell_of F3 rfl
  have f3 : w1.frozen? ⟨w.heap.size + 1, 3, none⟩ = false := fz_of F3
  have o4 : w1.cell? ⟨w.heap.size + 1, 4, none⟩ = some (.slice none 0 0) := cell_of F3 rfl
  have f4 : w1.frozen? ⟨w.heap.size + 1, 4, none⟩ = false := fz_of F3
  have O6 := hide (And.intro (set5 w1 (w.heap.size + 1) _ _ _ _ _ (.int .i64 0) (.int .i64 0) (.slice none 0 0) (.slice none 0 0) (.slice none 0 0) 25 F3) (only5 w1 (w.heap.size + 1) (.int .i64 0) (.int .i64 0) (.slice none 0 0) (.slice none 0 0) (.slice none 0 0)))
  clear F3
  go_wp2_with fail
  refine bodyPost_ret (results_c1 (p := 2) (q := 3) (ty := 25) rfl _ _ (w.heap.size + 1) 25 _ (0, 0) _ _ rfl rfl O6.out.1 Tryz.underlying25 rfl (by kernel_rfl)) rfl ?_
  have z0 := HD.out.2.2.2
  have z1 := d1.size
  exact ⟨rfl, (HD.out.1.trans (d1.mono (by omega))).trans (O6.out.2.toBelow (by omega) (fun k hk => by omega))⟩
set_option maxRecDepth 100000 in
set_option maxHeartbeats 1000000 in
theorem reverse_ok (w : World) (n m : Int) (a1 a2 a3 : Option Addr) (c1 c2 c3 : Nat) (St Fi : List Int) (Ed : List EdT) (hA : Hid (RdA w a1 a2 a3 St Fi Ed)) (h1 : St.length ≤ 4194304) (h2 : Fi.length ≤ 4194304) (h3 : Ed.length ≤ 4194304) (em : mayA n m St Fi Ed = true) :
    Calls Tryz.prog 23 #[.agg #[.int .i64 n, .int .i64 m, .slice a1 St.length c1, .slice a2 Fi.length c2, .slice a3 Ed.length c3]] w fun e w' => ∃ g1 k1 g2 k2 g3 k3, e = .returned (.tuple #[.agg #[.int .i64 n, .int .i64 m, .slice (some ⟨g1, 0, none⟩) (riseL Fi).length k1, .slice (some ⟨g2, 0, none⟩) (riseL St).length k2, .slice (some ⟨g3, 0, none⟩) (riseE (turnE Ed)).length k3], .int .i64 0]) ∧ Own w.heap.size w' g1 k1 g2 k2 g3 k3 (riseL Fi) (riseL St) (riseE (turnE Ed)) ∧ Below w.heap.size w w' := by
  obtain ⟨W0, hW0⟩ : ∃ W0, (w.alloc (.cells #[.int .i64 n, .int .i64 m, .slice a1 St.length c1, .slice a2 Fi.length c2, .slice a3 Ed.length c3] 25)).alloc (.cells #[.int .i64 0, .int .i64 0, .slice none 0 0, .slice none 0 0, .slice none 0 0] 25) = W0 := ⟨_, rfl⟩
  have HD := hide (box2 w #[.int .i64 n, .int .i64 m, .slice a1 St.length c1, .slice a2 Fi.length c2, .slice a3 Ed.length c3] #[.int .i64 0, .int .i64 0, .slice none 0 0, .slice none 0 0, .slice none 0 0] 25)
  rw [hW0] at HD
  have B0 := HD.out.2.1
  have T1 := valid_any W0 n m a1 a2 a3 c1 c2 c3 St Fi Ed (hide (hA.out.on HD.out.1)) h1 h2 h3
  have k0 : W0.cell? ⟨w.heap.size, 0, none⟩ = some (.int .i64 n) := cell_of B0 rfl
  have k1 : W0.cell? ⟨w.heap.size, 1, none⟩ = some (.int .i64 m) := cell_of B0 rfl
  have k2 : W0.cell? ⟨w.heap.size, 2, none⟩ = some (.slice a1 St.length c1) := cell_of B0 rfl
  have k3 : W0.cell? ⟨w.heap.size, 3, none⟩ = some (.slice a2 Fi.length c2) := cell_of B0 rfl
  have k4 : W0.cell? ⟨w.heap.size, 4, none⟩ = some (.slice a3 Ed.length c3) := cell_of B0 rfl
  clear B0
  rw [em] at T1
  have T1 : Calls Tryz.prog 22 #[.agg #[.int .i64 n, .int .i64 m, .slice a1 St.length c1, .slice a2 Fi.length c2, .slice a3 Ed.length c3]] W0 fun e w' => e = .returned (.int .i64 0) ∧ Below W0.heap.size W0 w' := T1
  have T2 := hide (fun (w1 : World) (d1 : Below W0.heap.size W0 w1) => turned_any w1 n m a1 a2 a3 c1 c2 c3 St Fi Ed (hide ((hA.out.on HD.out.1).on d1)) h1 h2 h3)
  generalize riseL Fi = S1 at T2 ⊢
  generalize riseL St = F1 at T2 ⊢
  generalize riseE (turnE Ed) = E1 at T2 ⊢
  go_enter Tryz.func23, Tryz.ntmps23
  go_upto_region 4 with (go_at_call 22; refine T1.mono ?_; rintro e w1 ⟨rfl, d1⟩)
  have B1 := blk_on HD.out.2.1 d1
  have H1 := hide (And.intro d1 (blk_on HD.out.2.2.1 d1))
  have y0 : w1.cell? ⟨w.heap.size, 0, none⟩ = some (.int .i64 n) := cell_of B1 rfl
  have y1 : w1.cell? ⟨w.heap.size, 1, none⟩ = some (.int .i64 m) := cell_of B1 rfl
  have y2 : w1.cell? ⟨w.heap.size, 2, none⟩ = some (.slice a1 St.length c1) := cell_of B1 rfl
  have y3 : w1.cell? ⟨w.heap.size, 3, none⟩ = some (.slice a2 Fi.length c2) := cell_of B1 rfl
  have y4 : w1.cell? ⟨w.heap.size, 4, none⟩ = some (.slice a3 Ed.length c3) := cell_of B1 rfl
  clear k0 k1 k2 k3 k4 B1 d1 T1 hA
  go_wp2_with (go_at_call 65; refine (T2.out w1 H1.out.1).mono ?_; rintro e w2 ⟨g1, k1, g2, k2, g3, k3, rfl, hO, d2⟩; have F3 := blk_on H1.out.2 d2; have o0 : w2.cell? ⟨w.heap.size + 1, 0, none⟩ = some (.int .i64 0) := cell_of F3 rfl; have f0 : w2.frozen? ⟨w.heap.size + 1, 0, none⟩ = false := fz_of F3; have o1 : w2.cell? ⟨w.heap.size + 1, 1, none⟩ = some (.int .i64 0) := cell_of F3 rfl; have f1 : w2.frozen? ⟨w.heap.size + 1, 1, none⟩ = false := fz_of F3; have o2 : w2.cell? ⟨w.heap.size + 1, 2, none⟩ = some (.slice none 0 0) := cell_of F3 rfl; have f2 : w2.frozen? ⟨w.heap.size + 1, 2, none⟩ = false := fz_of F3; have o3 : w2.cell? ⟨w.heap.size + 1, 3, none⟩ = some (.slice none 0 0) := cell_of F3 rfl; have f3 : w2.frozen? ⟨w.heap.size + 1, 3, none⟩ = false := fz_of F3; have o4 : w2.cell? ⟨w.heap.size + 1, 4, none⟩ = some (.slice none 0 0) := cell_of F3 rfl; have f4 : w2.frozen? ⟨w.heap.size + 1, 4, none⟩ = false := fz_of F3; have H2 := hide (And.intro hO (And.intro d2 F3)); clear hO d2 F3)
  have O6 := hide (And.intro (set5 w2 (w.heap.size + 1) _ _ _ _ _ (.int .i64 n) (.int .i64 m) (.slice (some ⟨g1, 0, none⟩) S1.length k1) (.slice (some ⟨g2, 0, none⟩) F1.length k2) (.slice (some ⟨g3, 0, none⟩) E1.length k3) 25 H2.out.2.2) (only5 w2 (w.heap.size + 1) (.int .i64 n) (.int .i64 m) (.slice (some ⟨g1, 0, none⟩) S1.length k1) (.slice (some ⟨g2, 0, none⟩) F1.length k2) (.slice (some ⟨g3, 0, none⟩) E1.length k3)))
  refine bodyPost_ret (results_c1 (p := 2) (q := 3) (ty := 25) rfl _ _ (w.heap.size + 1) 25 _ (0, 0) _ _ rfl rfl O6.out.1 Tryz.underlying25 rfl (by kernel_rfl)) rfl ?_
  have z0 := HD.out.2.2.2
  have z1 := H1.out.1.size
  have z2 := H2.out.2.1.size
  obtain ⟨o1, o2, o3, n1, n2, n3⟩ := H2.out.1
  have q1 := own_at o1
  have q2 := own_at o2
  have q3 := own_at o3
  refine ⟨g1, k1, g2, k2, g3, k3, rfl, ⟨own_only (ownsRow_base (base := w1.heap.size) o1 (by omega)) O6.out.2 (by omega), own_only (ownsRow_base (base := w1.heap.size) o2 (by omega)) O6.out.2 (by omega), own_only (ownsRow_base (base := w1.heap.size) o3 (by omega)) O6.out.2 (by omega), n1, n2, n3⟩, ?_⟩
  exact ((HD.out.1.trans (H1.out.1.mono (by omega))).trans (H2.out.2.1.mono (by omega))).trans (O6.out.2.toBelow (by omega) (fun k hk => by omega))

/-! ### The law's takes and turned -/
set_option maxRecDepth 100000 in
set_option maxHeartbeats 1000000 in
theorem takes_any (w : World) (N : Nat) (m : Int) (a1 a2 a3 aw : Option Addr) (c1 c2 c3 cw : Nat) (St Fi : List Int) (Ed : List EdT) (Wd : List Int) (hA : Hid (RdA w a1 a2 a3 St Fi Ed)) (hWd : Hid (RdN w aw Wd)) (hT : Hid (TabAt w ∧ 0 < w.heap.size)) (h1 : St.length ≤ 4194304) (h2 : Fi.length ≤ 4194304) (h3 : Ed.length ≤ 4194304) (hw : Wd.length ≤ 4194304) :
    Calls Tryz.prog 26 #[.agg #[.int .i64 (N : Int), .int .i64 m, .slice a1 St.length c1, .slice a2 Fi.length c2, .slice a3 Ed.length c3], .slice aw Wd.length cw] w fun e w' => e = .returned (.bool (tkB N m St Fi Ed Wd)) ∧ Below w.heap.size w w' := by
  obtain ⟨W0, hW0⟩ : ∃ W0, w.alloc (.cells #[.int .i64 (N : Int), .int .i64 m, .slice a1 St.length c1, .slice a2 Fi.length c2, .slice a3 Ed.length c3] 25) = W0 := ⟨_, rfl⟩
  have d0 : Below w.heap.size w W0 := by rw [← hW0]; exact (Below.refl _ _).alloc (Nat.le_refl _) _
  have B0 : W0.heap[w.heap.size]? = some (.cells #[.int .i64 (N : Int), .int .i64 m, .slice a1 St.length c1, .slice a2 Fi.length c2, .slice a3 Ed.length c3] 25 (0, 0)) := by rw [← hW0]; exact World.alloc_heap_new _ _
  have y0 : W0.cell? ⟨w.heap.size, 0, none⟩ = some (.int .i64 (N : Int)) := cell_of B0 rfl
  have y1 : W0.cell? ⟨w.heap.size, 1, none⟩ = some (.int .i64 m) := cell_of B0 rfl
  have y2 : W0.cell? ⟨w.heap.size, 2, none⟩ = some (.slice a1 St.length c1) := cell_of B0 rfl
  have y3 : W0.cell? ⟨w.heap.size, 3, none⟩ = some (.slice a2 Fi.length c2) := cell_of B0 rfl
  have y4 : W0.cell? ⟨w.heap.size, 4, none⟩ = some (.slice a3 Ed.length c3) := cell_of B0 rfl
  have HD := hide d0
  clear B0 d0
  by_cases hok : wordErr N m St Fi Ed Wd = 0
  · have T := Accepts_ok W0 N m a1 a2 a3 aw c1 c2 c3 cw St Fi Ed Wd (hide (hA.out.on HD.out)) (hide (hWd.out.on HD.out)) (hide ⟨hT.out.1.below HD.out hT.out.2, Nat.lt_of_lt_of_le hT.out.2 HD.out.size⟩) h1 h2 h3 hw hok
    rw [tkB_ok hok] at T
    generalize tkB (N : Int) m St Fi Ed Wd = r at T ⊢
    clear hok
    have e0 : ((0 : Int) == 0) = true := rfl
    cases r
    · go_enter Tryz.func26, Tryz.ntmps26
      go_wp2_with (go_at_call 9; refine T.mono ?_; rintro e w1 ⟨rfl, d1⟩; have H1 := hide d1; clear d1)
      refine bodyPost_ret (results_tmp rfl _ _ _) rfl ?_
      exact ⟨rfl, HD.out.trans (H1.out.mono HD.out.size)⟩
    · go_enter Tryz.func26, Tryz.ntmps26
      go_wp2_with (go_at_call 9; refine T.mono ?_; rintro e w1 ⟨rfl, d1⟩; have H1 := hide d1; clear d1)
      refine bodyPost_ret (results_tmp rfl _ _ _) rfl ?_
      exact ⟨rfl, HD.out.trans (H1.out.mono HD.out.size)⟩
  · have T := Accepts_bad W0 N m a1 a2 a3 aw c1 c2 c3 cw St Fi Ed Wd (hide (hA.out.on HD.out)) (hide (hWd.out.on HD.out)) h1 h2 h3 hw hok
    rw [tkB_bad hok]
    generalize wordErr (N : Int) m St Fi Ed Wd = r at T
    clear hok
    go_enter Tryz.func26, Tryz.ntmps26
    go_wp2_with (go_at_call 9; refine T.mono ?_; rintro e w1 ⟨rfl, d1⟩; have H1 := hide d1; clear d1)
    refine bodyPost_ret (results_tmp rfl _ _ _) rfl ?_
    exact ⟨rfl, HD.out.trans (H1.out.mono HD.out.size)⟩
theorem rev_drop (L : List Int) (i : Nat) (h : i < L.length) : (L.drop i).reverse = (L.drop (i + 1)).reverse ++ [L[i]] := by
  rw [List.drop_eq_getElem_cons h, List.reverse_cons]
theorem rd_own {W : World} {B n : Nat} {v : Value} {X : List Int} (h : W.ownsRow B 3 1 v n (X.map (Value.int .i64))) : ∃ ao c, v = .slice ao X.length c ∧ RdN W ao X := by
  have hn : n = X.length := by have := h.1; simpa using this.symm
  subst hn
  rcases h.2 with ⟨hv, h0⟩ | ⟨g, cap, cur, hv, _⟩
  · exact ⟨none, 0, by rw [hv, h0], fun j hj => by omega⟩
  · subst hv
    exact ⟨some ⟨g, 0, none⟩, cap, rfl, rdN_own h (List.prefix_refl X)⟩
set_option maxRecDepth 100000 in
set_option maxHeartbeats 1000000 in
theorem lturned_any (w : World) (ao : Option Addr) (L R : List Int) (cp : Nat) (hr : Hid (RdN w ao L)) (hR : Hid (R = L.reverse)) (hl : L.length ≤ 4194304) :
    Calls Tryz.prog 27 #[.slice ao L.length cp] w fun e w' => ∃ b c, e = .returned (.slice b R.length c) ∧ Hid (RdN w' b R) ∧ Below w.heap.size w w' := by
  obtain ⟨i3, hi3, hz30, hz31, hz32⟩ := info_parts info3
  have iw0 : IntKind.i64.wrap ((L.length : Int) - 1) = (L.length : Int) - 1 := by rw [IntKind.wrap_i64]; omega
  go_enter Tryz.func27, Tryz.ntmps27
  go_wp2
  go_loopw [3, 4] (fun v iv wr => ∃ i : Nat, i ≤ L.length ∧ iv = .int .i64 ((i : Int) - 1) ∧ Hid (wr.ownsRow w.heap.size 3 1 v (L.length - i) ((L.drop i).reverse.map (Value.int .i64)) ∧ Below w.heap.size w wr)) (fun _ iv _ => (intOf iv + 1).toNat)
  case atStart => exact ⟨L.length, Nat.le_refl _, by go_num, hide ⟨by simpa using World.ownsRow_nil _ _ _ _, Below.refl _ _⟩⟩
  case round =>
    obtain ⟨k, hk, rfl, HY⟩ := hrel
    clear iw0
    cases k with
    | zero =>
      have i0 : ¬ (0 : Int) ≤ ((0 : Nat) : Int) - 1 := by omega
      have HQ : Hid (wr.ownsRow w.heap.size 3 1 u3 R.length (R.map (Value.int .i64)) ∧ Below w.heap.size w wr) := hide (by have := HY.out; rw [hR.out]; simpa using this)
      obtain ⟨b, c, hv, hD⟩ := rd_own HQ.out.1
      subst hv
      have HR := hide hD
      clear hD
      go_wp2
      refine bodyPost_ret (results_tmp rfl _ _ _) rfl ?_
      exact ⟨b, ⟨c, rfl⟩, HR, HQ.out.2⟩
    | succ i =>
      have e1 : ((i + 1 : Nat) : Int) - 1 = (i : Int) := by omega
      rw [e1]
      have i0 : (0 : Int) ≤ (i : Int) := by omega
      have i1 : (i : Int) < (L.length : Int) := by omega
      have iw : IntKind.i64.wrap ((i : Int) - 1) = (i : Int) - 1 := by rw [IntKind.wrap_i64]; omega
      have hi2 : i < L.length := by omega
      obtain ⟨g, o, hao, q⟩ := (hr.out.on HY.out.2) i hi2
      subst hao
      have HL := hide (rev_drop L i hi2)
      generalize L[i] = x at q HL
      go_wp2_with (at_builtin; refine wpList_append_own_at _ rfl _ _ _ rfl w.heap.size 3 i3 _ 1 8 Tryz.underlying22 hi3 hz30 hz31 hz32 rfl (by omega) u3 (L.length - (i + 1)) ((L.drop (i + 1)).reverse.map (Value.int .i64)) rfl (HY.out.1.alloc _) ⟨wr.heap.size, 0, none⟩ 1 1 [.int .i64 x] rfl rfl (cell_one_new _ _ _) (by simp [Value.oneCell']) (by unfold maxLen; omega) (by omega) (by have := HY.out.2.size; simp; omega) ?_)
      intro v2 w2 ho hgr hnil hloc
      have hb := HY.out.1.lt
      have D2 := hide (HY.out.2.grown ((World.grownBy_alloc _ _ _).trans hgr) HY.out.2.size (fun k hk => (hb k hk).1))
      have ho2 : Hid (w2.ownsRow w.heap.size 3 1 v2 (L.length - i) ((L.drop i).reverse.map (Value.int .i64))) := hide (by rw [HL.out, List.map_append, show L.length - i = L.length - (i + 1) + 1 by omega]; simpa using ho)
      clear ho hgr hnil hloc hb
      go_wp2_with fail
      go_roundw
      case rel => exact ⟨i, by omega, by go_num, hide ⟨ho2.out, D2.out⟩⟩
      case measure => simp [intOf]
end Go.Proofs.YtfoahpideglghaaGreatDoor
