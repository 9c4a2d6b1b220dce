import Derived.Test.YtocoghljmlpdeaaQal
namespace Go.Proofs.Ytocoghljmlpdeaa
open Go.RowKit Go.Maps
attribute [local go_sem] Oper.semAt_some
/-! ### Words: what is not valid, or of other symbols -/
theorem minimal_any8 (w : World) (N M st : Int) (aF aN : Option Addr) (lF cF lN cN : Nat) (Fi Nx : List Int) (hF : RdN w aF Fi) (hN : RdN w aN Nx) (hlF : Fi.length = lF) (hlN : Nx.length = lN) (bF : lF ≤ 4194304) (bN : lN ≤ 4194304) :
    Calls Try.prog 8 #[.agg #[.int .i64 N, .int .i64 M, .int .i64 st, .slice aF lF cF, .slice aN lN cN]] w fun e w' => ∃ (n0 m0 s0 : Int) (u1 : Option Addr) (l1 c1 : Nat) (u2 : Option Addr) (l2 c2 : Nat), e = .returned (.tuple #[.agg #[.int .i64 n0, .int .i64 m0, .int .i64 s0, .slice u1 l1 c1, .slice u2 l2 c2], .int .i64 (if vd N M st Fi Nx = true then 0 else 3)]) ∧ Below w.heap.size w w' := by
  by_cases hv : vd N M st Fi Nx = true
  · obtain ⟨n, m, s0, rfl, rfl, rfl, n1, n2, m1, s1, g1, i1, f1⟩ := vd_nat hv
    refine (minimal_ok w n m s0 aF aN lF cF lN cN Fi Nx hF hN hlF hlN bF bN hv).mono ?_
    rintro e w' ⟨vF, vN, T, K, al, rfl, HA⟩
    obtain ⟨u1, c1, rfl⟩ := own_slice HA.out.1.f
    obtain ⟨u2, c2, rfl⟩ := own_slice HA.out.1.n
    rw [if_pos hv]
    exact ⟨_, _, _, _, _, _, _, _, _, rfl, HA.out.2⟩
  · refine (minimal_bad w N M st aF aN lF cF lN cN Fi Nx hF hN hlF hlN bF bN (Bool.eq_false_iff.2 hv)).mono ?_
    rintro e w' ⟨rfl, d⟩
    rw [if_neg hv]
    exact ⟨_, _, _, _, _, _, _, _, _, rfl, d⟩
set_option maxRecDepth 100000 in
set_option maxHeartbeats 4000000 in
theorem words_bad1 (w : World) (N M st N2 M2 s2 : Int) (aF aN aG aX aW : Option Addr) (cF cN cG cX cW : Nat) (Fi Nx Gi Ex Wd : List Int) (x10 x11 : Value) (hF : RdN w aF Fi) (hN : RdN w aN Nx) (hG : RdN w aG Gi) (hX : RdN w aX Ex) (hW : RdN w aW Wd) (bF : Fi.length ≤ 4194304) (bN : Nx.length ≤ 2097152) (bG : Gi.length ≤ 4194304) (bX : Ex.length ≤ 2097152) (_bW : Wd.length ≤ 4194304) (hv : vd N M st Fi Nx = false) :
    Calls Try.prog 5 #[.agg #[.int .i64 N, .int .i64 M, .int .i64 st, .slice aF Fi.length cF, .slice aN Nx.length cN, .int .i64 N2, .int .i64 M2, .int .i64 s2, .slice aG Gi.length cG, .slice aX Ex.length cX, x10, x11, .slice aW Wd.length cW]] w fun e w' => e = .returned (.bool true) ∧ Below w.heap.size w w' := by
  obtain ⟨W0, hW0⟩ : ∃ W, w.alloc (.cells #[.int .i64 N, .int .i64 M, .int .i64 st, .slice aF Fi.length cF, .slice aN Nx.length cN, .int .i64 N2, .int .i64 M2, .int .i64 s2, .slice aG Gi.length cG, .slice aX Ex.length cX, x10, x11, .slice aW Wd.length cW] 26) = W := ⟨_, rfl⟩
  have d0 : Below w.heap.size w W0 := by rw [← hW0]; exact (Below.refl _ _).alloc (Nat.le_refl _) _
  have B0 : W0.heap[w.heap.size]? = some (.cells #[.int .i64 N, .int .i64 M, .int .i64 st, .slice aF Fi.length cF, .slice aN Nx.length cN, .int .i64 N2, .int .i64 M2, .int .i64 s2, .slice aG Gi.length cG, .slice aX Ex.length cX, x10, x11, .slice aW Wd.length cW] 26 (0, 0)) := by rw [← hW0]; exact World.alloc_heap_new _ _
  have HW := hide (And.intro d0 (And.intro B0 (And.intro (hF.on d0) (And.intro (hN.on d0) (And.intro (hG.on d0) (And.intro (hX.on d0) (hW.on d0)))))))
  clear d0 B0 hF hN hG hX hW
  obtain ⟨g2, hg⟩ : ∃ g2 : Int, (if vd N2 M2 s2 Gi Ex = true then (0 : Int) else 3) = g2 := ⟨_, rfl⟩
  go_enter Try.func5, Try.ntmps5
  go_upto_region 3 with (go_at_call 7; refine (works_any _).mono ?_; rintro e w1 ⟨rfl, D1⟩)
  have H1 := hide (And.intro (blk_on HW.out.2.1 D1) (And.intro (HW.out.2.2.1.on D1) (And.intro (HW.out.2.2.2.1.on D1) (And.intro (HW.out.2.2.2.2.1.on D1) (And.intro (HW.out.2.2.2.2.2.1.on D1) (And.intro (HW.out.2.2.2.2.2.2.on D1) (HW.out.1.trans (D1.mono HW.out.1.size))))))))
  clear D1 HW
  have k0 : w1.cell? ⟨w.heap.size, 0, none⟩ = some (.int .i64 N) := cell_of H1.out.1 rfl
  have k1 : w1.cell? ⟨w.heap.size, 1, none⟩ = some (.int .i64 M) := cell_of H1.out.1 rfl
  have k2 : w1.cell? ⟨w.heap.size, 2, none⟩ = some (.int .i64 st) := cell_of H1.out.1 rfl
  have k3 : w1.cell? ⟨w.heap.size, 3, none⟩ = some (.slice aF Fi.length cF) := cell_of H1.out.1 rfl
  have k4 : w1.cell? ⟨w.heap.size, 4, none⟩ = some (.slice aN Nx.length cN) := cell_of H1.out.1 rfl
  have T9 := twin_any w1 N M st aF aN cF cN Fi Nx H1.out.2.1 H1.out.2.2.1 bF (by omega)
  go_upto_region 4 with (first | (go_at_call 9; refine T9.mono ?_; rintro e w2 ⟨gF, kF, gN, kN, rfl, HT, D2⟩; have T8 := minimal_any8 w2 N M st (some ⟨gF, 0, none⟩) (some ⟨gN, 0, none⟩) Fi.length kF Nx.length kN Fi Nx HT.out.f.rd HT.out.n.rd rfl rfl bF (by omega); have HD2 := hide D2; clear D2 k0 k1 k2 k3 k4) | (go_at_call 8; refine T8.mono ?_; rintro e w3 ⟨n1, m1, s1, u1, l1, c1, v1, k1, d1, rfl, D3⟩; have HD3 := hide (HD2.out.trans (D3.mono HD2.out.size)); clear D3))
  obtain ⟨w4, hw4⟩ : ∃ W, w3.alloc (.cells #[.int .i64 n1, .int .i64 m1, .int .i64 s1, .slice u1 l1 c1, .slice v1 k1 d1] 24) = W := ⟨_, rfl⟩
  rw [hw4]
  have D34 : Below w1.heap.size w1 w4 := by rw [← hw4]; exact HD3.out.alloc HD3.out.size _
  have H4 := hide (And.intro (blk_on H1.out.1 D34) (And.intro (H1.out.2.1.on D34) (And.intro (H1.out.2.2.1.on D34) (And.intro (H1.out.2.2.2.1.on D34) (And.intro (H1.out.2.2.2.2.1.on D34) (And.intro (H1.out.2.2.2.2.2.1.on D34) (H1.out.2.2.2.2.2.2.trans (D34.mono H1.out.2.2.2.2.2.2.size))))))))
  clear hw4 D34 HD2 HD3 H1 T8 T9 HT
  have k5 : w4.cell? ⟨w.heap.size, 5, none⟩ = some (.int .i64 N2) := cell_of H4.out.1 rfl
  have k6 : w4.cell? ⟨w.heap.size, 6, none⟩ = some (.int .i64 M2) := cell_of H4.out.1 rfl
  have k7 : w4.cell? ⟨w.heap.size, 7, none⟩ = some (.int .i64 s2) := cell_of H4.out.1 rfl
  have k8 : w4.cell? ⟨w.heap.size, 8, none⟩ = some (.slice aG Gi.length cG) := cell_of H4.out.1 rfl
  have k9 : w4.cell? ⟨w.heap.size, 9, none⟩ = some (.slice aX Ex.length cX) := cell_of H4.out.1 rfl
  have T9 := twin_any w4 N2 M2 s2 aG aX cG cX Gi Ex H4.out.2.2.2.1 H4.out.2.2.2.2.1 bG (by omega)
  go_upto_region 5 with (first | (go_at_call 9; refine T9.mono ?_; rintro e w5 ⟨gF2, kF2, gN2, kN2, rfl, HT, D2⟩; have T8 := minimal_any8 w5 N2 M2 s2 (some ⟨gF2, 0, none⟩) (some ⟨gN2, 0, none⟩) Gi.length kF2 Ex.length kN2 Gi Ex HT.out.f.rd HT.out.n.rd rfl rfl bG (by omega); have HD2 := hide D2; clear D2 k5 k6 k7 k8 k9) | (go_at_call 8; refine T8.mono ?_; rintro e w6 ⟨n2, m2, s2', u2, l2, c2, v2, k2, d2, rfl, D3⟩; have HD3 := hide (HD2.out.trans (D3.mono HD2.out.size)); clear D3))
  obtain ⟨w7, hw7⟩ : ∃ W, w6.alloc (.cells #[.int .i64 n2, .int .i64 m2, .int .i64 s2', .slice u2 l2 c2, .slice v2 k2 d2] 24) = W := ⟨_, rfl⟩
  rw [hw7]
  have D47 : Below w4.heap.size w4 w7 := by rw [← hw7]; exact HD3.out.alloc HD3.out.size _
  have HE := hide (And.intro (blk_on H4.out.1 D47) (And.intro (H4.out.2.1.on D47) (And.intro (H4.out.2.2.1.on D47) (And.intro (H4.out.2.2.2.1.on D47) (And.intro (H4.out.2.2.2.2.1.on D47) (And.intro (H4.out.2.2.2.2.2.1.on D47) (H4.out.2.2.2.2.2.2.trans (D47.mono H4.out.2.2.2.2.2.2.size))))))))
  clear hw7 D47 HD2 HD3 H4 T8 T9 HT
  have TEQ : Hid (∀ W gF3 kF3 gN3 kN3 gG3 kG3 gX3 kX3, RdN W (some ⟨gF3, 0, none⟩) Fi → RdN W (some ⟨gN3, 0, none⟩) Nx → RdN W (some ⟨gG3, 0, none⟩) Gi → RdN W (some ⟨gX3, 0, none⟩) Ex → Calls Try.prog 18 #[.agg #[.int .i64 N, .int .i64 M, .int .i64 st, .slice (some ⟨gF3, 0, none⟩) Fi.length kF3, .slice (some ⟨gN3, 0, none⟩) Nx.length kN3], .agg #[.int .i64 N2, .int .i64 M2, .int .i64 s2, .slice (some ⟨gG3, 0, none⟩) Gi.length kG3, .slice (some ⟨gX3, 0, none⟩) Ex.length kX3]] W fun e w' => e = .returned (.tuple #[.bool false, .slice none 0 0, .int .i64 3]) ∧ Below W.heap.size W w') := hide (fun W gF3 kF3 gN3 kN3 gG3 kG3 gX3 kX3 h1 h2 h3 h4 => equal_bad1 W N M st N2 M2 s2 (some ⟨gF3, 0, none⟩) (some ⟨gN3, 0, none⟩) (some ⟨gG3, 0, none⟩) (some ⟨gX3, 0, none⟩) Fi.length kF3 Nx.length kN3 Gi.length kG3 Ex.length kX3 Fi Nx Gi Ex h1 h2 h3 h4 rfl rfl rfl rfl bF bN bG bX hv)
  try rw [(show (if vd N M st Fi Nx = true then (0 : Int) else 3) = 3 by rw [hv]; rfl)]
  try rw [(show (if vd N2 M2 s2 Gi Ex = true then (0 : Int) else 3) = g2 from hg)]
  have hmo : MonIL 0 [vI 0 (.pointer (some ⟨w.heap.size, 0, none⟩)), vI 1 (.agg #[.int .i64 N, .int .i64 M, .int .i64 st, .slice aF Fi.length cF, .slice aN Nx.length cN]), pI 2 (twP N M st Fi Nx), vI 3 (.pointer (some ⟨w.heap.size, 5, none⟩)), vI 4 (.agg #[.int .i64 N2, .int .i64 M2, .int .i64 s2, .slice aG Gi.length cG, .slice aX Ex.length cX]), pI 5 (twP N2 M2 s2 Gi Ex), vI 6 (.tuple #[.bool false, .slice none 0 0, .int .i64 3]), vI 7 (.tuple #[.bool false, .slice none 0 0, .int .i64 3]), vI 8 (.bool false), vI 9 (.slice none 0 0), vI 10 (.int .i64 3), vI 11 (.bool false), vI 12 (.slice none 0 0), vI 13 (.int .i64 3)] := ⟨vI_mono _ _, vI_mono _ _, pI_mono twP_mono, vI_mono _ _, vI_mono _ _, pI_mono twP_mono, vI_mono _ _, vI_mono _ _, vI_mono _ _, vI_mono _ _, vI_mono _ _, vI_mono _ _, vI_mono _ _, vI_mono _ _, trivial⟩
  refine wp_region_sl [vI 0 (.pointer (some ⟨w.heap.size, 0, none⟩)), vI 1 (.agg #[.int .i64 N, .int .i64 M, .int .i64 st, .slice aF Fi.length cF, .slice aN Nx.length cN]), pI 2 (twP N M st Fi Nx), vI 3 (.pointer (some ⟨w.heap.size, 5, none⟩)), vI 4 (.agg #[.int .i64 N2, .int .i64 M2, .int .i64 s2, .slice aG Gi.length cG, .slice aX Ex.length cX]), pI 5 (twP N2 M2 s2 Gi Ex), vI 6 (.tuple #[.bool false, .slice none 0 0, .int .i64 3]), vI 7 (.tuple #[.bool false, .slice none 0 0, .int .i64 3]), vI 8 (.bool false), vI 9 (.slice none 0 0), vI 10 (.int .i64 3), vI 11 (.bool false), vI 12 (.slice none 0 0), vI 13 (.int .i64 3)] (by kernel_rfl) (by kernel_rfl) (by kernel_rfl) (by kernel_rfl) hmo ⟨?o0, ?o1, ?o2, ?o3, ?o4, ?o5, ?o6, ?o7, ?o8, ?o9, ?o10, ?o11, ?o12, ?o13, trivial⟩ ?fin
  case o0 =>
    intro At yy W hy hb d hd K hK
    have s1 : At.tmps.getD 1 undef = .pointer (some ⟨w.heap.size, 0, none⟩) := hb 1 rfl
    have s1' := s1
    rw [Array.getD_eq_getD_getElem?] at s1'
    clear hd hy hb
    go_simp
    exact hK.out _ W (stp_of hmo d (Below.refl _ _)) (if_pos rfl)
  case o1 =>
    intro At yy W hy hb d hd K hK
    have e0 : yy 0 = .pointer (some ⟨w.heap.size, 0, none⟩) := by obtain ⟨_, _, _, _, e⟩ := hd ⟨0, .data⟩ (by simp) rfl rfl; exact e
    have s30 := (hy 0 _ 30 rfl rfl).trans e0
    have s30' := s30
    rw [Array.getD_eq_getD_getElem?] at s30'
    clear hd hy hb
    have yb0 : W.cell? ⟨w.heap.size, 0, none⟩ = some (.int .i64 N) := cell_of (blk_on HE.out.1 d) rfl
    have yb1 : W.cell? ⟨w.heap.size, 1, none⟩ = some (.int .i64 M) := cell_of (blk_on HE.out.1 d) rfl
    have yb2 : W.cell? ⟨w.heap.size, 2, none⟩ = some (.int .i64 st) := cell_of (blk_on HE.out.1 d) rfl
    have yb3 : W.cell? ⟨w.heap.size, 3, none⟩ = some (.slice aF Fi.length cF) := cell_of (blk_on HE.out.1 d) rfl
    have yb4 : W.cell? ⟨w.heap.size, 4, none⟩ = some (.slice aN Nx.length cN) := cell_of (blk_on HE.out.1 d) rfl
    go_simp
    exact hK.out _ W (stp_of hmo d (Below.refl _ _)) (if_pos rfl)
  case o2 =>
    intro At yy W hy hb d hd K hK
    have e1 : yy 1 = .agg #[.int .i64 N, .int .i64 M, .int .i64 st, .slice aF Fi.length cF, .slice aN Nx.length cN] := by obtain ⟨_, _, _, _, e⟩ := hd ⟨1, .data⟩ (by simp) rfl rfl; exact e
    have s31 := (hy 1 _ 31 rfl rfl).trans e1
    have s31' := s31
    rw [Array.getD_eq_getD_getElem?] at s31'
    clear hd hy hb
    go_simp
    go_wp2_with (go_at_call 9; refine (twin_any _ N M st aF aN cF cN Fi Nx (HE.out.2.1.on d) (HE.out.2.2.1.on d) bF (by omega)).mono ?_; rintro e wa ⟨gF3, kF3, gN3, kN3, rfl, HT3, da⟩)
    exact hK.out _ wa (stp_of hmo d da) ⟨gF3, kF3, gN3, kN3, if_pos rfl, HT3.out.f.rd, HT3.out.n.rd⟩
  case o3 =>
    intro At yy W hy hb d hd K hK
    have s1 : At.tmps.getD 1 undef = .pointer (some ⟨w.heap.size, 0, none⟩) := hb 1 rfl
    have s1' := s1
    rw [Array.getD_eq_getD_getElem?] at s1'
    clear hd hy hb
    go_simp
    exact hK.out _ W (stp_of hmo d (Below.refl _ _)) (if_pos rfl)
  case o4 =>
    intro At yy W hy hb d hd K hK
    have e3 : yy 3 = .pointer (some ⟨w.heap.size, 5, none⟩) := by obtain ⟨_, _, _, _, e⟩ := hd ⟨3, .data⟩ (by simp) rfl rfl; exact e
    have s33 := (hy 3 _ 33 rfl rfl).trans e3
    have s33' := s33
    rw [Array.getD_eq_getD_getElem?] at s33'
    clear hd hy hb
    have yb5 : W.cell? ⟨w.heap.size, 5, none⟩ = some (.int .i64 N2) := cell_of (blk_on HE.out.1 d) rfl
    have yb6 : W.cell? ⟨w.heap.size, 6, none⟩ = some (.int .i64 M2) := cell_of (blk_on HE.out.1 d) rfl
    have yb7 : W.cell? ⟨w.heap.size, 7, none⟩ = some (.int .i64 s2) := cell_of (blk_on HE.out.1 d) rfl
    have yb8 : W.cell? ⟨w.heap.size, 8, none⟩ = some (.slice aG Gi.length cG) := cell_of (blk_on HE.out.1 d) rfl
    have yb9 : W.cell? ⟨w.heap.size, 9, none⟩ = some (.slice aX Ex.length cX) := cell_of (blk_on HE.out.1 d) rfl
    go_simp
    exact hK.out _ W (stp_of hmo d (Below.refl _ _)) (if_pos rfl)
  case o5 =>
    intro At yy W hy hb d hd K hK
    have e4 : yy 4 = .agg #[.int .i64 N2, .int .i64 M2, .int .i64 s2, .slice aG Gi.length cG, .slice aX Ex.length cX] := by obtain ⟨_, _, _, _, e⟩ := hd ⟨4, .data⟩ (by simp) rfl rfl; exact e
    have s34 := (hy 4 _ 34 rfl rfl).trans e4
    have s34' := s34
    rw [Array.getD_eq_getD_getElem?] at s34'
    clear hd hy hb
    go_simp
    go_wp2_with (go_at_call 9; refine (twin_any _ N2 M2 s2 aG aX cG cX Gi Ex (HE.out.2.2.2.1.on d) (HE.out.2.2.2.2.1.on d) bG (by omega)).mono ?_; rintro e wa ⟨gF3, kF3, gN3, kN3, rfl, HT3, da⟩)
    exact hK.out _ wa (stp_of hmo d da) ⟨gF3, kF3, gN3, kN3, if_pos rfl, HT3.out.f.rd, HT3.out.n.rd⟩
  case o6 =>
    intro At yy W hy hb d hd K hK
    have f2 := hd ⟨2, .data⟩ (by simp) rfl rfl
    have f5 := hd ⟨5, .data⟩ (by simp) rfl rfl
    obtain ⟨lo2, hi2, hl2, hh2, gF3, kF3, gN3, kN3, e2, ra, rb⟩ := f2
    obtain ⟨lo5, hi5, hl5, hh5, gG3, kG3, gX3, kX3, e5, rc, rd⟩ := f5
    have s32 := (hy 2 _ 32 rfl rfl).trans e2
    have s32' := s32
    rw [Array.getD_eq_getD_getElem?] at s32'
    have s35 := (hy 5 _ 35 rfl rfl).trans e5
    have s35' := s35
    rw [Array.getD_eq_getD_getElem?] at s35'
    clear hd hy hb
    go_simp
    go_wp2_with (go_at_call 18; refine (TEQ.out _ gF3 kF3 gN3 kN3 gG3 kG3 gX3 kX3 ra rb rc rd).mono ?_; rintro e wa ⟨rfl, da⟩)
    exact hK.out _ wa (stp_of hmo d da) (if_pos rfl)
  case o7 =>
    intro At yy W hy hb d hd K hK
    have e6 : yy 6 = .tuple #[.bool false, .slice none 0 0, .int .i64 3] := by obtain ⟨_, _, _, _, e⟩ := hd ⟨6, .data⟩ (by simp) rfl rfl; exact e
    have s36 := (hy 6 _ 36 rfl rfl).trans e6
    have s36' := s36
    rw [Array.getD_eq_getD_getElem?] at s36'
    clear hd hy hb
    go_simp
    exact hK.out _ W (stp_of hmo d (Below.refl _ _)) (if_pos rfl)
  case o8 =>
    intro At yy W hy hb d hd K hK
    have e7 : yy 7 = .tuple #[.bool false, .slice none 0 0, .int .i64 3] := by obtain ⟨_, _, _, _, e⟩ := hd ⟨7, .data⟩ (by simp) rfl rfl; exact e
    have s29 := (hy 7 _ 29 rfl rfl).trans e7
    have s29' := s29
    rw [Array.getD_eq_getD_getElem?] at s29'
    clear hd hy hb
    go_simp
    exact hK.out _ W (stp_of hmo d (Below.refl _ _)) (if_pos rfl)
  case o9 =>
    intro At yy W hy hb d hd K hK
    have e7 : yy 7 = .tuple #[.bool false, .slice none 0 0, .int .i64 3] := by obtain ⟨_, _, _, _, e⟩ := hd ⟨7, .data⟩ (by simp) rfl rfl; exact e
    have s29 := (hy 7 _ 29 rfl rfl).trans e7
    have s29' := s29
    rw [Array.getD_eq_getD_getElem?] at s29'
    clear hd hy hb
    go_simp
    exact hK.out _ W (stp_of hmo d (Below.refl _ _)) (if_pos rfl)
  case o10 =>
    intro At yy W hy hb d hd K hK
    have e7 : yy 7 = .tuple #[.bool false, .slice none 0 0, .int .i64 3] := by obtain ⟨_, _, _, _, e⟩ := hd ⟨7, .data⟩ (by simp) rfl rfl; exact e
    have s29 := (hy 7 _ 29 rfl rfl).trans e7
    have s29' := s29
    rw [Array.getD_eq_getD_getElem?] at s29'
    clear hd hy hb
    go_simp
    exact hK.out _ W (stp_of hmo d (Below.refl _ _)) (if_pos rfl)
  case o11 =>
    intro At yy W hy hb d hd K hK
    have e8 : yy 8 = .bool false := by obtain ⟨_, _, _, _, e⟩ := hd ⟨8, .data⟩ (by simp) rfl rfl; exact e
    have s37 := (hy 8 _ 37 rfl rfl).trans e8
    have s37' := s37
    rw [Array.getD_eq_getD_getElem?] at s37'
    clear hd hy hb
    go_simp
    exact hK.out _ W (stp_of hmo d (Below.refl _ _)) (if_pos rfl)
  case o12 =>
    intro At yy W hy hb d hd K hK
    have e9 : yy 9 = .slice none 0 0 := by obtain ⟨_, _, _, _, e⟩ := hd ⟨9, .data⟩ (by simp) rfl rfl; exact e
    have s38 := (hy 9 _ 38 rfl rfl).trans e9
    have s38' := s38
    rw [Array.getD_eq_getD_getElem?] at s38'
    clear hd hy hb
    go_simp
    exact hK.out _ W (stp_of hmo d (Below.refl _ _)) (if_pos rfl)
  case o13 =>
    intro At yy W hy hb d hd K hK
    have e10 : yy 10 = .int .i64 3 := by obtain ⟨_, _, _, _, e⟩ := hd ⟨10, .data⟩ (by simp) rfl rfl; exact e
    have s39 := (hy 10 _ 39 rfl rfl).trans e10
    have s39' := s39
    rw [Array.getD_eq_getD_getElem?] at s39'
    clear hd hy hb
    go_simp
    exact hK.out _ W (stp_of hmo d (Below.refl _ _)) (if_pos rfl)
  case fin =>
    intro yy lo hi W hM
    show wpList _ _ _ [] _ _
    have e0 : yy 0 = .pointer (some ⟨w.heap.size, 0, none⟩) := hM.fact 0 (by simp) rfl (notR_all 0 rfl)
    have e1 : yy 1 = .agg #[.int .i64 N, .int .i64 M, .int .i64 st, .slice aF Fi.length cF, .slice aN Nx.length cN] := hM.fact 1 (by simp) rfl (notR_all 1 rfl)
    have e3 : yy 3 = .pointer (some ⟨w.heap.size, 5, none⟩) := hM.fact 3 (by simp) rfl (notR_all 3 rfl)
    have e4 : yy 4 = .agg #[.int .i64 N2, .int .i64 M2, .int .i64 s2, .slice aG Gi.length cG, .slice aX Ex.length cX] := hM.fact 4 (by simp) rfl (notR_all 4 rfl)
    have e6 : yy 6 = .tuple #[.bool false, .slice none 0 0, .int .i64 3] := hM.fact 6 (by simp) rfl (notR_all 6 rfl)
    have e7 : yy 7 = .tuple #[.bool false, .slice none 0 0, .int .i64 3] := hM.fact 7 (by simp) rfl (notR_all 7 rfl)
    have e8 : yy 8 = .bool false := hM.fact 8 (by simp) rfl (notR_all 8 rfl)
    have e9 : yy 9 = .slice none 0 0 := hM.fact 9 (by simp) rfl (notR_all 9 rfl)
    have e10 : yy 10 = .int .i64 3 := hM.fact 10 (by simp) rfl (notR_all 10 rfl)
    have e11 : yy 11 = .bool false := hM.fact 11 (by simp) rfl (notR_all 11 rfl)
    have e12 : yy 12 = .slice none 0 0 := hM.fact 12 (by simp) rfl (notR_all 12 rfl)
    have e13 : yy 13 = .int .i64 3 := hM.fact 13 (by simp) rfl (notR_all 13 rfl)
    have dd := hM.d
    simp only [fills, Act.put, List.take, List.length, List.setIfInBounds_toArray, List.set_cons_zero, List.set_cons_succ, e0, e1, e3, e4, e6, e7, e8, e9, e10, e11, e12, e13]
    obtain ⟨gF2, kF2, gN2, kN2, e2, _, _⟩ := hM.fact 2 (by simp) rfl (notR_all 2 rfl)
    obtain ⟨gF5, kF5, gN5, kN5, e5, _, _⟩ := hM.fact 5 (by simp) rfl (notR_all 5 rfl)
    rw [e2, e5]
    clear hM hmo e0 e1 e3 e4 e6 e7 e8 e9 e10 e11 e12 e13 e2 e5
    clear TEQ
    have HDD := hide dd
    clear dd
    go_wp2_with fail
    go_ret
    exact ⟨rfl, HE.out.2.2.2.2.2.2.trans (HDD.out.mono HE.out.2.2.2.2.2.2.size)⟩
set_option maxRecDepth 100000 in
set_option maxHeartbeats 4000000 in
theorem words_bad2 (w : World) (N M st N2 M2 s2 : Int) (aF aN aG aX aW : Option Addr) (cF cN cG cX cW : Nat) (Fi Nx Gi Ex Wd : List Int) (x10 x11 : Value) (hF : RdN w aF Fi) (hN : RdN w aN Nx) (hG : RdN w aG Gi) (hX : RdN w aX Ex) (hW : RdN w aW Wd) (bF : Fi.length ≤ 4194304) (bN : Nx.length ≤ 2097152) (bG : Gi.length ≤ 4194304) (bX : Ex.length ≤ 2097152) (_bW : Wd.length ≤ 4194304) (hv : vd N M st Fi Nx = true) (hv2 : vd N2 M2 s2 Gi Ex = false) :
    Calls Try.prog 5 #[.agg #[.int .i64 N, .int .i64 M, .int .i64 st, .slice aF Fi.length cF, .slice aN Nx.length cN, .int .i64 N2, .int .i64 M2, .int .i64 s2, .slice aG Gi.length cG, .slice aX Ex.length cX, x10, x11, .slice aW Wd.length cW]] w fun e w' => e = .returned (.bool true) ∧ Below w.heap.size w w' := by
  obtain ⟨W0, hW0⟩ : ∃ W, w.alloc (.cells #[.int .i64 N, .int .i64 M, .int .i64 st, .slice aF Fi.length cF, .slice aN Nx.length cN, .int .i64 N2, .int .i64 M2, .int .i64 s2, .slice aG Gi.length cG, .slice aX Ex.length cX, x10, x11, .slice aW Wd.length cW] 26) = W := ⟨_, rfl⟩
  have d0 : Below w.heap.size w W0 := by rw [← hW0]; exact (Below.refl _ _).alloc (Nat.le_refl _) _
  have B0 : W0.heap[w.heap.size]? = some (.cells #[.int .i64 N, .int .i64 M, .int .i64 st, .slice aF Fi.length cF, .slice aN Nx.length cN, .int .i64 N2, .int .i64 M2, .int .i64 s2, .slice aG Gi.length cG, .slice aX Ex.length cX, x10, x11, .slice aW Wd.length cW] 26 (0, 0)) := by rw [← hW0]; exact World.alloc_heap_new _ _
  have HW := hide (And.intro d0 (And.intro B0 (And.intro (hF.on d0) (And.intro (hN.on d0) (And.intro (hG.on d0) (And.intro (hX.on d0) (hW.on d0)))))))
  clear d0 B0 hF hN hG hX hW
  go_enter Try.func5, Try.ntmps5
  go_upto_region 3 with (go_at_call 7; refine (works_any _).mono ?_; rintro e w1 ⟨rfl, D1⟩)
  have H1 := hide (And.intro (blk_on HW.out.2.1 D1) (And.intro (HW.out.2.2.1.on D1) (And.intro (HW.out.2.2.2.1.on D1) (And.intro (HW.out.2.2.2.2.1.on D1) (And.intro (HW.out.2.2.2.2.2.1.on D1) (And.intro (HW.out.2.2.2.2.2.2.on D1) (HW.out.1.trans (D1.mono HW.out.1.size))))))))
  clear D1 HW
  have k0 : w1.cell? ⟨w.heap.size, 0, none⟩ = some (.int .i64 N) := cell_of H1.out.1 rfl
  have k1 : w1.cell? ⟨w.heap.size, 1, none⟩ = some (.int .i64 M) := cell_of H1.out.1 rfl
  have k2 : w1.cell? ⟨w.heap.size, 2, none⟩ = some (.int .i64 st) := cell_of H1.out.1 rfl
  have k3 : w1.cell? ⟨w.heap.size, 3, none⟩ = some (.slice aF Fi.length cF) := cell_of H1.out.1 rfl
  have k4 : w1.cell? ⟨w.heap.size, 4, none⟩ = some (.slice aN Nx.length cN) := cell_of H1.out.1 rfl
  have T9 := twin_any w1 N M st aF aN cF cN Fi Nx H1.out.2.1 H1.out.2.2.1 bF (by omega)
  go_upto_region 4 with (first | (go_at_call 9; refine T9.mono ?_; rintro e w2 ⟨gF, kF, gN, kN, rfl, HT, D2⟩; have T8 := minimal_any8 w2 N M st (some ⟨gF, 0, none⟩) (some ⟨gN, 0, none⟩) Fi.length kF Nx.length kN Fi Nx HT.out.f.rd HT.out.n.rd rfl rfl bF (by omega); have HD2 := hide D2; clear D2 k0 k1 k2 k3 k4) | (go_at_call 8; refine T8.mono ?_; rintro e w3 ⟨n1, m1, s1, u1, l1, c1, v1, k1, d1, rfl, D3⟩; have HD3 := hide (HD2.out.trans (D3.mono HD2.out.size)); clear D3))
  obtain ⟨w4, hw4⟩ : ∃ W, w3.alloc (.cells #[.int .i64 n1, .int .i64 m1, .int .i64 s1, .slice u1 l1 c1, .slice v1 k1 d1] 24) = W := ⟨_, rfl⟩
  rw [hw4]
  have D34 : Below w1.heap.size w1 w4 := by rw [← hw4]; exact HD3.out.alloc HD3.out.size _
  have H4 := hide (And.intro (blk_on H1.out.1 D34) (And.intro (H1.out.2.1.on D34) (And.intro (H1.out.2.2.1.on D34) (And.intro (H1.out.2.2.2.1.on D34) (And.intro (H1.out.2.2.2.2.1.on D34) (And.intro (H1.out.2.2.2.2.2.1.on D34) (H1.out.2.2.2.2.2.2.trans (D34.mono H1.out.2.2.2.2.2.2.size))))))))
  clear hw4 D34 HD2 HD3 H1 T8 T9 HT
  have k5 : w4.cell? ⟨w.heap.size, 5, none⟩ = some (.int .i64 N2) := cell_of H4.out.1 rfl
  have k6 : w4.cell? ⟨w.heap.size, 6, none⟩ = some (.int .i64 M2) := cell_of H4.out.1 rfl
  have k7 : w4.cell? ⟨w.heap.size, 7, none⟩ = some (.int .i64 s2) := cell_of H4.out.1 rfl
  have k8 : w4.cell? ⟨w.heap.size, 8, none⟩ = some (.slice aG Gi.length cG) := cell_of H4.out.1 rfl
  have k9 : w4.cell? ⟨w.heap.size, 9, none⟩ = some (.slice aX Ex.length cX) := cell_of H4.out.1 rfl
  have T9 := twin_any w4 N2 M2 s2 aG aX cG cX Gi Ex H4.out.2.2.2.1 H4.out.2.2.2.2.1 bG (by omega)
  go_upto_region 5 with (first | (go_at_call 9; refine T9.mono ?_; rintro e w5 ⟨gF2, kF2, gN2, kN2, rfl, HT, D2⟩; have T8 := minimal_any8 w5 N2 M2 s2 (some ⟨gF2, 0, none⟩) (some ⟨gN2, 0, none⟩) Gi.length kF2 Ex.length kN2 Gi Ex HT.out.f.rd HT.out.n.rd rfl rfl bG (by omega); have HD2 := hide D2; clear D2 k5 k6 k7 k8 k9) | (go_at_call 8; refine T8.mono ?_; rintro e w6 ⟨n2, m2, s2', u2, l2, c2, v2, k2, d2, rfl, D3⟩; have HD3 := hide (HD2.out.trans (D3.mono HD2.out.size)); clear D3))
  obtain ⟨w7, hw7⟩ : ∃ W, w6.alloc (.cells #[.int .i64 n2, .int .i64 m2, .int .i64 s2', .slice u2 l2 c2, .slice v2 k2 d2] 24) = W := ⟨_, rfl⟩
  rw [hw7]
  have D47 : Below w4.heap.size w4 w7 := by rw [← hw7]; exact HD3.out.alloc HD3.out.size _
  have HE := hide (And.intro (blk_on H4.out.1 D47) (And.intro (H4.out.2.1.on D47) (And.intro (H4.out.2.2.1.on D47) (And.intro (H4.out.2.2.2.1.on D47) (And.intro (H4.out.2.2.2.2.1.on D47) (And.intro (H4.out.2.2.2.2.2.1.on D47) (H4.out.2.2.2.2.2.2.trans (D47.mono H4.out.2.2.2.2.2.2.size))))))))
  clear hw7 D47 HD2 HD3 H4 T8 T9 HT
  have TEQ : Hid (∀ W gF3 kF3 gN3 kN3 gG3 kG3 gX3 kX3, RdN W (some ⟨gF3, 0, none⟩) Fi → RdN W (some ⟨gN3, 0, none⟩) Nx → RdN W (some ⟨gG3, 0, none⟩) Gi → RdN W (some ⟨gX3, 0, none⟩) Ex → Calls Try.prog 18 #[.agg #[.int .i64 N, .int .i64 M, .int .i64 st, .slice (some ⟨gF3, 0, none⟩) Fi.length kF3, .slice (some ⟨gN3, 0, none⟩) Nx.length kN3], .agg #[.int .i64 N2, .int .i64 M2, .int .i64 s2, .slice (some ⟨gG3, 0, none⟩) Gi.length kG3, .slice (some ⟨gX3, 0, none⟩) Ex.length kX3]] W fun e w' => e = .returned (.tuple #[.bool false, .slice none 0 0, .int .i64 3]) ∧ Below W.heap.size W w') := hide (fun W gF3 kF3 gN3 kN3 gG3 kG3 gX3 kX3 h1 h2 h3 h4 => equal_bad2 W N M st N2 M2 s2 (some ⟨gF3, 0, none⟩) (some ⟨gN3, 0, none⟩) (some ⟨gG3, 0, none⟩) (some ⟨gX3, 0, none⟩) Fi.length kF3 Nx.length kN3 Gi.length kG3 Ex.length kX3 Fi Nx Gi Ex h1 h2 h3 h4 rfl rfl rfl rfl bF bN bG bX hv hv2)
  try rw [(show (if vd N M st Fi Nx = true then (0 : Int) else 3) = 0 by rw [hv]; rfl)]
  try rw [(show (if vd N2 M2 s2 Gi Ex = true then (0 : Int) else 3) = 3 by rw [hv2]; rfl)]
  have hmo : MonIL 0 [vI 0 (.pointer (some ⟨w.heap.size, 0, none⟩)), vI 1 (.agg #[.int .i64 N, .int .i64 M, .int .i64 st, .slice aF Fi.length cF, .slice aN Nx.length cN]), pI 2 (twP N M st Fi Nx), vI 3 (.pointer (some ⟨w.heap.size, 5, none⟩)), vI 4 (.agg #[.int .i64 N2, .int .i64 M2, .int .i64 s2, .slice aG Gi.length cG, .slice aX Ex.length cX]), pI 5 (twP N2 M2 s2 Gi Ex), vI 6 (.tuple #[.bool false, .slice none 0 0, .int .i64 3]), vI 7 (.tuple #[.bool false, .slice none 0 0, .int .i64 3]), vI 8 (.bool false), vI 9 (.slice none 0 0), vI 10 (.int .i64 3), vI 11 (.bool false), vI 12 (.slice none 0 0), vI 13 (.int .i64 3)] := ⟨vI_mono _ _, vI_mono _ _, pI_mono twP_mono, vI_mono _ _, vI_mono _ _, pI_mono twP_mono, vI_mono _ _, vI_mono _ _, vI_mono _ _, vI_mono _ _, vI_mono _ _, vI_mono _ _, vI_mono _ _, vI_mono _ _, trivial⟩
  refine wp_region_sl [vI 0 (.pointer (some ⟨w.heap.size, 0, none⟩)), vI 1 (.agg #[.int .i64 N, .int .i64 M, .int .i64 st, .slice aF Fi.length cF, .slice aN Nx.length cN]), pI 2 (twP N M st Fi Nx), vI 3 (.pointer (some ⟨w.heap.size, 5, none⟩)), vI 4 (.agg #[.int .i64 N2, .int .i64 M2, .int .i64 s2, .slice aG Gi.length cG, .slice aX Ex.length cX]), pI 5 (twP N2 M2 s2 Gi Ex), vI 6 (.tuple #[.bool false, .slice none 0 0, .int .i64 3]), vI 7 (.tuple #[.bool false, .slice none 0 0, .int .i64 3]), vI 8 (.bool false), vI 9 (.slice none 0 0), vI 10 (.int .i64 3), vI 11 (.bool false), vI 12 (.slice none 0 0), vI 13 (.int .i64 3)] (by kernel_rfl) (by kernel_rfl) (by kernel_rfl) (by kernel_rfl) hmo ⟨?o0, ?o1, ?o2, ?o3, ?o4, ?o5, ?o6, ?o7, ?o8, ?o9, ?o10, ?o11, ?o12, ?o13, trivial⟩ ?fin
  case o0 =>
    intro At yy W hy hb d hd K hK
    have s1 : At.tmps.getD 1 undef = .pointer (some ⟨w.heap.size, 0, none⟩) := hb 1 rfl
    have s1' := s1
    rw [Array.getD_eq_getD_getElem?] at s1'
    clear hd hy hb
    go_simp
    exact hK.out _ W (stp_of hmo d (Below.refl _ _)) (if_pos rfl)
  case o1 =>
    intro At yy W hy hb d hd K hK
    have e0 : yy 0 = .pointer (some ⟨w.heap.size, 0, none⟩) := by obtain ⟨_, _, _, _, e⟩ := hd ⟨0, .data⟩ (by simp) rfl rfl; exact e
    have s30 := (hy 0 _ 30 rfl rfl).trans e0
    have s30' := s30
    rw [Array.getD_eq_getD_getElem?] at s30'
    clear hd hy hb
    have yb0 : W.cell? ⟨w.heap.size, 0, none⟩ = some (.int .i64 N) := cell_of (blk_on HE.out.1 d) rfl
    have yb1 : W.cell? ⟨w.heap.size, 1, none⟩ = some (.int .i64 M) := cell_of (blk_on HE.out.1 d) rfl
    have yb2 : W.cell? ⟨w.heap.size, 2, none⟩ = some (.int .i64 st) := cell_of (blk_on HE.out.1 d) rfl
    have yb3 : W.cell? ⟨w.heap.size, 3, none⟩ = some (.slice aF Fi.length cF) := cell_of (blk_on HE.out.1 d) rfl
    have yb4 : W.cell? ⟨w.heap.size, 4, none⟩ = some (.slice aN Nx.length cN) := cell_of (blk_on HE.out.1 d) rfl
    go_simp
    exact hK.out _ W (stp_of hmo d (Below.refl _ _)) (if_pos rfl)
  case o2 =>
    intro At yy W hy hb d hd K hK
    have e1 : yy 1 = .agg #[.int .i64 N, .int .i64 M, .int .i64 st, .slice aF Fi.length cF, .slice aN Nx.length cN] := by obtain ⟨_, _, _, _, e⟩ := hd ⟨1, .data⟩ (by simp) rfl rfl; exact e
    have s31 := (hy 1 _ 31 rfl rfl).trans e1
    have s31' := s31
    rw [Array.getD_eq_getD_getElem?] at s31'
    clear hd hy hb
    go_simp
    go_wp2_with (go_at_call 9; refine (twin_any _ N M st aF aN cF cN Fi Nx (HE.out.2.1.on d) (HE.out.2.2.1.on d) bF (by omega)).mono ?_; rintro e wa ⟨gF3, kF3, gN3, kN3, rfl, HT3, da⟩)
    exact hK.out _ wa (stp_of hmo d da) ⟨gF3, kF3, gN3, kN3, if_pos rfl, HT3.out.f.rd, HT3.out.n.rd⟩
  case o3 =>
    intro At yy W hy hb d hd K hK
    have s1 : At.tmps.getD 1 undef = .pointer (some ⟨w.heap.size, 0, none⟩) := hb 1 rfl
    have s1' := s1
    rw [Array.getD_eq_getD_getElem?] at s1'
    clear hd hy hb
    go_simp
    exact hK.out _ W (stp_of hmo d (Below.refl _ _)) (if_pos rfl)
  case o4 =>
    intro At yy W hy hb d hd K hK
    have e3 : yy 3 = .pointer (some ⟨w.heap.size, 5, none⟩) := by obtain ⟨_, _, _, _, e⟩ := hd ⟨3, .data⟩ (by simp) rfl rfl; exact e
    have s33 := (hy 3 _ 33 rfl rfl).trans e3
    have s33' := s33
    rw [Array.getD_eq_getD_getElem?] at s33'
    clear hd hy hb
    have yb5 : W.cell? ⟨w.heap.size, 5, none⟩ = some (.int .i64 N2) := cell_of (blk_on HE.out.1 d) rfl
    have yb6 : W.cell? ⟨w.heap.size, 6, none⟩ = some (.int .i64 M2) := cell_of (blk_on HE.out.1 d) rfl
    have yb7 : W.cell? ⟨w.heap.size, 7, none⟩ = some (.int .i64 s2) := cell_of (blk_on HE.out.1 d) rfl
    have yb8 : W.cell? ⟨w.heap.size, 8, none⟩ = some (.slice aG Gi.length cG) := cell_of (blk_on HE.out.1 d) rfl
    have yb9 : W.cell? ⟨w.heap.size, 9, none⟩ = some (.slice aX Ex.length cX) := cell_of (blk_on HE.out.1 d) rfl
    go_simp
    exact hK.out _ W (stp_of hmo d (Below.refl _ _)) (if_pos rfl)
  case o5 =>
    intro At yy W hy hb d hd K hK
    have e4 : yy 4 = .agg #[.int .i64 N2, .int .i64 M2, .int .i64 s2, .slice aG Gi.length cG, .slice aX Ex.length cX] := by obtain ⟨_, _, _, _, e⟩ := hd ⟨4, .data⟩ (by simp) rfl rfl; exact e
    have s34 := (hy 4 _ 34 rfl rfl).trans e4
    have s34' := s34
    rw [Array.getD_eq_getD_getElem?] at s34'
    clear hd hy hb
    go_simp
    go_wp2_with (go_at_call 9; refine (twin_any _ N2 M2 s2 aG aX cG cX Gi Ex (HE.out.2.2.2.1.on d) (HE.out.2.2.2.2.1.on d) bG (by omega)).mono ?_; rintro e wa ⟨gF3, kF3, gN3, kN3, rfl, HT3, da⟩)
    exact hK.out _ wa (stp_of hmo d da) ⟨gF3, kF3, gN3, kN3, if_pos rfl, HT3.out.f.rd, HT3.out.n.rd⟩
  case o6 =>
    intro At yy W hy hb d hd K hK
    have f2 := hd ⟨2, .data⟩ (by simp) rfl rfl
    have f5 := hd ⟨5, .data⟩ (by simp) rfl rfl
    obtain ⟨lo2, hi2, hl2, hh2, gF3, kF3, gN3, kN3, e2, ra, rb⟩ := f2
    obtain ⟨lo5, hi5, hl5, hh5, gG3, kG3, gX3, kX3, e5, rc, rd⟩ := f5
    have s32 := (hy 2 _ 32 rfl rfl).trans e2
    have s32' := s32
    rw [Array.getD_eq_getD_getElem?] at s32'
    have s35 := (hy 5 _ 35 rfl rfl).trans e5
    have s35' := s35
    rw [Array.getD_eq_getD_getElem?] at s35'
    clear hd hy hb
    go_simp
    go_wp2_with (go_at_call 18; refine (TEQ.out _ gF3 kF3 gN3 kN3 gG3 kG3 gX3 kX3 ra rb rc rd).mono ?_; rintro e wa ⟨rfl, da⟩)
    exact hK.out _ wa (stp_of hmo d da) (if_pos rfl)
  case o7 =>
    intro At yy W hy hb d hd K hK
    have e6 : yy 6 = .tuple #[.bool false, .slice none 0 0, .int .i64 3] := by obtain ⟨_, _, _, _, e⟩ := hd ⟨6, .data⟩ (by simp) rfl rfl; exact e
    have s36 := (hy 6 _ 36 rfl rfl).trans e6
    have s36' := s36
    rw [Array.getD_eq_getD_getElem?] at s36'
    clear hd hy hb
    go_simp
    exact hK.out _ W (stp_of hmo d (Below.refl _ _)) (if_pos rfl)
  case o8 =>
    intro At yy W hy hb d hd K hK
    have e7 : yy 7 = .tuple #[.bool false, .slice none 0 0, .int .i64 3] := by obtain ⟨_, _, _, _, e⟩ := hd ⟨7, .data⟩ (by simp) rfl rfl; exact e
    have s29 := (hy 7 _ 29 rfl rfl).trans e7
    have s29' := s29
    rw [Array.getD_eq_getD_getElem?] at s29'
    clear hd hy hb
    go_simp
    exact hK.out _ W (stp_of hmo d (Below.refl _ _)) (if_pos rfl)
  case o9 =>
    intro At yy W hy hb d hd K hK
    have e7 : yy 7 = .tuple #[.bool false, .slice none 0 0, .int .i64 3] := by obtain ⟨_, _, _, _, e⟩ := hd ⟨7, .data⟩ (by simp) rfl rfl; exact e
    have s29 := (hy 7 _ 29 rfl rfl).trans e7
    have s29' := s29
    rw [Array.getD_eq_getD_getElem?] at s29'
    clear hd hy hb
    go_simp
    exact hK.out _ W (stp_of hmo d (Below.refl _ _)) (if_pos rfl)
  case o10 =>
    intro At yy W hy hb d hd K hK
    have e7 : yy 7 = .tuple #[.bool false, .slice none 0 0, .int .i64 3] := by obtain ⟨_, _, _, _, e⟩ := hd ⟨7, .data⟩ (by simp) rfl rfl; exact e
    have s29 := (hy 7 _ 29 rfl rfl).trans e7
    have s29' := s29
    rw [Array.getD_eq_getD_getElem?] at s29'
    clear hd hy hb
    go_simp
    exact hK.out _ W (stp_of hmo d (Below.refl _ _)) (if_pos rfl)
  case o11 =>
    intro At yy W hy hb d hd K hK
    have e8 : yy 8 = .bool false := by obtain ⟨_, _, _, _, e⟩ := hd ⟨8, .data⟩ (by simp) rfl rfl; exact e
    have s37 := (hy 8 _ 37 rfl rfl).trans e8
    have s37' := s37
    rw [Array.getD_eq_getD_getElem?] at s37'
    clear hd hy hb
    go_simp
    exact hK.out _ W (stp_of hmo d (Below.refl _ _)) (if_pos rfl)
  case o12 =>
    intro At yy W hy hb d hd K hK
    have e9 : yy 9 = .slice none 0 0 := by obtain ⟨_, _, _, _, e⟩ := hd ⟨9, .data⟩ (by simp) rfl rfl; exact e
    have s38 := (hy 9 _ 38 rfl rfl).trans e9
    have s38' := s38
    rw [Array.getD_eq_getD_getElem?] at s38'
    clear hd hy hb
    go_simp
    exact hK.out _ W (stp_of hmo d (Below.refl _ _)) (if_pos rfl)
  case o13 =>
    intro At yy W hy hb d hd K hK
    have e10 : yy 10 = .int .i64 3 := by obtain ⟨_, _, _, _, e⟩ := hd ⟨10, .data⟩ (by simp) rfl rfl; exact e
    have s39 := (hy 10 _ 39 rfl rfl).trans e10
    have s39' := s39
    rw [Array.getD_eq_getD_getElem?] at s39'
    clear hd hy hb
    go_simp
    exact hK.out _ W (stp_of hmo d (Below.refl _ _)) (if_pos rfl)
  case fin =>
    intro yy lo hi W hM
    show wpList _ _ _ [] _ _
    have e0 : yy 0 = .pointer (some ⟨w.heap.size, 0, none⟩) := hM.fact 0 (by simp) rfl (notR_all 0 rfl)
    have e1 : yy 1 = .agg #[.int .i64 N, .int .i64 M, .int .i64 st, .slice aF Fi.length cF, .slice aN Nx.length cN] := hM.fact 1 (by simp) rfl (notR_all 1 rfl)
    have e3 : yy 3 = .pointer (some ⟨w.heap.size, 5, none⟩) := hM.fact 3 (by simp) rfl (notR_all 3 rfl)
    have e4 : yy 4 = .agg #[.int .i64 N2, .int .i64 M2, .int .i64 s2, .slice aG Gi.length cG, .slice aX Ex.length cX] := hM.fact 4 (by simp) rfl (notR_all 4 rfl)
    have e6 : yy 6 = .tuple #[.bool false, .slice none 0 0, .int .i64 3] := hM.fact 6 (by simp) rfl (notR_all 6 rfl)
    have e7 : yy 7 = .tuple #[.bool false, .slice none 0 0, .int .i64 3] := hM.fact 7 (by simp) rfl (notR_all 7 rfl)
    have e8 : yy 8 = .bool false := hM.fact 8 (by simp) rfl (notR_all 8 rfl)
    have e9 : yy 9 = .slice none 0 0 := hM.fact 9 (by simp) rfl (notR_all 9 rfl)
    have e10 : yy 10 = .int .i64 3 := hM.fact 10 (by simp) rfl (notR_all 10 rfl)
    have e11 : yy 11 = .bool false := hM.fact 11 (by simp) rfl (notR_all 11 rfl)
    have e12 : yy 12 = .slice none 0 0 := hM.fact 12 (by simp) rfl (notR_all 12 rfl)
    have e13 : yy 13 = .int .i64 3 := hM.fact 13 (by simp) rfl (notR_all 13 rfl)
    have dd := hM.d
    simp only [fills, Act.put, List.take, List.length, List.setIfInBounds_toArray, List.set_cons_zero, List.set_cons_succ, e0, e1, e3, e4, e6, e7, e8, e9, e10, e11, e12, e13]
    obtain ⟨gF2, kF2, gN2, kN2, e2, _, _⟩ := hM.fact 2 (by simp) rfl (notR_all 2 rfl)
    obtain ⟨gF5, kF5, gN5, kN5, e5, _, _⟩ := hM.fact 5 (by simp) rfl (notR_all 5 rfl)
    rw [e2, e5]
    clear hM hmo e0 e1 e3 e4 e6 e7 e8 e9 e10 e11 e12 e13 e2 e5
    clear TEQ
    have HDD := hide dd
    clear dd
    go_wp2_with fail
    go_ret
    exact ⟨rfl, HE.out.2.2.2.2.2.2.trans (HDD.out.mono HE.out.2.2.2.2.2.2.size)⟩
set_option maxRecDepth 100000 in
set_option maxHeartbeats 4000000 in
theorem words_sym (w : World) (N M st N2 M2 s2 : Int) (aF aN aG aX aW : Option Addr) (cF cN cG cX cW : Nat) (Fi Nx Gi Ex Wd : List Int) (x10 x11 : Value) (hF : RdN w aF Fi) (hN : RdN w aN Nx) (hG : RdN w aG Gi) (hX : RdN w aX Ex) (hW : RdN w aW Wd) (bF : Fi.length ≤ 4194304) (bN : Nx.length ≤ 2097152) (bG : Gi.length ≤ 4194304) (bX : Ex.length ≤ 2097152) (_bW : Wd.length ≤ 4194304) (hv : vd N M st Fi Nx = true) (hv2 : vd N2 M2 s2 Gi Ex = true) (hM9 : ¬ M = M2) :
    Calls Try.prog 5 #[.agg #[.int .i64 N, .int .i64 M, .int .i64 st, .slice aF Fi.length cF, .slice aN Nx.length cN, .int .i64 N2, .int .i64 M2, .int .i64 s2, .slice aG Gi.length cG, .slice aX Ex.length cX, x10, x11, .slice aW Wd.length cW]] w fun e w' => e = .returned (.bool true) ∧ Below w.heap.size w w' := by
  obtain ⟨W0, hW0⟩ : ∃ W, w.alloc (.cells #[.int .i64 N, .int .i64 M, .int .i64 st, .slice aF Fi.length cF, .slice aN Nx.length cN, .int .i64 N2, .int .i64 M2, .int .i64 s2, .slice aG Gi.length cG, .slice aX Ex.length cX, x10, x11, .slice aW Wd.length cW] 26) = W := ⟨_, rfl⟩
  have d0 : Below w.heap.size w W0 := by rw [← hW0]; exact (Below.refl _ _).alloc (Nat.le_refl _) _
  have B0 : W0.heap[w.heap.size]? = some (.cells #[.int .i64 N, .int .i64 M, .int .i64 st, .slice aF Fi.length cF, .slice aN Nx.length cN, .int .i64 N2, .int .i64 M2, .int .i64 s2, .slice aG Gi.length cG, .slice aX Ex.length cX, x10, x11, .slice aW Wd.length cW] 26 (0, 0)) := by rw [← hW0]; exact World.alloc_heap_new _ _
  have HW := hide (And.intro d0 (And.intro B0 (And.intro (hF.on d0) (And.intro (hN.on d0) (And.intro (hG.on d0) (And.intro (hX.on d0) (hW.on d0)))))))
  clear d0 B0 hF hN hG hX hW
  go_enter Try.func5, Try.ntmps5
  go_upto_region 3 with (go_at_call 7; refine (works_any _).mono ?_; rintro e w1 ⟨rfl, D1⟩)
  have H1 := hide (And.intro (blk_on HW.out.2.1 D1) (And.intro (HW.out.2.2.1.on D1) (And.intro (HW.out.2.2.2.1.on D1) (And.intro (HW.out.2.2.2.2.1.on D1) (And.intro (HW.out.2.2.2.2.2.1.on D1) (And.intro (HW.out.2.2.2.2.2.2.on D1) (HW.out.1.trans (D1.mono HW.out.1.size))))))))
  clear D1 HW
  have k0 : w1.cell? ⟨w.heap.size, 0, none⟩ = some (.int .i64 N) := cell_of H1.out.1 rfl
  have k1 : w1.cell? ⟨w.heap.size, 1, none⟩ = some (.int .i64 M) := cell_of H1.out.1 rfl
  have k2 : w1.cell? ⟨w.heap.size, 2, none⟩ = some (.int .i64 st) := cell_of H1.out.1 rfl
  have k3 : w1.cell? ⟨w.heap.size, 3, none⟩ = some (.slice aF Fi.length cF) := cell_of H1.out.1 rfl
  have k4 : w1.cell? ⟨w.heap.size, 4, none⟩ = some (.slice aN Nx.length cN) := cell_of H1.out.1 rfl
  have T9 := twin_any w1 N M st aF aN cF cN Fi Nx H1.out.2.1 H1.out.2.2.1 bF (by omega)
  go_upto_region 4 with (first | (go_at_call 9; refine T9.mono ?_; rintro e w2 ⟨gF, kF, gN, kN, rfl, HT, D2⟩; have T8 := minimal_any8 w2 N M st (some ⟨gF, 0, none⟩) (some ⟨gN, 0, none⟩) Fi.length kF Nx.length kN Fi Nx HT.out.f.rd HT.out.n.rd rfl rfl bF (by omega); have HD2 := hide D2; clear D2 k0 k1 k2 k3 k4) | (go_at_call 8; refine T8.mono ?_; rintro e w3 ⟨n1, m1, s1, u1, l1, c1, v1, k1, d1, rfl, D3⟩; have HD3 := hide (HD2.out.trans (D3.mono HD2.out.size)); clear D3))
  obtain ⟨w4, hw4⟩ : ∃ W, w3.alloc (.cells #[.int .i64 n1, .int .i64 m1, .int .i64 s1, .slice u1 l1 c1, .slice v1 k1 d1] 24) = W := ⟨_, rfl⟩
  rw [hw4]
  have D34 : Below w1.heap.size w1 w4 := by rw [← hw4]; exact HD3.out.alloc HD3.out.size _
  have H4 := hide (And.intro (blk_on H1.out.1 D34) (And.intro (H1.out.2.1.on D34) (And.intro (H1.out.2.2.1.on D34) (And.intro (H1.out.2.2.2.1.on D34) (And.intro (H1.out.2.2.2.2.1.on D34) (And.intro (H1.out.2.2.2.2.2.1.on D34) (H1.out.2.2.2.2.2.2.trans (D34.mono H1.out.2.2.2.2.2.2.size))))))))
  clear hw4 D34 HD2 HD3 H1 T8 T9 HT
  have k5 : w4.cell? ⟨w.heap.size, 5, none⟩ = some (.int .i64 N2) := cell_of H4.out.1 rfl
  have k6 : w4.cell? ⟨w.heap.size, 6, none⟩ = some (.int .i64 M2) := cell_of H4.out.1 rfl
  have k7 : w4.cell? ⟨w.heap.size, 7, none⟩ = some (.int .i64 s2) := cell_of H4.out.1 rfl
  have k8 : w4.cell? ⟨w.heap.size, 8, none⟩ = some (.slice aG Gi.length cG) := cell_of H4.out.1 rfl
  have k9 : w4.cell? ⟨w.heap.size, 9, none⟩ = some (.slice aX Ex.length cX) := cell_of H4.out.1 rfl
  have T9 := twin_any w4 N2 M2 s2 aG aX cG cX Gi Ex H4.out.2.2.2.1 H4.out.2.2.2.2.1 bG (by omega)
  go_upto_region 5 with (first | (go_at_call 9; refine T9.mono ?_; rintro e w5 ⟨gF2, kF2, gN2, kN2, rfl, HT, D2⟩; have T8 := minimal_any8 w5 N2 M2 s2 (some ⟨gF2, 0, none⟩) (some ⟨gN2, 0, none⟩) Gi.length kF2 Ex.length kN2 Gi Ex HT.out.f.rd HT.out.n.rd rfl rfl bG (by omega); have HD2 := hide D2; clear D2 k5 k6 k7 k8 k9) | (go_at_call 8; refine T8.mono ?_; rintro e w6 ⟨n2, m2, s2', u2, l2, c2, v2, k2, d2, rfl, D3⟩; have HD3 := hide (HD2.out.trans (D3.mono HD2.out.size)); clear D3))
  obtain ⟨w7, hw7⟩ : ∃ W, w6.alloc (.cells #[.int .i64 n2, .int .i64 m2, .int .i64 s2', .slice u2 l2 c2, .slice v2 k2 d2] 24) = W := ⟨_, rfl⟩
  rw [hw7]
  have D47 : Below w4.heap.size w4 w7 := by rw [← hw7]; exact HD3.out.alloc HD3.out.size _
  have HE := hide (And.intro (blk_on H4.out.1 D47) (And.intro (H4.out.2.1.on D47) (And.intro (H4.out.2.2.1.on D47) (And.intro (H4.out.2.2.2.1.on D47) (And.intro (H4.out.2.2.2.2.1.on D47) (And.intro (H4.out.2.2.2.2.2.1.on D47) (H4.out.2.2.2.2.2.2.trans (D47.mono H4.out.2.2.2.2.2.2.size))))))))
  clear hw7 D47 HD2 HD3 H4 T8 T9 HT
  have TEQ : Hid (∀ W gF3 kF3 gN3 kN3 gG3 kG3 gX3 kX3, RdN W (some ⟨gF3, 0, none⟩) Fi → RdN W (some ⟨gN3, 0, none⟩) Nx → RdN W (some ⟨gG3, 0, none⟩) Gi → RdN W (some ⟨gX3, 0, none⟩) Ex → Calls Try.prog 18 #[.agg #[.int .i64 N, .int .i64 M, .int .i64 st, .slice (some ⟨gF3, 0, none⟩) Fi.length kF3, .slice (some ⟨gN3, 0, none⟩) Nx.length kN3], .agg #[.int .i64 N2, .int .i64 M2, .int .i64 s2, .slice (some ⟨gG3, 0, none⟩) Gi.length kG3, .slice (some ⟨gX3, 0, none⟩) Ex.length kX3]] W fun e w' => e = .returned (.tuple #[.bool false, .slice none 0 0, .int .i64 6]) ∧ Below W.heap.size W w') := hide (fun W gF3 kF3 gN3 kN3 gG3 kG3 gX3 kX3 h1 h2 h3 h4 => equal_sym W N M st N2 M2 s2 (some ⟨gF3, 0, none⟩) (some ⟨gN3, 0, none⟩) (some ⟨gG3, 0, none⟩) (some ⟨gX3, 0, none⟩) Fi.length kF3 Nx.length kN3 Gi.length kG3 Ex.length kX3 Fi Nx Gi Ex h1 h2 h3 h4 rfl rfl rfl rfl bF bN bG bX hv hv2 hM9)
  try rw [(show (if vd N M st Fi Nx = true then (0 : Int) else 3) = 0 by rw [hv]; rfl)]
  try rw [(show (if vd N2 M2 s2 Gi Ex = true then (0 : Int) else 3) = 0 by rw [hv2]; rfl)]
  have hmo : MonIL 0 [vI 0 (.pointer (some ⟨w.heap.size, 0, none⟩)), vI 1 (.agg #[.int .i64 N, .int .i64 M, .int .i64 st, .slice aF Fi.length cF, .slice aN Nx.length cN]), pI 2 (twP N M st Fi Nx), vI 3 (.pointer (some ⟨w.heap.size, 5, none⟩)), vI 4 (.agg #[.int .i64 N2, .int .i64 M2, .int .i64 s2, .slice aG Gi.length cG, .slice aX Ex.length cX]), pI 5 (twP N2 M2 s2 Gi Ex), vI 6 (.tuple #[.bool false, .slice none 0 0, .int .i64 6]), vI 7 (.tuple #[.bool false, .slice none 0 0, .int .i64 6]), vI 8 (.bool false), vI 9 (.slice none 0 0), vI 10 (.int .i64 6), vI 11 (.bool false), vI 12 (.slice none 0 0), vI 13 (.int .i64 6)] := ⟨vI_mono _ _, vI_mono _ _, pI_mono twP_mono, vI_mono _ _, vI_mono _ _, pI_mono twP_mono, vI_mono _ _, vI_mono _ _, vI_mono _ _, vI_mono _ _, vI_mono _ _, vI_mono _ _, vI_mono _ _, vI_mono _ _, trivial⟩
  refine wp_region_sl [vI 0 (.pointer (some ⟨w.heap.size, 0, none⟩)), vI 1 (.agg #[.int .i64 N, .int .i64 M, .int .i64 st, .slice aF Fi.length cF, .slice aN Nx.length cN]), pI 2 (twP N M st Fi Nx), vI 3 (.pointer (some ⟨w.heap.size, 5, none⟩)), vI 4 (.agg #[.int .i64 N2, .int .i64 M2, .int .i64 s2, .slice aG Gi.length cG, .slice aX Ex.length cX]), pI 5 (twP N2 M2 s2 Gi Ex), vI 6 (.tuple #[.bool false, .slice none 0 0, .int .i64 6]), vI 7 (.tuple #[.bool false, .slice none 0 0, .int .i64 6]), vI 8 (.bool false), vI 9 (.slice none 0 0), vI 10 (.int .i64 6), vI 11 (.bool false), vI 12 (.slice none 0 0), vI 13 (.int .i64 6)] (by kernel_rfl) (by kernel_rfl) (by kernel_rfl) (by kernel_rfl) hmo ⟨?o0, ?o1, ?o2, ?o3, ?o4, ?o5, ?o6, ?o7, ?o8, ?o9, ?o10, ?o11, ?o12, ?o13, trivial⟩ ?fin
  case o0 =>
    intro At yy W hy hb d hd K hK
    have s1 : At.tmps.getD 1 undef = .pointer (some ⟨w.heap.size, 0, none⟩) := hb 1 rfl
    have s1' := s1
    rw [Array.getD_eq_getD_getElem?] at s1'
    clear hd hy hb
    go_simp
    exact hK.out _ W (stp_of hmo d (Below.refl _ _)) (if_pos rfl)
  case o1 =>
    intro At yy W hy hb d hd K hK
    have e0 : yy 0 = .pointer (some ⟨w.heap.size, 0, none⟩) := by obtain ⟨_, _, _, _, e⟩ := hd ⟨0, .data⟩ (by simp) rfl rfl; exact e
    have s30 := (hy 0 _ 30 rfl rfl).trans e0
    have s30' := s30
    rw [Array.getD_eq_getD_getElem?] at s30'
    clear hd hy hb
    have yb0 : W.cell? ⟨w.heap.size, 0, none⟩ = some (.int .i64 N) := cell_of (blk_on HE.out.1 d) rfl
    have yb1 : W.cell? ⟨w.heap.size, 1, none⟩ = some (.int .i64 M) := cell_of (blk_on HE.out.1 d) rfl
    have yb2 : W.cell? ⟨w.heap.size, 2, none⟩ = some (.int .i64 st) := cell_of (blk_on HE.out.1 d) rfl
    have yb3 : W.cell? ⟨w.heap.size, 3, none⟩ = some (.slice aF Fi.length cF) := cell_of (blk_on HE.out.1 d) rfl
    have yb4 : W.cell? ⟨w.heap.size, 4, none⟩ = some (.slice aN Nx.length cN) := cell_of (blk_on HE.out.1 d) rfl
    go_simp
    exact hK.out _ W (stp_of hmo d (Below.refl _ _)) (if_pos rfl)
  case o2 =>
    intro At yy W hy hb d hd K hK
    have e1 : yy 1 = .agg #[.int .i64 N, .int .i64 M, .int .i64 st, .slice aF Fi.length cF, .slice aN Nx.length cN] := by obtain ⟨_, _, _, _, e⟩ := hd ⟨1, .data⟩ (by simp) rfl rfl; exact e
    have s31 := (hy 1 _ 31 rfl rfl).trans e1
    have s31' := s31
    rw [Array.getD_eq_getD_getElem?] at s31'
    clear hd hy hb
    go_simp
    go_wp2_with (go_at_call 9; refine (twin_any _ N M st aF aN cF cN Fi Nx (HE.out.2.1.on d) (HE.out.2.2.1.on d) bF (by omega)).mono ?_; rintro e wa ⟨gF3, kF3, gN3, kN3, rfl, HT3, da⟩)
    exact hK.out _ wa (stp_of hmo d da) ⟨gF3, kF3, gN3, kN3, if_pos rfl, HT3.out.f.rd, HT3.out.n.rd⟩
  case o3 =>
    intro At yy W hy hb d hd K hK
    have s1 : At.tmps.getD 1 undef = .pointer (some ⟨w.heap.size, 0, none⟩) := hb 1 rfl
    have s1' := s1
    rw [Array.getD_eq_getD_getElem?] at s1'
    clear hd hy hb
    go_simp
    exact hK.out _ W (stp_of hmo d (Below.refl _ _)) (if_pos rfl)
  case o4 =>
    intro At yy W hy hb d hd K hK
    have e3 : yy 3 = .pointer (some ⟨w.heap.size, 5, none⟩) := by obtain ⟨_, _, _, _, e⟩ := hd ⟨3, .data⟩ (by simp) rfl rfl; exact e
    have s33 := (hy 3 _ 33 rfl rfl).trans e3
    have s33' := s33
    rw [Array.getD_eq_getD_getElem?] at s33'
    clear hd hy hb
    have yb5 : W.cell? ⟨w.heap.size, 5, none⟩ = some (.int .i64 N2) := cell_of (blk_on HE.out.1 d) rfl
    have yb6 : W.cell? ⟨w.heap.size, 6, none⟩ = some (.int .i64 M2) := cell_of (blk_on HE.out.1 d) rfl
    have yb7 : W.cell? ⟨w.heap.size, 7, none⟩ = some (.int .i64 s2) := cell_of (blk_on HE.out.1 d) rfl
    have yb8 : W.cell? ⟨w.heap.size, 8, none⟩ = some (.slice aG Gi.length cG) := cell_of (blk_on HE.out.1 d) rfl
    have yb9 : W.cell? ⟨w.heap.size, 9, none⟩ = some (.slice aX Ex.length cX) := cell_of (blk_on HE.out.1 d) rfl
    go_simp
    exact hK.out _ W (stp_of hmo d (Below.refl _ _)) (if_pos rfl)
  case o5 =>
    intro At yy W hy hb d hd K hK
    have e4 : yy 4 = .agg #[.int .i64 N2, .int .i64 M2, .int .i64 s2, .slice aG Gi.length cG, .slice aX Ex.length cX] := by obtain ⟨_, _, _, _, e⟩ := hd ⟨4, .data⟩ (by simp) rfl rfl; exact e
    have s34 := (hy 4 _ 34 rfl rfl).trans e4
    have s34' := s34
    rw [Array.getD_eq_getD_getElem?] at s34'
    clear hd hy hb
    go_simp
    go_wp2_with (go_at_call 9; refine (twin_any _ N2 M2 s2 aG aX cG cX Gi Ex (HE.out.2.2.2.1.on d) (HE.out.2.2.2.2.1.on d) bG (by omega)).mono ?_; rintro e wa ⟨gF3, kF3, gN3, kN3, rfl, HT3, da⟩)
    exact hK.out _ wa (stp_of hmo d da) ⟨gF3, kF3, gN3, kN3, if_pos rfl, HT3.out.f.rd, HT3.out.n.rd⟩
  case o6 =>
    intro At yy W hy hb d hd K hK
    have f2 := hd ⟨2, .data⟩ (by simp) rfl rfl
    have f5 := hd ⟨5, .data⟩ (by simp) rfl rfl
    obtain ⟨lo2, hi2, hl2, hh2, gF3, kF3, gN3, kN3, e2, ra, rb⟩ := f2
    obtain ⟨lo5, hi5, hl5, hh5, gG3, kG3, gX3, kX3, e5, rc, rd⟩ := f5
    have s32 := (hy 2 _ 32 rfl rfl).trans e2
    have s32' := s32
    rw [Array.getD_eq_getD_getElem?] at s32'
    have s35 := (hy 5 _ 35 rfl rfl).trans e5
    have s35' := s35
    rw [Array.getD_eq_getD_getElem?] at s35'
    clear hd hy hb
    go_simp
    go_wp2_with (go_at_call 18; refine (TEQ.out _ gF3 kF3 gN3 kN3 gG3 kG3 gX3 kX3 ra rb rc rd).mono ?_; rintro e wa ⟨rfl, da⟩)
    exact hK.out _ wa (stp_of hmo d da) (if_pos rfl)
  case o7 =>
    intro At yy W hy hb d hd K hK
    have e6 : yy 6 = .tuple #[.bool false, .slice none 0 0, .int .i64 6] := by obtain ⟨_, _, _, _, e⟩ := hd ⟨6, .data⟩ (by simp) rfl rfl; exact e
    have s36 := (hy 6 _ 36 rfl rfl).trans e6
    have s36' := s36
    rw [Array.getD_eq_getD_getElem?] at s36'
    clear hd hy hb
    go_simp
    exact hK.out _ W (stp_of hmo d (Below.refl _ _)) (if_pos rfl)
  case o8 =>
    intro At yy W hy hb d hd K hK
    have e7 : yy 7 = .tuple #[.bool false, .slice none 0 0, .int .i64 6] := by obtain ⟨_, _, _, _, e⟩ := hd ⟨7, .data⟩ (by simp) rfl rfl; exact e
    have s29 := (hy 7 _ 29 rfl rfl).trans e7
    have s29' := s29
    rw [Array.getD_eq_getD_getElem?] at s29'
    clear hd hy hb
    go_simp
    exact hK.out _ W (stp_of hmo d (Below.refl _ _)) (if_pos rfl)
  case o9 =>
    intro At yy W hy hb d hd K hK
    have e7 : yy 7 = .tuple #[.bool false, .slice none 0 0, .int .i64 6] := by obtain ⟨_, _, _, _, e⟩ := hd ⟨7, .data⟩ (by simp) rfl rfl; exact e
    have s29 := (hy 7 _ 29 rfl rfl).trans e7
    have s29' := s29
    rw [Array.getD_eq_getD_getElem?] at s29'
    clear hd hy hb
    go_simp
    exact hK.out _ W (stp_of hmo d (Below.refl _ _)) (if_pos rfl)
  case o10 =>
    intro At yy W hy hb d hd K hK
    have e7 : yy 7 = .tuple #[.bool false, .slice none 0 0, .int .i64 6] := by obtain ⟨_, _, _, _, e⟩ := hd ⟨7, .data⟩ (by simp) rfl rfl; exact e
    have s29 := (hy 7 _ 29 rfl rfl).trans e7
    have s29' := s29
    rw [Array.getD_eq_getD_getElem?] at s29'
    clear hd hy hb
    go_simp
    exact hK.out _ W (stp_of hmo d (Below.refl _ _)) (if_pos rfl)
  case o11 =>
    intro At yy W hy hb d hd K hK
    have e8 : yy 8 = .bool false := by obtain ⟨_, _, _, _, e⟩ := hd ⟨8, .data⟩ (by simp) rfl rfl; exact e
    have s37 := (hy 8 _ 37 rfl rfl).trans e8
    have s37' := s37
    rw [Array.getD_eq_getD_getElem?] at s37'
    clear hd hy hb
    go_simp
    exact hK.out _ W (stp_of hmo d (Below.refl _ _)) (if_pos rfl)
  case o12 =>
    intro At yy W hy hb d hd K hK
    have e9 : yy 9 = .slice none 0 0 := by obtain ⟨_, _, _, _, e⟩ := hd ⟨9, .data⟩ (by simp) rfl rfl; exact e
    have s38 := (hy 9 _ 38 rfl rfl).trans e9
    have s38' := s38
    rw [Array.getD_eq_getD_getElem?] at s38'
    clear hd hy hb
    go_simp
    exact hK.out _ W (stp_of hmo d (Below.refl _ _)) (if_pos rfl)
  case o13 =>
    intro At yy W hy hb d hd K hK
    have e10 : yy 10 = .int .i64 6 := by obtain ⟨_, _, _, _, e⟩ := hd ⟨10, .data⟩ (by simp) rfl rfl; exact e
    have s39 := (hy 10 _ 39 rfl rfl).trans e10
    have s39' := s39
    rw [Array.getD_eq_getD_getElem?] at s39'
    clear hd hy hb
    go_simp
    exact hK.out _ W (stp_of hmo d (Below.refl _ _)) (if_pos rfl)
  case fin =>
    intro yy lo hi W hM
    show wpList _ _ _ [] _ _
    have e0 : yy 0 = .pointer (some ⟨w.heap.size, 0, none⟩) := hM.fact 0 (by simp) rfl (notR_all 0 rfl)
    have e1 : yy 1 = .agg #[.int .i64 N, .int .i64 M, .int .i64 st, .slice aF Fi.length cF, .slice aN Nx.length cN] := hM.fact 1 (by simp) rfl (notR_all 1 rfl)
    have e3 : yy 3 = .pointer (some ⟨w.heap.size, 5, none⟩) := hM.fact 3 (by simp) rfl (notR_all 3 rfl)
    have e4 : yy 4 = .agg #[.int .i64 N2, .int .i64 M2, .int .i64 s2, .slice aG Gi.length cG, .slice aX Ex.length cX] := hM.fact 4 (by simp) rfl (notR_all 4 rfl)
    have e6 : yy 6 = .tuple #[.bool false, .slice none 0 0, .int .i64 6] := hM.fact 6 (by simp) rfl (notR_all 6 rfl)
    have e7 : yy 7 = .tuple #[.bool false, .slice none 0 0, .int .i64 6] := hM.fact 7 (by simp) rfl (notR_all 7 rfl)
    have e8 : yy 8 = .bool false := hM.fact 8 (by simp) rfl (notR_all 8 rfl)
    have e9 : yy 9 = .slice none 0 0 := hM.fact 9 (by simp) rfl (notR_all 9 rfl)
    have e10 : yy 10 = .int .i64 6 := hM.fact 10 (by simp) rfl (notR_all 10 rfl)
    have e11 : yy 11 = .bool false := hM.fact 11 (by simp) rfl (notR_all 11 rfl)
    have e12 : yy 12 = .slice none 0 0 := hM.fact 12 (by simp) rfl (notR_all 12 rfl)
    have e13 : yy 13 = .int .i64 6 := hM.fact 13 (by simp) rfl (notR_all 13 rfl)
    have dd := hM.d
    simp only [fills, Act.put, List.take, List.length, List.setIfInBounds_toArray, List.set_cons_zero, List.set_cons_succ, e0, e1, e3, e4, e6, e7, e8, e9, e10, e11, e12, e13]
    obtain ⟨gF2, kF2, gN2, kN2, e2, _, _⟩ := hM.fact 2 (by simp) rfl (notR_all 2 rfl)
    obtain ⟨gF5, kF5, gN5, kN5, e5, _, _⟩ := hM.fact 5 (by simp) rfl (notR_all 5 rfl)
    rw [e2, e5]
    clear hM hmo e0 e1 e3 e4 e6 e7 e8 e9 e10 e11 e12 e13 e2 e5
    clear TEQ
    have HDD := hide dd
    clear dd
    have B5 := blk_on HE.out.1 HDD.out
    have k1 : W.cell? ⟨w.heap.size, 1, none⟩ = some (.int .i64 M) := cell_of B5 rfl
    have k6 : W.cell? ⟨w.heap.size, 6, none⟩ = some (.int .i64 M2) := cell_of B5 rfl
    clear B5
    have hb9 : (M != M2) = true := by simpa using hM9
    go_wp2_with fail
    go_ret
    exact ⟨rfl, HE.out.2.2.2.2.2.2.trans (HDD.out.mono HE.out.2.2.2.2.2.2.size)⟩
end Go.Proofs.Ytocoghljmlpdeaa
