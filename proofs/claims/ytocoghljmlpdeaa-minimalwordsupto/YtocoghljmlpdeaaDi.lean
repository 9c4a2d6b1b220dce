import Derived.Test.YtocoghljmlpdeaaQai
namespace Go.Proofs.Ytocoghljmlpdeaa
open Go.RowKit Go.Maps
attribute [local go_sem] Oper.semAt_some
/-! ### Reached -/
theorem own_val {W : World} {B : Nat} {v : Value} {X : List Int} {l : Nat} (h : OwI W B v X) (e : X.length = l) : ∃ b c, v = .slice b l c := by
  obtain ⟨b, c, h⟩ := own_slice h
  exact ⟨b, c, by rw [h, e]⟩
def twP (N M st : Int) (Fi Nx : List Int) : MkP := fun x _ _ W => ∃ gF kF gN kN, x = .agg #[.int .i64 N, .int .i64 M, .int .i64 st, .slice (some ⟨gF, 0, none⟩) Fi.length kF, .slice (some ⟨gN, 0, none⟩) Nx.length kN] ∧ RdN W (some ⟨gF, 0, none⟩) Fi ∧ RdN W (some ⟨gN, 0, none⟩) Nx
theorem twP_mono {N M st : Int} {Fi Nx : List Int} : MonoP (twP N M st Fi Nx) := fun _ _ _ _ _ _ d ⟨gF, kF, gN, kN, e, a, b⟩ => ⟨gF, kF, gN, kN, e, a.on d, b.on d⟩
def inP (Wd : List Int) : MkP := fun x _ _ W => ∃ g c, x = .slice (some ⟨g, 0, none⟩) Wd.length c ∧ RdN W (some ⟨g, 0, none⟩) Wd
theorem inP_mono {Wd : List Int} : MonoP (inP Wd) := fun _ _ _ _ _ _ d ⟨g, c, e, a⟩ => ⟨g, c, e, a.on d⟩
/-- Access, its answers in one form. -/
theorem access_form (w : World) (N M st : Nat) (aF aN : Option Addr) (lF cF lN cN : Nat) (Fi Nx : List Int) (hF : RdN w aF Fi) (hN : RdN w aN Nx) (hlF : Fi.length = lF) (hlN : Nx.length = lN) (bF : lF ≤ 4194304) (bN : lN ≤ 4194304) (hv : vd N M st Fi Nx = true) :
    Calls Try.prog 10 #[.agg #[.int .i64 (N : Int), .int .i64 (M : Int), .int .i64 (st : Int), .slice aF lF cF, .slice aN lN cN]] w fun e w' => ∃ bl nl cl er, e = .returned (.tuple #[.slice bl nl cl, .int .i64 er]) ∧ Hid (Below w.heap.size w w' ∧ (er = 60 ∨ er = 0 ∧ nl = N ∧ ∃ g val T K, bl = some ⟨g, 0, none⟩ ∧ w.heap.size ≤ g ∧ T.length = N ∧ Wk (dl Nx M) M st T K (T.length * M) ∧ Cv (dl Nx M) M T K (T.length * M) ∧ T.Nodup ∧ (∀ q ∈ T, q < N) ∧ WdR w' w.heap.size g N T (wdK M K) N val)) := by
  refine (access_ok w N M st aF aN lF cF lN cN Fi Nx hF hN hlF hlN bF bN hv).mono ?_
  rintro e w' ⟨T, K, H, h⟩
  obtain ⟨a1, a2, a3, a4, a5⟩ := H.out
  rcases h with ⟨_, rfl⟩ | ⟨ht, g, val, rfl, HX⟩
  · exact ⟨none, 0, 0, 60, rfl, hide ⟨a5, Or.inl rfl⟩⟩
  · exact ⟨some ⟨g, 0, none⟩, N, N, 0, rfl, hide ⟨a5, Or.inr ⟨rfl, rfl, g, val, T, K, rfl, HX.out.1, ht, a1, a2, a3, a4, HX.out.2⟩⟩⟩
/-- After, its answers in one form. -/
theorem af_form (N M st : Nat) (Fi Nx L : List Int) (hv : vd N M st Fi Nx = true) : ∃ (to9 : Int) (tk : Bool) (er : Int), Hid (afV N M st Fi Nx L = .tuple #[.int .i64 to9, .bool tk, .int .i64 er] ∧ (er = 7 ∨ er = 0 ∧ L.all (inB M) = true ∧ to9 = (dls Nx M st (L.map Int.toNat) : Int))) := by
  unfold afV
  rw [if_pos hv]
  by_cases h : L.all (inB M) = true
  · rw [if_pos h]
    exact ⟨_, _, _, hide ⟨rfl, Or.inr ⟨rfl, h, rfl⟩⟩⟩
  · rw [if_neg h]
    exact ⟨_, _, _, hide ⟨rfl, Or.inl rfl⟩⟩
set_option maxRecDepth 100000 in
set_option maxHeartbeats 4000000 in
theorem reached_ok (w : World) (N M st : Nat) (aF aN aW : Option Addr) (cF cN cW : Nat) (Fi Nx Wd : List Int) (x5 x6 x7 x8 x9 x10 x11 : Value) (hF : RdN w aF Fi) (hN : RdN w aN Nx) (hW : RdN w aW Wd) (bF : Fi.length ≤ 4194304) (bN : Nx.length ≤ 4194304) (bW : Wd.length ≤ 4194304) (hv : vd N M st Fi Nx = true) :
    Calls Try.prog 3 #[.agg #[.int .i64 (N : Int), .int .i64 (M : Int), .int .i64 (st : Int), .slice aF Fi.length cF, .slice aN Nx.length cN, x5, x6, x7, x8, x9, x10, x11, .slice aW Wd.length cW]] w fun e w' => e = .returned (.bool true) ∧ Below w.heap.size w w' := by
  obtain ⟨W0, hW0⟩ : ∃ W, w.alloc (.cells #[.int .i64 (N : Int), .int .i64 (M : Int), .int .i64 (st : Int), .slice aF Fi.length cF, .slice aN Nx.length cN, x5, x6, x7, x8, x9, x10, x11, .slice aW Wd.length cW] 26) = W := ⟨_, rfl⟩
  have d0 : Below w.heap.size w W0 := by rw [← hW0]; exact (Below.refl _ _).alloc (Nat.le_refl _) _
  have B0 : W0.heap[w.heap.size]? = some (.cells #[.int .i64 (N : Int), .int .i64 (M : Int), .int .i64 (st : Int), .slice aF Fi.length cF, .slice aN Nx.length cN, x5, x6, x7, x8, x9, x10, x11, .slice aW Wd.length cW] 26 (0, 0)) := by rw [← hW0]; exact World.alloc_heap_new _ _
  have HW := hide (And.intro d0 (And.intro B0 (And.intro (hF.on d0) (And.intro (hN.on d0) (hW.on d0)))))
  clear d0 B0 hF hN hW
  obtain ⟨n0, m0, s0, en, em, es, n1, n2, m1, s1, e1, i1, i2⟩ := vd_nat hv
  obtain rfl : N = n0 := by omega
  obtain rfl : M = m0 := by omega
  obtain rfl : st = s0 := by omega
  have HV := hide (And.intro hv (And.intro e1 (And.intro i1 (And.intro i2 s1))))
  clear en em es e1 i1 i2 s1 hv
  go_enter Try.func3, Try.ntmps3
  go_upto_region 3 with (go_at_call 7; refine (works_any _).mono ?_; rintro e w1 ⟨rfl, D1⟩)
  have B1 := blk_on HW.out.2.1 D1
  have k0 : w1.cell? ⟨w.heap.size, 0, none⟩ = some (.int .i64 (N : Int)) := cell_of B1 rfl
  have k1 : w1.cell? ⟨w.heap.size, 1, none⟩ = some (.int .i64 (M : Int)) := cell_of B1 rfl
  have k2 : w1.cell? ⟨w.heap.size, 2, none⟩ = some (.int .i64 (st : Int)) := cell_of B1 rfl
  have k3 : w1.cell? ⟨w.heap.size, 3, none⟩ = some (.slice aF Fi.length cF) := cell_of B1 rfl
  have k4 : w1.cell? ⟨w.heap.size, 4, none⟩ = some (.slice aN Nx.length cN) := cell_of B1 rfl
  have T9 := twin_any w1 N M st aF aN cF cN Fi Nx (HW.out.2.2.1.on D1) (HW.out.2.2.2.1.on D1) bF bN
  have HB1 := hide (And.intro (HW.out.1.trans (D1.mono HW.out.1.size)) (And.intro B1 (And.intro (HW.out.2.2.1.on D1) (And.intro (HW.out.2.2.2.1.on D1) (HW.out.2.2.2.2.on D1)))))
  clear D1 B1 HW
  go_upto_region 4 with (first | (go_at_call 9; refine T9.mono ?_; rintro e w2 ⟨gF, kF, gN, kN, rfl, HT, D2⟩; have T8 := minimal_ok w2 N M st (some ⟨gF, 0, none⟩) (some ⟨gN, 0, none⟩) Fi.length kF Nx.length kN Fi Nx HT.out.f.rd HT.out.n.rd rfl rfl bF bN HV.out.1; have HD2 := hide D2; clear D2 k0 k1 k2 k3 k4) | (go_at_call 8; refine T8.mono ?_; rintro e w3 ⟨vF, vN, T, K, al, rfl, HA⟩; obtain ⟨mF, hmF⟩ : ∃ l, (mnF Fi T).length = l := ⟨_, rfl⟩; obtain ⟨mN, hmN⟩ : ∃ l, (mnX Nx M T al).length = l := ⟨_, rfl⟩; obtain ⟨uF, c5, rfl⟩ := own_val HA.out.1.f hmF; obtain ⟨uN, c6, rfl⟩ := own_val HA.out.1.n hmN; have HL9 := hide (And.intro hmF hmN); clear hmF hmN; have HTL := hide HA.out.1.lt; obtain ⟨n, hn⟩ : ∃ n, T.length = n := ⟨_, rfl⟩; have HNT := hide hn; rw [hn]; clear hn; obtain ⟨bm, hbm⟩ : ∃ x, w3.heap.size = x := ⟨_, rfl⟩))
  obtain ⟨w4, hw4⟩ : ∃ W, w3.alloc (.cells #[.int .i64 (n : Int), .int .i64 (M : Int), .int .i64 0, .slice uF mF c5, .slice uN mN c6] 24) = W := ⟨_, rfl⟩
  try rw [hbm]
  rw [hw4]
  have D34 : Below w3.heap.size w3 w4 := by rw [← hw4]; exact (Below.refl _ _).alloc (Nat.le_refl _) _
  have X4 : w4.heap[bm]? = some (.cells #[.int .i64 (n : Int), .int .i64 (M : Int), .int .i64 0, .slice uF mF c5, .slice uN mN c6] 24 (0, 0)) := by rw [← hw4, ← hbm]; exact World.alloc_heap_new _ _
  have D14 := (HD2.out.trans (HA.out.2.mono HD2.out.size)).trans (D34.mono (HD2.out.trans (HA.out.2.mono HD2.out.size)).size)
  have q1 := own_below HA.out.1.f D34
  have q2 := own_below HA.out.1.n D34
  have HMA := hide (And.intro HA.out.1.wk (And.intro HA.out.1.nd (And.intro (HA.out.1.valid HV.out.1) (fun T2 K2 h2 c2 n2 => HA.out.1.walked (T2 := T2) (K2 := K2) h2 c2 n2))))
  have T10 : Calls Try.prog 10 #[.agg #[.int .i64 (n : Int), .int .i64 (M : Int), .int .i64 0, .slice uF mF c5, .slice uN mN c6]] w4 fun e w' => ∃ g1 val, e = .returned (.tuple #[.slice (some ⟨g1, 0, none⟩) n n, .int .i64 0]) ∧ Hid (WdR w' w4.heap.size g1 n (List.range n) (wdK M K) n val ∧ Below w4.heap.size w4 w') := by
    have hvv := HMA.out.2.2.1
    rw [HNT.out] at hvv
    refine (access_ok w4 n M 0 uF uN mF c5 mN c6 (mnF Fi T) (mnX Nx M T al) (owI_rd q1).2 (owI_rd q2).2 HL9.out.1 HL9.out.2 (by rw [← HL9.out.1]; unfold mnF; rw [natI_len]; have z1 := lsF_le (inF Fi) T T.length; have z2 := HNT.out; have z3 := nodup_le HA.out.1.nd HA.out.1.lt; omega) (by rw [← HL9.out.2, mnX_len]; have z3 := nodup_le HA.out.1.nd HA.out.1.lt; have z4 := Nat.mul_le_mul z3 (show M ≤ 128 by omega); omega) hvv).mono ?_
    rintro e w' ⟨T2, K2, H, h⟩
    obtain ⟨a1, a2, a3, a4, a5⟩ := H.out
    obtain ⟨rfl, rfl⟩ := HMA.out.2.2.2 T2 K2 a1 a2 a3
    rw [List.length_range, HNT.out] at h
    rcases h with ⟨h, _⟩ | ⟨_, g1, val, rfl, HX⟩
    · exact absurd h (by omega)
    · exact ⟨g1, val, rfl, hide ⟨HX.out.2, a5⟩⟩
  have H4 := hide (And.intro (blk_on HB1.out.2.1 D14) (And.intro (HB1.out.2.2.1.on D14) (And.intro (HB1.out.2.2.2.1.on D14) (And.intro (HB1.out.2.2.2.2.on D14) (And.intro (HB1.out.1.trans (D14.mono HB1.out.1.size)) X4)))))
  have y0 : w4.cell? ⟨bm, 0, none⟩ = some (.int .i64 (n : Int)) := cell_of X4 rfl
  have y1 : w4.cell? ⟨bm, 1, none⟩ = some (.int .i64 (M : Int)) := cell_of X4 rfl
  have y2 : w4.cell? ⟨bm, 2, none⟩ = some (.int .i64 0) := cell_of X4 rfl
  have y3 : w4.cell? ⟨bm, 3, none⟩ = some (.slice uF mF c5) := cell_of X4 rfl
  have y4 : w4.cell? ⟨bm, 4, none⟩ = some (.slice uN mN c6) := cell_of X4 rfl
  have hnN : n ≤ 4096 := by have z1 := HNT.out; have := nodup_le HMA.out.2.1 (N := N) (fun q hq => HTL.out q hq); omega
  have hn1 : 0 < n := by have z1 := HMA.out.1.l; have z2 := HNT.out; omega
  clear D34 X4 D14 q1 q2 hw4 hbm HA HD2 HB1 HT T8 T9
  go_upto_region 7 with (go_at_call 10; refine T10.mono ?_; rintro e w5 ⟨g1, val, rfl, HR⟩)
  clear y0 y1 y2 y3 y4 T10
  have D45 := HR.out.2
  have H5 := hide (And.intro (blk_on H4.out.1 D45) (And.intro (H4.out.2.1.on D45) (And.intro (H4.out.2.2.1.on D45) (And.intro (H4.out.2.2.2.1.on D45) (And.intro (H4.out.2.2.2.2.1.trans (D45.mono H4.out.2.2.2.2.1.size)) (blk_on H4.out.2.2.2.2.2 D45))))))
  have ym : w5.cell? ⟨bm, 0, none⟩ = some (.int .i64 (n : Int)) := cell_of H5.out.2.2.2.2.2 rfl
  have v0 := HR.out.1.wd 0 0 hn1 (List.getElem?_range hn1)
  obtain ⟨b0, c0, hv0⟩ := own_val v0 (show (wdK M K 0).length = 0 from rfl)
  have yw : w5.cell? ⟨g1, 0, none⟩ = some (.slice b0 0 c0) := by have := HR.out.1.rw.at 0 hn1; rwa [hv0] at this
  have ln : (0 : Int) < (n : Int) := by omega
  clear D45 v0 hv0 H4
  go_upto_region 9 with fail
  clear ym yw
  go_wp2_with fail
  go_loopw [7] (fun iv wr => ∃ s : Nat, 1 ≤ s ∧ s ≤ n ∧ iv = .int .i64 (s : Int) ∧ Hid (Below w5.heap.size w5 wr)) (fun iv _ => n - (intOf iv).toNat)
  case atStart => exact ⟨1, Nat.le_refl _, hn1, rfl, hide (Below.refl _ _)⟩
  case round =>
    obtain ⟨s, hs1, hsn, rfl, HI⟩ := hrel
    have ym : wr.cell? ⟨bm, 0, none⟩ = some (.int .i64 (n : Int)) := cell_of (blk_on H5.out.2.2.2.2.2 HI.out) rfl
    by_cases hlt : s < n
    · have l0 : (s : Int) < (n : Int) := by omega
      have l1 : (0 : Int) ≤ (s : Int) := by omega
      obtain ⟨p, hp⟩ : ∃ p, s - 1 = p := ⟨_, rfl⟩
      have iw : IntKind.i64.wrap ((s : Int) - 1) = (p : Int) := by rw [IntKind.wrap_i64]; have := HNT.out; have := nodup_le HMA.out.2.1 (N := N) (fun q hq => HTL.out q hq); omega
      have l2 : (p : Int) < (n : Int) := by omega
      have l3 : (0 : Int) ≤ (p : Int) := by omega
      have o1 := own_below (HR.out.1.wd s s hlt (List.getElem?_range hlt)) HI.out
      have o2 := own_below (HR.out.1.wd p p (by omega) (List.getElem?_range (by omega))) HI.out
      obtain ⟨j1, hl1⟩ : ∃ l, (wdK M K s).length = l := ⟨_, rfl⟩
      obtain ⟨j2, hl2⟩ : ∃ l, (wdK M K p).length = l := ⟨_, rfl⟩
      obtain ⟨b1, ca1, hv1⟩ := own_val o1 hl1
      obtain ⟨b2, ca2, hv2⟩ := own_val o2 hl2
      rw [hv1] at o1
      rw [hv2] at o2
      have hrw := HR.out.1.rw.below HI.out HR.out.1.rw.lt
      have HY1 : Hid (wr.cell? ⟨g1, s, none⟩ = some (.slice b1 j1 ca1)) := hide (by have := hrw.at s hlt; rwa [hv1] at this)
      have HY2 : Hid (wr.cell? ⟨g1, p, none⟩ = some (.slice b2 j2 ca2)) := hide (by have := hrw.at p (by omega); rwa [hv2] at this)
      have hKl : K.length + 1 = n := by have z1 := HMA.out.1.l; have z2 := HNT.out; omega
      have hM : 0 < M := by
        obtain ⟨k1, _⟩ := HMA.out.1.s p (by omega)
        rcases Nat.eq_zero_or_pos M with q | q
        · rw [q] at k1; omega
        · exact q
      have bl : ∀ i, i ≤ K.length → (wdK M K i).length ≤ 4096 := fun i hi => by
        rw [← wnK_map, List.length_map]
        have z := wnK_len HMA.out.1.q i hi
        have z2 := nodup_le HMA.out.2.1 (N := N) (fun q hq => HTL.out q hq)
        have z3 := HNT.out
        omega
      have hah : ahB (wdK M K s) (wdK M K p) = false := by
        rw [← wnK_map, ← wnK_map, ahB_rk (HMA.out.1.syms hM s (by omega)) (HMA.out.1.syms hM p (by omega))]
        have := HMA.out.1.up hM s p (by omega) (by omega)
        exact decide_eq_false (by omega)
      have TA : Hid (∀ W, Below wr.heap.size wr W → Calls Try.prog 11 #[.slice b1 j1 ca1, .slice b2 j2 ca2] W fun e w' => e = .returned (.bool false) ∧ Below W.heap.size W w') := hide (fun W d => by
        have z := ahead_any W b1 b2 j1 ca1 j2 ca2 (wdK M K s) (wdK M K p) ((owI_rd o1).2.on d) ((owI_rd o2).2.on d) hl1 hl2 (by rw [← hl1]; have := bl s (by omega); omega) (by rw [← hl2]; have := bl p (by omega); omega)
        rwa [hah] at z)
      clear hp o1 o2 hl1 hl2 hv1 hv2 hrw hKl bl hah hM
      go_upto_region 12 with fail
      clear ym
      have hmo : MonIL 0 [vI 0 (.slice (some ⟨g1, 0, none⟩) n n), vI 1 (.int .i64 (s : Int)), vI 2 (.pointer (some ⟨g1, s, none⟩)), vI 3 (.slice b1 j1 ca1), vI 4 (.slice (some ⟨g1, 0, none⟩) n n), vI 5 (.int .i64 (s : Int)), vI 6 (.int .i64 (p : Int)), vI 7 (.pointer (some ⟨g1, p, none⟩)), vI 8 (.slice b2 j2 ca2), vI 9 (.bool false)] := ⟨vI_mono _ _, vI_mono _ _, vI_mono _ _, vI_mono _ _, vI_mono _ _, vI_mono _ _, vI_mono _ _, vI_mono _ _, vI_mono _ _, vI_mono _ _, trivial⟩
      refine wp_region_sl [vI 0 (.slice (some ⟨g1, 0, none⟩) n n), vI 1 (.int .i64 (s : Int)), vI 2 (.pointer (some ⟨g1, s, none⟩)), vI 3 (.slice b1 j1 ca1), vI 4 (.slice (some ⟨g1, 0, none⟩) n n), vI 5 (.int .i64 (s : Int)), vI 6 (.int .i64 (p : Int)), vI 7 (.pointer (some ⟨g1, p, none⟩)), vI 8 (.slice b2 j2 ca2), vI 9 (.bool false)] (by kernel_rfl) (by kernel_rfl) (by kernel_rfl) (by kernel_rfl) hmo ⟨?o0, ?o1, ?o2, ?o3, ?o4, ?o5, ?o6, ?o7, ?o8, ?o9, trivial⟩ ?fin
      case o0 =>
        intro At yy W hy hb d hd K hK
        have s5 : At.tmps.getD 5 undef = .slice (some ⟨g1, 0, none⟩) n n := hb 5 rfl
        have s5' := s5
        rw [Array.getD_eq_getD_getElem?] at s5'
        clear hd hy hb
        go_simp
        exact hK.out _ W (stp_of hmo d (Below.refl _ _)) (if_pos rfl)
      case o1 =>
        intro At yy W hy hb d hd K hK
        have s7 : At.tmps.getD 7 undef = .int .i64 (s : Int) := hb 7 rfl
        have s7' := s7
        rw [Array.getD_eq_getD_getElem?] at s7'
        clear hd hy hb
        go_simp
        exact hK.out _ W (stp_of hmo d (Below.refl _ _)) (if_pos rfl)
      case o2 =>
        intro At yy W hy hb d hd K hK
        have e0 : yy 0 = .slice (some ⟨g1, 0, none⟩) n n := by obtain ⟨_, _, _, _, e⟩ := hd ⟨0, .data⟩ (by simp) rfl rfl; exact e
        have e1 : yy 1 = .int .i64 (s : Int) := by obtain ⟨_, _, _, _, e⟩ := hd ⟨1, .data⟩ (by simp) rfl rfl; exact e
        have s56 := (hy 0 _ 56 rfl rfl).trans e0
        have s56' := s56
        rw [Array.getD_eq_getD_getElem?] at s56'
        have s57 := (hy 1 _ 57 rfl rfl).trans e1
        have s57' := s57
        rw [Array.getD_eq_getD_getElem?] at s57'
        clear hd hy hb
        go_simp
        exact hK.out _ W (stp_of hmo d (Below.refl _ _)) (if_pos rfl)
      case o3 =>
        intro At yy W hy hb d hd K hK
        have e2 : yy 2 = .pointer (some ⟨g1, s, none⟩) := by obtain ⟨_, _, _, _, e⟩ := hd ⟨2, .data⟩ (by simp) rfl rfl; exact e
        have s58 := (hy 2 _ 58 rfl rfl).trans e2
        have s58' := s58
        rw [Array.getD_eq_getD_getElem?] at s58'
        clear hd hy hb
        have y1 : W.cell? ⟨g1, s, none⟩ = some (.slice b1 j1 ca1) := (d.cell (World.block_lt_of_cell? wr _ HY1.out)).trans HY1.out
        go_simp
        exact hK.out _ W (stp_of hmo d (Below.refl _ _)) (if_pos rfl)
      case o4 =>
        intro At yy W hy hb d hd K hK
        have s5 : At.tmps.getD 5 undef = .slice (some ⟨g1, 0, none⟩) n n := hb 5 rfl
        have s5' := s5
        rw [Array.getD_eq_getD_getElem?] at s5'
        clear hd hy hb
        go_simp
        exact hK.out _ W (stp_of hmo d (Below.refl _ _)) (if_pos rfl)
      case o5 =>
        intro At yy W hy hb d hd K hK
        have s7 : At.tmps.getD 7 undef = .int .i64 (s : Int) := hb 7 rfl
        have s7' := s7
        rw [Array.getD_eq_getD_getElem?] at s7'
        clear hd hy hb
        go_simp
        exact hK.out _ W (stp_of hmo d (Below.refl _ _)) (if_pos rfl)
      case o6 =>
        intro At yy W hy hb d hd K hK
        have e5 : yy 5 = .int .i64 (s : Int) := by obtain ⟨_, _, _, _, e⟩ := hd ⟨5, .data⟩ (by simp) rfl rfl; exact e
        have s61 := (hy 5 _ 61 rfl rfl).trans e5
        have s61' := s61
        rw [Array.getD_eq_getD_getElem?] at s61'
        clear hd hy hb
        go_simp
        exact hK.out _ W (stp_of hmo d (Below.refl _ _)) (if_pos rfl)
      case o7 =>
        intro At yy W hy hb d hd K hK
        have e4 : yy 4 = .slice (some ⟨g1, 0, none⟩) n n := by obtain ⟨_, _, _, _, e⟩ := hd ⟨4, .data⟩ (by simp) rfl rfl; exact e
        have e6 : yy 6 = .int .i64 (p : Int) := by obtain ⟨_, _, _, _, e⟩ := hd ⟨6, .data⟩ (by simp) rfl rfl; exact e
        have s60 := (hy 4 _ 60 rfl rfl).trans e4
        have s60' := s60
        rw [Array.getD_eq_getD_getElem?] at s60'
        have s62 := (hy 6 _ 62 rfl rfl).trans e6
        have s62' := s62
        rw [Array.getD_eq_getD_getElem?] at s62'
        clear hd hy hb
        go_simp
        exact hK.out _ W (stp_of hmo d (Below.refl _ _)) (if_pos rfl)
      case o8 =>
        intro At yy W hy hb d hd K hK
        have e7 : yy 7 = .pointer (some ⟨g1, p, none⟩) := by obtain ⟨_, _, _, _, e⟩ := hd ⟨7, .data⟩ (by simp) rfl rfl; exact e
        have s63 := (hy 7 _ 63 rfl rfl).trans e7
        have s63' := s63
        rw [Array.getD_eq_getD_getElem?] at s63'
        clear hd hy hb
        have y2 : W.cell? ⟨g1, p, none⟩ = some (.slice b2 j2 ca2) := (d.cell (World.block_lt_of_cell? wr _ HY2.out)).trans HY2.out
        go_simp
        exact hK.out _ W (stp_of hmo d (Below.refl _ _)) (if_pos rfl)
      case o9 =>
        intro At yy W hy hb d hd K hK
        have e3 : yy 3 = .slice b1 j1 ca1 := by obtain ⟨_, _, _, _, e⟩ := hd ⟨3, .data⟩ (by simp) rfl rfl; exact e
        have e8 : yy 8 = .slice b2 j2 ca2 := by obtain ⟨_, _, _, _, e⟩ := hd ⟨8, .data⟩ (by simp) rfl rfl; exact e
        have s59 := (hy 3 _ 59 rfl rfl).trans e3
        have s59' := s59
        rw [Array.getD_eq_getD_getElem?] at s59'
        have s64 := (hy 8 _ 64 rfl rfl).trans e8
        have s64' := s64
        rw [Array.getD_eq_getD_getElem?] at s64'
        clear hd hy hb
        go_simp
        go_wp2_with (go_at_call 11; refine (TA.out _ d).mono ?_; rintro e wa ⟨rfl, da⟩)
        exact hK.out _ wa (stp_of hmo d da) (if_pos rfl)
      case fin =>
        intro yy lo hi W hM
        show wpList _ _ _ [] _ _
        have e0 : yy 0 = .slice (some ⟨g1, 0, none⟩) n n := hM.fact 0 (by simp) rfl (notR_all 0 rfl)
        have e1 : yy 1 = .int .i64 (s : Int) := hM.fact 1 (by simp) rfl (notR_all 1 rfl)
        have e2 : yy 2 = .pointer (some ⟨g1, s, none⟩) := hM.fact 2 (by simp) rfl (notR_all 2 rfl)
        have e3 : yy 3 = .slice b1 j1 ca1 := hM.fact 3 (by simp) rfl (notR_all 3 rfl)
        have e4 : yy 4 = .slice (some ⟨g1, 0, none⟩) n n := hM.fact 4 (by simp) rfl (notR_all 4 rfl)
        have e5 : yy 5 = .int .i64 (s : Int) := hM.fact 5 (by simp) rfl (notR_all 5 rfl)
        have e6 : yy 6 = .int .i64 (p : Int) := hM.fact 6 (by simp) rfl (notR_all 6 rfl)
        have e7 : yy 7 = .pointer (some ⟨g1, p, none⟩) := hM.fact 7 (by simp) rfl (notR_all 7 rfl)
        have e8 : yy 8 = .slice b2 j2 ca2 := hM.fact 8 (by simp) rfl (notR_all 8 rfl)
        have e9 : yy 9 = .bool false := hM.fact 9 (by simp) rfl (notR_all 9 rfl)
        have dd := hM.d
        simp only [fills, Act.put, List.take, List.length, List.setIfInBounds_toArray, List.set_cons_zero, List.set_cons_succ, e0, e1, e2, e3, e4, e5, e6, e7, e8, e9]
        clear hM hmo e0 e1 e2 e3 e4 e5 e6 e7 e8 e9
        have HDD := hide dd
        clear dd
        go_wp2_with fail
        go_roundw
        case rel => exact ⟨s + 1, by omega, by omega, by go_num, hide (HI.out.trans (HDD.out.mono HI.out.size))⟩
        case measure => simp [intOf]; omega
    · have l0 : ¬ (s : Int) < (n : Int) := by omega
      clear hs1 hsn hlt
      go_upto_region 14 with fail
      clear ym
      have H6 := hide (And.intro (blk_on H5.out.1 HI.out) (And.intro (H5.out.2.1.on HI.out) (And.intro (H5.out.2.2.1.on HI.out) (And.intro (H5.out.2.2.2.1.on HI.out) (H5.out.2.2.2.2.1.trans (HI.out.mono H5.out.2.2.2.2.1.size))))))
      clear H5 HI HR HMA HNT HTL HL9 l0 ln hn1 hnN
      have k0 : wr.cell? ⟨w.heap.size, 0, none⟩ = some (.int .i64 (N : Int)) := cell_of H6.out.1 rfl
      have k1 : wr.cell? ⟨w.heap.size, 1, none⟩ = some (.int .i64 (M : Int)) := cell_of H6.out.1 rfl
      have k2 : wr.cell? ⟨w.heap.size, 2, none⟩ = some (.int .i64 (st : Int)) := cell_of H6.out.1 rfl
      have k3 : wr.cell? ⟨w.heap.size, 3, none⟩ = some (.slice aF Fi.length cF) := cell_of H6.out.1 rfl
      have k4 : wr.cell? ⟨w.heap.size, 4, none⟩ = some (.slice aN Nx.length cN) := cell_of H6.out.1 rfl
      have T9b := twin_any wr N M st aF aN cF cN Fi Nx H6.out.2.1 H6.out.2.2.1 bF bN
      go_upto_region 15 with (first | (go_at_call 9; refine T9b.mono ?_; rintro e w6 ⟨gF2, kF2, gN2, kN2, rfl, HT2, D6⟩; have T10b := access_form w6 N M st (some ⟨gF2, 0, none⟩) (some ⟨gN2, 0, none⟩) Fi.length kF2 Nx.length kN2 Fi Nx HT2.out.f.rd HT2.out.n.rd rfl rfl bF bN HV.out.1; have HD6 := hide D6; clear D6 k0 k1 k2 k3 k4) | (go_at_call 10; refine T10b.mono ?_; rintro e w7 ⟨bl, nl, cl, er, rfl, HAC⟩))
      have D67 := HD6.out.trans (HAC.out.1.mono HD6.out.size)
      have HE := hide (And.intro (blk_on H6.out.1 D67) (And.intro (H6.out.2.1.on D67) (And.intro (H6.out.2.2.1.on D67) (And.intro (H6.out.2.2.2.1.on D67) (H6.out.2.2.2.2.trans (D67.mono H6.out.2.2.2.2.size))))))
      obtain ⟨to9, tk, er2, HAF⟩ := af_form N M st Fi Nx Wd HV.out.1
      have TAF : Hid (∀ W gF3 kF3 gN3 kN3 gW3 kW3, RdN W (some ⟨gF3, 0, none⟩) Fi → RdN W (some ⟨gN3, 0, none⟩) Nx → RdN W (some ⟨gW3, 0, none⟩) Wd → Calls Try.prog 12 #[.agg #[.int .i64 (N : Int), .int .i64 (M : Int), .int .i64 (st : Int), .slice (some ⟨gF3, 0, none⟩) Fi.length kF3, .slice (some ⟨gN3, 0, none⟩) Nx.length kN3], .slice (some ⟨gW3, 0, none⟩) Wd.length kW3] W fun e w' => e = .returned (.tuple #[.int .i64 to9, .bool tk, .int .i64 er2]) ∧ Below W.heap.size W w') := hide (fun W gF3 kF3 gN3 kN3 gW3 kW3 h1 h2 h3 => by
        have z := after_any W N M st (some ⟨gF3, 0, none⟩) (some ⟨gN3, 0, none⟩) (some ⟨gW3, 0, none⟩) Fi.length kF3 Nx.length kN3 Wd.length kW3 Fi Nx Wd h1 h2 h3 rfl rfl rfl bF bN bW
        rwa [HAF.out.1] at z)
      clear D67 HD6 T9b T10b HT2 H6
      have hmo : MonIL 0 [vI 0 (.pointer (some ⟨w.heap.size, 0, none⟩)), vI 1 (.agg #[.int .i64 (N : Int), .int .i64 (M : Int), .int .i64 (st : Int), .slice aF Fi.length cF, .slice aN Nx.length cN]), pI 2 (twP N M st Fi Nx), vI 3 (.pointer (some ⟨w.heap.size, 12, none⟩)), vI 4 (.slice aW Wd.length cW), pI 5 (inP Wd), vI 6 (.tuple #[.int .i64 to9, .bool tk, .int .i64 er2]), vI 7 (.tuple #[.int .i64 to9, .bool tk, .int .i64 er2]), vI 8 (.int .i64 to9), vI 9 (.bool tk), vI 10 (.int .i64 er2), vI 11 (.int .i64 to9), vI 12 (.bool tk), vI 13 (.int .i64 er2)] := ⟨vI_mono _ _, vI_mono _ _, pI_mono twP_mono, vI_mono _ _, vI_mono _ _, pI_mono inP_mono, vI_mono _ _, vI_mono _ _, vI_mono _ _, vI_mono _ _, vI_mono _ _, vI_mono _ _, vI_mono _ _, vI_mono _ _, trivial⟩
      refine wp_region_sl [vI 0 (.pointer (some ⟨w.heap.size, 0, none⟩)), vI 1 (.agg #[.int .i64 (N : Int), .int .i64 (M : Int), .int .i64 (st : Int), .slice aF Fi.length cF, .slice aN Nx.length cN]), pI 2 (twP N M st Fi Nx), vI 3 (.pointer (some ⟨w.heap.size, 12, none⟩)), vI 4 (.slice aW Wd.length cW), pI 5 (inP Wd), vI 6 (.tuple #[.int .i64 to9, .bool tk, .int .i64 er2]), vI 7 (.tuple #[.int .i64 to9, .bool tk, .int .i64 er2]), vI 8 (.int .i64 to9), vI 9 (.bool tk), vI 10 (.int .i64 er2), vI 11 (.int .i64 to9), vI 12 (.bool tk), vI 13 (.int .i64 er2)] (by kernel_rfl) (by kernel_rfl) (by kernel_rfl) (by kernel_rfl) hmo ⟨?o0, ?o1, ?o2, ?o3, ?o4, ?o5, ?o6, ?o7, ?o8, ?o9, ?o10, ?o11, ?o12, ?o13, trivial⟩ ?fin
      case o0 =>
        intro At yy W hy hb d hd K hK
        have s1 : At.tmps.getD 1 undef = .pointer (some ⟨w.heap.size, 0, none⟩) := hb 1 rfl
        have s1' := s1
        rw [Array.getD_eq_getD_getElem?] at s1'
        clear hd hy hb
        go_simp
        exact hK.out _ W (stp_of hmo d (Below.refl _ _)) (if_pos rfl)
      case o1 =>
        intro At yy W hy hb d hd K hK
        have e0 : yy 0 = .pointer (some ⟨w.heap.size, 0, none⟩) := by obtain ⟨_, _, _, _, e⟩ := hd ⟨0, .data⟩ (by simp) rfl rfl; exact e
        have s74 := (hy 0 _ 74 rfl rfl).trans e0
        have s74' := s74
        rw [Array.getD_eq_getD_getElem?] at s74'
        clear hd hy hb
        have yb0 : W.cell? ⟨w.heap.size, 0, none⟩ = some (.int .i64 (N : Int)) := cell_of (blk_on HE.out.1 d) rfl
        have yb1 : W.cell? ⟨w.heap.size, 1, none⟩ = some (.int .i64 (M : Int)) := cell_of (blk_on HE.out.1 d) rfl
        have yb2 : W.cell? ⟨w.heap.size, 2, none⟩ = some (.int .i64 (st : Int)) := cell_of (blk_on HE.out.1 d) rfl
        have yb3 : W.cell? ⟨w.heap.size, 3, none⟩ = some (.slice aF Fi.length cF) := cell_of (blk_on HE.out.1 d) rfl
        have yb4 : W.cell? ⟨w.heap.size, 4, none⟩ = some (.slice aN Nx.length cN) := cell_of (blk_on HE.out.1 d) rfl
        go_simp
        exact hK.out _ W (stp_of hmo d (Below.refl _ _)) (if_pos rfl)
      case o2 =>
        intro At yy W hy hb d hd K hK
        have e1 : yy 1 = .agg #[.int .i64 (N : Int), .int .i64 (M : Int), .int .i64 (st : Int), .slice aF Fi.length cF, .slice aN Nx.length cN] := by obtain ⟨_, _, _, _, e⟩ := hd ⟨1, .data⟩ (by simp) rfl rfl; exact e
        have s75 := (hy 1 _ 75 rfl rfl).trans e1
        have s75' := s75
        rw [Array.getD_eq_getD_getElem?] at s75'
        clear hd hy hb
        go_simp
        go_wp2_with (go_at_call 9; refine (twin_any _ N M st aF aN cF cN Fi Nx (HE.out.2.1.on d) (HE.out.2.2.1.on d) bF bN).mono ?_; rintro e wa ⟨gF3, kF3, gN3, kN3, rfl, HT3, da⟩)
        exact hK.out _ wa (stp_of hmo d da) ⟨gF3, kF3, gN3, kN3, if_pos rfl, HT3.out.f.rd, HT3.out.n.rd⟩
      case o3 =>
        intro At yy W hy hb d hd K hK
        have s1 : At.tmps.getD 1 undef = .pointer (some ⟨w.heap.size, 0, none⟩) := hb 1 rfl
        have s1' := s1
        rw [Array.getD_eq_getD_getElem?] at s1'
        clear hd hy hb
        go_simp
        exact hK.out _ W (stp_of hmo d (Below.refl _ _)) (if_pos rfl)
      case o4 =>
        intro At yy W hy hb d hd K hK
        have e3 : yy 3 = .pointer (some ⟨w.heap.size, 12, none⟩) := by obtain ⟨_, _, _, _, e⟩ := hd ⟨3, .data⟩ (by simp) rfl rfl; exact e
        have s77 := (hy 3 _ 77 rfl rfl).trans e3
        have s77' := s77
        rw [Array.getD_eq_getD_getElem?] at s77'
        clear hd hy hb
        have yb12 : W.cell? ⟨w.heap.size, 12, none⟩ = some (.slice aW Wd.length cW) := cell_of (blk_on HE.out.1 d) rfl
        go_simp
        exact hK.out _ W (stp_of hmo d (Below.refl _ _)) (if_pos rfl)
      case o5 =>
        intro At yy W hy hb d hd K hK
        have e4 : yy 4 = .slice aW Wd.length cW := by obtain ⟨_, _, _, _, e⟩ := hd ⟨4, .data⟩ (by simp) rfl rfl; exact e
        have s78 := (hy 4 _ 78 rfl rfl).trans e4
        have s78' := s78
        rw [Array.getD_eq_getD_getElem?] at s78'
        clear hd hy hb
        go_simp
        go_wp2_with (go_at_call 13; refine (ints_any _ aW Wd cW (hide (HE.out.2.2.2.1.on d)) bW).mono ?_; rintro e wa ⟨gW3, kW3, rfl, HM3, da⟩)
        exact hK.out _ wa (stp_of hmo d da) ⟨gW3, kW3, if_pos rfl, HM3.out.rd⟩
      case o6 =>
        intro At yy W hy hb d hd K hK
        have f2 := hd ⟨2, .data⟩ (by simp) rfl rfl
        have f5 := hd ⟨5, .data⟩ (by simp) rfl rfl
        obtain ⟨lo2, hi2, hl2, hh2, gF3, kF3, gN3, kN3, e2, ra, rb⟩ := f2
        obtain ⟨lo5, hi5, hl5, hh5, gW3, kW3, e5, rw3⟩ := f5
        have s76 := (hy 2 _ 76 rfl rfl).trans e2
        have s76' := s76
        rw [Array.getD_eq_getD_getElem?] at s76'
        have s79 := (hy 5 _ 79 rfl rfl).trans e5
        have s79' := s79
        rw [Array.getD_eq_getD_getElem?] at s79'
        clear hd hy hb
        go_simp
        go_wp2_with (go_at_call 12; refine (TAF.out _ gF3 kF3 gN3 kN3 gW3 kW3 ra rb rw3).mono ?_; rintro e wa ⟨rfl, da⟩)
        exact hK.out _ wa (stp_of hmo d da) (if_pos rfl)
      case o7 =>
        intro At yy W hy hb d hd K hK
        have e6 : yy 6 = .tuple #[.int .i64 to9, .bool tk, .int .i64 er2] := by obtain ⟨_, _, _, _, e⟩ := hd ⟨6, .data⟩ (by simp) rfl rfl; exact e
        have s80 := (hy 6 _ 80 rfl rfl).trans e6
        have s80' := s80
        rw [Array.getD_eq_getD_getElem?] at s80'
        clear hd hy hb
        go_simp
        exact hK.out _ W (stp_of hmo d (Below.refl _ _)) (if_pos rfl)
      case o8 =>
        intro At yy W hy hb d hd K hK
        have e7 : yy 7 = .tuple #[.int .i64 to9, .bool tk, .int .i64 er2] := by obtain ⟨_, _, _, _, e⟩ := hd ⟨7, .data⟩ (by simp) rfl rfl; exact e
        have s73 := (hy 7 _ 73 rfl rfl).trans e7
        have s73' := s73
        rw [Array.getD_eq_getD_getElem?] at s73'
        clear hd hy hb
        go_simp
        exact hK.out _ W (stp_of hmo d (Below.refl _ _)) (if_pos rfl)
      case o9 =>
        intro At yy W hy hb d hd K hK
        have e7 : yy 7 = .tuple #[.int .i64 to9, .bool tk, .int .i64 er2] := by obtain ⟨_, _, _, _, e⟩ := hd ⟨7, .data⟩ (by simp) rfl rfl; exact e
        have s73 := (hy 7 _ 73 rfl rfl).trans e7
        have s73' := s73
        rw [Array.getD_eq_getD_getElem?] at s73'
        clear hd hy hb
        go_simp
        exact hK.out _ W (stp_of hmo d (Below.refl _ _)) (if_pos rfl)
      case o10 =>
        intro At yy W hy hb d hd K hK
        have e7 : yy 7 = .tuple #[.int .i64 to9, .bool tk, .int .i64 er2] := by obtain ⟨_, _, _, _, e⟩ := hd ⟨7, .data⟩ (by simp) rfl rfl; exact e
        have s73 := (hy 7 _ 73 rfl rfl).trans e7
        have s73' := s73
        rw [Array.getD_eq_getD_getElem?] at s73'
        clear hd hy hb
        go_simp
        exact hK.out _ W (stp_of hmo d (Below.refl _ _)) (if_pos rfl)
      case o11 =>
        intro At yy W hy hb d hd K hK
        have e8 : yy 8 = .int .i64 to9 := by obtain ⟨_, _, _, _, e⟩ := hd ⟨8, .data⟩ (by simp) rfl rfl; exact e
        have s81 := (hy 8 _ 81 rfl rfl).trans e8
        have s81' := s81
        rw [Array.getD_eq_getD_getElem?] at s81'
        clear hd hy hb
        go_simp
        exact hK.out _ W (stp_of hmo d (Below.refl _ _)) (if_pos rfl)
      case o12 =>
        intro At yy W hy hb d hd K hK
        have e9 : yy 9 = .bool tk := by obtain ⟨_, _, _, _, e⟩ := hd ⟨9, .data⟩ (by simp) rfl rfl; exact e
        have s82 := (hy 9 _ 82 rfl rfl).trans e9
        have s82' := s82
        rw [Array.getD_eq_getD_getElem?] at s82'
        clear hd hy hb
        go_simp
        exact hK.out _ W (stp_of hmo d (Below.refl _ _)) (if_pos rfl)
      case o13 =>
        intro At yy W hy hb d hd K hK
        have e10 : yy 10 = .int .i64 er2 := by obtain ⟨_, _, _, _, e⟩ := hd ⟨10, .data⟩ (by simp) rfl rfl; exact e
        have s83 := (hy 10 _ 83 rfl rfl).trans e10
        have s83' := s83
        rw [Array.getD_eq_getD_getElem?] at s83'
        clear hd hy hb
        go_simp
        exact hK.out _ W (stp_of hmo d (Below.refl _ _)) (if_pos rfl)
      case fin =>
        intro yy lo hi W hM
        show wpList _ _ _ [] _ _
        have e0 : yy 0 = .pointer (some ⟨w.heap.size, 0, none⟩) := hM.fact 0 (by simp) rfl (notR_all 0 rfl)
        have e1 : yy 1 = .agg #[.int .i64 (N : Int), .int .i64 (M : Int), .int .i64 (st : Int), .slice aF Fi.length cF, .slice aN Nx.length cN] := hM.fact 1 (by simp) rfl (notR_all 1 rfl)
        have e3 : yy 3 = .pointer (some ⟨w.heap.size, 12, none⟩) := hM.fact 3 (by simp) rfl (notR_all 3 rfl)
        have e4 : yy 4 = .slice aW Wd.length cW := hM.fact 4 (by simp) rfl (notR_all 4 rfl)
        have e6 : yy 6 = .tuple #[.int .i64 to9, .bool tk, .int .i64 er2] := hM.fact 6 (by simp) rfl (notR_all 6 rfl)
        have e7 : yy 7 = .tuple #[.int .i64 to9, .bool tk, .int .i64 er2] := hM.fact 7 (by simp) rfl (notR_all 7 rfl)
        have e8 : yy 8 = .int .i64 to9 := hM.fact 8 (by simp) rfl (notR_all 8 rfl)
        have e9 : yy 9 = .bool tk := hM.fact 9 (by simp) rfl (notR_all 9 rfl)
        have e10 : yy 10 = .int .i64 er2 := hM.fact 10 (by simp) rfl (notR_all 10 rfl)
        have e11 : yy 11 = .int .i64 to9 := hM.fact 11 (by simp) rfl (notR_all 11 rfl)
        have e12 : yy 12 = .bool tk := hM.fact 12 (by simp) rfl (notR_all 12 rfl)
        have e13 : yy 13 = .int .i64 er2 := hM.fact 13 (by simp) rfl (notR_all 13 rfl)
        have dd := hM.d
        simp only [fills, Act.put, List.take, List.length, List.setIfInBounds_toArray, List.set_cons_zero, List.set_cons_succ, e0, e1, e3, e4, e6, e7, e8, e9, e10, e11, e12, e13]
        obtain ⟨gF3, kF3, gN3, kN3, e2, _, _⟩ := hM.fact 2 (by simp) rfl (notR_all 2 rfl)
        obtain ⟨gW3, kW3, e5, _⟩ := hM.fact 5 (by simp) rfl (notR_all 5 rfl)
        rw [e2, e5]
        clear hM hmo e0 e1 e3 e4 e6 e7 e8 e9 e10 e11 e12 e13 e2 e5 TAF
        have HE8 := hide (And.intro (blk_on HE.out.1 dd) (And.intro (HE.out.2.1.on dd) (And.intro (HE.out.2.2.1.on dd) (And.intro (HE.out.2.2.2.1.on dd) (And.intro (HE.out.2.2.2.2.trans (dd.mono HE.out.2.2.2.2.size)) dd)))))
        clear dd HE
        obtain ⟨dac, hac⟩ := HAC.out
        rcases hac with he | ⟨he, hnl, g, val, T, K, hbl, hg, hTl, hw, hc, hnd, hlt, hwd⟩
        · subst er
          clear HAC dac HAF
          go_wp2_with fail
          go_ret
          exact ⟨rfl, HE8.out.2.2.2.2.1⟩
        · subst er
          subst nl
          subst bl
          rename World => wv
          have HRd : Hid (∀ W', Below wv.heap.size wv W' → ∀ i x, i < N → T[i]? = some x → ∃ b c, W'.cell? ⟨g, x, none⟩ = some (.slice b (wdK M K i).length c) ∧ RdN W' b (wdK M K i)) := hide (fun W' d i x hi hx => by
            have d2 := HE8.out.2.2.2.2.2.trans (d.mono HE8.out.2.2.2.2.2.size)
            have q := own_below (hwd.wd i x hi hx) d2
            obtain ⟨b, c, hv⟩ := own_val q rfl
            have z := (hwd.rw.below d2 hwd.rw.lt).at x (hlt x (List.mem_of_getElem? hx))
            rw [hv] at z q
            exact ⟨b, c, z, (owI_rd q).2⟩)
          have HK := hide (And.intro hTl (And.intro hw (And.intro hc (And.intro hnd hlt))))
          clear hg hTl hw hc hnd hlt hwd dac HAC
          go_upto_region 18 with fail
          go_wp2_with fail
          go_loopw [12] (fun iv wr => ∃ s : Nat, s ≤ N ∧ iv = .int .i64 (s : Int) ∧ Hid (Below wv.heap.size wv wr)) (fun iv _ => N - (intOf iv).toNat)
          case atStart => exact ⟨0, Nat.zero_le _, rfl, hide (Below.refl _ _)⟩
          case round =>
            obtain ⟨s, hsN, rfl, HI⟩ := hrel
            have HE := hide (And.intro (blk_on HE8.out.1 HI.out) (And.intro (HE8.out.2.1.on HI.out) (And.intro (HE8.out.2.2.1.on HI.out) (And.intro (HE8.out.2.2.2.1.on HI.out) (HE8.out.2.2.2.2.1.trans (HI.out.mono HE8.out.2.2.2.2.1.size))))))
            by_cases hlt2 : s < N
            · have l0 : (s : Int) < (N : Int) := by omega
              have l1 : (0 : Int) ≤ (s : Int) := by omega
              obtain ⟨i, hiN, hTi, hwl, hwa, hwd⟩ := acc_word HK.out.1 HK.out.2.1 HK.out.2.2.2.1 HK.out.2.2.2.2 hlt2
              obtain ⟨b1, ca1, y1, r1⟩ := HRd.out _ HI.out i s hiN hTi
              obtain ⟨L, hL⟩ : ∃ L, wdK M K i = L := ⟨_, rfl⟩
              rw [hL] at y1 r1 hwl hwa hwd
              have HY1 := hide y1
              have HR1 := hide r1
              have HAF2 : afV N M st Fi Nx L = .tuple #[.int .i64 (s : Int), .bool (inF Fi s), .int .i64 0] := by
                unfold afV
                rw [if_pos HV.out.1, if_pos hwa]
                have : dls Nx (M : Int).toNat (st : Int).toNat (L.map Int.toNat) = s := hwd
                rw [this]
              have TAF : Hid (∀ W gF3 kF3 gN3 kN3 gW3 kW3, RdN W (some ⟨gF3, 0, none⟩) Fi → RdN W (some ⟨gN3, 0, none⟩) Nx → RdN W (some ⟨gW3, 0, none⟩) L → Calls Try.prog 12 #[.agg #[.int .i64 (N : Int), .int .i64 (M : Int), .int .i64 (st : Int), .slice (some ⟨gF3, 0, none⟩) Fi.length kF3, .slice (some ⟨gN3, 0, none⟩) Nx.length kN3], .slice (some ⟨gW3, 0, none⟩) L.length kW3] W fun e w' => e = .returned (.tuple #[.int .i64 (s : Int), .bool (inF Fi s), .int .i64 0]) ∧ Below W.heap.size W w') := hide (fun W gF3 kF3 gN3 kN3 gW3 kW3 h1 h2 h3 => by
                have z := after_any W N M st (some ⟨gF3, 0, none⟩) (some ⟨gN3, 0, none⟩) (some ⟨gW3, 0, none⟩) Fi.length kF3 Nx.length kN3 L.length kW3 Fi Nx L h1 h2 h3 rfl rfl rfl bF bN (by omega)
                rwa [HAF2] at z)
              have bL : L.length ≤ 4194304 := by omega
              have l5 : ¬ (L.length : Int) ≥ (N : Int) := by omega
              have l6 : (L.length : Int) < (N : Int) := by omega
              clear y1 r1 hL hwl hwa hwd hTi HAF2 hiN
              go_upto_region 21 with fail
              have hmo : MonIL 0 [vI 0 (.pointer (some ⟨w.heap.size, 0, none⟩)), vI 1 (.agg #[.int .i64 (N : Int), .int .i64 (M : Int), .int .i64 (st : Int), .slice aF Fi.length cF, .slice aN Nx.length cN]), pI 2 (twP N M st Fi Nx), vI 3 (.slice (some ⟨g, 0, none⟩) N cl), vI 4 (.int .i64 (s : Int)), vI 5 (.pointer (some ⟨g, s, none⟩)), vI 6 (.slice b1 L.length ca1), pI 7 (inP L), vI 8 (.tuple #[.int .i64 (s : Int), .bool (inF Fi s), .int .i64 0]), vI 9 (.tuple #[.int .i64 (s : Int), .bool (inF Fi s), .int .i64 0]), vI 10 (.int .i64 (s : Int)), vI 11 (.bool (inF Fi s)), vI 12 (.int .i64 0), vI 13 (.int .i64 (s : Int)), vI 14 (.bool (inF Fi s)), vI 15 (.int .i64 0)] := ⟨vI_mono _ _, vI_mono _ _, pI_mono twP_mono, vI_mono _ _, vI_mono _ _, vI_mono _ _, vI_mono _ _, pI_mono inP_mono, vI_mono _ _, vI_mono _ _, vI_mono _ _, vI_mono _ _, vI_mono _ _, vI_mono _ _, vI_mono _ _, vI_mono _ _, trivial⟩
              refine wp_region_sl [vI 0 (.pointer (some ⟨w.heap.size, 0, none⟩)), vI 1 (.agg #[.int .i64 (N : Int), .int .i64 (M : Int), .int .i64 (st : Int), .slice aF Fi.length cF, .slice aN Nx.length cN]), pI 2 (twP N M st Fi Nx), vI 3 (.slice (some ⟨g, 0, none⟩) N cl), vI 4 (.int .i64 (s : Int)), vI 5 (.pointer (some ⟨g, s, none⟩)), vI 6 (.slice b1 L.length ca1), pI 7 (inP L), vI 8 (.tuple #[.int .i64 (s : Int), .bool (inF Fi s), .int .i64 0]), vI 9 (.tuple #[.int .i64 (s : Int), .bool (inF Fi s), .int .i64 0]), vI 10 (.int .i64 (s : Int)), vI 11 (.bool (inF Fi s)), vI 12 (.int .i64 0), vI 13 (.int .i64 (s : Int)), vI 14 (.bool (inF Fi s)), vI 15 (.int .i64 0)] (by kernel_rfl) (by kernel_rfl) (by kernel_rfl) (by kernel_rfl) hmo ⟨?o0, ?o1, ?o2, ?o3, ?o4, ?o5, ?o6, ?o7, ?o8, ?o9, ?o10, ?o11, ?o12, ?o13, ?o14, ?o15, trivial⟩ ?fin
              case o0 =>
                intro At yy W hy hb d hd K hK
                have s1 : At.tmps.getD 1 undef = .pointer (some ⟨w.heap.size, 0, none⟩) := hb 1 rfl
                have s1' := s1
                rw [Array.getD_eq_getD_getElem?] at s1'
                clear hd hy hb
                go_simp
                exact hK.out _ W (stp_of hmo d (Below.refl _ _)) (if_pos rfl)
              case o1 =>
                intro At yy W hy hb d hd K hK
                have e0 : yy 0 = .pointer (some ⟨w.heap.size, 0, none⟩) := by obtain ⟨_, _, _, _, e⟩ := hd ⟨0, .data⟩ (by simp) rfl rfl; exact e
                have s95 := (hy 0 _ 95 rfl rfl).trans e0
                have s95' := s95
                rw [Array.getD_eq_getD_getElem?] at s95'
                clear hd hy hb
                have yb0 : W.cell? ⟨w.heap.size, 0, none⟩ = some (.int .i64 (N : Int)) := cell_of (blk_on HE.out.1 d) rfl
                have yb1 : W.cell? ⟨w.heap.size, 1, none⟩ = some (.int .i64 (M : Int)) := cell_of (blk_on HE.out.1 d) rfl
                have yb2 : W.cell? ⟨w.heap.size, 2, none⟩ = some (.int .i64 (st : Int)) := cell_of (blk_on HE.out.1 d) rfl
                have yb3 : W.cell? ⟨w.heap.size, 3, none⟩ = some (.slice aF Fi.length cF) := cell_of (blk_on HE.out.1 d) rfl
                have yb4 : W.cell? ⟨w.heap.size, 4, none⟩ = some (.slice aN Nx.length cN) := cell_of (blk_on HE.out.1 d) rfl
                go_simp
                exact hK.out _ W (stp_of hmo d (Below.refl _ _)) (if_pos rfl)
              case o2 =>
                intro At yy W hy hb d hd K hK
                have e1 : yy 1 = .agg #[.int .i64 (N : Int), .int .i64 (M : Int), .int .i64 (st : Int), .slice aF Fi.length cF, .slice aN Nx.length cN] := by obtain ⟨_, _, _, _, e⟩ := hd ⟨1, .data⟩ (by simp) rfl rfl; exact e
                have s96 := (hy 1 _ 96 rfl rfl).trans e1
                have s96' := s96
                rw [Array.getD_eq_getD_getElem?] at s96'
                clear hd hy hb
                go_simp
                go_wp2_with (go_at_call 9; refine (twin_any _ N M st aF aN cF cN Fi Nx (HE.out.2.1.on d) (HE.out.2.2.1.on d) bF bN).mono ?_; rintro e wa ⟨gF3, kF3, gN3, kN3, rfl, HT3, da⟩)
                exact hK.out _ wa (stp_of hmo d da) ⟨gF3, kF3, gN3, kN3, if_pos rfl, HT3.out.f.rd, HT3.out.n.rd⟩
              case o3 =>
                intro At yy W hy hb d hd K hK
                have s8 : At.tmps.getD 8 undef = .slice (some ⟨g, 0, none⟩) N cl := hb 8 rfl
                have s8' := s8
                rw [Array.getD_eq_getD_getElem?] at s8'
                clear hd hy hb
                go_simp
                exact hK.out _ W (stp_of hmo d (Below.refl _ _)) (if_pos rfl)
              case o4 =>
                intro At yy W hy hb d hd K hK
                have s12 : At.tmps.getD 12 undef = .int .i64 (s : Int) := hb 12 rfl
                have s12' := s12
                rw [Array.getD_eq_getD_getElem?] at s12'
                clear hd hy hb
                go_simp
                exact hK.out _ W (stp_of hmo d (Below.refl _ _)) (if_pos rfl)
              case o5 =>
                intro At yy W hy hb d hd K hK
                have e3 : yy 3 = .slice (some ⟨g, 0, none⟩) N cl := by obtain ⟨_, _, _, _, e⟩ := hd ⟨3, .data⟩ (by simp) rfl rfl; exact e
                have e4 : yy 4 = .int .i64 (s : Int) := by obtain ⟨_, _, _, _, e⟩ := hd ⟨4, .data⟩ (by simp) rfl rfl; exact e
                have s98 := (hy 3 _ 98 rfl rfl).trans e3
                have s98' := s98
                rw [Array.getD_eq_getD_getElem?] at s98'
                have s99 := (hy 4 _ 99 rfl rfl).trans e4
                have s99' := s99
                rw [Array.getD_eq_getD_getElem?] at s99'
                clear hd hy hb
                go_simp
                exact hK.out _ W (stp_of hmo d (Below.refl _ _)) (if_pos rfl)
              case o6 =>
                intro At yy W hy hb d hd K hK
                have e5 : yy 5 = .pointer (some ⟨g, s, none⟩) := by obtain ⟨_, _, _, _, e⟩ := hd ⟨5, .data⟩ (by simp) rfl rfl; exact e
                have s100 := (hy 5 _ 100 rfl rfl).trans e5
                have s100' := s100
                rw [Array.getD_eq_getD_getElem?] at s100'
                clear hd hy hb
                have yl : W.cell? ⟨g, s, none⟩ = some (.slice b1 L.length ca1) := (d.cell (World.block_lt_of_cell? wr _ HY1.out)).trans HY1.out
                go_simp
                exact hK.out _ W (stp_of hmo d (Below.refl _ _)) (if_pos rfl)
              case o7 =>
                intro At yy W hy hb d hd K hK
                have e6 : yy 6 = .slice b1 L.length ca1 := by obtain ⟨_, _, _, _, e⟩ := hd ⟨6, .data⟩ (by simp) rfl rfl; exact e
                have s101 := (hy 6 _ 101 rfl rfl).trans e6
                have s101' := s101
                rw [Array.getD_eq_getD_getElem?] at s101'
                clear hd hy hb
                go_simp
                go_wp2_with (go_at_call 13; refine (ints_any _ b1 L ca1 (hide (HR1.out.on d)) bL).mono ?_; rintro e wa ⟨gW3, kW3, rfl, HM3, da⟩)
                exact hK.out _ wa (stp_of hmo d da) ⟨gW3, kW3, if_pos rfl, HM3.out.rd⟩
              case o8 =>
                intro At yy W hy hb d hd K hK
                have f2 := hd ⟨2, .data⟩ (by simp) rfl rfl
                have f7 := hd ⟨7, .data⟩ (by simp) rfl rfl
                obtain ⟨lo2, hi2, hl2, hh2, gF3, kF3, gN3, kN3, e2, ra, rb⟩ := f2
                obtain ⟨lo7, hi7, hl7, hh7, gW3, kW3, e7, rw3⟩ := f7
                have s97 := (hy 2 _ 97 rfl rfl).trans e2
                have s97' := s97
                rw [Array.getD_eq_getD_getElem?] at s97'
                have s102 := (hy 7 _ 102 rfl rfl).trans e7
                have s102' := s102
                rw [Array.getD_eq_getD_getElem?] at s102'
                clear hd hy hb
                go_simp
                go_wp2_with (go_at_call 12; refine (TAF.out _ gF3 kF3 gN3 kN3 gW3 kW3 ra rb rw3).mono ?_; rintro e wa ⟨rfl, da⟩)
                exact hK.out _ wa (stp_of hmo d da) (if_pos rfl)
              case o9 =>
                intro At yy W hy hb d hd K hK
                have e8 : yy 8 = .tuple #[.int .i64 (s : Int), .bool (inF Fi s), .int .i64 0] := by obtain ⟨_, _, _, _, e⟩ := hd ⟨8, .data⟩ (by simp) rfl rfl; exact e
                have s103 := (hy 8 _ 103 rfl rfl).trans e8
                have s103' := s103
                rw [Array.getD_eq_getD_getElem?] at s103'
                clear hd hy hb
                go_simp
                exact hK.out _ W (stp_of hmo d (Below.refl _ _)) (if_pos rfl)
              case o10 =>
                intro At yy W hy hb d hd K hK
                have e9 : yy 9 = .tuple #[.int .i64 (s : Int), .bool (inF Fi s), .int .i64 0] := by obtain ⟨_, _, _, _, e⟩ := hd ⟨9, .data⟩ (by simp) rfl rfl; exact e
                have s94 := (hy 9 _ 94 rfl rfl).trans e9
                have s94' := s94
                rw [Array.getD_eq_getD_getElem?] at s94'
                clear hd hy hb
                go_simp
                exact hK.out _ W (stp_of hmo d (Below.refl _ _)) (if_pos rfl)
              case o11 =>
                intro At yy W hy hb d hd K hK
                have e9 : yy 9 = .tuple #[.int .i64 (s : Int), .bool (inF Fi s), .int .i64 0] := by obtain ⟨_, _, _, _, e⟩ := hd ⟨9, .data⟩ (by simp) rfl rfl; exact e
                have s94 := (hy 9 _ 94 rfl rfl).trans e9
                have s94' := s94
                rw [Array.getD_eq_getD_getElem?] at s94'
                clear hd hy hb
                go_simp
                exact hK.out _ W (stp_of hmo d (Below.refl _ _)) (if_pos rfl)
              case o12 =>
                intro At yy W hy hb d hd K hK
                have e9 : yy 9 = .tuple #[.int .i64 (s : Int), .bool (inF Fi s), .int .i64 0] := by obtain ⟨_, _, _, _, e⟩ := hd ⟨9, .data⟩ (by simp) rfl rfl; exact e
                have s94 := (hy 9 _ 94 rfl rfl).trans e9
                have s94' := s94
                rw [Array.getD_eq_getD_getElem?] at s94'
                clear hd hy hb
                go_simp
                exact hK.out _ W (stp_of hmo d (Below.refl _ _)) (if_pos rfl)
              case o13 =>
                intro At yy W hy hb d hd K hK
                have e10 : yy 10 = .int .i64 (s : Int) := by obtain ⟨_, _, _, _, e⟩ := hd ⟨10, .data⟩ (by simp) rfl rfl; exact e
                have s104 := (hy 10 _ 104 rfl rfl).trans e10
                have s104' := s104
                rw [Array.getD_eq_getD_getElem?] at s104'
                clear hd hy hb
                go_simp
                exact hK.out _ W (stp_of hmo d (Below.refl _ _)) (if_pos rfl)
              case o14 =>
                intro At yy W hy hb d hd K hK
                have e11 : yy 11 = .bool (inF Fi s) := by obtain ⟨_, _, _, _, e⟩ := hd ⟨11, .data⟩ (by simp) rfl rfl; exact e
                have s105 := (hy 11 _ 105 rfl rfl).trans e11
                have s105' := s105
                rw [Array.getD_eq_getD_getElem?] at s105'
                clear hd hy hb
                go_simp
                exact hK.out _ W (stp_of hmo d (Below.refl _ _)) (if_pos rfl)
              case o15 =>
                intro At yy W hy hb d hd K hK
                have e12 : yy 12 = .int .i64 0 := by obtain ⟨_, _, _, _, e⟩ := hd ⟨12, .data⟩ (by simp) rfl rfl; exact e
                have s106 := (hy 12 _ 106 rfl rfl).trans e12
                have s106' := s106
                rw [Array.getD_eq_getD_getElem?] at s106'
                clear hd hy hb
                go_simp
                exact hK.out _ W (stp_of hmo d (Below.refl _ _)) (if_pos rfl)
              case fin =>
                intro yy lo hi W hM
                show wpList _ _ _ [] _ _
                have e0 : yy 0 = .pointer (some ⟨w.heap.size, 0, none⟩) := hM.fact 0 (by simp) rfl (notR_all 0 rfl)
                have e1 : yy 1 = .agg #[.int .i64 (N : Int), .int .i64 (M : Int), .int .i64 (st : Int), .slice aF Fi.length cF, .slice aN Nx.length cN] := hM.fact 1 (by simp) rfl (notR_all 1 rfl)
                have e3 : yy 3 = .slice (some ⟨g, 0, none⟩) N cl := hM.fact 3 (by simp) rfl (notR_all 3 rfl)
                have e4 : yy 4 = .int .i64 (s : Int) := hM.fact 4 (by simp) rfl (notR_all 4 rfl)
                have e5 : yy 5 = .pointer (some ⟨g, s, none⟩) := hM.fact 5 (by simp) rfl (notR_all 5 rfl)
                have e6 : yy 6 = .slice b1 L.length ca1 := hM.fact 6 (by simp) rfl (notR_all 6 rfl)
                have e8 : yy 8 = .tuple #[.int .i64 (s : Int), .bool (inF Fi s), .int .i64 0] := hM.fact 8 (by simp) rfl (notR_all 8 rfl)
                have e9 : yy 9 = .tuple #[.int .i64 (s : Int), .bool (inF Fi s), .int .i64 0] := hM.fact 9 (by simp) rfl (notR_all 9 rfl)
                have e10 : yy 10 = .int .i64 (s : Int) := hM.fact 10 (by simp) rfl (notR_all 10 rfl)
                have e11 : yy 11 = .bool (inF Fi s) := hM.fact 11 (by simp) rfl (notR_all 11 rfl)
                have e12 : yy 12 = .int .i64 0 := hM.fact 12 (by simp) rfl (notR_all 12 rfl)
                have e13 : yy 13 = .int .i64 (s : Int) := hM.fact 13 (by simp) rfl (notR_all 13 rfl)
                have e14 : yy 14 = .bool (inF Fi s) := hM.fact 14 (by simp) rfl (notR_all 14 rfl)
                have e15 : yy 15 = .int .i64 0 := hM.fact 15 (by simp) rfl (notR_all 15 rfl)
                have dd := hM.d
                simp only [fills, Act.put, List.take, List.length, List.setIfInBounds_toArray, List.set_cons_zero, List.set_cons_succ, e0, e1, e3, e4, e5, e6, e8, e9, e10, e11, e12, e13, e14, e15]
                obtain ⟨gF3, kF3, gN3, kN3, e2, _, _⟩ := hM.fact 2 (by simp) rfl (notR_all 2 rfl)
                obtain ⟨gW3, kW3, e7, _⟩ := hM.fact 7 (by simp) rfl (notR_all 7 rfl)
                rw [e2, e7]
                clear hM hmo e0 e1 e3 e4 e5 e6 e8 e9 e10 e11 e12 e13 e14 e15 e2 e7 TAF
                have HDD := hide dd
                have y1 : W.cell? ⟨g, s, none⟩ = some (.slice b1 L.length ca1) := (dd.cell (World.block_lt_of_cell? wr _ HY1.out)).trans HY1.out
                have yN : W.cell? ⟨w.heap.size, 0, none⟩ = some (.int .i64 (N : Int)) := cell_of (blk_on HE.out.1 dd) rfl
                clear dd
                go_upto_region 22 with fail
                go_quiet (fail)
                go_wp2_with fail
                go_roundw
                case rel => exact ⟨s + 1, by omega, by go_num, hide (below_drewN2 (HI.out.trans (HDD.out.mono HI.out.size)) _)⟩
                case measure => simp [intOf]; omega
            · have l0 : ¬ (s : Int) < (N : Int) := by omega
              clear hlt2 hsN
              obtain ⟨hf1, hf2⟩ := HAF.out
              clear hf1
              rcases hf2 with he2 | ⟨he2, ha, hto⟩
              · subst er2
                clear HAF HRd HK
                go_upto_region 24 with fail
                have hmo : MonIL 0 [vI 0 (.slice (some ⟨g, 0, none⟩) N cl), vI 1 (.int .i64 (N : Int)), vI 2 (.pointer (some ⟨w.heap.size, 0, none⟩)), vI 3 (.pointer (some ⟨w.heap.size, 0, none⟩)), vI 4 (.int .i64 (N : Int)), vI 5 (.bool true), vI 6 (.bool true), vI 7 (.int .i64 7), vI 8 (.bool true), vI 9 (.bool true), vI 10 (undef), vI 11 (undef), vI 12 (undef), vI 13 (undef), vI 14 (undef), vI 15 (undef), vI 16 (undef), vI 17 (undef), vI 18 (undef), vI 19 (undef), vI 20 (undef), vI 21 (undef), vI 22 (undef), vI 23 (undef), vI 24 (undef), vI 25 (undef), vI 26 (undef), vI 27 (.bool true), vI 28 (.bool true), vI 29 (.bool true)] := ⟨vI_mono _ _, vI_mono _ _, vI_mono _ _, vI_mono _ _, vI_mono _ _, vI_mono _ _, vI_mono _ _, vI_mono _ _, vI_mono _ _, vI_mono _ _, vI_mono _ _, vI_mono _ _, vI_mono _ _, vI_mono _ _, vI_mono _ _, vI_mono _ _, vI_mono _ _, vI_mono _ _, vI_mono _ _, vI_mono _ _, vI_mono _ _, vI_mono _ _, vI_mono _ _, vI_mono _ _, vI_mono _ _, vI_mono _ _, vI_mono _ _, vI_mono _ _, vI_mono _ _, vI_mono _ _, trivial⟩
                refine wp_region_sl [vI 0 (.slice (some ⟨g, 0, none⟩) N cl), vI 1 (.int .i64 (N : Int)), vI 2 (.pointer (some ⟨w.heap.size, 0, none⟩)), vI 3 (.pointer (some ⟨w.heap.size, 0, none⟩)), vI 4 (.int .i64 (N : Int)), vI 5 (.bool true), vI 6 (.bool true), vI 7 (.int .i64 7), vI 8 (.bool true), vI 9 (.bool true), vI 10 (undef), vI 11 (undef), vI 12 (undef), vI 13 (undef), vI 14 (undef), vI 15 (undef), vI 16 (undef), vI 17 (undef), vI 18 (undef), vI 19 (undef), vI 20 (undef), vI 21 (undef), vI 22 (undef), vI 23 (undef), vI 24 (undef), vI 25 (undef), vI 26 (undef), vI 27 (.bool true), vI 28 (.bool true), vI 29 (.bool true)] (by kernel_rfl) (by kernel_rfl) (by kernel_rfl) (by kernel_rfl) hmo ⟨?o0, ?o1, ?o2, ?o3, ?o4, ?o5, ?o6, ?o7, ?o8, ?o9, ?o10, ?o11, ?o12, ?o13, ?o14, ?o15, ?o16, ?o17, ?o18, ?o19, ?o20, ?o21, ?o22, ?o23, ?o24, ?o25, ?o26, ?o27, ?o28, ?o29, trivial⟩ ?fin
                case o0 =>
                  intro At yy W hy hb d hd K hK
                  have s8 : At.tmps.getD 8 undef = .slice (some ⟨g, 0, none⟩) N cl := hb 8 rfl
                  have s8' := s8
                  rw [Array.getD_eq_getD_getElem?] at s8'
                  clear hd hy hb
                  go_simp
                  exact hK.out _ W (stp_of hmo d (Below.refl _ _)) (if_pos rfl)
                case o1 =>
                  intro At yy W hy hb d hd K hK
                  have e0 : yy 0 = .slice (some ⟨g, 0, none⟩) N cl := by obtain ⟨_, _, _, _, e⟩ := hd ⟨0, .data⟩ (by simp) rfl rfl; exact e
                  have s125 := (hy 0 _ 125 rfl rfl).trans e0
                  have s125' := s125
                  rw [Array.getD_eq_getD_getElem?] at s125'
                  clear hd hy hb
                  go_simp
                  exact hK.out _ W (stp_of hmo d (Below.refl _ _)) (if_pos rfl)
                case o2 =>
                  intro At yy W hy hb d hd K hK
                  have s1 : At.tmps.getD 1 undef = .pointer (some ⟨w.heap.size, 0, none⟩) := hb 1 rfl
                  have s1' := s1
                  rw [Array.getD_eq_getD_getElem?] at s1'
                  clear hd hy hb
                  go_simp
                  exact hK.out _ W (stp_of hmo d (Below.refl _ _)) (if_pos rfl)
                case o3 =>
                  intro At yy W hy hb d hd K hK
                  have e2 : yy 2 = .pointer (some ⟨w.heap.size, 0, none⟩) := by obtain ⟨_, _, _, _, e⟩ := hd ⟨2, .data⟩ (by simp) rfl rfl; exact e
                  have s127 := (hy 2 _ 127 rfl rfl).trans e2
                  have s127' := s127
                  rw [Array.getD_eq_getD_getElem?] at s127'
                  clear hd hy hb
                  go_simp
                  exact hK.out _ W (stp_of hmo d (Below.refl _ _)) (if_pos rfl)
                case o4 =>
                  intro At yy W hy hb d hd K hK
                  have e3 : yy 3 = .pointer (some ⟨w.heap.size, 0, none⟩) := by obtain ⟨_, _, _, _, e⟩ := hd ⟨3, .data⟩ (by simp) rfl rfl; exact e
                  have s128 := (hy 3 _ 128 rfl rfl).trans e3
                  have s128' := s128
                  rw [Array.getD_eq_getD_getElem?] at s128'
                  clear hd hy hb
                  have yb0 : W.cell? ⟨w.heap.size, 0, none⟩ = some (.int .i64 (N : Int)) := cell_of (blk_on HE.out.1 d) rfl
                  go_simp
                  exact hK.out _ W (stp_of hmo d (Below.refl _ _)) (if_pos rfl)
                case o5 =>
                  intro At yy W hy hb d hd K hK
                  have e1 : yy 1 = .int .i64 (N : Int) := by obtain ⟨_, _, _, _, e⟩ := hd ⟨1, .data⟩ (by simp) rfl rfl; exact e
                  have e4 : yy 4 = .int .i64 (N : Int) := by obtain ⟨_, _, _, _, e⟩ := hd ⟨4, .data⟩ (by simp) rfl rfl; exact e
                  have s126 := (hy 1 _ 126 rfl rfl).trans e1
                  have s126' := s126
                  rw [Array.getD_eq_getD_getElem?] at s126'
                  have s129 := (hy 4 _ 129 rfl rfl).trans e4
                  have s129' := s129
                  rw [Array.getD_eq_getD_getElem?] at s129'
                  clear hd hy hb
                  go_simp
                  exact hK.out _ W (stp_of hmo d (Below.refl _ _)) (if_pos rfl)
                case o6 =>
                  intro At yy W hy hb d hd K hK
                  have e5 : yy 5 = .bool true := by obtain ⟨_, _, _, _, e⟩ := hd ⟨5, .data⟩ (by simp) rfl rfl; exact e
                  have s130 := (hy 5 _ 130 rfl rfl).trans e5
                  have s130' := s130
                  rw [Array.getD_eq_getD_getElem?] at s130'
                  clear hd hy hb
                  go_simp
                  exact hK.out _ W (stp_of hmo d (Below.refl _ _)) (if_pos rfl)
                case o7 =>
                  intro At yy W hy hb d hd K hK
                  have e6 : yy 6 = .bool true := by obtain ⟨_, _, _, _, e⟩ := hd ⟨6, .guard⟩ (by simp) rfl rfl; exact e
                  have s11 : At.tmps.getD 11 undef = .int .i64 7 := hb 11 rfl
                  have s11' := s11
                  rw [Array.getD_eq_getD_getElem?] at s11'
                  have s131 := (hy 6 _ 131 rfl rfl).trans e6
                  have s131' := s131
                  rw [Array.getD_eq_getD_getElem?] at s131'
                  have g131 := got_bool s131
                  clear hd hy hb
                  go_simp
                  exact hK.out _ W (stp_of hmo d (Below.refl _ _)) (if_pos rfl)
                case o8 =>
                  intro At yy W hy hb d hd K hK
                  have e7 : yy 7 = .int .i64 7 := by obtain ⟨_, _, _, _, e⟩ := hd ⟨7, .data⟩ (by simp) rfl rfl; exact e
                  have e6 : yy 6 = .bool true := by obtain ⟨_, _, _, _, e⟩ := hd ⟨6, .guard⟩ (by simp) rfl rfl; exact e
                  have s131 := (hy 6 _ 131 rfl rfl).trans e6
                  have s131' := s131
                  rw [Array.getD_eq_getD_getElem?] at s131'
                  have s132 := (hy 7 _ 132 rfl rfl).trans e7
                  have s132' := s132
                  rw [Array.getD_eq_getD_getElem?] at s132'
                  have g131 := got_bool s131
                  clear hd hy hb
                  go_simp
                  exact hK.out _ W (stp_of hmo d (Below.refl _ _)) (if_pos rfl)
                case o9 =>
                  intro At yy W hy hb d hd K hK
                  have e8 : yy 8 = .bool true := by obtain ⟨_, _, _, _, e⟩ := hd ⟨8, .data⟩ (by simp) rfl rfl; exact e
                  have e6 : yy 6 = .bool true := by obtain ⟨_, _, _, _, e⟩ := hd ⟨6, .guard⟩ (by simp) rfl rfl; exact e
                  have s131 := (hy 6 _ 131 rfl rfl).trans e6
                  have s131' := s131
                  rw [Array.getD_eq_getD_getElem?] at s131'
                  have s133 := (hy 8 _ 133 rfl rfl).trans e8
                  have s133' := s133
                  rw [Array.getD_eq_getD_getElem?] at s133'
                  have g131 := got_bool s131
                  clear hd hy hb
                  go_simp
                  exact hK.out _ W (stp_of hmo d (Below.refl _ _)) (if_pos rfl)
                case o10 =>
                  intro At yy W hy hb d hd K hK
                  have e9 : yy 9 = .bool true := by obtain ⟨_, _, _, _, e⟩ := hd ⟨9, .guard⟩ (by simp) rfl rfl; exact e
                  have s134 := (hy 9 _ 134 rfl rfl).trans e9
                  have s134' := s134
                  rw [Array.getD_eq_getD_getElem?] at s134'
                  have g134 := got_bool s134
                  clear hd hy hb
                  go_simp
                  exact hK.out _ W (stp_of hmo d (Below.refl _ _)) (if_pos rfl)
                case o11 =>
                  intro At yy W hy hb d hd K hK
                  have e10 : yy 10 = undef := by obtain ⟨_, _, _, _, e⟩ := hd ⟨10, .data⟩ (by simp) rfl rfl; exact e
                  have e9 : yy 9 = .bool true := by obtain ⟨_, _, _, _, e⟩ := hd ⟨9, .guard⟩ (by simp) rfl rfl; exact e
                  have s134 := (hy 9 _ 134 rfl rfl).trans e9
                  have s134' := s134
                  rw [Array.getD_eq_getD_getElem?] at s134'
                  have g134 := got_bool s134
                  clear hd hy hb
                  go_simp
                  exact hK.out _ W (stp_of hmo d (Below.refl _ _)) (if_pos rfl)
                case o12 =>
                  intro At yy W hy hb d hd K hK
                  have e11 : yy 11 = undef := by obtain ⟨_, _, _, _, e⟩ := hd ⟨11, .data⟩ (by simp) rfl rfl; exact e
                  have e9 : yy 9 = .bool true := by obtain ⟨_, _, _, _, e⟩ := hd ⟨9, .guard⟩ (by simp) rfl rfl; exact e
                  have s134 := (hy 9 _ 134 rfl rfl).trans e9
                  have s134' := s134
                  rw [Array.getD_eq_getD_getElem?] at s134'
                  have g134 := got_bool s134
                  clear hd hy hb
                  go_simp
                  exact hK.out _ W (stp_of hmo d (Below.refl _ _)) (if_pos rfl)
                case o13 =>
                  intro At yy W hy hb d hd K hK
                  have e12 : yy 12 = undef := by obtain ⟨_, _, _, _, e⟩ := hd ⟨12, .guard⟩ (by simp) rfl rfl; exact e
                  have s137 := (hy 12 _ 137 rfl rfl).trans e12
                  have s137' := s137
                  rw [Array.getD_eq_getD_getElem?] at s137'
                  have g137 := got_undef s137
                  clear hd hy hb
                  rcases g137 with g137 | g137
                  · go_simp
                    exact hK.out _ W (stp_of hmo d (Below.refl _ _)) (if_pos rfl)
                  · go_simp
                    exact hK.out _ W (stp_of hmo d (Below.refl _ _)) (if_pos rfl)
                case o14 =>
                  intro At yy W hy hb d hd K hK
                  have e12 : yy 12 = undef := by obtain ⟨_, _, _, _, e⟩ := hd ⟨12, .guard⟩ (by simp) rfl rfl; exact e
                  have s137 := (hy 12 _ 137 rfl rfl).trans e12
                  have s137' := s137
                  rw [Array.getD_eq_getD_getElem?] at s137'
                  have g137 := got_undef s137
                  clear hd hy hb
                  rcases g137 with g137 | g137
                  · go_simp
                    exact hK.out _ W (stp_of hmo d (Below.refl _ _)) (if_pos rfl)
                  · go_simp
                    exact hK.out _ W (stp_of hmo d (Below.refl _ _)) (if_pos rfl)
                case o15 =>
                  intro At yy W hy hb d hd K hK
                  have e14 : yy 14 = undef := by obtain ⟨_, _, _, _, e⟩ := hd ⟨14, .data⟩ (by simp) rfl rfl; exact e
                  have e12 : yy 12 = undef := by obtain ⟨_, _, _, _, e⟩ := hd ⟨12, .guard⟩ (by simp) rfl rfl; exact e
                  have s137 := (hy 12 _ 137 rfl rfl).trans e12
                  have s137' := s137
                  rw [Array.getD_eq_getD_getElem?] at s137'
                  have g137 := got_undef s137
                  clear hd hy hb
                  rcases g137 with g137 | g137
                  · go_simp
                    exact hK.out _ W (stp_of hmo d (Below.refl _ _)) (if_pos rfl)
                  · go_simp
                    exact hK.out _ W (stp_of hmo d (Below.refl _ _)) (if_pos rfl)
                case o16 =>
                  intro At yy W hy hb d hd K hK
                  have e13 : yy 13 = undef := by obtain ⟨_, _, _, _, e⟩ := hd ⟨13, .data⟩ (by simp) rfl rfl; exact e
                  have e15 : yy 15 = undef := by obtain ⟨_, _, _, _, e⟩ := hd ⟨15, .data⟩ (by simp) rfl rfl; exact e
                  have e12 : yy 12 = undef := by obtain ⟨_, _, _, _, e⟩ := hd ⟨12, .guard⟩ (by simp) rfl rfl; exact e
                  have s137 := (hy 12 _ 137 rfl rfl).trans e12
                  have s137' := s137
                  rw [Array.getD_eq_getD_getElem?] at s137'
                  have g137 := got_undef s137
                  clear hd hy hb
                  rcases g137 with g137 | g137
                  · go_simp
                    exact hK.out _ W (stp_of hmo d (Below.refl _ _)) (if_pos rfl)
                  · go_simp
                    exact hK.out _ W (stp_of hmo d (Below.refl _ _)) (if_pos rfl)
                case o17 =>
                  intro At yy W hy hb d hd K hK
                  have e12 : yy 12 = undef := by obtain ⟨_, _, _, _, e⟩ := hd ⟨12, .data⟩ (by simp) rfl rfl; exact e
                  have e16 : yy 16 = undef := by obtain ⟨_, _, _, _, e⟩ := hd ⟨16, .data⟩ (by simp) rfl rfl; exact e
                  have e9 : yy 9 = .bool true := by obtain ⟨_, _, _, _, e⟩ := hd ⟨9, .guard⟩ (by simp) rfl rfl; exact e
                  have s134 := (hy 9 _ 134 rfl rfl).trans e9
                  have s134' := s134
                  rw [Array.getD_eq_getD_getElem?] at s134'
                  have g134 := got_bool s134
                  clear hd hy hb
                  go_simp
                  exact hK.out _ W (stp_of hmo d (Below.refl _ _)) (if_pos rfl)
                case o18 =>
                  intro At yy W hy hb d hd K hK
                  have e17 : yy 17 = undef := by obtain ⟨_, _, _, _, e⟩ := hd ⟨17, .data⟩ (by simp) rfl rfl; exact e
                  have e9 : yy 9 = .bool true := by obtain ⟨_, _, _, _, e⟩ := hd ⟨9, .guard⟩ (by simp) rfl rfl; exact e
                  have s134 := (hy 9 _ 134 rfl rfl).trans e9
                  have s134' := s134
                  rw [Array.getD_eq_getD_getElem?] at s134'
                  have g134 := got_bool s134
                  clear hd hy hb
                  go_simp
                  exact hK.out _ W (stp_of hmo d (Below.refl _ _)) (if_pos rfl)
                case o19 =>
                  intro At yy W hy hb d hd K hK
                  have e18 : yy 18 = undef := by obtain ⟨_, _, _, _, e⟩ := hd ⟨18, .guard⟩ (by simp) rfl rfl; exact e
                  have s143 := (hy 18 _ 143 rfl rfl).trans e18
                  have s143' := s143
                  rw [Array.getD_eq_getD_getElem?] at s143'
                  have g143 := got_undef s143
                  clear hd hy hb
                  rcases g143 with g143 | g143
                  · go_simp
                    exact hK.out _ W (stp_of hmo d (Below.refl _ _)) (if_pos rfl)
                  · go_simp
                    exact hK.out _ W (stp_of hmo d (Below.refl _ _)) (if_pos rfl)
                case o20 =>
                  intro At yy W hy hb d hd K hK
                  have e18 : yy 18 = undef := by obtain ⟨_, _, _, _, e⟩ := hd ⟨18, .guard⟩ (by simp) rfl rfl; exact e
                  have s143 := (hy 18 _ 143 rfl rfl).trans e18
                  have s143' := s143
                  rw [Array.getD_eq_getD_getElem?] at s143'
                  have g143 := got_undef s143
                  clear hd hy hb
                  rcases g143 with g143 | g143
                  · go_simp
                    exact hK.out _ W (stp_of hmo d (Below.refl _ _)) (if_pos rfl)
                  · go_simp
                    exact hK.out _ W (stp_of hmo d (Below.refl _ _)) (if_pos rfl)
                case o21 =>
                  intro At yy W hy hb d hd K hK
                  have e19 : yy 19 = undef := by obtain ⟨_, _, _, _, e⟩ := hd ⟨19, .data⟩ (by simp) rfl rfl; exact e
                  have e20 : yy 20 = undef := by obtain ⟨_, _, _, _, e⟩ := hd ⟨20, .data⟩ (by simp) rfl rfl; exact e
                  have e18 : yy 18 = undef := by obtain ⟨_, _, _, _, e⟩ := hd ⟨18, .guard⟩ (by simp) rfl rfl; exact e
                  have s143 := (hy 18 _ 143 rfl rfl).trans e18
                  have s143' := s143
                  rw [Array.getD_eq_getD_getElem?] at s143'
                  have g143 := got_undef s143
                  clear hd hy hb
                  rcases g143 with g143 | g143
                  · go_simp
                    exact hK.out _ W (stp_of hmo d (Below.refl _ _)) (if_pos rfl)
                  · go_simp
                    exact hK.out _ W (stp_of hmo d (Below.refl _ _)) (if_pos rfl)
                case o22 =>
                  intro At yy W hy hb d hd K hK
                  have e21 : yy 21 = undef := by obtain ⟨_, _, _, _, e⟩ := hd ⟨21, .data⟩ (by simp) rfl rfl; exact e
                  have e18 : yy 18 = undef := by obtain ⟨_, _, _, _, e⟩ := hd ⟨18, .guard⟩ (by simp) rfl rfl; exact e
                  have s143 := (hy 18 _ 143 rfl rfl).trans e18
                  have s143' := s143
                  rw [Array.getD_eq_getD_getElem?] at s143'
                  have g143 := got_undef s143
                  clear hd hy hb
                  rcases g143 with g143 | g143
                  · go_simp
                    exact hK.out _ W (stp_of hmo d (Below.refl _ _)) (if_pos rfl)
                  · go_simp
                    exact hK.out _ W (stp_of hmo d (Below.refl _ _)) (if_pos rfl)
                case o23 =>
                  intro At yy W hy hb d hd K hK
                  have e18 : yy 18 = undef := by obtain ⟨_, _, _, _, e⟩ := hd ⟨18, .guard⟩ (by simp) rfl rfl; exact e
                  have s143 := (hy 18 _ 143 rfl rfl).trans e18
                  have s143' := s143
                  rw [Array.getD_eq_getD_getElem?] at s143'
                  have g143 := got_undef s143
                  clear hd hy hb
                  rcases g143 with g143 | g143
                  · go_simp
                    exact hK.out _ W (stp_of hmo d (Below.refl _ _)) (if_pos rfl)
                  · go_simp
                    exact hK.out _ W (stp_of hmo d (Below.refl _ _)) (if_pos rfl)
                case o24 =>
                  intro At yy W hy hb d hd K hK
                  have e23 : yy 23 = undef := by obtain ⟨_, _, _, _, e⟩ := hd ⟨23, .data⟩ (by simp) rfl rfl; exact e
                  have e18 : yy 18 = undef := by obtain ⟨_, _, _, _, e⟩ := hd ⟨18, .guard⟩ (by simp) rfl rfl; exact e
                  have s143 := (hy 18 _ 143 rfl rfl).trans e18
                  have s143' := s143
                  rw [Array.getD_eq_getD_getElem?] at s143'
                  have g143 := got_undef s143
                  clear hd hy hb
                  rcases g143 with g143 | g143
                  · go_simp
                    exact hK.out _ W (stp_of hmo d (Below.refl _ _)) (if_pos rfl)
                  · go_simp
                    exact hK.out _ W (stp_of hmo d (Below.refl _ _)) (if_pos rfl)
                case o25 =>
                  intro At yy W hy hb d hd K hK
                  have e22 : yy 22 = undef := by obtain ⟨_, _, _, _, e⟩ := hd ⟨22, .data⟩ (by simp) rfl rfl; exact e
                  have e24 : yy 24 = undef := by obtain ⟨_, _, _, _, e⟩ := hd ⟨24, .data⟩ (by simp) rfl rfl; exact e
                  have e18 : yy 18 = undef := by obtain ⟨_, _, _, _, e⟩ := hd ⟨18, .guard⟩ (by simp) rfl rfl; exact e
                  have s143 := (hy 18 _ 143 rfl rfl).trans e18
                  have s143' := s143
                  rw [Array.getD_eq_getD_getElem?] at s143'
                  have g143 := got_undef s143
                  clear hd hy hb
                  rcases g143 with g143 | g143
                  · go_simp
                    exact hK.out _ W (stp_of hmo d (Below.refl _ _)) (if_pos rfl)
                  · go_simp
                    exact hK.out _ W (stp_of hmo d (Below.refl _ _)) (if_pos rfl)
                case o26 =>
                  intro At yy W hy hb d hd K hK
                  have e18 : yy 18 = undef := by obtain ⟨_, _, _, _, e⟩ := hd ⟨18, .data⟩ (by simp) rfl rfl; exact e
                  have e25 : yy 25 = undef := by obtain ⟨_, _, _, _, e⟩ := hd ⟨25, .data⟩ (by simp) rfl rfl; exact e
                  have e9 : yy 9 = .bool true := by obtain ⟨_, _, _, _, e⟩ := hd ⟨9, .guard⟩ (by simp) rfl rfl; exact e
                  have s134 := (hy 9 _ 134 rfl rfl).trans e9
                  have s134' := s134
                  rw [Array.getD_eq_getD_getElem?] at s134'
                  have g134 := got_bool s134
                  clear hd hy hb
                  go_simp
                  exact hK.out _ W (stp_of hmo d (Below.refl _ _)) (if_pos rfl)
                case o27 =>
                  intro At yy W hy hb d hd K hK
                  have e9 : yy 9 = .bool true := by obtain ⟨_, _, _, _, e⟩ := hd ⟨9, .data⟩ (by simp) rfl rfl; exact e
                  have e26 : yy 26 = undef := by obtain ⟨_, _, _, _, e⟩ := hd ⟨26, .data⟩ (by simp) rfl rfl; exact e
                  have e6 : yy 6 = .bool true := by obtain ⟨_, _, _, _, e⟩ := hd ⟨6, .guard⟩ (by simp) rfl rfl; exact e
                  have s131 := (hy 6 _ 131 rfl rfl).trans e6
                  have s131' := s131
                  rw [Array.getD_eq_getD_getElem?] at s131'
                  have s134 := (hy 9 _ 134 rfl rfl).trans e9
                  have s134' := s134
                  rw [Array.getD_eq_getD_getElem?] at s134'
                  have s151 := (hy 26 _ 151 rfl rfl).trans e26
                  have s151' := s151
                  rw [Array.getD_eq_getD_getElem?] at s151'
                  have g131 := got_bool s131
                  clear hd hy hb
                  go_simp
                  exact hK.out _ W (stp_of hmo d (Below.refl _ _)) (if_pos rfl)
                case o28 =>
                  intro At yy W hy hb d hd K hK
                  have e6 : yy 6 = .bool true := by obtain ⟨_, _, _, _, e⟩ := hd ⟨6, .data⟩ (by simp) rfl rfl; exact e
                  have e27 : yy 27 = .bool true := by obtain ⟨_, _, _, _, e⟩ := hd ⟨27, .data⟩ (by simp) rfl rfl; exact e
                  have s131 := (hy 6 _ 131 rfl rfl).trans e6
                  have s131' := s131
                  rw [Array.getD_eq_getD_getElem?] at s131'
                  have s152 := (hy 27 _ 152 rfl rfl).trans e27
                  have s152' := s152
                  rw [Array.getD_eq_getD_getElem?] at s152'
                  clear hd hy hb
                  go_simp
                  exact hK.out _ W (stp_of hmo d (Below.refl _ _)) (if_pos rfl)
                case o29 =>
                  intro At yy W hy hb d hd K hK
                  have e28 : yy 28 = .bool true := by obtain ⟨_, _, _, _, e⟩ := hd ⟨28, .data⟩ (by simp) rfl rfl; exact e
                  have s153 := (hy 28 _ 153 rfl rfl).trans e28
                  have s153' := s153
                  rw [Array.getD_eq_getD_getElem?] at s153'
                  clear hd hy hb
                  go_simp
                  exact hK.out _ W (stp_of hmo d (Below.refl _ _)) (if_pos rfl)
                case fin =>
                  intro yy lo hi W hM
                  show wpList _ _ _ [] _ _
                  have e0 : yy 0 = .slice (some ⟨g, 0, none⟩) N cl := hM.fact 0 (by simp) rfl (notR_all 0 rfl)
                  have e1 : yy 1 = .int .i64 (N : Int) := hM.fact 1 (by simp) rfl (notR_all 1 rfl)
                  have e2 : yy 2 = .pointer (some ⟨w.heap.size, 0, none⟩) := hM.fact 2 (by simp) rfl (notR_all 2 rfl)
                  have e3 : yy 3 = .pointer (some ⟨w.heap.size, 0, none⟩) := hM.fact 3 (by simp) rfl (notR_all 3 rfl)
                  have e4 : yy 4 = .int .i64 (N : Int) := hM.fact 4 (by simp) rfl (notR_all 4 rfl)
                  have e5 : yy 5 = .bool true := hM.fact 5 (by simp) rfl (notR_all 5 rfl)
                  have e6 : yy 6 = .bool true := hM.fact 6 (by simp) rfl (notR_all 6 rfl)
                  have e7 : yy 7 = .int .i64 7 := hM.fact 7 (by simp) rfl (notR_all 7 rfl)
                  have e8 : yy 8 = .bool true := hM.fact 8 (by simp) rfl (notR_all 8 rfl)
                  have e9 : yy 9 = .bool true := hM.fact 9 (by simp) rfl (notR_all 9 rfl)
                  have e10 : yy 10 = undef := hM.fact 10 (by simp) rfl (notR_all 10 rfl)
                  have e11 : yy 11 = undef := hM.fact 11 (by simp) rfl (notR_all 11 rfl)
                  have e12 : yy 12 = undef := hM.fact 12 (by simp) rfl (notR_all 12 rfl)
                  have e13 : yy 13 = undef := hM.fact 13 (by simp) rfl (notR_all 13 rfl)
                  have e14 : yy 14 = undef := hM.fact 14 (by simp) rfl (notR_all 14 rfl)
                  have e15 : yy 15 = undef := hM.fact 15 (by simp) rfl (notR_all 15 rfl)
                  have e16 : yy 16 = undef := hM.fact 16 (by simp) rfl (notR_all 16 rfl)
                  have e17 : yy 17 = undef := hM.fact 17 (by simp) rfl (notR_all 17 rfl)
                  have e18 : yy 18 = undef := hM.fact 18 (by simp) rfl (notR_all 18 rfl)
                  have e19 : yy 19 = undef := hM.fact 19 (by simp) rfl (notR_all 19 rfl)
                  have e20 : yy 20 = undef := hM.fact 20 (by simp) rfl (notR_all 20 rfl)
                  have e21 : yy 21 = undef := hM.fact 21 (by simp) rfl (notR_all 21 rfl)
                  have e22 : yy 22 = undef := hM.fact 22 (by simp) rfl (notR_all 22 rfl)
                  have e23 : yy 23 = undef := hM.fact 23 (by simp) rfl (notR_all 23 rfl)
                  have e24 : yy 24 = undef := hM.fact 24 (by simp) rfl (notR_all 24 rfl)
                  have e25 : yy 25 = undef := hM.fact 25 (by simp) rfl (notR_all 25 rfl)
                  have e26 : yy 26 = undef := hM.fact 26 (by simp) rfl (notR_all 26 rfl)
                  have e27 : yy 27 = .bool true := hM.fact 27 (by simp) rfl (notR_all 27 rfl)
                  have e28 : yy 28 = .bool true := hM.fact 28 (by simp) rfl (notR_all 28 rfl)
                  have e29 : yy 29 = .bool true := hM.fact 29 (by simp) rfl (notR_all 29 rfl)
                  have dd := hM.d
                  simp only [fills, Act.put, List.take, List.length, List.setIfInBounds_toArray, List.set_cons_zero, List.set_cons_succ, e0, e1, e2, e3, e4, e5, e6, e7, e8, e9, e10, e11, e12, e13, e14, e15, e16, e17, e18, e19, e20, e21, e22, e23, e24, e25, e26, e27, e28, e29]
                  clear hM hmo e0 e1 e2 e3 e4 e5 e6 e7 e8 e9 e10 e11 e12 e13 e14 e15 e16 e17 e18 e19 e20 e21 e22 e23 e24 e25 e26 e27 e28 e29
                  have HDD := hide dd
                  clear dd
                  go_wp2_with fail
                  go_ret
                  exact ⟨rfl, HE.out.2.2.2.2.trans (HDD.out.mono HE.out.2.2.2.2.size)⟩
              · subst er2
                obtain ⟨i, hiN, hTi, hah⟩ := acc_least HK.out.1 HK.out.2.1 HK.out.2.2.1 ha
                obtain ⟨t, ht⟩ : ∃ t, dls Nx M st (Wd.map Int.toNat) = t := ⟨_, rfl⟩
                rw [ht] at hTi hto
                subst to9
                have htN : t < N := HK.out.2.2.2.2 t (List.mem_of_getElem? hTi)
                obtain ⟨b2, ca2, y2, r2⟩ := HRd.out _ HI.out i t hiN hTi
                have hll : (wdK M K i).length ≤ 4194304 := by
                  rw [← wnK_map, List.length_map]
                  have z1 := HK.out.2.1.l
                  have z2 := HK.out.1
                  have := wnK_len HK.out.2.1.q i (by omega)
                  omega
                obtain ⟨L, hL⟩ : ∃ L, wdK M K i = L := ⟨_, rfl⟩
                rw [hL] at y2 r2 hah hll
                obtain ⟨j2, hj2⟩ : ∃ l, L.length = l := ⟨_, rfl⟩
                rw [hj2] at y2 hll
                have HY2 := hide y2
                have TA : Hid (∀ W, Below wr.heap.size wr W → Calls Try.prog 11 #[.slice b2 j2 ca2, .slice aW Wd.length cW] W fun e w' => e = .returned (.bool true) ∧ Below W.heap.size W w') := hide (fun W d => by
                  have z := ahead_any W b2 aW j2 ca2 Wd.length cW L Wd (r2.on d) (HE.out.2.2.2.1.on d) hj2 rfl hll bW
                  rwa [hah] at z)
                have j0 : (0 : Int) ≤ (t : Int) := by omega
                have j1 : (t : Int) < (N : Int) := by omega
                have j3 : (t : Int) ≥ 0 := by omega
                clear HAF HRd HK ha hiN hTi hah ht y2 r2 hll hL hj2 htN
                go_upto_region 24 with fail
                have hmo : MonIL 0 [vI 0 (.slice (some ⟨g, 0, none⟩) N cl), vI 1 (.int .i64 (N : Int)), vI 2 (.pointer (some ⟨w.heap.size, 0, none⟩)), vI 3 (.pointer (some ⟨w.heap.size, 0, none⟩)), vI 4 (.int .i64 (N : Int)), vI 5 (.bool true), vI 6 (.bool true), vI 7 (.int .i64 0), vI 8 (.bool false), vI 9 (.bool false), vI 10 (.int .i64 (t : Int)), vI 11 (.bool true), vI 12 (.bool true), vI 13 (.int .i64 (t : Int)), vI 14 (.slice (some ⟨g, 0, none⟩) N cl), vI 15 (.int .i64 (N : Int)), vI 16 (.bool true), vI 17 (.bool true), vI 18 (.bool true), vI 19 (.slice (some ⟨g, 0, none⟩) N cl), vI 20 (.int .i64 (t : Int)), vI 21 (.pointer (some ⟨g, t, none⟩)), vI 22 (.slice b2 j2 ca2), vI 23 (.pointer (some ⟨w.heap.size, 12, none⟩)), vI 24 (.slice aW Wd.length cW), vI 25 (.bool true), vI 26 (.bool true), vI 27 (.bool true), vI 28 (.bool true), vI 29 (.bool true)] := ⟨vI_mono _ _, vI_mono _ _, vI_mono _ _, vI_mono _ _, vI_mono _ _, vI_mono _ _, vI_mono _ _, vI_mono _ _, vI_mono _ _, vI_mono _ _, vI_mono _ _, vI_mono _ _, vI_mono _ _, vI_mono _ _, vI_mono _ _, vI_mono _ _, vI_mono _ _, vI_mono _ _, vI_mono _ _, vI_mono _ _, vI_mono _ _, vI_mono _ _, vI_mono _ _, vI_mono _ _, vI_mono _ _, vI_mono _ _, vI_mono _ _, vI_mono _ _, vI_mono _ _, vI_mono _ _, trivial⟩
                refine wp_region_sl [vI 0 (.slice (some ⟨g, 0, none⟩) N cl), vI 1 (.int .i64 (N : Int)), vI 2 (.pointer (some ⟨w.heap.size, 0, none⟩)), vI 3 (.pointer (some ⟨w.heap.size, 0, none⟩)), vI 4 (.int .i64 (N : Int)), vI 5 (.bool true), vI 6 (.bool true), vI 7 (.int .i64 0), vI 8 (.bool false), vI 9 (.bool false), vI 10 (.int .i64 (t : Int)), vI 11 (.bool true), vI 12 (.bool true), vI 13 (.int .i64 (t : Int)), vI 14 (.slice (some ⟨g, 0, none⟩) N cl), vI 15 (.int .i64 (N : Int)), vI 16 (.bool true), vI 17 (.bool true), vI 18 (.bool true), vI 19 (.slice (some ⟨g, 0, none⟩) N cl), vI 20 (.int .i64 (t : Int)), vI 21 (.pointer (some ⟨g, t, none⟩)), vI 22 (.slice b2 j2 ca2), vI 23 (.pointer (some ⟨w.heap.size, 12, none⟩)), vI 24 (.slice aW Wd.length cW), vI 25 (.bool true), vI 26 (.bool true), vI 27 (.bool true), vI 28 (.bool true), vI 29 (.bool true)] (by kernel_rfl) (by kernel_rfl) (by kernel_rfl) (by kernel_rfl) hmo ⟨?o0, ?o1, ?o2, ?o3, ?o4, ?o5, ?o6, ?o7, ?o8, ?o9, ?o10, ?o11, ?o12, ?o13, ?o14, ?o15, ?o16, ?o17, ?o18, ?o19, ?o20, ?o21, ?o22, ?o23, ?o24, ?o25, ?o26, ?o27, ?o28, ?o29, trivial⟩ ?fin
                case o0 =>
                  intro At yy W hy hb d hd K hK
                  have s8 : At.tmps.getD 8 undef = .slice (some ⟨g, 0, none⟩) N cl := hb 8 rfl
                  have s8' := s8
                  rw [Array.getD_eq_getD_getElem?] at s8'
                  clear hd hy hb
                  go_simp
                  exact hK.out _ W (stp_of hmo d (Below.refl _ _)) (if_pos rfl)
                case o1 =>
                  intro At yy W hy hb d hd K hK
                  have e0 : yy 0 = .slice (some ⟨g, 0, none⟩) N cl := by obtain ⟨_, _, _, _, e⟩ := hd ⟨0, .data⟩ (by simp) rfl rfl; exact e
                  have s125 := (hy 0 _ 125 rfl rfl).trans e0
                  have s125' := s125
                  rw [Array.getD_eq_getD_getElem?] at s125'
                  clear hd hy hb
                  go_simp
                  exact hK.out _ W (stp_of hmo d (Below.refl _ _)) (if_pos rfl)
                case o2 =>
                  intro At yy W hy hb d hd K hK
                  have s1 : At.tmps.getD 1 undef = .pointer (some ⟨w.heap.size, 0, none⟩) := hb 1 rfl
                  have s1' := s1
                  rw [Array.getD_eq_getD_getElem?] at s1'
                  clear hd hy hb
                  go_simp
                  exact hK.out _ W (stp_of hmo d (Below.refl _ _)) (if_pos rfl)
                case o3 =>
                  intro At yy W hy hb d hd K hK
                  have e2 : yy 2 = .pointer (some ⟨w.heap.size, 0, none⟩) := by obtain ⟨_, _, _, _, e⟩ := hd ⟨2, .data⟩ (by simp) rfl rfl; exact e
                  have s127 := (hy 2 _ 127 rfl rfl).trans e2
                  have s127' := s127
                  rw [Array.getD_eq_getD_getElem?] at s127'
                  clear hd hy hb
                  go_simp
                  exact hK.out _ W (stp_of hmo d (Below.refl _ _)) (if_pos rfl)
                case o4 =>
                  intro At yy W hy hb d hd K hK
                  have e3 : yy 3 = .pointer (some ⟨w.heap.size, 0, none⟩) := by obtain ⟨_, _, _, _, e⟩ := hd ⟨3, .data⟩ (by simp) rfl rfl; exact e
                  have s128 := (hy 3 _ 128 rfl rfl).trans e3
                  have s128' := s128
                  rw [Array.getD_eq_getD_getElem?] at s128'
                  clear hd hy hb
                  have yb0 : W.cell? ⟨w.heap.size, 0, none⟩ = some (.int .i64 (N : Int)) := cell_of (blk_on HE.out.1 d) rfl
                  go_simp
                  exact hK.out _ W (stp_of hmo d (Below.refl _ _)) (if_pos rfl)
                case o5 =>
                  intro At yy W hy hb d hd K hK
                  have e1 : yy 1 = .int .i64 (N : Int) := by obtain ⟨_, _, _, _, e⟩ := hd ⟨1, .data⟩ (by simp) rfl rfl; exact e
                  have e4 : yy 4 = .int .i64 (N : Int) := by obtain ⟨_, _, _, _, e⟩ := hd ⟨4, .data⟩ (by simp) rfl rfl; exact e
                  have s126 := (hy 1 _ 126 rfl rfl).trans e1
                  have s126' := s126
                  rw [Array.getD_eq_getD_getElem?] at s126'
                  have s129 := (hy 4 _ 129 rfl rfl).trans e4
                  have s129' := s129
                  rw [Array.getD_eq_getD_getElem?] at s129'
                  clear hd hy hb
                  go_simp
                  exact hK.out _ W (stp_of hmo d (Below.refl _ _)) (if_pos rfl)
                case o6 =>
                  intro At yy W hy hb d hd K hK
                  have e5 : yy 5 = .bool true := by obtain ⟨_, _, _, _, e⟩ := hd ⟨5, .data⟩ (by simp) rfl rfl; exact e
                  have s130 := (hy 5 _ 130 rfl rfl).trans e5
                  have s130' := s130
                  rw [Array.getD_eq_getD_getElem?] at s130'
                  clear hd hy hb
                  go_simp
                  exact hK.out _ W (stp_of hmo d (Below.refl _ _)) (if_pos rfl)
                case o7 =>
                  intro At yy W hy hb d hd K hK
                  have e6 : yy 6 = .bool true := by obtain ⟨_, _, _, _, e⟩ := hd ⟨6, .guard⟩ (by simp) rfl rfl; exact e
                  have s11 : At.tmps.getD 11 undef = .int .i64 0 := hb 11 rfl
                  have s11' := s11
                  rw [Array.getD_eq_getD_getElem?] at s11'
                  have s131 := (hy 6 _ 131 rfl rfl).trans e6
                  have s131' := s131
                  rw [Array.getD_eq_getD_getElem?] at s131'
                  have g131 := got_bool s131
                  clear hd hy hb
                  go_simp
                  exact hK.out _ W (stp_of hmo d (Below.refl _ _)) (if_pos rfl)
                case o8 =>
                  intro At yy W hy hb d hd K hK
                  have e7 : yy 7 = .int .i64 0 := by obtain ⟨_, _, _, _, e⟩ := hd ⟨7, .data⟩ (by simp) rfl rfl; exact e
                  have e6 : yy 6 = .bool true := by obtain ⟨_, _, _, _, e⟩ := hd ⟨6, .guard⟩ (by simp) rfl rfl; exact e
                  have s131 := (hy 6 _ 131 rfl rfl).trans e6
                  have s131' := s131
                  rw [Array.getD_eq_getD_getElem?] at s131'
                  have s132 := (hy 7 _ 132 rfl rfl).trans e7
                  have s132' := s132
                  rw [Array.getD_eq_getD_getElem?] at s132'
                  have g131 := got_bool s131
                  clear hd hy hb
                  go_simp
                  exact hK.out _ W (stp_of hmo d (Below.refl _ _)) (if_pos rfl)
                case o9 =>
                  intro At yy W hy hb d hd K hK
                  have e8 : yy 8 = .bool false := by obtain ⟨_, _, _, _, e⟩ := hd ⟨8, .data⟩ (by simp) rfl rfl; exact e
                  have e6 : yy 6 = .bool true := by obtain ⟨_, _, _, _, e⟩ := hd ⟨6, .guard⟩ (by simp) rfl rfl; exact e
                  have s131 := (hy 6 _ 131 rfl rfl).trans e6
                  have s131' := s131
                  rw [Array.getD_eq_getD_getElem?] at s131'
                  have s133 := (hy 8 _ 133 rfl rfl).trans e8
                  have s133' := s133
                  rw [Array.getD_eq_getD_getElem?] at s133'
                  have g131 := got_bool s131
                  clear hd hy hb
                  go_simp
                  exact hK.out _ W (stp_of hmo d (Below.refl _ _)) (if_pos rfl)
                case o10 =>
                  intro At yy W hy hb d hd K hK
                  have e9 : yy 9 = .bool false := by obtain ⟨_, _, _, _, e⟩ := hd ⟨9, .guard⟩ (by simp) rfl rfl; exact e
                  have s9 : At.tmps.getD 9 undef = .int .i64 (t : Int) := hb 9 rfl
                  have s9' := s9
                  rw [Array.getD_eq_getD_getElem?] at s9'
                  have s134 := (hy 9 _ 134 rfl rfl).trans e9
                  have s134' := s134
                  rw [Array.getD_eq_getD_getElem?] at s134'
                  have g134 := got_bool s134
                  clear hd hy hb
                  go_simp
                  exact hK.out _ W (stp_of hmo d (Below.refl _ _)) (if_pos rfl)
                case o11 =>
                  intro At yy W hy hb d hd K hK
                  have e10 : yy 10 = .int .i64 (t : Int) := by obtain ⟨_, _, _, _, e⟩ := hd ⟨10, .data⟩ (by simp) rfl rfl; exact e
                  have e9 : yy 9 = .bool false := by obtain ⟨_, _, _, _, e⟩ := hd ⟨9, .guard⟩ (by simp) rfl rfl; exact e
                  have s134 := (hy 9 _ 134 rfl rfl).trans e9
                  have s134' := s134
                  rw [Array.getD_eq_getD_getElem?] at s134'
                  have s135 := (hy 10 _ 135 rfl rfl).trans e10
                  have s135' := s135
                  rw [Array.getD_eq_getD_getElem?] at s135'
                  have g134 := got_bool s134
                  clear hd hy hb
                  go_simp
                  exact hK.out _ W (stp_of hmo d (Below.refl _ _)) (if_pos rfl)
                case o12 =>
                  intro At yy W hy hb d hd K hK
                  have e11 : yy 11 = .bool true := by obtain ⟨_, _, _, _, e⟩ := hd ⟨11, .data⟩ (by simp) rfl rfl; exact e
                  have e9 : yy 9 = .bool false := by obtain ⟨_, _, _, _, e⟩ := hd ⟨9, .guard⟩ (by simp) rfl rfl; exact e
                  have s134 := (hy 9 _ 134 rfl rfl).trans e9
                  have s134' := s134
                  rw [Array.getD_eq_getD_getElem?] at s134'
                  have s136 := (hy 11 _ 136 rfl rfl).trans e11
                  have s136' := s136
                  rw [Array.getD_eq_getD_getElem?] at s136'
                  have g134 := got_bool s134
                  clear hd hy hb
                  go_simp
                  exact hK.out _ W (stp_of hmo d (Below.refl _ _)) (if_pos rfl)
                case o13 =>
                  intro At yy W hy hb d hd K hK
                  have e12 : yy 12 = .bool true := by obtain ⟨_, _, _, _, e⟩ := hd ⟨12, .guard⟩ (by simp) rfl rfl; exact e
                  have s9 : At.tmps.getD 9 undef = .int .i64 (t : Int) := hb 9 rfl
                  have s9' := s9
                  rw [Array.getD_eq_getD_getElem?] at s9'
                  have s137 := (hy 12 _ 137 rfl rfl).trans e12
                  have s137' := s137
                  rw [Array.getD_eq_getD_getElem?] at s137'
                  have g137 := got_bool s137
                  clear hd hy hb
                  go_simp
                  exact hK.out _ W (stp_of hmo d (Below.refl _ _)) (if_pos rfl)
                case o14 =>
                  intro At yy W hy hb d hd K hK
                  have e12 : yy 12 = .bool true := by obtain ⟨_, _, _, _, e⟩ := hd ⟨12, .guard⟩ (by simp) rfl rfl; exact e
                  have s8 : At.tmps.getD 8 undef = .slice (some ⟨g, 0, none⟩) N cl := hb 8 rfl
                  have s8' := s8
                  rw [Array.getD_eq_getD_getElem?] at s8'
                  have s137 := (hy 12 _ 137 rfl rfl).trans e12
                  have s137' := s137
                  rw [Array.getD_eq_getD_getElem?] at s137'
                  have g137 := got_bool s137
                  clear hd hy hb
                  go_simp
                  exact hK.out _ W (stp_of hmo d (Below.refl _ _)) (if_pos rfl)
                case o15 =>
                  intro At yy W hy hb d hd K hK
                  have e14 : yy 14 = .slice (some ⟨g, 0, none⟩) N cl := by obtain ⟨_, _, _, _, e⟩ := hd ⟨14, .data⟩ (by simp) rfl rfl; exact e
                  have e12 : yy 12 = .bool true := by obtain ⟨_, _, _, _, e⟩ := hd ⟨12, .guard⟩ (by simp) rfl rfl; exact e
                  have s137 := (hy 12 _ 137 rfl rfl).trans e12
                  have s137' := s137
                  rw [Array.getD_eq_getD_getElem?] at s137'
                  have s139 := (hy 14 _ 139 rfl rfl).trans e14
                  have s139' := s139
                  rw [Array.getD_eq_getD_getElem?] at s139'
                  have g137 := got_bool s137
                  clear hd hy hb
                  go_simp
                  exact hK.out _ W (stp_of hmo d (Below.refl _ _)) (if_pos rfl)
                case o16 =>
                  intro At yy W hy hb d hd K hK
                  have e13 : yy 13 = .int .i64 (t : Int) := by obtain ⟨_, _, _, _, e⟩ := hd ⟨13, .data⟩ (by simp) rfl rfl; exact e
                  have e15 : yy 15 = .int .i64 (N : Int) := by obtain ⟨_, _, _, _, e⟩ := hd ⟨15, .data⟩ (by simp) rfl rfl; exact e
                  have e12 : yy 12 = .bool true := by obtain ⟨_, _, _, _, e⟩ := hd ⟨12, .guard⟩ (by simp) rfl rfl; exact e
                  have s137 := (hy 12 _ 137 rfl rfl).trans e12
                  have s137' := s137
                  rw [Array.getD_eq_getD_getElem?] at s137'
                  have s138 := (hy 13 _ 138 rfl rfl).trans e13
                  have s138' := s138
                  rw [Array.getD_eq_getD_getElem?] at s138'
                  have s140 := (hy 15 _ 140 rfl rfl).trans e15
                  have s140' := s140
                  rw [Array.getD_eq_getD_getElem?] at s140'
                  have g137 := got_bool s137
                  clear hd hy hb
                  go_simp
                  exact hK.out _ W (stp_of hmo d (Below.refl _ _)) (if_pos rfl)
                case o17 =>
                  intro At yy W hy hb d hd K hK
                  have e12 : yy 12 = .bool true := by obtain ⟨_, _, _, _, e⟩ := hd ⟨12, .data⟩ (by simp) rfl rfl; exact e
                  have e16 : yy 16 = .bool true := by obtain ⟨_, _, _, _, e⟩ := hd ⟨16, .data⟩ (by simp) rfl rfl; exact e
                  have e9 : yy 9 = .bool false := by obtain ⟨_, _, _, _, e⟩ := hd ⟨9, .guard⟩ (by simp) rfl rfl; exact e
                  have s134 := (hy 9 _ 134 rfl rfl).trans e9
                  have s134' := s134
                  rw [Array.getD_eq_getD_getElem?] at s134'
                  have s137 := (hy 12 _ 137 rfl rfl).trans e12
                  have s137' := s137
                  rw [Array.getD_eq_getD_getElem?] at s137'
                  have s141 := (hy 16 _ 141 rfl rfl).trans e16
                  have s141' := s141
                  rw [Array.getD_eq_getD_getElem?] at s141'
                  have g134 := got_bool s134
                  clear hd hy hb
                  go_simp
                  exact hK.out _ W (stp_of hmo d (Below.refl _ _)) (if_pos rfl)
                case o18 =>
                  intro At yy W hy hb d hd K hK
                  have e17 : yy 17 = .bool true := by obtain ⟨_, _, _, _, e⟩ := hd ⟨17, .data⟩ (by simp) rfl rfl; exact e
                  have e9 : yy 9 = .bool false := by obtain ⟨_, _, _, _, e⟩ := hd ⟨9, .guard⟩ (by simp) rfl rfl; exact e
                  have s134 := (hy 9 _ 134 rfl rfl).trans e9
                  have s134' := s134
                  rw [Array.getD_eq_getD_getElem?] at s134'
                  have s142 := (hy 17 _ 142 rfl rfl).trans e17
                  have s142' := s142
                  rw [Array.getD_eq_getD_getElem?] at s142'
                  have g134 := got_bool s134
                  clear hd hy hb
                  go_simp
                  exact hK.out _ W (stp_of hmo d (Below.refl _ _)) (if_pos rfl)
                case o19 =>
                  intro At yy W hy hb d hd K hK
                  have e18 : yy 18 = .bool true := by obtain ⟨_, _, _, _, e⟩ := hd ⟨18, .guard⟩ (by simp) rfl rfl; exact e
                  have s8 : At.tmps.getD 8 undef = .slice (some ⟨g, 0, none⟩) N cl := hb 8 rfl
                  have s8' := s8
                  rw [Array.getD_eq_getD_getElem?] at s8'
                  have s143 := (hy 18 _ 143 rfl rfl).trans e18
                  have s143' := s143
                  rw [Array.getD_eq_getD_getElem?] at s143'
                  have g143 := got_bool s143
                  clear hd hy hb
                  go_simp
                  exact hK.out _ W (stp_of hmo d (Below.refl _ _)) (if_pos rfl)
                case o20 =>
                  intro At yy W hy hb d hd K hK
                  have e18 : yy 18 = .bool true := by obtain ⟨_, _, _, _, e⟩ := hd ⟨18, .guard⟩ (by simp) rfl rfl; exact e
                  have s9 : At.tmps.getD 9 undef = .int .i64 (t : Int) := hb 9 rfl
                  have s9' := s9
                  rw [Array.getD_eq_getD_getElem?] at s9'
                  have s143 := (hy 18 _ 143 rfl rfl).trans e18
                  have s143' := s143
                  rw [Array.getD_eq_getD_getElem?] at s143'
                  have g143 := got_bool s143
                  clear hd hy hb
                  go_simp
                  exact hK.out _ W (stp_of hmo d (Below.refl _ _)) (if_pos rfl)
                case o21 =>
                  intro At yy W hy hb d hd K hK
                  have e19 : yy 19 = .slice (some ⟨g, 0, none⟩) N cl := by obtain ⟨_, _, _, _, e⟩ := hd ⟨19, .data⟩ (by simp) rfl rfl; exact e
                  have e20 : yy 20 = .int .i64 (t : Int) := by obtain ⟨_, _, _, _, e⟩ := hd ⟨20, .data⟩ (by simp) rfl rfl; exact e
                  have e18 : yy 18 = .bool true := by obtain ⟨_, _, _, _, e⟩ := hd ⟨18, .guard⟩ (by simp) rfl rfl; exact e
                  have s143 := (hy 18 _ 143 rfl rfl).trans e18
                  have s143' := s143
                  rw [Array.getD_eq_getD_getElem?] at s143'
                  have s144 := (hy 19 _ 144 rfl rfl).trans e19
                  have s144' := s144
                  rw [Array.getD_eq_getD_getElem?] at s144'
                  have s145 := (hy 20 _ 145 rfl rfl).trans e20
                  have s145' := s145
                  rw [Array.getD_eq_getD_getElem?] at s145'
                  have g143 := got_bool s143
                  clear hd hy hb
                  go_simp
                  exact hK.out _ W (stp_of hmo d (Below.refl _ _)) (if_pos rfl)
                case o22 =>
                  intro At yy W hy hb d hd K hK
                  have e21 : yy 21 = .pointer (some ⟨g, t, none⟩) := by obtain ⟨_, _, _, _, e⟩ := hd ⟨21, .data⟩ (by simp) rfl rfl; exact e
                  have e18 : yy 18 = .bool true := by obtain ⟨_, _, _, _, e⟩ := hd ⟨18, .guard⟩ (by simp) rfl rfl; exact e
                  have s143 := (hy 18 _ 143 rfl rfl).trans e18
                  have s143' := s143
                  rw [Array.getD_eq_getD_getElem?] at s143'
                  have s146 := (hy 21 _ 146 rfl rfl).trans e21
                  have s146' := s146
                  rw [Array.getD_eq_getD_getElem?] at s146'
                  have g143 := got_bool s143
                  clear hd hy hb
                  have y2 : W.cell? ⟨g, t, none⟩ = some (.slice b2 j2 ca2) := (d.cell (World.block_lt_of_cell? wr _ HY2.out)).trans HY2.out
                  go_simp
                  exact hK.out _ W (stp_of hmo d (Below.refl _ _)) (if_pos rfl)
                case o23 =>
                  intro At yy W hy hb d hd K hK
                  have e18 : yy 18 = .bool true := by obtain ⟨_, _, _, _, e⟩ := hd ⟨18, .guard⟩ (by simp) rfl rfl; exact e
                  have s1 : At.tmps.getD 1 undef = .pointer (some ⟨w.heap.size, 0, none⟩) := hb 1 rfl
                  have s1' := s1
                  rw [Array.getD_eq_getD_getElem?] at s1'
                  have s143 := (hy 18 _ 143 rfl rfl).trans e18
                  have s143' := s143
                  rw [Array.getD_eq_getD_getElem?] at s143'
                  have g143 := got_bool s143
                  clear hd hy hb
                  go_simp
                  exact hK.out _ W (stp_of hmo d (Below.refl _ _)) (if_pos rfl)
                case o24 =>
                  intro At yy W hy hb d hd K hK
                  have e23 : yy 23 = .pointer (some ⟨w.heap.size, 12, none⟩) := by obtain ⟨_, _, _, _, e⟩ := hd ⟨23, .data⟩ (by simp) rfl rfl; exact e
                  have e18 : yy 18 = .bool true := by obtain ⟨_, _, _, _, e⟩ := hd ⟨18, .guard⟩ (by simp) rfl rfl; exact e
                  have s143 := (hy 18 _ 143 rfl rfl).trans e18
                  have s143' := s143
                  rw [Array.getD_eq_getD_getElem?] at s143'
                  have s148 := (hy 23 _ 148 rfl rfl).trans e23
                  have s148' := s148
                  rw [Array.getD_eq_getD_getElem?] at s148'
                  have g143 := got_bool s143
                  clear hd hy hb
                  have yb12 : W.cell? ⟨w.heap.size, 12, none⟩ = some (.slice aW Wd.length cW) := cell_of (blk_on HE.out.1 d) rfl
                  go_simp
                  exact hK.out _ W (stp_of hmo d (Below.refl _ _)) (if_pos rfl)
                case o25 =>
                  intro At yy W hy hb d hd K hK
                  have e22 : yy 22 = .slice b2 j2 ca2 := by obtain ⟨_, _, _, _, e⟩ := hd ⟨22, .data⟩ (by simp) rfl rfl; exact e
                  have e24 : yy 24 = .slice aW Wd.length cW := by obtain ⟨_, _, _, _, e⟩ := hd ⟨24, .data⟩ (by simp) rfl rfl; exact e
                  have e18 : yy 18 = .bool true := by obtain ⟨_, _, _, _, e⟩ := hd ⟨18, .guard⟩ (by simp) rfl rfl; exact e
                  have s143 := (hy 18 _ 143 rfl rfl).trans e18
                  have s143' := s143
                  rw [Array.getD_eq_getD_getElem?] at s143'
                  have s147 := (hy 22 _ 147 rfl rfl).trans e22
                  have s147' := s147
                  rw [Array.getD_eq_getD_getElem?] at s147'
                  have s149 := (hy 24 _ 149 rfl rfl).trans e24
                  have s149' := s149
                  rw [Array.getD_eq_getD_getElem?] at s149'
                  have g143 := got_bool s143
                  clear hd hy hb
                  go_simp
                  go_wp2_with (go_at_call 11; refine (TA.out _ d).mono ?_; rintro e wa ⟨rfl, da⟩)
                  exact hK.out _ wa (stp_of hmo d da) (if_pos rfl)
                case o26 =>
                  intro At yy W hy hb d hd K hK
                  have e18 : yy 18 = .bool true := by obtain ⟨_, _, _, _, e⟩ := hd ⟨18, .data⟩ (by simp) rfl rfl; exact e
                  have e25 : yy 25 = .bool true := by obtain ⟨_, _, _, _, e⟩ := hd ⟨25, .data⟩ (by simp) rfl rfl; exact e
                  have e9 : yy 9 = .bool false := by obtain ⟨_, _, _, _, e⟩ := hd ⟨9, .guard⟩ (by simp) rfl rfl; exact e
                  have s134 := (hy 9 _ 134 rfl rfl).trans e9
                  have s134' := s134
                  rw [Array.getD_eq_getD_getElem?] at s134'
                  have s143 := (hy 18 _ 143 rfl rfl).trans e18
                  have s143' := s143
                  rw [Array.getD_eq_getD_getElem?] at s143'
                  have s150 := (hy 25 _ 150 rfl rfl).trans e25
                  have s150' := s150
                  rw [Array.getD_eq_getD_getElem?] at s150'
                  have g134 := got_bool s134
                  clear hd hy hb
                  go_simp
                  exact hK.out _ W (stp_of hmo d (Below.refl _ _)) (if_pos rfl)
                case o27 =>
                  intro At yy W hy hb d hd K hK
                  have e9 : yy 9 = .bool false := by obtain ⟨_, _, _, _, e⟩ := hd ⟨9, .data⟩ (by simp) rfl rfl; exact e
                  have e26 : yy 26 = .bool true := by obtain ⟨_, _, _, _, e⟩ := hd ⟨26, .data⟩ (by simp) rfl rfl; exact e
                  have e6 : yy 6 = .bool true := by obtain ⟨_, _, _, _, e⟩ := hd ⟨6, .guard⟩ (by simp) rfl rfl; exact e
                  have s131 := (hy 6 _ 131 rfl rfl).trans e6
                  have s131' := s131
                  rw [Array.getD_eq_getD_getElem?] at s131'
                  have s134 := (hy 9 _ 134 rfl rfl).trans e9
                  have s134' := s134
                  rw [Array.getD_eq_getD_getElem?] at s134'
                  have s151 := (hy 26 _ 151 rfl rfl).trans e26
                  have s151' := s151
                  rw [Array.getD_eq_getD_getElem?] at s151'
                  have g131 := got_bool s131
                  clear hd hy hb
                  go_simp
                  exact hK.out _ W (stp_of hmo d (Below.refl _ _)) (if_pos rfl)
                case o28 =>
                  intro At yy W hy hb d hd K hK
                  have e6 : yy 6 = .bool true := by obtain ⟨_, _, _, _, e⟩ := hd ⟨6, .data⟩ (by simp) rfl rfl; exact e
                  have e27 : yy 27 = .bool true := by obtain ⟨_, _, _, _, e⟩ := hd ⟨27, .data⟩ (by simp) rfl rfl; exact e
                  have s131 := (hy 6 _ 131 rfl rfl).trans e6
                  have s131' := s131
                  rw [Array.getD_eq_getD_getElem?] at s131'
                  have s152 := (hy 27 _ 152 rfl rfl).trans e27
                  have s152' := s152
                  rw [Array.getD_eq_getD_getElem?] at s152'
                  clear hd hy hb
                  go_simp
                  exact hK.out _ W (stp_of hmo d (Below.refl _ _)) (if_pos rfl)
                case o29 =>
                  intro At yy W hy hb d hd K hK
                  have e28 : yy 28 = .bool true := by obtain ⟨_, _, _, _, e⟩ := hd ⟨28, .data⟩ (by simp) rfl rfl; exact e
                  have s153 := (hy 28 _ 153 rfl rfl).trans e28
                  have s153' := s153
                  rw [Array.getD_eq_getD_getElem?] at s153'
                  clear hd hy hb
                  go_simp
                  exact hK.out _ W (stp_of hmo d (Below.refl _ _)) (if_pos rfl)
                case fin =>
                  intro yy lo hi W hM
                  show wpList _ _ _ [] _ _
                  have e0 : yy 0 = .slice (some ⟨g, 0, none⟩) N cl := hM.fact 0 (by simp) rfl (notR_all 0 rfl)
                  have e1 : yy 1 = .int .i64 (N : Int) := hM.fact 1 (by simp) rfl (notR_all 1 rfl)
                  have e2 : yy 2 = .pointer (some ⟨w.heap.size, 0, none⟩) := hM.fact 2 (by simp) rfl (notR_all 2 rfl)
                  have e3 : yy 3 = .pointer (some ⟨w.heap.size, 0, none⟩) := hM.fact 3 (by simp) rfl (notR_all 3 rfl)
                  have e4 : yy 4 = .int .i64 (N : Int) := hM.fact 4 (by simp) rfl (notR_all 4 rfl)
                  have e5 : yy 5 = .bool true := hM.fact 5 (by simp) rfl (notR_all 5 rfl)
                  have e6 : yy 6 = .bool true := hM.fact 6 (by simp) rfl (notR_all 6 rfl)
                  have e7 : yy 7 = .int .i64 0 := hM.fact 7 (by simp) rfl (notR_all 7 rfl)
                  have e8 : yy 8 = .bool false := hM.fact 8 (by simp) rfl (notR_all 8 rfl)
                  have e9 : yy 9 = .bool false := hM.fact 9 (by simp) rfl (notR_all 9 rfl)
                  have e10 : yy 10 = .int .i64 (t : Int) := hM.fact 10 (by simp) rfl (notR_all 10 rfl)
                  have e11 : yy 11 = .bool true := hM.fact 11 (by simp) rfl (notR_all 11 rfl)
                  have e12 : yy 12 = .bool true := hM.fact 12 (by simp) rfl (notR_all 12 rfl)
                  have e13 : yy 13 = .int .i64 (t : Int) := hM.fact 13 (by simp) rfl (notR_all 13 rfl)
                  have e14 : yy 14 = .slice (some ⟨g, 0, none⟩) N cl := hM.fact 14 (by simp) rfl (notR_all 14 rfl)
                  have e15 : yy 15 = .int .i64 (N : Int) := hM.fact 15 (by simp) rfl (notR_all 15 rfl)
                  have e16 : yy 16 = .bool true := hM.fact 16 (by simp) rfl (notR_all 16 rfl)
                  have e17 : yy 17 = .bool true := hM.fact 17 (by simp) rfl (notR_all 17 rfl)
                  have e18 : yy 18 = .bool true := hM.fact 18 (by simp) rfl (notR_all 18 rfl)
                  have e19 : yy 19 = .slice (some ⟨g, 0, none⟩) N cl := hM.fact 19 (by simp) rfl (notR_all 19 rfl)
                  have e20 : yy 20 = .int .i64 (t : Int) := hM.fact 20 (by simp) rfl (notR_all 20 rfl)
                  have e21 : yy 21 = .pointer (some ⟨g, t, none⟩) := hM.fact 21 (by simp) rfl (notR_all 21 rfl)
                  have e22 : yy 22 = .slice b2 j2 ca2 := hM.fact 22 (by simp) rfl (notR_all 22 rfl)
                  have e23 : yy 23 = .pointer (some ⟨w.heap.size, 12, none⟩) := hM.fact 23 (by simp) rfl (notR_all 23 rfl)
                  have e24 : yy 24 = .slice aW Wd.length cW := hM.fact 24 (by simp) rfl (notR_all 24 rfl)
                  have e25 : yy 25 = .bool true := hM.fact 25 (by simp) rfl (notR_all 25 rfl)
                  have e26 : yy 26 = .bool true := hM.fact 26 (by simp) rfl (notR_all 26 rfl)
                  have e27 : yy 27 = .bool true := hM.fact 27 (by simp) rfl (notR_all 27 rfl)
                  have e28 : yy 28 = .bool true := hM.fact 28 (by simp) rfl (notR_all 28 rfl)
                  have e29 : yy 29 = .bool true := hM.fact 29 (by simp) rfl (notR_all 29 rfl)
                  have dd := hM.d
                  simp only [fills, Act.put, List.take, List.length, List.setIfInBounds_toArray, List.set_cons_zero, List.set_cons_succ, e0, e1, e2, e3, e4, e5, e6, e7, e8, e9, e10, e11, e12, e13, e14, e15, e16, e17, e18, e19, e20, e21, e22, e23, e24, e25, e26, e27, e28, e29]
                  clear hM hmo e0 e1 e2 e3 e4 e5 e6 e7 e8 e9 e10 e11 e12 e13 e14 e15 e16 e17 e18 e19 e20 e21 e22 e23 e24 e25 e26 e27 e28 e29
                  have HDD := hide dd
                  clear dd
                  go_wp2_with fail
                  go_ret
                  exact ⟨rfl, HE.out.2.2.2.2.trans (HDD.out.mono HE.out.2.2.2.2.size)⟩
end Go.Proofs.Ytocoghljmlpdeaa
