import Derived.Test.YtocoghljmlpdeaaEe
namespace Go.Proofs.Ytocoghljmlpdeaa
open Go.RowKit Go.Maps
attribute [local go_sem] Oper.semAt_some
/-! ### Words: two automata of one alphabet -/
def MnS (N M st : Nat) (Fi Nx : List Int) (T K : List Nat) (al : Nat → Nat) : Prop := ∃ B W vF vN, MnA N M st Fi Nx B W vF vN T K al
theorem minimal_form (w : World) (N M st : Nat) (aF aN : Option Addr) (lF cF lN cN : Nat) (Fi Nx : List Int) (hF : RdN w aF Fi) (hN : RdN w aN Nx) (hlF : Fi.length = lF) (hlN : Nx.length = lN) (bF : lF ≤ 4194304) (bN : lN ≤ 4194304) (hv : vd N M st Fi Nx = true) :
    Calls Try.prog 8 #[.agg #[.int .i64 (N : Int), .int .i64 (M : Int), .int .i64 (st : Int), .slice aF lF cF, .slice aN lN cN]] w fun e w' => ∃ n uF mF c5 uN mN c6 T K al, e = .returned (.tuple #[.agg #[.int .i64 ((n : Nat) : Int), .int .i64 (M : Int), .int .i64 0, .slice uF mF c5, .slice uN mN c6], .int .i64 0]) ∧ Hid (MnS N M st Fi Nx T K al ∧ T.length = n ∧ RdN w' uF (mnF Fi T) ∧ RdN w' uN (mnX Nx M T al) ∧ (mnF Fi T).length = mF ∧ (mnX Nx M T al).length = mN ∧ Below w.heap.size w w') := by
  refine (minimal_ok w N M st aF aN lF cF lN cN Fi Nx hF hN hlF hlN bF bN hv).mono ?_
  rintro e w' ⟨vF, vN, T, K, al, rfl, HA⟩
  have hs : MnS N M st Fi Nx T K al := ⟨_, _, _, _, HA.out.1⟩
  have oF := HA.out.1.f
  have oN := HA.out.1.n
  obtain ⟨uF, c5, rfl⟩ := own_slice oF
  obtain ⟨uN, c6, rfl⟩ := own_slice oN
  exact ⟨_, _, _, _, _, _, _, T, K, al, rfl, hide ⟨hs, rfl, (owI_rd oF).2, (owI_rd oN).2, (owI_rd oF).1.symm, (owI_rd oN).1.symm, HA.out.2⟩⟩
theorem mnS_facts {N M st : Nat} {Fi Nx : List Int} {T K : List Nat} {al : Nat → Nat} (h : MnS N M st Fi Nx T K al) (hv : vd N M st Fi Nx = true) : vd (T.length : Nat) M 0 (mnF Fi T) (mnX Nx M T al) = true ∧ Eqv Fi Nx (mnF Fi T) (mnX Nx M T al) M st 0 ∧ T.length ≤ N ∧ 0 < T.length ∧ (mnF Fi T).length ≤ 4194304 ∧ (mnX Nx M T al).length ≤ 2097152 := by
  obtain ⟨B, W, vF, vN, h⟩ := h
  have hl : T.length ≤ N := nodup_le h.nd h.lt
  obtain ⟨n0, m0, s0, en, em, es, n1, n2, m1, s1, e1, i1, i2⟩ := vd_nat hv
  refine ⟨h.valid hv, h.eqv hv, hl, h.pos hv, ?_, ?_⟩
  · unfold mnF
    rw [natI_len]
    have z1 := lsF_le (inF Fi) T T.length
    omega
  · rw [mnX_len]
    have z4 := Nat.mul_le_mul hl (show M ≤ 128 by omega)
    omega
theorem mnS_same {N1 N2 M s1 s2 : Nat} {F1 X1 F2 X2 : List Int} {T1 K1 T2 K2 : List Nat} {al1 al2 : Nat → Nat} (h1 : MnS N1 M s1 F1 X1 T1 K1 al1) (v1 : vd N1 M s1 F1 X1 = true) (h2 : MnS N2 M s2 F2 X2 T2 K2 al2) (v2 : vd N2 M s2 F2 X2 = true) (he : Eqv F1 X1 F2 X2 M s1 s2) : T1.length = T2.length ∧ mnF F1 T1 = mnF F2 T2 ∧ mnX X1 M T1 al1 = mnX X2 M T2 al2 := by
  obtain ⟨B, W, vF, vN, h1⟩ := h1
  obtain ⟨B2, W2, vF2, vN2, h2⟩ := h2
  exact mn_same h1 v1 h2 v2 he
theorem eqv_of_same {N1 N2 M s1 s2 : Nat} {F1 X1 F2 X2 : List Int} {T1 K1 T2 K2 : List Nat} {al1 al2 : Nat → Nat} (h1 : MnS N1 M s1 F1 X1 T1 K1 al1) (v1 : vd N1 M s1 F1 X1 = true) (h2 : MnS N2 M s2 F2 X2 T2 K2 al2) (v2 : vd N2 M s2 F2 X2 = true) (hf : mnF F1 T1 = mnF F2 T2) (hx : mnX X1 M T1 al1 = mnX X2 M T2 al2) : Eqv F1 X1 F2 X2 M s1 s2 := by
  have a := (mnS_facts h1 v1).2.1
  have b := (mnS_facts h2 v2).2.1
  intro u hu
  rw [a u hu, b u hu, hf, hx]
theorem mnS_least {N M st N2 s2 : Nat} {Fi Nx F2 X2 : List Int} {T K : List Nat} {al : Nat → Nat} (h : MnS N M st Fi Nx T K al) (hv : vd N M st Fi Nx = true) (v2 : vd N2 M s2 F2 X2 = true) (he : Eqv Fi Nx F2 X2 M st s2) : T.length ≤ N2 := by
  obtain ⟨B, W, vF, vN, h⟩ := h
  exact mn_least h hv v2 he
theorem tk_eqv {N M st N2 s2 : Nat} {Fi Nx Gi Ex : List Int} (h : vd N M st Fi Nx = true) (h2 : vd N2 M s2 Gi Ex = true) (he : Eqv Fi Nx Gi Ex M st s2) (L : List Int) : tkB N M st Fi Nx L = tkB N2 M s2 Gi Ex L := by
  unfold tkB
  rw [h, h2, Bool.true_and]
  by_cases c : L.all (inB M) = true
  · have z := he _ (all_nat c).2
    show (_ && inF Fi (dls Nx M st _)) = (_ && inF Gi (dls Ex M s2 _))
    rw [z]
  · rw [Bool.eq_false_iff.2 c, Bool.false_and, Bool.false_and]
theorem tk_told2 {N M st N2 s2 K : Nat} {Fi Nx Gi Ex : List Int} {u : List Nat} (h : vd N M st Fi Nx = true) (h2 : vd N2 M s2 Gi Ex = true) (hT : TlE Fi Nx Gi Ex K M st s2 u) : ¬ tkB N M st Fi Nx (natI u) = tkB N2 M s2 Gi Ex (natI u) := by
  unfold tkB
  rw [h, h2, (nat_all hT.1).1, (nat_all hT.1).2, Bool.true_and, Bool.true_and]
  exact hT.2.1
theorem tk_ahead2 {N M st N2 s2 K : Nat} {Fi Nx Gi Ex : List Int} {u : List Nat} (h : vd N M st Fi Nx = true) (h2 : vd N2 M s2 Gi Ex = true) (hT : TlE Fi Nx Gi Ex K M st s2 u) (L : List Int) (hne : ¬ tkB N M st Fi Nx L = tkB N2 M s2 Gi Ex L) : ahB (natI u) L = true := by
  unfold tkB at hne
  rw [h, h2, Bool.true_and] at hne
  by_cases c : L.all (inB M) = true
  · rw [c, Bool.true_and, Bool.true_and] at hne
    have e := all_nat c
    have z : ahB (natI u) (natI (L.map Int.toNat)) = decide (rk M u ≤ rk M (L.map Int.toNat)) := ahB_rk hT.1 e.2
    rw [e.1] at z
    rw [z]
    exact decide_eq_true (hT.2.2.2 _ e.2 hne)
  · rw [Bool.eq_false_iff.2 c, Bool.false_and, Bool.false_and] at hne
    exact absurd rfl hne
def eqP (F1 X1 F2 X2 : List Int) (N M s1 s2 : Nat) : MkP := fun x _ _ W => ∃ b c u, x = .tuple #[.bool false, .slice b (natI u).length c, .int .i64 0] ∧ TlE F1 X1 F2 X2 N M s1 s2 u ∧ RdN W b (natI u)
theorem eqP_mono {F1 X1 F2 X2 : List Int} {N M s1 s2 : Nat} : MonoP (eqP F1 X1 F2 X2 N M s1 s2) := fun _ _ _ _ _ _ d ⟨b, c, u, e, t, r⟩ => ⟨b, c, u, e, t, r.on d⟩
def eqS (F1 X1 F2 X2 : List Int) (N M s1 s2 : Nat) : MkP := fun x _ _ W => ∃ b c u, x = .slice b (natI u).length c ∧ TlE F1 X1 F2 X2 N M s1 s2 u ∧ RdN W b (natI u)
theorem eqS_mono {F1 X1 F2 X2 : List Int} {N M s1 s2 : Nat} : MonoP (eqS F1 X1 F2 X2 N M s1 s2) := fun _ _ _ _ _ _ d ⟨b, c, u, e, t, r⟩ => ⟨b, c, u, e, t, r.on d⟩
theorem equal_same (w : World) (N1 M1 st1 N2 st2 : Nat) (aF1 aN1 aF2 aN2 : Option Addr) (lF1 cF1 lN1 cN1 lF2 cF2 lN2 cN2 : Nat) (F1 X1 F2 X2 : List Int) (hF1 : RdN w aF1 F1) (hX1 : RdN w aN1 X1) (hF2 : RdN w aF2 F2) (hX2 : RdN w aN2 X2) (e1 : F1.length = lF1) (e2 : X1.length = lN1) (e3 : F2.length = lF2) (e4 : X2.length = lN2) (b1 : lF1 ≤ 4194304) (b2 : lN1 ≤ 2097152) (b3 : lF2 ≤ 4194304) (b4 : lN2 ≤ 2097152) (hv1 : vd N1 M1 st1 F1 X1 = true) (hv2 : vd N2 M1 st2 F2 X2 = true) (he : Eqv F1 X1 F2 X2 M1 st1 st2) :
    Calls Try.prog 18 #[.agg #[.int .i64 (N1 : Int), .int .i64 (M1 : Int), .int .i64 (st1 : Int), .slice aF1 lF1 cF1, .slice aN1 lN1 cN1], .agg #[.int .i64 (N2 : Int), .int .i64 (M1 : Int), .int .i64 (st2 : Int), .slice aF2 lF2 cF2, .slice aN2 lN2 cN2]] w fun e w' => e = .returned (.tuple #[.bool true, .slice none 0 0, .int .i64 0]) ∧ Below w.heap.size w w' := by
  refine (equal_ok w N1 M1 st1 N2 st2 aF1 aN1 aF2 aN2 lF1 cF1 lN1 cN1 lF2 cF2 lN2 cN2 F1 X1 F2 X2 hF1 hX1 hF2 hX2 e1 e2 e3 e4 b1 b2 b3 b4 hv1 hv2).mono ?_
  rintro e w' ⟨b, n, c, same, rfl, H⟩
  obtain ⟨d, h1, h2⟩ := H.out
  cases same with
  | true =>
    obtain ⟨rfl, rfl, rfl, _⟩ := h1 rfl
    exact ⟨rfl, d⟩
  | false =>
    obtain ⟨u, _, t⟩ := h2 rfl
    exact absurd (he u t.1) t.2.1
theorem equal_told (w : World) (N1 M1 st1 N2 st2 : Nat) (aF1 aN1 aF2 aN2 : Option Addr) (lF1 cF1 lN1 cN1 lF2 cF2 lN2 cN2 : Nat) (F1 X1 F2 X2 : List Int) (hF1 : RdN w aF1 F1) (hX1 : RdN w aN1 X1) (hF2 : RdN w aF2 F2) (hX2 : RdN w aN2 X2) (e1 : F1.length = lF1) (e2 : X1.length = lN1) (e3 : F2.length = lF2) (e4 : X2.length = lN2) (b1 : lF1 ≤ 4194304) (b2 : lN1 ≤ 2097152) (b3 : lF2 ≤ 4194304) (b4 : lN2 ≤ 2097152) (hv1 : vd N1 M1 st1 F1 X1 = true) (hv2 : vd N2 M1 st2 F2 X2 = true) (he : ¬ Eqv F1 X1 F2 X2 M1 st1 st2) :
    Calls Try.prog 18 #[.agg #[.int .i64 (N1 : Int), .int .i64 (M1 : Int), .int .i64 (st1 : Int), .slice aF1 lF1 cF1, .slice aN1 lN1 cN1], .agg #[.int .i64 (N2 : Int), .int .i64 (M1 : Int), .int .i64 (st2 : Int), .slice aF2 lF2 cF2, .slice aN2 lN2 cN2]] w fun e w' => ∃ b c u, e = .returned (.tuple #[.bool false, .slice b (natI u).length c, .int .i64 0]) ∧ TlE F1 X1 F2 X2 (N1 + N2) M1 st1 st2 u ∧ RdN w' b (natI u) ∧ Below w.heap.size w w' := by
  refine (equal_ok w N1 M1 st1 N2 st2 aF1 aN1 aF2 aN2 lF1 cF1 lN1 cN1 lF2 cF2 lN2 cN2 F1 X1 F2 X2 hF1 hX1 hF2 hX2 e1 e2 e3 e4 b1 b2 b3 b4 hv1 hv2).mono ?_
  rintro e w' ⟨b, n, c, same, rfl, H⟩
  obtain ⟨d, h1, h2⟩ := H.out
  cases same with
  | true => exact absurd (h1 rfl).2.2.2 he
  | false =>
    obtain ⟨u, o, t⟩ := h2 rfl
    obtain ⟨rfl, r⟩ := owI_rd o
    exact ⟨b, c, u, rfl, t, r, d⟩
set_option maxRecDepth 100000 in
set_option maxHeartbeats 4000000 in
theorem words_same (w : World) (N M st N2 s2 : Nat) (aF aN aG aX aW : Option Addr) (cF cN cG cX cW : Nat) (Fi Nx Gi Ex Wd : List Int) (x10 x11 : Value) (hF : RdN w aF Fi) (hN : RdN w aN Nx) (hG : RdN w aG Gi) (hX : RdN w aX Ex) (hW : RdN w aW Wd) (bF : Fi.length ≤ 4194304) (bN : Nx.length ≤ 2097152) (bG : Gi.length ≤ 4194304) (bX : Ex.length ≤ 2097152) (bW : Wd.length ≤ 4194304) (hv : vd N M st Fi Nx = true) (hv2 : vd N2 M s2 Gi Ex = true) (he : Eqv Fi Nx Gi Ex M st s2) :
    Calls Try.prog 5 #[.agg #[.int .i64 (N : Int), .int .i64 (M : Int), .int .i64 (st : Int), .slice aF Fi.length cF, .slice aN Nx.length cN, .int .i64 (N2 : Int), .int .i64 (M : Int), .int .i64 (s2 : Int), .slice aG Gi.length cG, .slice aX Ex.length cX, x10, x11, .slice aW Wd.length cW]] w fun e w' => e = .returned (.bool true) ∧ Below w.heap.size w w' := by
  obtain ⟨W0, hW0⟩ : ∃ W, w.alloc (.cells #[.int .i64 (N : Int), .int .i64 (M : Int), .int .i64 (st : Int), .slice aF Fi.length cF, .slice aN Nx.length cN, .int .i64 (N2 : Int), .int .i64 (M : Int), .int .i64 (s2 : Int), .slice aG Gi.length cG, .slice aX Ex.length cX, x10, x11, .slice aW Wd.length cW] 26) = W := ⟨_, rfl⟩
  have d0 : Below w.heap.size w W0 := by rw [← hW0]; exact (Below.refl _ _).alloc (Nat.le_refl _) _
  have B0 : W0.heap[w.heap.size]? = some (.cells #[.int .i64 (N : Int), .int .i64 (M : Int), .int .i64 (st : Int), .slice aF Fi.length cF, .slice aN Nx.length cN, .int .i64 (N2 : Int), .int .i64 (M : Int), .int .i64 (s2 : Int), .slice aG Gi.length cG, .slice aX Ex.length cX, x10, x11, .slice aW Wd.length cW] 26 (0, 0)) := by rw [← hW0]; exact World.alloc_heap_new _ _
  have HW := hide (And.intro d0 (And.intro B0 (And.intro (hF.on d0) (And.intro (hN.on d0) (And.intro (hG.on d0) (And.intro (hX.on d0) (hW.on d0)))))))
  clear d0 B0 hF hN hG hX hW
  have HN9 := hide (show N ≤ 4096 ∧ N2 ≤ 4096 by obtain ⟨n0, m0, s0, en, em, es, n1, n2, _⟩ := vd_nat hv; obtain ⟨n0', m0', s0', en', em', es', n1', n2', _⟩ := vd_nat hv2; omega)
  have HV := hide (And.intro hv (And.intro hv2 he))
  clear hv hv2 he
  go_enter Try.func5, Try.ntmps5
  go_upto_region 3 with (go_at_call 7; refine (works_any _).mono ?_; rintro e w1 ⟨rfl, D1⟩)
  have H1 := hide (And.intro (blk_on HW.out.2.1 D1) (And.intro (HW.out.2.2.1.on D1) (And.intro (HW.out.2.2.2.1.on D1) (And.intro (HW.out.2.2.2.2.1.on D1) (And.intro (HW.out.2.2.2.2.2.1.on D1) (And.intro (HW.out.2.2.2.2.2.2.on D1) (HW.out.1.trans (D1.mono HW.out.1.size))))))))
  clear D1 HW
  have k0 : w1.cell? ⟨w.heap.size, 0, none⟩ = some (.int .i64 (N : Int)) := cell_of H1.out.1 rfl
  have k1 : w1.cell? ⟨w.heap.size, 1, none⟩ = some (.int .i64 (M : Int)) := cell_of H1.out.1 rfl
  have k2 : w1.cell? ⟨w.heap.size, 2, none⟩ = some (.int .i64 (st : Int)) := cell_of H1.out.1 rfl
  have k3 : w1.cell? ⟨w.heap.size, 3, none⟩ = some (.slice aF Fi.length cF) := cell_of H1.out.1 rfl
  have k4 : w1.cell? ⟨w.heap.size, 4, none⟩ = some (.slice aN Nx.length cN) := cell_of H1.out.1 rfl
  have T9 := twin_any w1 N M st aF aN cF cN Fi Nx H1.out.2.1 H1.out.2.2.1 bF (by omega)
  go_upto_region 4 with (first | (go_at_call 9; refine T9.mono ?_; rintro e w2 ⟨gF, kF, gN, kN, rfl, HT, D2⟩; have T8 := minimal_form w2 N M st (some ⟨gF, 0, none⟩) (some ⟨gN, 0, none⟩) Fi.length kF Nx.length kN Fi Nx HT.out.f.rd HT.out.n.rd rfl rfl bF (by omega) HV.out.1; have HD2 := hide D2; clear D2 k0 k1 k2 k3 k4) | (go_at_call 8; refine T8.mono ?_; rintro e w3 ⟨n, uF, mF, c5, uN, mN, c6, T, K, al, rfl, HA⟩; have HD3 := hide (HD2.out.trans (HA.out.2.2.2.2.2.2.mono HD2.out.size)); obtain ⟨bm, hbm⟩ : ∃ x, w3.heap.size = x := ⟨_, rfl⟩))
  obtain ⟨w4, hw4⟩ : ∃ W, w3.alloc (.cells #[.int .i64 (n : Int), .int .i64 (M : Int), .int .i64 0, .slice uF mF c5, .slice uN mN c6] 24) = W := ⟨_, rfl⟩
  try rw [hbm]
  rw [hw4]
  have D34 : Below w3.heap.size w3 w4 := by rw [← hw4]; exact (Below.refl _ _).alloc (Nat.le_refl _) _
  have X4 : w4.heap[bm]? = some (.cells #[.int .i64 (n : Int), .int .i64 (M : Int), .int .i64 0, .slice uF mF c5, .slice uN mN c6] 24 (0, 0)) := by rw [← hw4, ← hbm]; exact World.alloc_heap_new _ _
  have D14 := HD3.out.trans (D34.mono HD3.out.size)
  have H4 := hide (And.intro (blk_on H1.out.1 D14) (And.intro (H1.out.2.1.on D14) (And.intro (H1.out.2.2.1.on D14) (And.intro (H1.out.2.2.2.1.on D14) (And.intro (H1.out.2.2.2.2.1.on D14) (And.intro (H1.out.2.2.2.2.2.1.on D14) (And.intro (H1.out.2.2.2.2.2.2.trans (D14.mono H1.out.2.2.2.2.2.2.size)) (And.intro X4 (And.intro (HA.out.2.2.1.on D34) (HA.out.2.2.2.1.on D34))))))))))
  have HM1 := hide HA.out.1
  have HZ := mnS_facts HA.out.1 HV.out.1
  have HLE1 := hide (show n ≤ N by rw [← HA.out.2.1]; exact HZ.2.2.1)
  have HLN := hide (show T.length = n ∧ Eqv Fi Nx (mnF Fi T) (mnX Nx M T al) M st 0 ∧ vd (n : Nat) M (0 : Nat) (mnF Fi T) (mnX Nx M T al) = true ∧ (mnF Fi T).length = mF ∧ (mnX Nx M T al).length = mN ∧ mF ≤ 4194304 ∧ mN ≤ 2097152 from ⟨HA.out.2.1, HZ.2.1, by rw [← HA.out.2.1]; exact HZ.1, HA.out.2.2.2.2.1, HA.out.2.2.2.2.2.1, by rw [← HA.out.2.2.2.2.1]; exact HZ.2.2.2.2.1, by rw [← HA.out.2.2.2.2.2.1]; exact HZ.2.2.2.2.2⟩)
  clear hw4 hbm D34 X4 D14 HD2 HD3 H1 T8 T9 HT HA HZ
  have k5 : w4.cell? ⟨w.heap.size, 5, none⟩ = some (.int .i64 (N2 : Int)) := cell_of H4.out.1 rfl
  have k6 : w4.cell? ⟨w.heap.size, 6, none⟩ = some (.int .i64 (M : Int)) := cell_of H4.out.1 rfl
  have k7 : w4.cell? ⟨w.heap.size, 7, none⟩ = some (.int .i64 (s2 : Int)) := cell_of H4.out.1 rfl
  have k8 : w4.cell? ⟨w.heap.size, 8, none⟩ = some (.slice aG Gi.length cG) := cell_of H4.out.1 rfl
  have k9 : w4.cell? ⟨w.heap.size, 9, none⟩ = some (.slice aX Ex.length cX) := cell_of H4.out.1 rfl
  have T9 := twin_any w4 N2 M s2 aG aX cG cX Gi Ex H4.out.2.2.2.1 H4.out.2.2.2.2.1 bG (by omega)
  go_upto_region 5 with (first | (go_at_call 9; refine T9.mono ?_; rintro e w5 ⟨gF2, kF2, gN2, kN2, rfl, HT, D2⟩; have T8 := minimal_form w5 N2 M s2 (some ⟨gF2, 0, none⟩) (some ⟨gN2, 0, none⟩) Gi.length kF2 Ex.length kN2 Gi Ex HT.out.f.rd HT.out.n.rd rfl rfl bG (by omega) HV.out.2.1; have HD2 := hide D2; clear D2 k5 k6 k7 k8 k9) | (go_at_call 8; refine T8.mono ?_; rintro e w6 ⟨n2, vF, lF9, d5, vN, lN9, d6, T2, K2, al2, rfl, HB⟩; have HD3 := hide (HD2.out.trans (HB.out.2.2.2.2.2.2.mono HD2.out.size)); obtain ⟨bn, hbn⟩ : ∃ x, w6.heap.size = x := ⟨_, rfl⟩))
  obtain ⟨w7, hw7⟩ : ∃ W, w6.alloc (.cells #[.int .i64 (n2 : Int), .int .i64 (M : Int), .int .i64 0, .slice vF lF9 d5, .slice vN lN9 d6] 24) = W := ⟨_, rfl⟩
  try rw [hbn]
  rw [hw7]
  have D67 : Below w6.heap.size w6 w7 := by rw [← hw7]; exact (Below.refl _ _).alloc (Nat.le_refl _) _
  have X7 : w7.heap[bn]? = some (.cells #[.int .i64 (n2 : Int), .int .i64 (M : Int), .int .i64 0, .slice vF lF9 d5, .slice vN lN9 d6] 24 (0, 0)) := by rw [← hw7, ← hbn]; exact World.alloc_heap_new _ _
  have D47 := HD3.out.trans (D67.mono HD3.out.size)
  have HE := hide (And.intro (blk_on H4.out.1 D47) (And.intro (H4.out.2.1.on D47) (And.intro (H4.out.2.2.1.on D47) (And.intro (H4.out.2.2.2.1.on D47) (And.intro (H4.out.2.2.2.2.1.on D47) (And.intro (H4.out.2.2.2.2.2.1.on D47) (And.intro (H4.out.2.2.2.2.2.2.1.trans (D47.mono H4.out.2.2.2.2.2.2.1.size)) (And.intro (blk_on H4.out.2.2.2.2.2.2.2.1 D47) (And.intro (H4.out.2.2.2.2.2.2.2.2.1.on D47) (And.intro (H4.out.2.2.2.2.2.2.2.2.2.on D47) True.intro))))))))))
  have HN := hide (And.intro X7 (And.intro (HB.out.2.2.1.on D67) (HB.out.2.2.2.1.on D67)))
  have HZ := mnS_facts HB.out.1 HV.out.2.1
  have HN2 := hide (show MnS N2 M s2 Gi Ex T2 K2 al2 ∧ T2.length = n2 ∧ (mnF Gi T2).length = lF9 ∧ (mnX Ex M T2 al2).length = lN9 ∧ lF9 ≤ 4194304 ∧ lN9 ≤ 2097152 from ⟨HB.out.1, HB.out.2.1, HB.out.2.2.2.2.1, HB.out.2.2.2.2.2.1, by rw [← HB.out.2.2.2.2.1]; exact HZ.2.2.2.2.1, by rw [← HB.out.2.2.2.2.2.1]; exact HZ.2.2.2.2.2⟩)
  clear hw7 hbn D67 X7 D47 HD2 HD3 H4 T8 T9 HT HB HZ
  have TEQ : Hid (∀ W gF3 kF3 gN3 kN3 gG3 kG3 gX3 kX3, RdN W (some ⟨gF3, 0, none⟩) Fi → RdN W (some ⟨gN3, 0, none⟩) Nx → RdN W (some ⟨gG3, 0, none⟩) Gi → RdN W (some ⟨gX3, 0, none⟩) Ex → Calls Try.prog 18 #[.agg #[.int .i64 (N : Int), .int .i64 (M : Int), .int .i64 (st : Int), .slice (some ⟨gF3, 0, none⟩) Fi.length kF3, .slice (some ⟨gN3, 0, none⟩) Nx.length kN3], .agg #[.int .i64 (N2 : Int), .int .i64 (M : Int), .int .i64 (s2 : Int), .slice (some ⟨gG3, 0, none⟩) Gi.length kG3, .slice (some ⟨gX3, 0, none⟩) Ex.length kX3]] W fun e w' => e = .returned (.tuple #[.bool true, .slice none 0 0, .int .i64 0]) ∧ Below W.heap.size W w') := hide (fun W gF3 kF3 gN3 kN3 gG3 kG3 gX3 kX3 h1 h2 h3 h4 => equal_same W N M st N2 s2 (some ⟨gF3, 0, none⟩) (some ⟨gN3, 0, none⟩) (some ⟨gG3, 0, none⟩) (some ⟨gX3, 0, none⟩) Fi.length kF3 Nx.length kN3 Gi.length kG3 Ex.length kX3 Fi Nx Gi Ex h1 h2 h3 h4 rfl rfl rfl rfl bF bN bG bX HV.out.1 HV.out.2.1 HV.out.2.2)
  have hmo : MonIL 0 [vI 0 (.pointer (some ⟨w.heap.size, 0, none⟩)), vI 1 (.agg #[.int .i64 (N : Int), .int .i64 (M : Int), .int .i64 (st : Int), .slice aF Fi.length cF, .slice aN Nx.length cN]), pI 2 (twP N M st Fi Nx), vI 3 (.pointer (some ⟨w.heap.size, 5, none⟩)), vI 4 (.agg #[.int .i64 (N2 : Int), .int .i64 (M : Int), .int .i64 (s2 : Int), .slice aG Gi.length cG, .slice aX Ex.length cX]), pI 5 (twP N2 M s2 Gi Ex), vI 6 (.tuple #[.bool true, .slice none 0 0, .int .i64 0]), vI 7 (.tuple #[.bool true, .slice none 0 0, .int .i64 0]), vI 8 (.bool true), vI 9 (.slice none 0 0), vI 10 (.int .i64 0), vI 11 (.bool true), vI 12 (.slice none 0 0), vI 13 (.int .i64 0)] := ⟨vI_mono _ _, vI_mono _ _, pI_mono twP_mono, vI_mono _ _, vI_mono _ _, pI_mono twP_mono, vI_mono _ _, vI_mono _ _, vI_mono _ _, vI_mono _ _, vI_mono _ _, vI_mono _ _, vI_mono _ _, vI_mono _ _, trivial⟩
  refine wp_region_sl [vI 0 (.pointer (some ⟨w.heap.size, 0, none⟩)), vI 1 (.agg #[.int .i64 (N : Int), .int .i64 (M : Int), .int .i64 (st : Int), .slice aF Fi.length cF, .slice aN Nx.length cN]), pI 2 (twP N M st Fi Nx), vI 3 (.pointer (some ⟨w.heap.size, 5, none⟩)), vI 4 (.agg #[.int .i64 (N2 : Int), .int .i64 (M : Int), .int .i64 (s2 : Int), .slice aG Gi.length cG, .slice aX Ex.length cX]), pI 5 (twP N2 M s2 Gi Ex), vI 6 (.tuple #[.bool true, .slice none 0 0, .int .i64 0]), vI 7 (.tuple #[.bool true, .slice none 0 0, .int .i64 0]), vI 8 (.bool true), vI 9 (.slice none 0 0), vI 10 (.int .i64 0), vI 11 (.bool true), vI 12 (.slice none 0 0), vI 13 (.int .i64 0)] (by kernel_rfl) (by kernel_rfl) (by kernel_rfl) (by kernel_rfl) hmo ⟨?o0, ?o1, ?o2, ?o3, ?o4, ?o5, ?o6, ?o7, ?o8, ?o9, ?o10, ?o11, ?o12, ?o13, trivial⟩ ?fin
  case o0 =>
    intro At yy W hy hb d hd K hK
    have s1 : At.tmps.getD 1 undef = .pointer (some ⟨w.heap.size, 0, none⟩) := hb 1 rfl
    have s1' := s1
    rw [Array.getD_eq_getD_getElem?] at s1'
    clear hd hy hb
    go_simp
    exact hK.out _ W (stp_of hmo d (Below.refl _ _)) (if_pos rfl)
  case o1 =>
    intro At yy W hy hb d hd K hK
    have e0 : yy 0 = .pointer (some ⟨w.heap.size, 0, none⟩) := by obtain ⟨_, _, _, _, e⟩ := hd ⟨0, .data⟩ (by simp) rfl rfl; exact e
    have s30 := (hy 0 _ 30 rfl rfl).trans e0
    have s30' := s30
    rw [Array.getD_eq_getD_getElem?] at s30'
    clear hd hy hb
    have yb0 : W.cell? ⟨w.heap.size, 0, none⟩ = some (.int .i64 (N : Int)) := cell_of (blk_on HE.out.1 d) rfl
    have yb1 : W.cell? ⟨w.heap.size, 1, none⟩ = some (.int .i64 (M : Int)) := cell_of (blk_on HE.out.1 d) rfl
    have yb2 : W.cell? ⟨w.heap.size, 2, none⟩ = some (.int .i64 (st : Int)) := cell_of (blk_on HE.out.1 d) rfl
    have yb3 : W.cell? ⟨w.heap.size, 3, none⟩ = some (.slice aF Fi.length cF) := cell_of (blk_on HE.out.1 d) rfl
    have yb4 : W.cell? ⟨w.heap.size, 4, none⟩ = some (.slice aN Nx.length cN) := cell_of (blk_on HE.out.1 d) rfl
    go_simp
    exact hK.out _ W (stp_of hmo d (Below.refl _ _)) (if_pos rfl)
  case o2 =>
    intro At yy W hy hb d hd K hK
    have e1 : yy 1 = .agg #[.int .i64 (N : Int), .int .i64 (M : Int), .int .i64 (st : Int), .slice aF Fi.length cF, .slice aN Nx.length cN] := by obtain ⟨_, _, _, _, e⟩ := hd ⟨1, .data⟩ (by simp) rfl rfl; exact e
    have s31 := (hy 1 _ 31 rfl rfl).trans e1
    have s31' := s31
    rw [Array.getD_eq_getD_getElem?] at s31'
    clear hd hy hb
    go_simp
    go_wp2_with (go_at_call 9; refine (twin_any _ N M st aF aN cF cN Fi Nx (HE.out.2.1.on d) (HE.out.2.2.1.on d) bF (by omega)).mono ?_; rintro e wa ⟨gF3, kF3, gN3, kN3, rfl, HT3, da⟩)
    exact hK.out _ wa (stp_of hmo d da) ⟨gF3, kF3, gN3, kN3, if_pos rfl, HT3.out.f.rd, HT3.out.n.rd⟩
  case o3 =>
    intro At yy W hy hb d hd K hK
    have s1 : At.tmps.getD 1 undef = .pointer (some ⟨w.heap.size, 0, none⟩) := hb 1 rfl
    have s1' := s1
    rw [Array.getD_eq_getD_getElem?] at s1'
    clear hd hy hb
    go_simp
    exact hK.out _ W (stp_of hmo d (Below.refl _ _)) (if_pos rfl)
  case o4 =>
    intro At yy W hy hb d hd K hK
    have e3 : yy 3 = .pointer (some ⟨w.heap.size, 5, none⟩) := by obtain ⟨_, _, _, _, e⟩ := hd ⟨3, .data⟩ (by simp) rfl rfl; exact e
    have s33 := (hy 3 _ 33 rfl rfl).trans e3
    have s33' := s33
    rw [Array.getD_eq_getD_getElem?] at s33'
    clear hd hy hb
    have yb5 : W.cell? ⟨w.heap.size, 5, none⟩ = some (.int .i64 (N2 : Int)) := cell_of (blk_on HE.out.1 d) rfl
    have yb6 : W.cell? ⟨w.heap.size, 6, none⟩ = some (.int .i64 (M : Int)) := cell_of (blk_on HE.out.1 d) rfl
    have yb7 : W.cell? ⟨w.heap.size, 7, none⟩ = some (.int .i64 (s2 : Int)) := cell_of (blk_on HE.out.1 d) rfl
    have yb8 : W.cell? ⟨w.heap.size, 8, none⟩ = some (.slice aG Gi.length cG) := cell_of (blk_on HE.out.1 d) rfl
    have yb9 : W.cell? ⟨w.heap.size, 9, none⟩ = some (.slice aX Ex.length cX) := cell_of (blk_on HE.out.1 d) rfl
    go_simp
    exact hK.out _ W (stp_of hmo d (Below.refl _ _)) (if_pos rfl)
  case o5 =>
    intro At yy W hy hb d hd K hK
    have e4 : yy 4 = .agg #[.int .i64 (N2 : Int), .int .i64 (M : Int), .int .i64 (s2 : Int), .slice aG Gi.length cG, .slice aX Ex.length cX] := by obtain ⟨_, _, _, _, e⟩ := hd ⟨4, .data⟩ (by simp) rfl rfl; exact e
    have s34 := (hy 4 _ 34 rfl rfl).trans e4
    have s34' := s34
    rw [Array.getD_eq_getD_getElem?] at s34'
    clear hd hy hb
    go_simp
    go_wp2_with (go_at_call 9; refine (twin_any _ N2 M s2 aG aX cG cX Gi Ex (HE.out.2.2.2.1.on d) (HE.out.2.2.2.2.1.on d) bG (by omega)).mono ?_; rintro e wa ⟨gF3, kF3, gN3, kN3, rfl, HT3, da⟩)
    exact hK.out _ wa (stp_of hmo d da) ⟨gF3, kF3, gN3, kN3, if_pos rfl, HT3.out.f.rd, HT3.out.n.rd⟩
  case o6 =>
    intro At yy W hy hb d hd K hK
    have f2 := hd ⟨2, .data⟩ (by simp) rfl rfl
    have f5 := hd ⟨5, .data⟩ (by simp) rfl rfl
    obtain ⟨lo2, hi2, hl2, hh2, gF3, kF3, gN3, kN3, e2, ra, rb⟩ := f2
    obtain ⟨lo5, hi5, hl5, hh5, gG3, kG3, gX3, kX3, e5, rc, rd⟩ := f5
    have s32 := (hy 2 _ 32 rfl rfl).trans e2
    have s32' := s32
    rw [Array.getD_eq_getD_getElem?] at s32'
    have s35 := (hy 5 _ 35 rfl rfl).trans e5
    have s35' := s35
    rw [Array.getD_eq_getD_getElem?] at s35'
    clear hd hy hb
    go_simp
    go_wp2_with (go_at_call 18; refine (TEQ.out _ gF3 kF3 gN3 kN3 gG3 kG3 gX3 kX3 ra rb rc rd).mono ?_; rintro e wa ⟨rfl, da⟩)
    exact hK.out _ wa (stp_of hmo d da) (if_pos rfl)
  case o7 =>
    intro At yy W hy hb d hd K hK
    have e6 : yy 6 = .tuple #[.bool true, .slice none 0 0, .int .i64 0] := by obtain ⟨_, _, _, _, e⟩ := hd ⟨6, .data⟩ (by simp) rfl rfl; exact e
    have s36 := (hy 6 _ 36 rfl rfl).trans e6
    have s36' := s36
    rw [Array.getD_eq_getD_getElem?] at s36'
    clear hd hy hb
    go_simp
    exact hK.out _ W (stp_of hmo d (Below.refl _ _)) (if_pos rfl)
  case o8 =>
    intro At yy W hy hb d hd K hK
    have e7 : yy 7 = .tuple #[.bool true, .slice none 0 0, .int .i64 0] := by obtain ⟨_, _, _, _, e⟩ := hd ⟨7, .data⟩ (by simp) rfl rfl; exact e
    have s29 := (hy 7 _ 29 rfl rfl).trans e7
    have s29' := s29
    rw [Array.getD_eq_getD_getElem?] at s29'
    clear hd hy hb
    go_simp
    exact hK.out _ W (stp_of hmo d (Below.refl _ _)) (if_pos rfl)
  case o9 =>
    intro At yy W hy hb d hd K hK
    have e7 : yy 7 = .tuple #[.bool true, .slice none 0 0, .int .i64 0] := by obtain ⟨_, _, _, _, e⟩ := hd ⟨7, .data⟩ (by simp) rfl rfl; exact e
    have s29 := (hy 7 _ 29 rfl rfl).trans e7
    have s29' := s29
    rw [Array.getD_eq_getD_getElem?] at s29'
    clear hd hy hb
    go_simp
    exact hK.out _ W (stp_of hmo d (Below.refl _ _)) (if_pos rfl)
  case o10 =>
    intro At yy W hy hb d hd K hK
    have e7 : yy 7 = .tuple #[.bool true, .slice none 0 0, .int .i64 0] := by obtain ⟨_, _, _, _, e⟩ := hd ⟨7, .data⟩ (by simp) rfl rfl; exact e
    have s29 := (hy 7 _ 29 rfl rfl).trans e7
    have s29' := s29
    rw [Array.getD_eq_getD_getElem?] at s29'
    clear hd hy hb
    go_simp
    exact hK.out _ W (stp_of hmo d (Below.refl _ _)) (if_pos rfl)
  case o11 =>
    intro At yy W hy hb d hd K hK
    have e8 : yy 8 = .bool true := by obtain ⟨_, _, _, _, e⟩ := hd ⟨8, .data⟩ (by simp) rfl rfl; exact e
    have s37 := (hy 8 _ 37 rfl rfl).trans e8
    have s37' := s37
    rw [Array.getD_eq_getD_getElem?] at s37'
    clear hd hy hb
    go_simp
    exact hK.out _ W (stp_of hmo d (Below.refl _ _)) (if_pos rfl)
  case o12 =>
    intro At yy W hy hb d hd K hK
    have e9 : yy 9 = .slice none 0 0 := by obtain ⟨_, _, _, _, e⟩ := hd ⟨9, .data⟩ (by simp) rfl rfl; exact e
    have s38 := (hy 9 _ 38 rfl rfl).trans e9
    have s38' := s38
    rw [Array.getD_eq_getD_getElem?] at s38'
    clear hd hy hb
    go_simp
    exact hK.out _ W (stp_of hmo d (Below.refl _ _)) (if_pos rfl)
  case o13 =>
    intro At yy W hy hb d hd K hK
    have e10 : yy 10 = .int .i64 0 := by obtain ⟨_, _, _, _, e⟩ := hd ⟨10, .data⟩ (by simp) rfl rfl; exact e
    have s39 := (hy 10 _ 39 rfl rfl).trans e10
    have s39' := s39
    rw [Array.getD_eq_getD_getElem?] at s39'
    clear hd hy hb
    go_simp
    exact hK.out _ W (stp_of hmo d (Below.refl _ _)) (if_pos rfl)
  case fin =>
    intro yy lo hi W hM
    show wpList _ _ _ [] _ _
    have e0 : yy 0 = .pointer (some ⟨w.heap.size, 0, none⟩) := hM.fact 0 (by simp) rfl (notR_all 0 rfl)
    have e1 : yy 1 = .agg #[.int .i64 (N : Int), .int .i64 (M : Int), .int .i64 (st : Int), .slice aF Fi.length cF, .slice aN Nx.length cN] := hM.fact 1 (by simp) rfl (notR_all 1 rfl)
    have e3 : yy 3 = .pointer (some ⟨w.heap.size, 5, none⟩) := hM.fact 3 (by simp) rfl (notR_all 3 rfl)
    have e4 : yy 4 = .agg #[.int .i64 (N2 : Int), .int .i64 (M : Int), .int .i64 (s2 : Int), .slice aG Gi.length cG, .slice aX Ex.length cX] := hM.fact 4 (by simp) rfl (notR_all 4 rfl)
    have e6 : yy 6 = .tuple #[.bool true, .slice none 0 0, .int .i64 0] := hM.fact 6 (by simp) rfl (notR_all 6 rfl)
    have e7 : yy 7 = .tuple #[.bool true, .slice none 0 0, .int .i64 0] := hM.fact 7 (by simp) rfl (notR_all 7 rfl)
    have e8 : yy 8 = .bool true := hM.fact 8 (by simp) rfl (notR_all 8 rfl)
    have e9 : yy 9 = .slice none 0 0 := hM.fact 9 (by simp) rfl (notR_all 9 rfl)
    have e10 : yy 10 = .int .i64 0 := hM.fact 10 (by simp) rfl (notR_all 10 rfl)
    have e11 : yy 11 = .bool true := hM.fact 11 (by simp) rfl (notR_all 11 rfl)
    have e12 : yy 12 = .slice none 0 0 := hM.fact 12 (by simp) rfl (notR_all 12 rfl)
    have e13 : yy 13 = .int .i64 0 := hM.fact 13 (by simp) rfl (notR_all 13 rfl)
    have dd := hM.d
    simp only [fills, Act.put, List.take, List.length, List.setIfInBounds_toArray, List.set_cons_zero, List.set_cons_succ, e0, e1, e3, e4, e6, e7, e8, e9, e10, e11, e12, e13]
    obtain ⟨gF2, kF2, gN2, kN2, e2, _, _⟩ := hM.fact 2 (by simp) rfl (notR_all 2 rfl)
    obtain ⟨gF5, kF5, gN5, kN5, e5, _, _⟩ := hM.fact 5 (by simp) rfl (notR_all 5 rfl)
    rw [e2, e5]
    clear hM hmo e0 e1 e3 e4 e6 e7 e8 e9 e10 e11 e12 e13 e2 e5 TEQ
    have HE := hide (And.intro (blk_on HE.out.1 dd) (And.intro (HE.out.2.1.on dd) (And.intro (HE.out.2.2.1.on dd) (And.intro (HE.out.2.2.2.1.on dd) (And.intro (HE.out.2.2.2.2.1.on dd) (And.intro (HE.out.2.2.2.2.2.1.on dd) (And.intro (HE.out.2.2.2.2.2.2.1.trans (dd.mono HE.out.2.2.2.2.2.2.1.size)) (And.intro (blk_on HE.out.2.2.2.2.2.2.2.1 dd) (And.intro (HE.out.2.2.2.2.2.2.2.2.1.on dd) (And.intro (HE.out.2.2.2.2.2.2.2.2.2.1.on dd) True.intro))))))))))
    have HN := hide (And.intro (blk_on HN.out.1 dd) (And.intro (HN.out.2.1.on dd) (HN.out.2.2.on dd)))
    clear dd
    have z0 : W.cell? ⟨bm, 0, none⟩ = some (.int .i64 (n : Int)) := cell_of HE.out.2.2.2.2.2.2.2.1 rfl
    have z1 : W.cell? ⟨bm, 1, none⟩ = some (.int .i64 (M : Int)) := cell_of HE.out.2.2.2.2.2.2.2.1 rfl
    have z2 : W.cell? ⟨bm, 2, none⟩ = some (.int .i64 0) := cell_of HE.out.2.2.2.2.2.2.2.1 rfl
    have z3 : W.cell? ⟨bm, 3, none⟩ = some (.slice uF mF c5) := cell_of HE.out.2.2.2.2.2.2.2.1 rfl
    have z4 : W.cell? ⟨bm, 4, none⟩ = some (.slice uN mN c6) := cell_of HE.out.2.2.2.2.2.2.2.1 rfl
    have T8 := minimal_form W n M 0 uF uN mF c5 mN c6 (mnF Fi T) (mnX Nx M T al) HE.out.2.2.2.2.2.2.2.2.1 HE.out.2.2.2.2.2.2.2.2.2.1 HLN.out.2.2.2.1 HLN.out.2.2.2.2.1 HLN.out.2.2.2.2.2.1 (by have := HLN.out.2.2.2.2.2.2; omega) HLN.out.2.2.1
    go_upto_region 9 with (go_at_call 8; refine T8.mono ?_; rintro e w8 ⟨n3, xF, jF, c7, xN, jN, c8, T3, K3, al3, rfl, HC⟩; obtain ⟨ba, hba⟩ : ∃ x, w8.heap.size = x := ⟨_, rfl⟩)
    obtain ⟨w9, hw9⟩ : ∃ W, w8.alloc (.cells #[.int .i64 (n3 : Int), .int .i64 (M : Int), .int .i64 0, .slice xF jF c7, .slice xN jN c8] 24) = W := ⟨_, rfl⟩
    try rw [hba]
    rw [hw9]
    have D89 : Below w8.heap.size w8 w9 := by rw [← hw9]; exact (Below.refl _ _).alloc (Nat.le_refl _) _
    have X9 : w9.heap[ba]? = some (.cells #[.int .i64 (n3 : Int), .int .i64 (M : Int), .int .i64 0, .slice xF jF c7, .slice xN jN c8] 24 (0, 0)) := by rw [← hw9, ← hba]; exact World.alloc_heap_new _ _
    have D9 := HC.out.2.2.2.2.2.2.trans (D89.mono HC.out.2.2.2.2.2.2.size)
    have HS3 := hide (mnS_same (N2 := n) HM1.out HV.out.1 HC.out.1 HLN.out.2.2.1 HLN.out.2.1)
    have HX := hide (And.intro X9 (And.intro (HC.out.2.2.1.on D89) (And.intro (HC.out.2.2.2.1.on D89) (And.intro HC.out.2.2.2.2.1 (And.intro HC.out.2.2.2.2.2.1 HC.out.2.1)))))
    clear z0 z1 z2 z3 z4
    have HE := hide (And.intro (blk_on HE.out.1 D9) (And.intro (HE.out.2.1.on D9) (And.intro (HE.out.2.2.1.on D9) (And.intro (HE.out.2.2.2.1.on D9) (And.intro (HE.out.2.2.2.2.1.on D9) (And.intro (HE.out.2.2.2.2.2.1.on D9) (And.intro (HE.out.2.2.2.2.2.2.1.trans (D9.mono HE.out.2.2.2.2.2.2.1.size)) (And.intro (blk_on HE.out.2.2.2.2.2.2.2.1 D9) (And.intro (HE.out.2.2.2.2.2.2.2.2.1.on D9) (And.intro (HE.out.2.2.2.2.2.2.2.2.2.1.on D9) True.intro))))))))))
    have HN := hide (And.intro (blk_on HN.out.1 D9) (And.intro (HN.out.2.1.on D9) (HN.out.2.2.on D9)))
    clear D9 D89 X9 hw9 hba T8 HC
    have TS1 : Hid (∀ W, Below w9.heap.size w9 W → Calls Try.prog 19 #[.agg #[.int .i64 (n3 : Int), .int .i64 (M : Int), .int .i64 0, .slice xF jF c7, .slice xN jN c8], .agg #[.int .i64 (n : Int), .int .i64 (M : Int), .int .i64 0, .slice uF mF c5, .slice uN mN c6]] W fun e w' => e = .returned (.bool true) ∧ Below W.heap.size W w') := hide (fun W d => by
      have z := same_any W n3 M 0 n M 0 xF xN uF uN jF c7 jN c8 mF c5 mN c6 _ _ _ _ (HX.out.2.1.on d) (HX.out.2.2.1.on d) (HE.out.2.2.2.2.2.2.2.2.1.on d) (HE.out.2.2.2.2.2.2.2.2.2.1.on d) HX.out.2.2.2.1 HX.out.2.2.2.2.1 HLN.out.2.2.2.1 HLN.out.2.2.2.2.1 (by rw [← HX.out.2.2.2.1, ← HS3.out.2.1, HLN.out.2.2.2.1]; exact HLN.out.2.2.2.2.2.1) (by rw [← HX.out.2.2.2.2.1, ← HS3.out.2.2, HLN.out.2.2.2.2.1]; have := HLN.out.2.2.2.2.2.2; omega) HLN.out.2.2.2.2.2.1 (by have := HLN.out.2.2.2.2.2.2; omega)
      rwa [decide_eq_true ⟨by have z1 := HS3.out.1; have z2 := HX.out.2.2.2.2.2; have z3 := HLN.out.1; omega, rfl, rfl, HS3.out.2.1.symm, HS3.out.2.2.symm⟩] at z)
    have TS2 : Hid (∀ W, Below w9.heap.size w9 W → Calls Try.prog 19 #[.agg #[.int .i64 (n : Int), .int .i64 (M : Int), .int .i64 0, .slice uF mF c5, .slice uN mN c6], .agg #[.int .i64 (n2 : Int), .int .i64 (M : Int), .int .i64 0, .slice vF lF9 d5, .slice vN lN9 d6]] W fun e w' => e = .returned (.bool true) ∧ Below W.heap.size W w') := hide (fun W d => by
      have z := same_any W n M 0 n2 M 0 uF uN vF vN mF c5 mN c6 lF9 d5 lN9 d6 _ _ _ _ (HE.out.2.2.2.2.2.2.2.2.1.on d) (HE.out.2.2.2.2.2.2.2.2.2.1.on d) (HN.out.2.1.on d) (HN.out.2.2.on d) HLN.out.2.2.2.1 HLN.out.2.2.2.2.1 HN2.out.2.2.1 HN2.out.2.2.2.1 HLN.out.2.2.2.2.2.1 (by have := HLN.out.2.2.2.2.2.2; omega) HN2.out.2.2.2.2.1 (by have := HN2.out.2.2.2.2.2; omega)
      have y := mnS_same HM1.out HV.out.1 HN2.out.1 HV.out.2.1 HV.out.2.2
      rwa [decide_eq_true ⟨by have z1 := y.1; have z2 := HN2.out.2.1; have z3 := HLN.out.1; omega, rfl, rfl, y.2.1, y.2.2⟩] at z)
    have x0 : w9.cell? ⟨ba, 0, none⟩ = some (.int .i64 (n3 : Int)) := cell_of HX.out.1 rfl
    have x1 : w9.cell? ⟨ba, 1, none⟩ = some (.int .i64 (M : Int)) := cell_of HX.out.1 rfl
    have x2 : w9.cell? ⟨ba, 2, none⟩ = some (.int .i64 0) := cell_of HX.out.1 rfl
    have x3 : w9.cell? ⟨ba, 3, none⟩ = some (.slice xF jF c7) := cell_of HX.out.1 rfl
    have x4 : w9.cell? ⟨ba, 4, none⟩ = some (.slice xN jN c8) := cell_of HX.out.1 rfl
    have z0 : w9.cell? ⟨bm, 0, none⟩ = some (.int .i64 (n : Int)) := cell_of HE.out.2.2.2.2.2.2.2.1 rfl
    have z1 : w9.cell? ⟨bm, 1, none⟩ = some (.int .i64 (M : Int)) := cell_of HE.out.2.2.2.2.2.2.2.1 rfl
    have z2 : w9.cell? ⟨bm, 2, none⟩ = some (.int .i64 0) := cell_of HE.out.2.2.2.2.2.2.2.1 rfl
    have z3 : w9.cell? ⟨bm, 3, none⟩ = some (.slice uF mF c5) := cell_of HE.out.2.2.2.2.2.2.2.1 rfl
    have z4 : w9.cell? ⟨bm, 4, none⟩ = some (.slice uN mN c6) := cell_of HE.out.2.2.2.2.2.2.2.1 rfl
    have c1 : ¬ (N : Int) < (n : Int) := by have := HLN.out.2.2.2.2.2.2; have := HLE1.out; omega
    have c2 : (n : Int) ≤ (N : Int) := by have := HLE1.out; omega
    go_wp2_with fail
    go_at_call 19
    refine (TS1.out _ (Below.refl _ _)).mono ?_
    rintro e wb ⟨rfl, db⟩
    have HDB := hide db
    clear db x0 x1 x2 x3 x4 z0 z1 z2 z3 z4
    have z0 : wb.cell? ⟨bm, 0, none⟩ = some (.int .i64 (n : Int)) := cell_of (blk_on HE.out.2.2.2.2.2.2.2.1 HDB.out) rfl
    have z1 : wb.cell? ⟨bm, 1, none⟩ = some (.int .i64 (M : Int)) := cell_of (blk_on HE.out.2.2.2.2.2.2.2.1 HDB.out) rfl
    have z2 : wb.cell? ⟨bm, 2, none⟩ = some (.int .i64 0) := cell_of (blk_on HE.out.2.2.2.2.2.2.2.1 HDB.out) rfl
    have z3 : wb.cell? ⟨bm, 3, none⟩ = some (.slice uF mF c5) := cell_of (blk_on HE.out.2.2.2.2.2.2.2.1 HDB.out) rfl
    have z4 : wb.cell? ⟨bm, 4, none⟩ = some (.slice uN mN c6) := cell_of (blk_on HE.out.2.2.2.2.2.2.2.1 HDB.out) rfl
    have v0 : wb.cell? ⟨bn, 0, none⟩ = some (.int .i64 (n2 : Int)) := cell_of (blk_on HN.out.1 HDB.out) rfl
    have v1 : wb.cell? ⟨bn, 1, none⟩ = some (.int .i64 (M : Int)) := cell_of (blk_on HN.out.1 HDB.out) rfl
    have v2 : wb.cell? ⟨bn, 2, none⟩ = some (.int .i64 0) := cell_of (blk_on HN.out.1 HDB.out) rfl
    have v3 : wb.cell? ⟨bn, 3, none⟩ = some (.slice vF lF9 d5) := cell_of (blk_on HN.out.1 HDB.out) rfl
    have v4 : wb.cell? ⟨bn, 4, none⟩ = some (.slice vN lN9 d6) := cell_of (blk_on HN.out.1 HDB.out) rfl
    go_wp2_with fail
    go_at_call 19
    refine (TS2.out _ HDB.out).mono ?_
    rintro e wc ⟨rfl, dc⟩
    have HDC := hide (HDB.out.trans (dc.mono HDB.out.size))
    clear dc v0 v1 v2 v3 v4 z0 z1 z2 z3 z4
    have z0 : wc.cell? ⟨bm, 0, none⟩ = some (.int .i64 (n : Int)) := cell_of (blk_on HE.out.2.2.2.2.2.2.2.1 HDC.out) rfl
    have z2 : wc.cell? ⟨bm, 2, none⟩ = some (.int .i64 0) := cell_of (blk_on HE.out.2.2.2.2.2.2.2.1 HDC.out) rfl
    have k0 : wc.cell? ⟨w.heap.size, 0, none⟩ = some (.int .i64 (N : Int)) := cell_of (blk_on HE.out.1 HDC.out) rfl
    go_upto_region 11 with fail
    have HE := hide (And.intro (blk_on HE.out.1 HDC.out) (And.intro (HE.out.2.1.on HDC.out) (And.intro (HE.out.2.2.1.on HDC.out) (And.intro (HE.out.2.2.2.1.on HDC.out) (And.intro (HE.out.2.2.2.2.1.on HDC.out) (And.intro (HE.out.2.2.2.2.2.1.on HDC.out) (And.intro (HE.out.2.2.2.2.2.2.1.trans (HDC.out.mono HE.out.2.2.2.2.2.2.1.size)) (And.intro (blk_on HE.out.2.2.2.2.2.2.2.1 HDC.out) (And.intro (HE.out.2.2.2.2.2.2.2.2.1.on HDC.out) (And.intro (HE.out.2.2.2.2.2.2.2.2.2.1.on HDC.out) True.intro))))))))))
    clear HDB HDC TS1 TS2 HN HX HS3 HN2 z0 z2 k0 c1 c2
    obtain ⟨o1, ho1⟩ : ∃ x, tkB N M st Fi Nx Wd = x := ⟨_, rfl⟩
    have ho2 : tkB N2 M s2 Gi Ex Wd = o1 := by rw [← ho1]; exact (tk_eqv HV.out.1 HV.out.2.1 HV.out.2.2 Wd).symm
    have HLE : Hid ((n : Int) ≤ (N2 : Int)) := hide (by have z1 := mnS_least HM1.out HV.out.1 HV.out.2.1 HV.out.2.2; have z2 := HLN.out.1; omega)
    have ho3 : tkB n M (0 : Nat) (mnF Fi T) (mnX Nx M T al) Wd = o1 := by rw [← ho1]; exact (tk_eqv HV.out.1 HLN.out.2.2.1 HLN.out.2.1 Wd).symm
    have TK1 : Hid (∀ W gF3 kF3 gN3 kN3 gW3 kW3, RdN W (some ⟨gF3, 0, none⟩) Fi → RdN W (some ⟨gN3, 0, none⟩) Nx → RdN W (some ⟨gW3, 0, none⟩) Wd → Calls Try.prog 16 #[.agg #[.int .i64 (N : Int), .int .i64 (M : Int), .int .i64 (st : Int), .slice (some ⟨gF3, 0, none⟩) Fi.length kF3, .slice (some ⟨gN3, 0, none⟩) Nx.length kN3], .slice (some ⟨gW3, 0, none⟩) Wd.length kW3] W fun e w' => e = .returned (.bool o1) ∧ Below W.heap.size W w') := hide (fun W gF3 kF3 gN3 kN3 gW3 kW3 h1 h2 h3 => ho1 ▸ takesL_any W N M st (some ⟨gF3, 0, none⟩) (some ⟨gN3, 0, none⟩) (some ⟨gW3, 0, none⟩) Fi.length kF3 Nx.length kN3 Wd.length kW3 Fi Nx Wd h1 h2 h3 rfl rfl rfl bF (by omega) bW)
    have TK2 : Hid (∀ W gF3 kF3 gN3 kN3 gW3 kW3, RdN W (some ⟨gF3, 0, none⟩) Gi → RdN W (some ⟨gN3, 0, none⟩) Ex → RdN W (some ⟨gW3, 0, none⟩) Wd → Calls Try.prog 16 #[.agg #[.int .i64 (N2 : Int), .int .i64 (M : Int), .int .i64 (s2 : Int), .slice (some ⟨gF3, 0, none⟩) Gi.length kF3, .slice (some ⟨gN3, 0, none⟩) Ex.length kN3], .slice (some ⟨gW3, 0, none⟩) Wd.length kW3] W fun e w' => e = .returned (.bool o1) ∧ Below W.heap.size W w') := hide (fun W gF3 kF3 gN3 kN3 gW3 kW3 h1 h2 h3 => ho2 ▸ takesL_any W N2 M s2 (some ⟨gF3, 0, none⟩) (some ⟨gN3, 0, none⟩) (some ⟨gW3, 0, none⟩) Gi.length kF3 Ex.length kN3 Wd.length kW3 Gi Ex Wd h1 h2 h3 rfl rfl rfl bG (by omega) bW)
    have TKM : Hid (∀ W gW3 kW3, RdN W uF (mnF Fi T) → RdN W uN (mnX Nx M T al) → RdN W (some ⟨gW3, 0, none⟩) Wd → Calls Try.prog 16 #[.agg #[.int .i64 (n : Int), .int .i64 (M : Int), .int .i64 0, .slice uF mF c5, .slice uN mN c6], .slice (some ⟨gW3, 0, none⟩) Wd.length kW3] W fun e w' => e = .returned (.bool o1) ∧ Below W.heap.size W w') := hide (fun W gW3 kW3 h1 h2 h3 => ho3 ▸ takesL_any W n M (0 : Nat) uF uN (some ⟨gW3, 0, none⟩) mF c5 mN c6 Wd.length kW3 (mnF Fi T) (mnX Nx M T al) Wd h1 h2 h3 HLN.out.2.2.2.1 HLN.out.2.2.2.2.1 rfl HLN.out.2.2.2.2.2.1 (by have := HLN.out.2.2.2.2.2.2; omega) bW)
    clear ho1 ho2 ho3
    have hmo : MonIL 0 [vI 0 (.pointer (some ⟨w.heap.size, 0, none⟩)), vI 1 (.agg #[.int .i64 (N : Int), .int .i64 (M : Int), .int .i64 (st : Int), .slice aF Fi.length cF, .slice aN Nx.length cN]), pI 2 (twP N M st Fi Nx), vI 3 (.pointer (some ⟨w.heap.size, 12, none⟩)), vI 4 (.slice aW Wd.length cW), pI 5 (inP Wd), vI 6 (.bool o1), vI 7 (.bool o1)] := ⟨vI_mono _ _, vI_mono _ _, pI_mono twP_mono, vI_mono _ _, vI_mono _ _, pI_mono inP_mono, vI_mono _ _, vI_mono _ _, trivial⟩
    refine wp_region_sl [vI 0 (.pointer (some ⟨w.heap.size, 0, none⟩)), vI 1 (.agg #[.int .i64 (N : Int), .int .i64 (M : Int), .int .i64 (st : Int), .slice aF Fi.length cF, .slice aN Nx.length cN]), pI 2 (twP N M st Fi Nx), vI 3 (.pointer (some ⟨w.heap.size, 12, none⟩)), vI 4 (.slice aW Wd.length cW), pI 5 (inP Wd), vI 6 (.bool o1), vI 7 (.bool o1)] (by kernel_rfl) (by kernel_rfl) (by kernel_rfl) (by kernel_rfl) hmo ⟨?o0, ?o1, ?o2, ?o3, ?o4, ?o5, ?o6, ?o7, trivial⟩ ?fin
    case o0 =>
      intro At yy W hy hb d hd K hK
      have s1 : At.tmps.getD 1 undef = .pointer (some ⟨w.heap.size, 0, none⟩) := hb 1 rfl
      have s1' := s1
      rw [Array.getD_eq_getD_getElem?] at s1'
      clear hd hy hb
      go_simp
      exact hK.out _ W (stp_of hmo d (Below.refl _ _)) (if_pos rfl)
    case o1 =>
      intro At yy W hy hb d hd K hK
      have e0 : yy 0 = .pointer (some ⟨w.heap.size, 0, none⟩) := by obtain ⟨_, _, _, _, e⟩ := hd ⟨0, .data⟩ (by simp) rfl rfl; exact e
      have s106 := (hy 0 _ 106 rfl rfl).trans e0
      have s106' := s106
      rw [Array.getD_eq_getD_getElem?] at s106'
      clear hd hy hb
      have yb0 : W.cell? ⟨w.heap.size, 0, none⟩ = some (.int .i64 (N : Int)) := cell_of (blk_on HE.out.1 d) rfl
      have yb1 : W.cell? ⟨w.heap.size, 1, none⟩ = some (.int .i64 (M : Int)) := cell_of (blk_on HE.out.1 d) rfl
      have yb2 : W.cell? ⟨w.heap.size, 2, none⟩ = some (.int .i64 (st : Int)) := cell_of (blk_on HE.out.1 d) rfl
      have yb3 : W.cell? ⟨w.heap.size, 3, none⟩ = some (.slice aF Fi.length cF) := cell_of (blk_on HE.out.1 d) rfl
      have yb4 : W.cell? ⟨w.heap.size, 4, none⟩ = some (.slice aN Nx.length cN) := cell_of (blk_on HE.out.1 d) rfl
      go_simp
      exact hK.out _ W (stp_of hmo d (Below.refl _ _)) (if_pos rfl)
    case o2 =>
      intro At yy W hy hb d hd K hK
      have e1 : yy 1 = .agg #[.int .i64 (N : Int), .int .i64 (M : Int), .int .i64 (st : Int), .slice aF Fi.length cF, .slice aN Nx.length cN] := by obtain ⟨_, _, _, _, e⟩ := hd ⟨1, .data⟩ (by simp) rfl rfl; exact e
      have s107 := (hy 1 _ 107 rfl rfl).trans e1
      have s107' := s107
      rw [Array.getD_eq_getD_getElem?] at s107'
      clear hd hy hb
      go_simp
      go_wp2_with (go_at_call 9; refine (twin_any _ N M st aF aN cF cN Fi Nx (HE.out.2.1.on d) (HE.out.2.2.1.on d) bF (by omega)).mono ?_; rintro e wa ⟨gF3, kF3, gN3, kN3, rfl, HT3, da⟩)
      exact hK.out _ wa (stp_of hmo d da) ⟨gF3, kF3, gN3, kN3, if_pos rfl, HT3.out.f.rd, HT3.out.n.rd⟩
    case o3 =>
      intro At yy W hy hb d hd K hK
      have s1 : At.tmps.getD 1 undef = .pointer (some ⟨w.heap.size, 0, none⟩) := hb 1 rfl
      have s1' := s1
      rw [Array.getD_eq_getD_getElem?] at s1'
      clear hd hy hb
      go_simp
      exact hK.out _ W (stp_of hmo d (Below.refl _ _)) (if_pos rfl)
    case o4 =>
      intro At yy W hy hb d hd K hK
      have e3 : yy 3 = .pointer (some ⟨w.heap.size, 12, none⟩) := by obtain ⟨_, _, _, _, e⟩ := hd ⟨3, .data⟩ (by simp) rfl rfl; exact e
      have s109 := (hy 3 _ 109 rfl rfl).trans e3
      have s109' := s109
      rw [Array.getD_eq_getD_getElem?] at s109'
      clear hd hy hb
      have yb12 : W.cell? ⟨w.heap.size, 12, none⟩ = some (.slice aW Wd.length cW) := cell_of (blk_on HE.out.1 d) rfl
      go_simp
      exact hK.out _ W (stp_of hmo d (Below.refl _ _)) (if_pos rfl)
    case o5 =>
      intro At yy W hy hb d hd K hK
      have e4 : yy 4 = .slice aW Wd.length cW := by obtain ⟨_, _, _, _, e⟩ := hd ⟨4, .data⟩ (by simp) rfl rfl; exact e
      have s110 := (hy 4 _ 110 rfl rfl).trans e4
      have s110' := s110
      rw [Array.getD_eq_getD_getElem?] at s110'
      clear hd hy hb
      go_simp
      go_wp2_with (go_at_call 13; refine (ints_any _ aW Wd cW (hide (HE.out.2.2.2.2.2.1.on d)) bW).mono ?_; rintro e wa ⟨gW3, kW3, rfl, HM3, da⟩)
      exact hK.out _ wa (stp_of hmo d da) ⟨gW3, kW3, if_pos rfl, HM3.out.rd⟩
    case o6 =>
      intro At yy W hy hb d hd K hK
      have f2 := hd ⟨2, .data⟩ (by simp) rfl rfl
      have f5 := hd ⟨5, .data⟩ (by simp) rfl rfl
      obtain ⟨lo2, hi2, hl2, hh2, gF3, kF3, gN3, kN3, e2, ra, rb⟩ := f2
      obtain ⟨lo5, hi5, hl5, hh5, gW3, kW3, e5, rw3⟩ := f5
      have s108 := (hy 2 _ 108 rfl rfl).trans e2
      have s108' := s108
      rw [Array.getD_eq_getD_getElem?] at s108'
      have s111 := (hy 5 _ 111 rfl rfl).trans e5
      have s111' := s111
      rw [Array.getD_eq_getD_getElem?] at s111'
      clear hd hy hb
      go_simp
      go_wp2_with (go_at_call 16; refine (TK1.out _ gF3 kF3 gN3 kN3 gW3 kW3 ra rb rw3).mono ?_; rintro e wa ⟨rfl, da⟩)
      exact hK.out _ wa (stp_of hmo d da) (if_pos rfl)
    case o7 =>
      intro At yy W hy hb d hd K hK
      have e6 : yy 6 = .bool o1 := by obtain ⟨_, _, _, _, e⟩ := hd ⟨6, .data⟩ (by simp) rfl rfl; exact e
      have s112 := (hy 6 _ 112 rfl rfl).trans e6
      have s112' := s112
      rw [Array.getD_eq_getD_getElem?] at s112'
      clear hd hy hb
      go_simp
      exact hK.out _ W (stp_of hmo d (Below.refl _ _)) (if_pos rfl)
    case fin =>
      intro yy lo hi W hM
      show wpList _ _ _ [] _ _
      have e0 : yy 0 = .pointer (some ⟨w.heap.size, 0, none⟩) := hM.fact 0 (by simp) rfl (notR_all 0 rfl)
      have e1 : yy 1 = .agg #[.int .i64 (N : Int), .int .i64 (M : Int), .int .i64 (st : Int), .slice aF Fi.length cF, .slice aN Nx.length cN] := hM.fact 1 (by simp) rfl (notR_all 1 rfl)
      have e3 : yy 3 = .pointer (some ⟨w.heap.size, 12, none⟩) := hM.fact 3 (by simp) rfl (notR_all 3 rfl)
      have e4 : yy 4 = .slice aW Wd.length cW := hM.fact 4 (by simp) rfl (notR_all 4 rfl)
      have e6 : yy 6 = .bool o1 := hM.fact 6 (by simp) rfl (notR_all 6 rfl)
      have e7 : yy 7 = .bool o1 := hM.fact 7 (by simp) rfl (notR_all 7 rfl)
      have dd := hM.d
      simp only [fills, Act.put, List.take, List.length, List.setIfInBounds_toArray, List.set_cons_zero, List.set_cons_succ, e0, e1, e3, e4, e6, e7]
      obtain ⟨gF2, kF2, gN2, kN2, e2, _, _⟩ := hM.fact 2 (by simp) rfl (notR_all 2 rfl)
      obtain ⟨gW5, kW5, e5, _⟩ := hM.fact 5 (by simp) rfl (notR_all 5 rfl)
      rw [e2, e5]
      clear hM hmo e0 e1 e3 e4 e6 e7 e2 e5
      have HE := hide (And.intro (blk_on HE.out.1 dd) (And.intro (HE.out.2.1.on dd) (And.intro (HE.out.2.2.1.on dd) (And.intro (HE.out.2.2.2.1.on dd) (And.intro (HE.out.2.2.2.2.1.on dd) (And.intro (HE.out.2.2.2.2.2.1.on dd) (And.intro (HE.out.2.2.2.2.2.2.1.trans (dd.mono HE.out.2.2.2.2.2.2.1.size)) (And.intro (blk_on HE.out.2.2.2.2.2.2.2.1 dd) (And.intro (HE.out.2.2.2.2.2.2.2.2.1.on dd) (And.intro (HE.out.2.2.2.2.2.2.2.2.2.1.on dd) True.intro))))))))))
      clear dd
      go_upto_region 12 with fail
      have hmo : MonIL 0 [vI 0 (.pointer (some ⟨w.heap.size, 5, none⟩)), vI 1 (.agg #[.int .i64 (N2 : Int), .int .i64 (M : Int), .int .i64 (s2 : Int), .slice aG Gi.length cG, .slice aX Ex.length cX]), pI 2 (twP N2 M s2 Gi Ex), vI 3 (.pointer (some ⟨w.heap.size, 12, none⟩)), vI 4 (.slice aW Wd.length cW), pI 5 (inP Wd), vI 6 (.bool o1), vI 7 (.bool o1)] := ⟨vI_mono _ _, vI_mono _ _, pI_mono twP_mono, vI_mono _ _, vI_mono _ _, pI_mono inP_mono, vI_mono _ _, vI_mono _ _, trivial⟩
      refine wp_region_sl [vI 0 (.pointer (some ⟨w.heap.size, 5, none⟩)), vI 1 (.agg #[.int .i64 (N2 : Int), .int .i64 (M : Int), .int .i64 (s2 : Int), .slice aG Gi.length cG, .slice aX Ex.length cX]), pI 2 (twP N2 M s2 Gi Ex), vI 3 (.pointer (some ⟨w.heap.size, 12, none⟩)), vI 4 (.slice aW Wd.length cW), pI 5 (inP Wd), vI 6 (.bool o1), vI 7 (.bool o1)] (by kernel_rfl) (by kernel_rfl) (by kernel_rfl) (by kernel_rfl) hmo ⟨?o0, ?o1, ?o2, ?o3, ?o4, ?o5, ?o6, ?o7, trivial⟩ ?fin
      case o0 =>
        intro At yy W hy hb d hd K hK
        have s1 : At.tmps.getD 1 undef = .pointer (some ⟨w.heap.size, 0, none⟩) := hb 1 rfl
        have s1' := s1
        rw [Array.getD_eq_getD_getElem?] at s1'
        clear hd hy hb
        go_simp
        exact hK.out _ W (stp_of hmo d (Below.refl _ _)) (if_pos rfl)
      case o1 =>
        intro At yy W hy hb d hd K hK
        have e0 : yy 0 = .pointer (some ⟨w.heap.size, 5, none⟩) := by obtain ⟨_, _, _, _, e⟩ := hd ⟨0, .data⟩ (by simp) rfl rfl; exact e
        have s113 := (hy 0 _ 113 rfl rfl).trans e0
        have s113' := s113
        rw [Array.getD_eq_getD_getElem?] at s113'
        clear hd hy hb
        have yb5 : W.cell? ⟨w.heap.size, 5, none⟩ = some (.int .i64 (N2 : Int)) := cell_of (blk_on HE.out.1 d) rfl
        have yb6 : W.cell? ⟨w.heap.size, 6, none⟩ = some (.int .i64 (M : Int)) := cell_of (blk_on HE.out.1 d) rfl
        have yb7 : W.cell? ⟨w.heap.size, 7, none⟩ = some (.int .i64 (s2 : Int)) := cell_of (blk_on HE.out.1 d) rfl
        have yb8 : W.cell? ⟨w.heap.size, 8, none⟩ = some (.slice aG Gi.length cG) := cell_of (blk_on HE.out.1 d) rfl
        have yb9 : W.cell? ⟨w.heap.size, 9, none⟩ = some (.slice aX Ex.length cX) := cell_of (blk_on HE.out.1 d) rfl
        go_simp
        exact hK.out _ W (stp_of hmo d (Below.refl _ _)) (if_pos rfl)
      case o2 =>
        intro At yy W hy hb d hd K hK
        have e1 : yy 1 = .agg #[.int .i64 (N2 : Int), .int .i64 (M : Int), .int .i64 (s2 : Int), .slice aG Gi.length cG, .slice aX Ex.length cX] := by obtain ⟨_, _, _, _, e⟩ := hd ⟨1, .data⟩ (by simp) rfl rfl; exact e
        have s114 := (hy 1 _ 114 rfl rfl).trans e1
        have s114' := s114
        rw [Array.getD_eq_getD_getElem?] at s114'
        clear hd hy hb
        go_simp
        go_wp2_with (go_at_call 9; refine (twin_any _ N2 M s2 aG aX cG cX Gi Ex (HE.out.2.2.2.1.on d) (HE.out.2.2.2.2.1.on d) bG (by omega)).mono ?_; rintro e wa ⟨gF3, kF3, gN3, kN3, rfl, HT3, da⟩)
        exact hK.out _ wa (stp_of hmo d da) ⟨gF3, kF3, gN3, kN3, if_pos rfl, HT3.out.f.rd, HT3.out.n.rd⟩
      case o3 =>
        intro At yy W hy hb d hd K hK
        have s1 : At.tmps.getD 1 undef = .pointer (some ⟨w.heap.size, 0, none⟩) := hb 1 rfl
        have s1' := s1
        rw [Array.getD_eq_getD_getElem?] at s1'
        clear hd hy hb
        go_simp
        exact hK.out _ W (stp_of hmo d (Below.refl _ _)) (if_pos rfl)
      case o4 =>
        intro At yy W hy hb d hd K hK
        have e3 : yy 3 = .pointer (some ⟨w.heap.size, 12, none⟩) := by obtain ⟨_, _, _, _, e⟩ := hd ⟨3, .data⟩ (by simp) rfl rfl; exact e
        have s116 := (hy 3 _ 116 rfl rfl).trans e3
        have s116' := s116
        rw [Array.getD_eq_getD_getElem?] at s116'
        clear hd hy hb
        have yb12 : W.cell? ⟨w.heap.size, 12, none⟩ = some (.slice aW Wd.length cW) := cell_of (blk_on HE.out.1 d) rfl
        go_simp
        exact hK.out _ W (stp_of hmo d (Below.refl _ _)) (if_pos rfl)
      case o5 =>
        intro At yy W hy hb d hd K hK
        have e4 : yy 4 = .slice aW Wd.length cW := by obtain ⟨_, _, _, _, e⟩ := hd ⟨4, .data⟩ (by simp) rfl rfl; exact e
        have s117 := (hy 4 _ 117 rfl rfl).trans e4
        have s117' := s117
        rw [Array.getD_eq_getD_getElem?] at s117'
        clear hd hy hb
        go_simp
        go_wp2_with (go_at_call 13; refine (ints_any _ aW Wd cW (hide (HE.out.2.2.2.2.2.1.on d)) bW).mono ?_; rintro e wa ⟨gW3, kW3, rfl, HM3, da⟩)
        exact hK.out _ wa (stp_of hmo d da) ⟨gW3, kW3, if_pos rfl, HM3.out.rd⟩
      case o6 =>
        intro At yy W hy hb d hd K hK
        have f2 := hd ⟨2, .data⟩ (by simp) rfl rfl
        have f5 := hd ⟨5, .data⟩ (by simp) rfl rfl
        obtain ⟨lo2, hi2, hl2, hh2, gF3, kF3, gN3, kN3, e2, ra, rb⟩ := f2
        obtain ⟨lo5, hi5, hl5, hh5, gW3, kW3, e5, rw3⟩ := f5
        have s115 := (hy 2 _ 115 rfl rfl).trans e2
        have s115' := s115
        rw [Array.getD_eq_getD_getElem?] at s115'
        have s118 := (hy 5 _ 118 rfl rfl).trans e5
        have s118' := s118
        rw [Array.getD_eq_getD_getElem?] at s118'
        clear hd hy hb
        go_simp
        go_wp2_with (go_at_call 16; refine (TK2.out _ gF3 kF3 gN3 kN3 gW3 kW3 ra rb rw3).mono ?_; rintro e wa ⟨rfl, da⟩)
        exact hK.out _ wa (stp_of hmo d da) (if_pos rfl)
      case o7 =>
        intro At yy W hy hb d hd K hK
        have e6 : yy 6 = .bool o1 := by obtain ⟨_, _, _, _, e⟩ := hd ⟨6, .data⟩ (by simp) rfl rfl; exact e
        have s119 := (hy 6 _ 119 rfl rfl).trans e6
        have s119' := s119
        rw [Array.getD_eq_getD_getElem?] at s119'
        clear hd hy hb
        go_simp
        exact hK.out _ W (stp_of hmo d (Below.refl _ _)) (if_pos rfl)
      case fin =>
        intro yy lo hi W hM
        show wpList _ _ _ [] _ _
        have e0 : yy 0 = .pointer (some ⟨w.heap.size, 5, none⟩) := hM.fact 0 (by simp) rfl (notR_all 0 rfl)
        have e1 : yy 1 = .agg #[.int .i64 (N2 : Int), .int .i64 (M : Int), .int .i64 (s2 : Int), .slice aG Gi.length cG, .slice aX Ex.length cX] := hM.fact 1 (by simp) rfl (notR_all 1 rfl)
        have e3 : yy 3 = .pointer (some ⟨w.heap.size, 12, none⟩) := hM.fact 3 (by simp) rfl (notR_all 3 rfl)
        have e4 : yy 4 = .slice aW Wd.length cW := hM.fact 4 (by simp) rfl (notR_all 4 rfl)
        have e6 : yy 6 = .bool o1 := hM.fact 6 (by simp) rfl (notR_all 6 rfl)
        have e7 : yy 7 = .bool o1 := hM.fact 7 (by simp) rfl (notR_all 7 rfl)
        have dd := hM.d
        simp only [fills, Act.put, List.take, List.length, List.setIfInBounds_toArray, List.set_cons_zero, List.set_cons_succ, e0, e1, e3, e4, e6, e7]
        obtain ⟨gF2, kF2, gN2, kN2, e2, _, _⟩ := hM.fact 2 (by simp) rfl (notR_all 2 rfl)
        obtain ⟨gW5, kW5, e5, _⟩ := hM.fact 5 (by simp) rfl (notR_all 5 rfl)
        rw [e2, e5]
        clear hM hmo e0 e1 e3 e4 e6 e7 e2 e5
        have HE := hide (And.intro (blk_on HE.out.1 dd) (And.intro (HE.out.2.1.on dd) (And.intro (HE.out.2.2.1.on dd) (And.intro (HE.out.2.2.2.1.on dd) (And.intro (HE.out.2.2.2.2.1.on dd) (And.intro (HE.out.2.2.2.2.2.1.on dd) (And.intro (HE.out.2.2.2.2.2.2.1.trans (dd.mono HE.out.2.2.2.2.2.2.1.size)) (And.intro (blk_on HE.out.2.2.2.2.2.2.2.1 dd) (And.intro (HE.out.2.2.2.2.2.2.2.2.1.on dd) (And.intro (HE.out.2.2.2.2.2.2.2.2.2.1.on dd) True.intro))))))))))
        clear dd
        go_upto_region 13 with fail
        have hmo : MonIL 0 [vI 0 (.agg #[.int .i64 (n : Int), .int .i64 (M : Int), .int .i64 0, .slice uF mF c5, .slice uN mN c6]), vI 1 (.pointer (some ⟨w.heap.size, 12, none⟩)), vI 2 (.slice aW Wd.length cW), pI 3 (inP Wd), vI 4 (.bool o1), vI 5 (.bool o1), vI 6 (.bool false)] := ⟨vI_mono _ _, vI_mono _ _, vI_mono _ _, pI_mono inP_mono, vI_mono _ _, vI_mono _ _, vI_mono _ _, trivial⟩
        refine wp_region_sl [vI 0 (.agg #[.int .i64 (n : Int), .int .i64 (M : Int), .int .i64 0, .slice uF mF c5, .slice uN mN c6]), vI 1 (.pointer (some ⟨w.heap.size, 12, none⟩)), vI 2 (.slice aW Wd.length cW), pI 3 (inP Wd), vI 4 (.bool o1), vI 5 (.bool o1), vI 6 (.bool false)] (by kernel_rfl) (by kernel_rfl) (by kernel_rfl) (by kernel_rfl) hmo ⟨?o0, ?o1, ?o2, ?o3, ?o4, ?o5, ?o6, trivial⟩ ?fin
        case o0 =>
          intro At yy W hy hb d hd K hK
          have s3 : At.tmps.getD 3 undef = .pointer (some ⟨bm, 0, none⟩) := hb 3 rfl
          have s3' := s3
          rw [Array.getD_eq_getD_getElem?] at s3'
          clear hd hy hb
          have ym0 : W.cell? ⟨bm, 0, none⟩ = some (.int .i64 (n : Int)) := cell_of (blk_on HE.out.2.2.2.2.2.2.2.1 d) rfl
          have ym1 : W.cell? ⟨bm, 1, none⟩ = some (.int .i64 (M : Int)) := cell_of (blk_on HE.out.2.2.2.2.2.2.2.1 d) rfl
          have ym2 : W.cell? ⟨bm, 2, none⟩ = some (.int .i64 0) := cell_of (blk_on HE.out.2.2.2.2.2.2.2.1 d) rfl
          have ym3 : W.cell? ⟨bm, 3, none⟩ = some (.slice uF mF c5) := cell_of (blk_on HE.out.2.2.2.2.2.2.2.1 d) rfl
          have ym4 : W.cell? ⟨bm, 4, none⟩ = some (.slice uN mN c6) := cell_of (blk_on HE.out.2.2.2.2.2.2.2.1 d) rfl
          go_simp
          exact hK.out _ W (stp_of hmo d (Below.refl _ _)) (if_pos rfl)
        case o1 =>
          intro At yy W hy hb d hd K hK
          have s1 : At.tmps.getD 1 undef = .pointer (some ⟨w.heap.size, 0, none⟩) := hb 1 rfl
          have s1' := s1
          rw [Array.getD_eq_getD_getElem?] at s1'
          clear hd hy hb
          go_simp
          exact hK.out _ W (stp_of hmo d (Below.refl _ _)) (if_pos rfl)
        case o2 =>
          intro At yy W hy hb d hd K hK
          have e1 : yy 1 = .pointer (some ⟨w.heap.size, 12, none⟩) := by obtain ⟨_, _, _, _, e⟩ := hd ⟨1, .data⟩ (by simp) rfl rfl; exact e
          have s121 := (hy 1 _ 121 rfl rfl).trans e1
          have s121' := s121
          rw [Array.getD_eq_getD_getElem?] at s121'
          clear hd hy hb
          have yb12 : W.cell? ⟨w.heap.size, 12, none⟩ = some (.slice aW Wd.length cW) := cell_of (blk_on HE.out.1 d) rfl
          go_simp
          exact hK.out _ W (stp_of hmo d (Below.refl _ _)) (if_pos rfl)
        case o3 =>
          intro At yy W hy hb d hd K hK
          have e2 : yy 2 = .slice aW Wd.length cW := by obtain ⟨_, _, _, _, e⟩ := hd ⟨2, .data⟩ (by simp) rfl rfl; exact e
          have s122 := (hy 2 _ 122 rfl rfl).trans e2
          have s122' := s122
          rw [Array.getD_eq_getD_getElem?] at s122'
          clear hd hy hb
          go_simp
          go_wp2_with (go_at_call 13; refine (ints_any _ aW Wd cW (hide (HE.out.2.2.2.2.2.1.on d)) bW).mono ?_; rintro e wa ⟨gW3, kW3, rfl, HM3, da⟩)
          exact hK.out _ wa (stp_of hmo d da) ⟨gW3, kW3, if_pos rfl, HM3.out.rd⟩
        case o4 =>
          intro At yy W hy hb d hd K hK
          have e0 : yy 0 = .agg #[.int .i64 (n : Int), .int .i64 (M : Int), .int .i64 0, .slice uF mF c5, .slice uN mN c6] := by obtain ⟨_, _, _, _, e⟩ := hd ⟨0, .data⟩ (by simp) rfl rfl; exact e
          have f3 := hd ⟨3, .data⟩ (by simp) rfl rfl
          obtain ⟨lo3, hi3, hl3, hh3, gW3, kW3, e3, rw3⟩ := f3
          have s120 := (hy 0 _ 120 rfl rfl).trans e0
          have s120' := s120
          rw [Array.getD_eq_getD_getElem?] at s120'
          have s123 := (hy 3 _ 123 rfl rfl).trans e3
          have s123' := s123
          rw [Array.getD_eq_getD_getElem?] at s123'
          clear hd hy hb
          go_simp
          go_wp2_with (go_at_call 16; refine (TKM.out _ gW3 kW3 (HE.out.2.2.2.2.2.2.2.2.1.on d) (HE.out.2.2.2.2.2.2.2.2.2.1.on d) rw3).mono ?_; rintro e wa ⟨rfl, da⟩)
          exact hK.out _ wa (stp_of hmo d da) (if_pos rfl)
        case o5 =>
          intro At yy W hy hb d hd K hK
          have s11 : At.tmps.getD 11 undef = .bool o1 := hb 11 rfl
          have s11' := s11
          rw [Array.getD_eq_getD_getElem?] at s11'
          clear hd hy hb
          go_simp
          exact hK.out _ W (stp_of hmo d (Below.refl _ _)) (if_pos rfl)
        case o6 =>
          intro At yy W hy hb d hd K hK
          have e4 : yy 4 = .bool o1 := by obtain ⟨_, _, _, _, e⟩ := hd ⟨4, .data⟩ (by simp) rfl rfl; exact e
          have e5 : yy 5 = .bool o1 := by obtain ⟨_, _, _, _, e⟩ := hd ⟨5, .data⟩ (by simp) rfl rfl; exact e
          have hoo : (o1 != o1) = false := by simp
          have s124 := (hy 4 _ 124 rfl rfl).trans e4
          have s124' := s124
          rw [Array.getD_eq_getD_getElem?] at s124'
          have s125 := (hy 5 _ 125 rfl rfl).trans e5
          have s125' := s125
          rw [Array.getD_eq_getD_getElem?] at s125'
          clear hd hy hb
          go_simp
          exact hK.out _ W (stp_of hmo d (Below.refl _ _)) (if_pos rfl)
        case fin =>
          intro yy lo hi W hM
          show wpList _ _ _ [] _ _
          have e0 : yy 0 = .agg #[.int .i64 (n : Int), .int .i64 (M : Int), .int .i64 0, .slice uF mF c5, .slice uN mN c6] := hM.fact 0 (by simp) rfl (notR_all 0 rfl)
          have e1 : yy 1 = .pointer (some ⟨w.heap.size, 12, none⟩) := hM.fact 1 (by simp) rfl (notR_all 1 rfl)
          have e2 : yy 2 = .slice aW Wd.length cW := hM.fact 2 (by simp) rfl (notR_all 2 rfl)
          have e4 : yy 4 = .bool o1 := hM.fact 4 (by simp) rfl (notR_all 4 rfl)
          have e5 : yy 5 = .bool o1 := hM.fact 5 (by simp) rfl (notR_all 5 rfl)
          have e6 : yy 6 = .bool false := hM.fact 6 (by simp) rfl (notR_all 6 rfl)
          have dd := hM.d
          simp only [fills, Act.put, List.take, List.length, List.setIfInBounds_toArray, List.set_cons_zero, List.set_cons_succ, e0, e1, e2, e4, e5, e6]
          obtain ⟨gW3, kW3, e3, _⟩ := hM.fact 3 (by simp) rfl (notR_all 3 rfl)
          rw [e3]
          clear hM hmo e0 e1 e2 e4 e5 e6 e3
          have HE := hide (And.intro (blk_on HE.out.1 dd) (And.intro (HE.out.2.1.on dd) (And.intro (HE.out.2.2.1.on dd) (And.intro (HE.out.2.2.2.1.on dd) (And.intro (HE.out.2.2.2.2.1.on dd) (And.intro (HE.out.2.2.2.2.2.1.on dd) (And.intro (HE.out.2.2.2.2.2.2.1.trans (dd.mono HE.out.2.2.2.2.2.2.1.size)) (And.intro (blk_on HE.out.2.2.2.2.2.2.2.1 dd) (And.intro (HE.out.2.2.2.2.2.2.2.2.1.on dd) (And.intro (HE.out.2.2.2.2.2.2.2.2.2.1.on dd) True.intro))))))))))
          clear dd
          have hoo : (o1 == o1) = true := by simp
          have y5 : W.cell? ⟨w.heap.size, 5, none⟩ = some (.int .i64 (N2 : Int)) := cell_of HE.out.1 rfl
          have z0 : W.cell? ⟨bm, 0, none⟩ = some (.int .i64 (n : Int)) := cell_of HE.out.2.2.2.2.2.2.2.1 rfl
          have l5 : (n : Int) ≤ (N2 : Int) := HLE.out
          go_wp2_with fail
          go_ret
          exact ⟨rfl, HE.out.2.2.2.2.2.2.1⟩
set_option maxRecDepth 100000 in
set_option maxHeartbeats 4000000 in
theorem words_told (w : World) (N M st N2 s2 : Nat) (aF aN aG aX aW : Option Addr) (cF cN cG cX cW : Nat) (Fi Nx Gi Ex Wd : List Int) (x10 x11 : Value) (hF : RdN w aF Fi) (hN : RdN w aN Nx) (hG : RdN w aG Gi) (hX : RdN w aX Ex) (hW : RdN w aW Wd) (bF : Fi.length ≤ 4194304) (bN : Nx.length ≤ 2097152) (bG : Gi.length ≤ 4194304) (bX : Ex.length ≤ 2097152) (bW : Wd.length ≤ 4194304) (hv : vd N M st Fi Nx = true) (hv2 : vd N2 M s2 Gi Ex = true) (he : ¬ Eqv Fi Nx Gi Ex M st s2) :
    Calls Try.prog 5 #[.agg #[.int .i64 (N : Int), .int .i64 (M : Int), .int .i64 (st : Int), .slice aF Fi.length cF, .slice aN Nx.length cN, .int .i64 (N2 : Int), .int .i64 (M : Int), .int .i64 (s2 : Int), .slice aG Gi.length cG, .slice aX Ex.length cX, x10, x11, .slice aW Wd.length cW]] w fun e w' => e = .returned (.bool true) ∧ Below w.heap.size w w' := by
  obtain ⟨W0, hW0⟩ : ∃ W, w.alloc (.cells #[.int .i64 (N : Int), .int .i64 (M : Int), .int .i64 (st : Int), .slice aF Fi.length cF, .slice aN Nx.length cN, .int .i64 (N2 : Int), .int .i64 (M : Int), .int .i64 (s2 : Int), .slice aG Gi.length cG, .slice aX Ex.length cX, x10, x11, .slice aW Wd.length cW] 26) = W := ⟨_, rfl⟩
  have d0 : Below w.heap.size w W0 := by rw [← hW0]; exact (Below.refl _ _).alloc (Nat.le_refl _) _
  have B0 : W0.heap[w.heap.size]? = some (.cells #[.int .i64 (N : Int), .int .i64 (M : Int), .int .i64 (st : Int), .slice aF Fi.length cF, .slice aN Nx.length cN, .int .i64 (N2 : Int), .int .i64 (M : Int), .int .i64 (s2 : Int), .slice aG Gi.length cG, .slice aX Ex.length cX, x10, x11, .slice aW Wd.length cW] 26 (0, 0)) := by rw [← hW0]; exact World.alloc_heap_new _ _
  have HW := hide (And.intro d0 (And.intro B0 (And.intro (hF.on d0) (And.intro (hN.on d0) (And.intro (hG.on d0) (And.intro (hX.on d0) (hW.on d0)))))))
  clear d0 B0 hF hN hG hX hW
  have HN9 := hide (show N ≤ 4096 ∧ N2 ≤ 4096 by obtain ⟨n0, m0, s0, en, em, es, n1, n2, _⟩ := vd_nat hv; obtain ⟨n0', m0', s0', en', em', es', n1', n2', _⟩ := vd_nat hv2; omega)
  have HV := hide (And.intro hv (And.intro hv2 he))
  clear hv hv2 he
  go_enter Try.func5, Try.ntmps5
  go_upto_region 3 with (go_at_call 7; refine (works_any _).mono ?_; rintro e w1 ⟨rfl, D1⟩)
  have H1 := hide (And.intro (blk_on HW.out.2.1 D1) (And.intro (HW.out.2.2.1.on D1) (And.intro (HW.out.2.2.2.1.on D1) (And.intro (HW.out.2.2.2.2.1.on D1) (And.intro (HW.out.2.2.2.2.2.1.on D1) (And.intro (HW.out.2.2.2.2.2.2.on D1) (HW.out.1.trans (D1.mono HW.out.1.size))))))))
  clear D1 HW
  have k0 : w1.cell? ⟨w.heap.size, 0, none⟩ = some (.int .i64 (N : Int)) := cell_of H1.out.1 rfl
  have k1 : w1.cell? ⟨w.heap.size, 1, none⟩ = some (.int .i64 (M : Int)) := cell_of H1.out.1 rfl
  have k2 : w1.cell? ⟨w.heap.size, 2, none⟩ = some (.int .i64 (st : Int)) := cell_of H1.out.1 rfl
  have k3 : w1.cell? ⟨w.heap.size, 3, none⟩ = some (.slice aF Fi.length cF) := cell_of H1.out.1 rfl
  have k4 : w1.cell? ⟨w.heap.size, 4, none⟩ = some (.slice aN Nx.length cN) := cell_of H1.out.1 rfl
  have T9 := twin_any w1 N M st aF aN cF cN Fi Nx H1.out.2.1 H1.out.2.2.1 bF (by omega)
  go_upto_region 4 with (first | (go_at_call 9; refine T9.mono ?_; rintro e w2 ⟨gF, kF, gN, kN, rfl, HT, D2⟩; have T8 := minimal_form w2 N M st (some ⟨gF, 0, none⟩) (some ⟨gN, 0, none⟩) Fi.length kF Nx.length kN Fi Nx HT.out.f.rd HT.out.n.rd rfl rfl bF (by omega) HV.out.1; have HD2 := hide D2; clear D2 k0 k1 k2 k3 k4) | (go_at_call 8; refine T8.mono ?_; rintro e w3 ⟨n, uF, mF, c5, uN, mN, c6, T, K, al, rfl, HA⟩; have HD3 := hide (HD2.out.trans (HA.out.2.2.2.2.2.2.mono HD2.out.size)); obtain ⟨bm, hbm⟩ : ∃ x, w3.heap.size = x := ⟨_, rfl⟩))
  obtain ⟨w4, hw4⟩ : ∃ W, w3.alloc (.cells #[.int .i64 (n : Int), .int .i64 (M : Int), .int .i64 0, .slice uF mF c5, .slice uN mN c6] 24) = W := ⟨_, rfl⟩
  try rw [hbm]
  rw [hw4]
  have D34 : Below w3.heap.size w3 w4 := by rw [← hw4]; exact (Below.refl _ _).alloc (Nat.le_refl _) _
  have X4 : w4.heap[bm]? = some (.cells #[.int .i64 (n : Int), .int .i64 (M : Int), .int .i64 0, .slice uF mF c5, .slice uN mN c6] 24 (0, 0)) := by rw [← hw4, ← hbm]; exact World.alloc_heap_new _ _
  have D14 := HD3.out.trans (D34.mono HD3.out.size)
  have H4 := hide (And.intro (blk_on H1.out.1 D14) (And.intro (H1.out.2.1.on D14) (And.intro (H1.out.2.2.1.on D14) (And.intro (H1.out.2.2.2.1.on D14) (And.intro (H1.out.2.2.2.2.1.on D14) (And.intro (H1.out.2.2.2.2.2.1.on D14) (And.intro (H1.out.2.2.2.2.2.2.trans (D14.mono H1.out.2.2.2.2.2.2.size)) (And.intro X4 (And.intro (HA.out.2.2.1.on D34) (HA.out.2.2.2.1.on D34))))))))))
  have HM1 := hide HA.out.1
  have HZ := mnS_facts HA.out.1 HV.out.1
  have HLE1 := hide (show n ≤ N by rw [← HA.out.2.1]; exact HZ.2.2.1)
  have HLN := hide (show T.length = n ∧ Eqv Fi Nx (mnF Fi T) (mnX Nx M T al) M st 0 ∧ vd (n : Nat) M (0 : Nat) (mnF Fi T) (mnX Nx M T al) = true ∧ (mnF Fi T).length = mF ∧ (mnX Nx M T al).length = mN ∧ mF ≤ 4194304 ∧ mN ≤ 2097152 from ⟨HA.out.2.1, HZ.2.1, by rw [← HA.out.2.1]; exact HZ.1, HA.out.2.2.2.2.1, HA.out.2.2.2.2.2.1, by rw [← HA.out.2.2.2.2.1]; exact HZ.2.2.2.2.1, by rw [← HA.out.2.2.2.2.2.1]; exact HZ.2.2.2.2.2⟩)
  clear hw4 hbm D34 X4 D14 HD2 HD3 H1 T8 T9 HT HA HZ
  have k5 : w4.cell? ⟨w.heap.size, 5, none⟩ = some (.int .i64 (N2 : Int)) := cell_of H4.out.1 rfl
  have k6 : w4.cell? ⟨w.heap.size, 6, none⟩ = some (.int .i64 (M : Int)) := cell_of H4.out.1 rfl
  have k7 : w4.cell? ⟨w.heap.size, 7, none⟩ = some (.int .i64 (s2 : Int)) := cell_of H4.out.1 rfl
  have k8 : w4.cell? ⟨w.heap.size, 8, none⟩ = some (.slice aG Gi.length cG) := cell_of H4.out.1 rfl
  have k9 : w4.cell? ⟨w.heap.size, 9, none⟩ = some (.slice aX Ex.length cX) := cell_of H4.out.1 rfl
  have T9 := twin_any w4 N2 M s2 aG aX cG cX Gi Ex H4.out.2.2.2.1 H4.out.2.2.2.2.1 bG (by omega)
  go_upto_region 5 with (first | (go_at_call 9; refine T9.mono ?_; rintro e w5 ⟨gF2, kF2, gN2, kN2, rfl, HT, D2⟩; have T8 := minimal_form w5 N2 M s2 (some ⟨gF2, 0, none⟩) (some ⟨gN2, 0, none⟩) Gi.length kF2 Ex.length kN2 Gi Ex HT.out.f.rd HT.out.n.rd rfl rfl bG (by omega) HV.out.2.1; have HD2 := hide D2; clear D2 k5 k6 k7 k8 k9) | (go_at_call 8; refine T8.mono ?_; rintro e w6 ⟨n2, vF, lF9, d5, vN, lN9, d6, T2, K2, al2, rfl, HB⟩; have HD3 := hide (HD2.out.trans (HB.out.2.2.2.2.2.2.mono HD2.out.size)); obtain ⟨bn, hbn⟩ : ∃ x, w6.heap.size = x := ⟨_, rfl⟩))
  obtain ⟨w7, hw7⟩ : ∃ W, w6.alloc (.cells #[.int .i64 (n2 : Int), .int .i64 (M : Int), .int .i64 0, .slice vF lF9 d5, .slice vN lN9 d6] 24) = W := ⟨_, rfl⟩
  try rw [hbn]
  rw [hw7]
  have D67 : Below w6.heap.size w6 w7 := by rw [← hw7]; exact (Below.refl _ _).alloc (Nat.le_refl _) _
  have X7 : w7.heap[bn]? = some (.cells #[.int .i64 (n2 : Int), .int .i64 (M : Int), .int .i64 0, .slice vF lF9 d5, .slice vN lN9 d6] 24 (0, 0)) := by rw [← hw7, ← hbn]; exact World.alloc_heap_new _ _
  have D47 := HD3.out.trans (D67.mono HD3.out.size)
  have HE := hide (And.intro (blk_on H4.out.1 D47) (And.intro (H4.out.2.1.on D47) (And.intro (H4.out.2.2.1.on D47) (And.intro (H4.out.2.2.2.1.on D47) (And.intro (H4.out.2.2.2.2.1.on D47) (And.intro (H4.out.2.2.2.2.2.1.on D47) (And.intro (H4.out.2.2.2.2.2.2.1.trans (D47.mono H4.out.2.2.2.2.2.2.1.size)) (And.intro (blk_on H4.out.2.2.2.2.2.2.2.1 D47) (And.intro (H4.out.2.2.2.2.2.2.2.2.1.on D47) (And.intro (H4.out.2.2.2.2.2.2.2.2.2.on D47) True.intro))))))))))
  have HN := hide (And.intro X7 (And.intro (HB.out.2.2.1.on D67) (HB.out.2.2.2.1.on D67)))
  have HZ := mnS_facts HB.out.1 HV.out.2.1
  have HN2 := hide (show MnS N2 M s2 Gi Ex T2 K2 al2 ∧ T2.length = n2 ∧ (mnF Gi T2).length = lF9 ∧ (mnX Ex M T2 al2).length = lN9 ∧ lF9 ≤ 4194304 ∧ lN9 ≤ 2097152 from ⟨HB.out.1, HB.out.2.1, HB.out.2.2.2.2.1, HB.out.2.2.2.2.2.1, by rw [← HB.out.2.2.2.2.1]; exact HZ.2.2.2.2.1, by rw [← HB.out.2.2.2.2.2.1]; exact HZ.2.2.2.2.2⟩)
  clear hw7 hbn D67 X7 D47 HD2 HD3 H4 T8 T9 HT HB HZ
  have TEQ : Hid (∀ W gF3 kF3 gN3 kN3 gG3 kG3 gX3 kX3, RdN W (some ⟨gF3, 0, none⟩) Fi → RdN W (some ⟨gN3, 0, none⟩) Nx → RdN W (some ⟨gG3, 0, none⟩) Gi → RdN W (some ⟨gX3, 0, none⟩) Ex → Calls Try.prog 18 #[.agg #[.int .i64 (N : Int), .int .i64 (M : Int), .int .i64 (st : Int), .slice (some ⟨gF3, 0, none⟩) Fi.length kF3, .slice (some ⟨gN3, 0, none⟩) Nx.length kN3], .agg #[.int .i64 (N2 : Int), .int .i64 (M : Int), .int .i64 (s2 : Int), .slice (some ⟨gG3, 0, none⟩) Gi.length kG3, .slice (some ⟨gX3, 0, none⟩) Ex.length kX3]] W fun e w' => ∃ b c u, e = .returned (.tuple #[.bool false, .slice b (natI u).length c, .int .i64 0]) ∧ TlE Fi Nx Gi Ex (N + N2) M st s2 u ∧ RdN w' b (natI u) ∧ Below W.heap.size W w') := hide (fun W gF3 kF3 gN3 kN3 gG3 kG3 gX3 kX3 h1 h2 h3 h4 => equal_told W N M st N2 s2 (some ⟨gF3, 0, none⟩) (some ⟨gN3, 0, none⟩) (some ⟨gG3, 0, none⟩) (some ⟨gX3, 0, none⟩) Fi.length kF3 Nx.length kN3 Gi.length kG3 Ex.length kX3 Fi Nx Gi Ex h1 h2 h3 h4 rfl rfl rfl rfl bF bN bG bX HV.out.1 HV.out.2.1 HV.out.2.2)
  have hmo : MonIL 0 [vI 0 (.pointer (some ⟨w.heap.size, 0, none⟩)), vI 1 (.agg #[.int .i64 (N : Int), .int .i64 (M : Int), .int .i64 (st : Int), .slice aF Fi.length cF, .slice aN Nx.length cN]), pI 2 (twP N M st Fi Nx), vI 3 (.pointer (some ⟨w.heap.size, 5, none⟩)), vI 4 (.agg #[.int .i64 (N2 : Int), .int .i64 (M : Int), .int .i64 (s2 : Int), .slice aG Gi.length cG, .slice aX Ex.length cX]), pI 5 (twP N2 M s2 Gi Ex), pI 6 (eqP Fi Nx Gi Ex (N + N2) M st s2), pI 7 (eqP Fi Nx Gi Ex (N + N2) M st s2), vI 8 (.bool false), pI 9 (eqS Fi Nx Gi Ex (N + N2) M st s2), vI 10 (.int .i64 0), vI 11 (.bool false), pI 12 (eqS Fi Nx Gi Ex (N + N2) M st s2), vI 13 (.int .i64 0)] := ⟨vI_mono _ _, vI_mono _ _, pI_mono twP_mono, vI_mono _ _, vI_mono _ _, pI_mono twP_mono, pI_mono eqP_mono, pI_mono eqP_mono, vI_mono _ _, pI_mono eqS_mono, vI_mono _ _, vI_mono _ _, pI_mono eqS_mono, vI_mono _ _, trivial⟩
  refine wp_region_sl [vI 0 (.pointer (some ⟨w.heap.size, 0, none⟩)), vI 1 (.agg #[.int .i64 (N : Int), .int .i64 (M : Int), .int .i64 (st : Int), .slice aF Fi.length cF, .slice aN Nx.length cN]), pI 2 (twP N M st Fi Nx), vI 3 (.pointer (some ⟨w.heap.size, 5, none⟩)), vI 4 (.agg #[.int .i64 (N2 : Int), .int .i64 (M : Int), .int .i64 (s2 : Int), .slice aG Gi.length cG, .slice aX Ex.length cX]), pI 5 (twP N2 M s2 Gi Ex), pI 6 (eqP Fi Nx Gi Ex (N + N2) M st s2), pI 7 (eqP Fi Nx Gi Ex (N + N2) M st s2), vI 8 (.bool false), pI 9 (eqS Fi Nx Gi Ex (N + N2) M st s2), vI 10 (.int .i64 0), vI 11 (.bool false), pI 12 (eqS Fi Nx Gi Ex (N + N2) M st s2), vI 13 (.int .i64 0)] (by kernel_rfl) (by kernel_rfl) (by kernel_rfl) (by kernel_rfl) hmo ⟨?o0, ?o1, ?o2, ?o3, ?o4, ?o5, ?o6, ?o7, ?o8, ?o9, ?o10, ?o11, ?o12, ?o13, trivial⟩ ?fin
  case o0 =>
    intro At yy W hy hb d hd K hK
    have s1 : At.tmps.getD 1 undef = .pointer (some ⟨w.heap.size, 0, none⟩) := hb 1 rfl
    have s1' := s1
    rw [Array.getD_eq_getD_getElem?] at s1'
    clear hd hy hb
    go_simp
    exact hK.out _ W (stp_of hmo d (Below.refl _ _)) (if_pos rfl)
  case o1 =>
    intro At yy W hy hb d hd K hK
    have e0 : yy 0 = .pointer (some ⟨w.heap.size, 0, none⟩) := by obtain ⟨_, _, _, _, e⟩ := hd ⟨0, .data⟩ (by simp) rfl rfl; exact e
    have s30 := (hy 0 _ 30 rfl rfl).trans e0
    have s30' := s30
    rw [Array.getD_eq_getD_getElem?] at s30'
    clear hd hy hb
    have yb0 : W.cell? ⟨w.heap.size, 0, none⟩ = some (.int .i64 (N : Int)) := cell_of (blk_on HE.out.1 d) rfl
    have yb1 : W.cell? ⟨w.heap.size, 1, none⟩ = some (.int .i64 (M : Int)) := cell_of (blk_on HE.out.1 d) rfl
    have yb2 : W.cell? ⟨w.heap.size, 2, none⟩ = some (.int .i64 (st : Int)) := cell_of (blk_on HE.out.1 d) rfl
    have yb3 : W.cell? ⟨w.heap.size, 3, none⟩ = some (.slice aF Fi.length cF) := cell_of (blk_on HE.out.1 d) rfl
    have yb4 : W.cell? ⟨w.heap.size, 4, none⟩ = some (.slice aN Nx.length cN) := cell_of (blk_on HE.out.1 d) rfl
    go_simp
    exact hK.out _ W (stp_of hmo d (Below.refl _ _)) (if_pos rfl)
  case o2 =>
    intro At yy W hy hb d hd K hK
    have e1 : yy 1 = .agg #[.int .i64 (N : Int), .int .i64 (M : Int), .int .i64 (st : Int), .slice aF Fi.length cF, .slice aN Nx.length cN] := by obtain ⟨_, _, _, _, e⟩ := hd ⟨1, .data⟩ (by simp) rfl rfl; exact e
    have s31 := (hy 1 _ 31 rfl rfl).trans e1
    have s31' := s31
    rw [Array.getD_eq_getD_getElem?] at s31'
    clear hd hy hb
    go_simp
    go_wp2_with (go_at_call 9; refine (twin_any _ N M st aF aN cF cN Fi Nx (HE.out.2.1.on d) (HE.out.2.2.1.on d) bF (by omega)).mono ?_; rintro e wa ⟨gF3, kF3, gN3, kN3, rfl, HT3, da⟩)
    exact hK.out _ wa (stp_of hmo d da) ⟨gF3, kF3, gN3, kN3, if_pos rfl, HT3.out.f.rd, HT3.out.n.rd⟩
  case o3 =>
    intro At yy W hy hb d hd K hK
    have s1 : At.tmps.getD 1 undef = .pointer (some ⟨w.heap.size, 0, none⟩) := hb 1 rfl
    have s1' := s1
    rw [Array.getD_eq_getD_getElem?] at s1'
    clear hd hy hb
    go_simp
    exact hK.out _ W (stp_of hmo d (Below.refl _ _)) (if_pos rfl)
  case o4 =>
    intro At yy W hy hb d hd K hK
    have e3 : yy 3 = .pointer (some ⟨w.heap.size, 5, none⟩) := by obtain ⟨_, _, _, _, e⟩ := hd ⟨3, .data⟩ (by simp) rfl rfl; exact e
    have s33 := (hy 3 _ 33 rfl rfl).trans e3
    have s33' := s33
    rw [Array.getD_eq_getD_getElem?] at s33'
    clear hd hy hb
    have yb5 : W.cell? ⟨w.heap.size, 5, none⟩ = some (.int .i64 (N2 : Int)) := cell_of (blk_on HE.out.1 d) rfl
    have yb6 : W.cell? ⟨w.heap.size, 6, none⟩ = some (.int .i64 (M : Int)) := cell_of (blk_on HE.out.1 d) rfl
    have yb7 : W.cell? ⟨w.heap.size, 7, none⟩ = some (.int .i64 (s2 : Int)) := cell_of (blk_on HE.out.1 d) rfl
    have yb8 : W.cell? ⟨w.heap.size, 8, none⟩ = some (.slice aG Gi.length cG) := cell_of (blk_on HE.out.1 d) rfl
    have yb9 : W.cell? ⟨w.heap.size, 9, none⟩ = some (.slice aX Ex.length cX) := cell_of (blk_on HE.out.1 d) rfl
    go_simp
    exact hK.out _ W (stp_of hmo d (Below.refl _ _)) (if_pos rfl)
  case o5 =>
    intro At yy W hy hb d hd K hK
    have e4 : yy 4 = .agg #[.int .i64 (N2 : Int), .int .i64 (M : Int), .int .i64 (s2 : Int), .slice aG Gi.length cG, .slice aX Ex.length cX] := by obtain ⟨_, _, _, _, e⟩ := hd ⟨4, .data⟩ (by simp) rfl rfl; exact e
    have s34 := (hy 4 _ 34 rfl rfl).trans e4
    have s34' := s34
    rw [Array.getD_eq_getD_getElem?] at s34'
    clear hd hy hb
    go_simp
    go_wp2_with (go_at_call 9; refine (twin_any _ N2 M s2 aG aX cG cX Gi Ex (HE.out.2.2.2.1.on d) (HE.out.2.2.2.2.1.on d) bG (by omega)).mono ?_; rintro e wa ⟨gF3, kF3, gN3, kN3, rfl, HT3, da⟩)
    exact hK.out _ wa (stp_of hmo d da) ⟨gF3, kF3, gN3, kN3, if_pos rfl, HT3.out.f.rd, HT3.out.n.rd⟩
  case o6 =>
    intro At yy W hy hb d hd K hK
    have f2 := hd ⟨2, .data⟩ (by simp) rfl rfl
    have f5 := hd ⟨5, .data⟩ (by simp) rfl rfl
    obtain ⟨lo2, hi2, hl2, hh2, gF3, kF3, gN3, kN3, e2, ra, rb⟩ := f2
    obtain ⟨lo5, hi5, hl5, hh5, gG3, kG3, gX3, kX3, e5, rc, rd⟩ := f5
    have s32 := (hy 2 _ 32 rfl rfl).trans e2
    have s32' := s32
    rw [Array.getD_eq_getD_getElem?] at s32'
    have s35 := (hy 5 _ 35 rfl rfl).trans e5
    have s35' := s35
    rw [Array.getD_eq_getD_getElem?] at s35'
    clear hd hy hb
    go_simp
    go_wp2_with (go_at_call 18; refine (TEQ.out _ gF3 kF3 gN3 kN3 gG3 kG3 gX3 kX3 ra rb rc rd).mono ?_; rintro e wa ⟨b7, c7, u7, rfl, t7, r7, da⟩)
    exact hK.out _ wa (stp_of hmo d da) ⟨b7, c7, u7, if_pos rfl, t7, r7⟩
  case o7 =>
    intro At yy W hy hb d hd K hK
    have f6 := hd ⟨6, .data⟩ (by simp) rfl rfl
    obtain ⟨lo6, hi6, hl6, hh6, b6, c6, u6, e6, t6, r6⟩ := f6
    have s36 := (hy 6 _ 36 rfl rfl).trans e6
    have s36' := s36
    rw [Array.getD_eq_getD_getElem?] at s36'
    clear hd hy hb
    go_simp
    exact hK.out _ W (stp_of hmo d (Below.refl _ _)) ⟨b6, c6, u6, if_pos rfl, t6, r6⟩
  case o8 =>
    intro At yy W hy hb d hd K hK
    have f7 := hd ⟨7, .data⟩ (by simp) rfl rfl
    obtain ⟨lo7, hi7, hl7, hh7, b7, c7, u7, e7, t7, r7⟩ := f7
    have s29 := (hy 7 _ 29 rfl rfl).trans e7
    have s29' := s29
    rw [Array.getD_eq_getD_getElem?] at s29'
    clear hd hy hb
    go_simp
    exact hK.out _ W (stp_of hmo d (Below.refl _ _)) (if_pos rfl)
  case o9 =>
    intro At yy W hy hb d hd K hK
    have f7 := hd ⟨7, .data⟩ (by simp) rfl rfl
    obtain ⟨lo7, hi7, hl7, hh7, b7, c7, u7, e7, t7, r7⟩ := f7
    have s29 := (hy 7 _ 29 rfl rfl).trans e7
    have s29' := s29
    rw [Array.getD_eq_getD_getElem?] at s29'
    clear hd hy hb
    go_simp
    exact hK.out _ W (stp_of hmo d (Below.refl _ _)) ⟨b7, c7, u7, if_pos rfl, t7, r7⟩
  case o10 =>
    intro At yy W hy hb d hd K hK
    have f7 := hd ⟨7, .data⟩ (by simp) rfl rfl
    obtain ⟨lo7, hi7, hl7, hh7, b7, c7, u7, e7, t7, r7⟩ := f7
    have s29 := (hy 7 _ 29 rfl rfl).trans e7
    have s29' := s29
    rw [Array.getD_eq_getD_getElem?] at s29'
    clear hd hy hb
    go_simp
    exact hK.out _ W (stp_of hmo d (Below.refl _ _)) (if_pos rfl)
  case o11 =>
    intro At yy W hy hb d hd K hK
    have e8 : yy 8 = .bool false := by obtain ⟨_, _, _, _, e⟩ := hd ⟨8, .data⟩ (by simp) rfl rfl; exact e
    have s37 := (hy 8 _ 37 rfl rfl).trans e8
    have s37' := s37
    rw [Array.getD_eq_getD_getElem?] at s37'
    clear hd hy hb
    go_simp
    exact hK.out _ W (stp_of hmo d (Below.refl _ _)) (if_pos rfl)
  case o12 =>
    intro At yy W hy hb d hd K hK
    have f9 := hd ⟨9, .data⟩ (by simp) rfl rfl
    obtain ⟨lo9, hi9, hl9, hh9, b9, c9, u9, e9, t9, r9⟩ := f9
    have s38 := (hy 9 _ 38 rfl rfl).trans e9
    have s38' := s38
    rw [Array.getD_eq_getD_getElem?] at s38'
    clear hd hy hb
    go_simp
    exact hK.out _ W (stp_of hmo d (Below.refl _ _)) ⟨b9, c9, u9, if_pos rfl, t9, r9⟩
  case o13 =>
    intro At yy W hy hb d hd K hK
    have e10 : yy 10 = .int .i64 0 := by obtain ⟨_, _, _, _, e⟩ := hd ⟨10, .data⟩ (by simp) rfl rfl; exact e
    have s39 := (hy 10 _ 39 rfl rfl).trans e10
    have s39' := s39
    rw [Array.getD_eq_getD_getElem?] at s39'
    clear hd hy hb
    go_simp
    exact hK.out _ W (stp_of hmo d (Below.refl _ _)) (if_pos rfl)
  case fin =>
    intro yy lo hi W hM
    show wpList _ _ _ [] _ _
    have e0 : yy 0 = .pointer (some ⟨w.heap.size, 0, none⟩) := hM.fact 0 (by simp) rfl (notR_all 0 rfl)
    have e1 : yy 1 = .agg #[.int .i64 (N : Int), .int .i64 (M : Int), .int .i64 (st : Int), .slice aF Fi.length cF, .slice aN Nx.length cN] := hM.fact 1 (by simp) rfl (notR_all 1 rfl)
    have e3 : yy 3 = .pointer (some ⟨w.heap.size, 5, none⟩) := hM.fact 3 (by simp) rfl (notR_all 3 rfl)
    have e4 : yy 4 = .agg #[.int .i64 (N2 : Int), .int .i64 (M : Int), .int .i64 (s2 : Int), .slice aG Gi.length cG, .slice aX Ex.length cX] := hM.fact 4 (by simp) rfl (notR_all 4 rfl)
    have e8 : yy 8 = .bool false := hM.fact 8 (by simp) rfl (notR_all 8 rfl)
    have e10 : yy 10 = .int .i64 0 := hM.fact 10 (by simp) rfl (notR_all 10 rfl)
    have e11 : yy 11 = .bool false := hM.fact 11 (by simp) rfl (notR_all 11 rfl)
    have e13 : yy 13 = .int .i64 0 := hM.fact 13 (by simp) rfl (notR_all 13 rfl)
    have dd := hM.d
    simp only [fills, Act.put, List.take, List.length, List.setIfInBounds_toArray, List.set_cons_zero, List.set_cons_succ, e0, e1, e3, e4, e8, e10, e11, e13]
    obtain ⟨gF2, kF2, gN2, kN2, e2, _, _⟩ := hM.fact 2 (by simp) rfl (notR_all 2 rfl)
    obtain ⟨gF5, kF5, gN5, kN5, e5, _, _⟩ := hM.fact 5 (by simp) rfl (notR_all 5 rfl)
    obtain ⟨b6', c6', u6', e6, _, _⟩ := hM.fact 6 (by simp) rfl (notR_all 6 rfl)
    obtain ⟨b7', c7', u7', e7, _, _⟩ := hM.fact 7 (by simp) rfl (notR_all 7 rfl)
    obtain ⟨b9', c9', u9', e9, _, _⟩ := hM.fact 9 (by simp) rfl (notR_all 9 rfl)
    obtain ⟨b, c, u, e12, ht, hr⟩ := hM.fact 12 (by simp) rfl (notR_all 12 rfl)
    rw [e2, e5, e6, e7, e9, e12]
    clear hM hmo e0 e1 e3 e4 e8 e10 e11 e13 e2 e5 e6 e7 e9 e12 TEQ
    have HE := hide (And.intro (blk_on HE.out.1 dd) (And.intro (HE.out.2.1.on dd) (And.intro (HE.out.2.2.1.on dd) (And.intro (HE.out.2.2.2.1.on dd) (And.intro (HE.out.2.2.2.2.1.on dd) (And.intro (HE.out.2.2.2.2.2.1.on dd) (And.intro (HE.out.2.2.2.2.2.2.1.trans (dd.mono HE.out.2.2.2.2.2.2.1.size)) (And.intro (blk_on HE.out.2.2.2.2.2.2.2.1 dd) (And.intro (HE.out.2.2.2.2.2.2.2.2.1.on dd) (And.intro (HE.out.2.2.2.2.2.2.2.2.2.1.on dd) hr))))))))))
    have HN := hide (And.intro (blk_on HN.out.1 dd) (And.intro (HN.out.2.1.on dd) (HN.out.2.2.on dd)))
    clear dd hr
    have z0 : W.cell? ⟨bm, 0, none⟩ = some (.int .i64 (n : Int)) := cell_of HE.out.2.2.2.2.2.2.2.1 rfl
    have z1 : W.cell? ⟨bm, 1, none⟩ = some (.int .i64 (M : Int)) := cell_of HE.out.2.2.2.2.2.2.2.1 rfl
    have z2 : W.cell? ⟨bm, 2, none⟩ = some (.int .i64 0) := cell_of HE.out.2.2.2.2.2.2.2.1 rfl
    have z3 : W.cell? ⟨bm, 3, none⟩ = some (.slice uF mF c5) := cell_of HE.out.2.2.2.2.2.2.2.1 rfl
    have z4 : W.cell? ⟨bm, 4, none⟩ = some (.slice uN mN c6) := cell_of HE.out.2.2.2.2.2.2.2.1 rfl
    have T8 := minimal_form W n M 0 uF uN mF c5 mN c6 (mnF Fi T) (mnX Nx M T al) HE.out.2.2.2.2.2.2.2.2.1 HE.out.2.2.2.2.2.2.2.2.2.1 HLN.out.2.2.2.1 HLN.out.2.2.2.2.1 HLN.out.2.2.2.2.2.1 (by have := HLN.out.2.2.2.2.2.2; omega) HLN.out.2.2.1
    go_upto_region 9 with (go_at_call 8; refine T8.mono ?_; rintro e w8 ⟨n3, xF, jF, c7, xN, jN, c8, T3, K3, al3, rfl, HC⟩; obtain ⟨ba, hba⟩ : ∃ x, w8.heap.size = x := ⟨_, rfl⟩)
    obtain ⟨w9, hw9⟩ : ∃ W, w8.alloc (.cells #[.int .i64 (n3 : Int), .int .i64 (M : Int), .int .i64 0, .slice xF jF c7, .slice xN jN c8] 24) = W := ⟨_, rfl⟩
    try rw [hba]
    rw [hw9]
    have D89 : Below w8.heap.size w8 w9 := by rw [← hw9]; exact (Below.refl _ _).alloc (Nat.le_refl _) _
    have X9 : w9.heap[ba]? = some (.cells #[.int .i64 (n3 : Int), .int .i64 (M : Int), .int .i64 0, .slice xF jF c7, .slice xN jN c8] 24 (0, 0)) := by rw [← hw9, ← hba]; exact World.alloc_heap_new _ _
    have D9 := HC.out.2.2.2.2.2.2.trans (D89.mono HC.out.2.2.2.2.2.2.size)
    have HS3 := hide (mnS_same (N2 := n) HM1.out HV.out.1 HC.out.1 HLN.out.2.2.1 HLN.out.2.1)
    have HX := hide (And.intro X9 (And.intro (HC.out.2.2.1.on D89) (And.intro (HC.out.2.2.2.1.on D89) (And.intro HC.out.2.2.2.2.1 (And.intro HC.out.2.2.2.2.2.1 HC.out.2.1)))))
    clear z0 z1 z2 z3 z4
    have HE := hide (And.intro (blk_on HE.out.1 D9) (And.intro (HE.out.2.1.on D9) (And.intro (HE.out.2.2.1.on D9) (And.intro (HE.out.2.2.2.1.on D9) (And.intro (HE.out.2.2.2.2.1.on D9) (And.intro (HE.out.2.2.2.2.2.1.on D9) (And.intro (HE.out.2.2.2.2.2.2.1.trans (D9.mono HE.out.2.2.2.2.2.2.1.size)) (And.intro (blk_on HE.out.2.2.2.2.2.2.2.1 D9) (And.intro (HE.out.2.2.2.2.2.2.2.2.1.on D9) (And.intro (HE.out.2.2.2.2.2.2.2.2.2.1.on D9) (HE.out.2.2.2.2.2.2.2.2.2.2.on D9)))))))))))
    have HN := hide (And.intro (blk_on HN.out.1 D9) (And.intro (HN.out.2.1.on D9) (HN.out.2.2.on D9)))
    clear D9 D89 X9 hw9 hba T8 HC
    have TS1 : Hid (∀ W, Below w9.heap.size w9 W → Calls Try.prog 19 #[.agg #[.int .i64 (n3 : Int), .int .i64 (M : Int), .int .i64 0, .slice xF jF c7, .slice xN jN c8], .agg #[.int .i64 (n : Int), .int .i64 (M : Int), .int .i64 0, .slice uF mF c5, .slice uN mN c6]] W fun e w' => e = .returned (.bool true) ∧ Below W.heap.size W w') := hide (fun W d => by
      have z := same_any W n3 M 0 n M 0 xF xN uF uN jF c7 jN c8 mF c5 mN c6 _ _ _ _ (HX.out.2.1.on d) (HX.out.2.2.1.on d) (HE.out.2.2.2.2.2.2.2.2.1.on d) (HE.out.2.2.2.2.2.2.2.2.2.1.on d) HX.out.2.2.2.1 HX.out.2.2.2.2.1 HLN.out.2.2.2.1 HLN.out.2.2.2.2.1 (by rw [← HX.out.2.2.2.1, ← HS3.out.2.1, HLN.out.2.2.2.1]; exact HLN.out.2.2.2.2.2.1) (by rw [← HX.out.2.2.2.2.1, ← HS3.out.2.2, HLN.out.2.2.2.2.1]; have := HLN.out.2.2.2.2.2.2; omega) HLN.out.2.2.2.2.2.1 (by have := HLN.out.2.2.2.2.2.2; omega)
      rwa [decide_eq_true ⟨by have z1 := HS3.out.1; have z2 := HX.out.2.2.2.2.2; have z3 := HLN.out.1; omega, rfl, rfl, HS3.out.2.1.symm, HS3.out.2.2.symm⟩] at z)
    have TS2 : Hid (∀ W, Below w9.heap.size w9 W → Calls Try.prog 19 #[.agg #[.int .i64 (n : Int), .int .i64 (M : Int), .int .i64 0, .slice uF mF c5, .slice uN mN c6], .agg #[.int .i64 (n2 : Int), .int .i64 (M : Int), .int .i64 0, .slice vF lF9 d5, .slice vN lN9 d6]] W fun e w' => e = .returned (.bool false) ∧ Below W.heap.size W w') := hide (fun W d => by
      have z := same_any W n M 0 n2 M 0 uF uN vF vN mF c5 mN c6 lF9 d5 lN9 d6 _ _ _ _ (HE.out.2.2.2.2.2.2.2.2.1.on d) (HE.out.2.2.2.2.2.2.2.2.2.1.on d) (HN.out.2.1.on d) (HN.out.2.2.on d) HLN.out.2.2.2.1 HLN.out.2.2.2.2.1 HN2.out.2.2.1 HN2.out.2.2.2.1 HLN.out.2.2.2.2.2.1 (by have := HLN.out.2.2.2.2.2.2; omega) HN2.out.2.2.2.2.1 (by have := HN2.out.2.2.2.2.2; omega)
      rwa [decide_eq_false (fun h => HV.out.2.2 (eqv_of_same HM1.out HV.out.1 HN2.out.1 HV.out.2.1 h.2.2.2.1 h.2.2.2.2))] at z)
    have x0 : w9.cell? ⟨ba, 0, none⟩ = some (.int .i64 (n3 : Int)) := cell_of HX.out.1 rfl
    have x1 : w9.cell? ⟨ba, 1, none⟩ = some (.int .i64 (M : Int)) := cell_of HX.out.1 rfl
    have x2 : w9.cell? ⟨ba, 2, none⟩ = some (.int .i64 0) := cell_of HX.out.1 rfl
    have x3 : w9.cell? ⟨ba, 3, none⟩ = some (.slice xF jF c7) := cell_of HX.out.1 rfl
    have x4 : w9.cell? ⟨ba, 4, none⟩ = some (.slice xN jN c8) := cell_of HX.out.1 rfl
    have z0 : w9.cell? ⟨bm, 0, none⟩ = some (.int .i64 (n : Int)) := cell_of HE.out.2.2.2.2.2.2.2.1 rfl
    have z1 : w9.cell? ⟨bm, 1, none⟩ = some (.int .i64 (M : Int)) := cell_of HE.out.2.2.2.2.2.2.2.1 rfl
    have z2 : w9.cell? ⟨bm, 2, none⟩ = some (.int .i64 0) := cell_of HE.out.2.2.2.2.2.2.2.1 rfl
    have z3 : w9.cell? ⟨bm, 3, none⟩ = some (.slice uF mF c5) := cell_of HE.out.2.2.2.2.2.2.2.1 rfl
    have z4 : w9.cell? ⟨bm, 4, none⟩ = some (.slice uN mN c6) := cell_of HE.out.2.2.2.2.2.2.2.1 rfl
    have c1 : ¬ (N : Int) < (n : Int) := by have := HLN.out.2.2.2.2.2.2; have := HLE1.out; omega
    have c2 : (n : Int) ≤ (N : Int) := by have := HLE1.out; omega
    go_wp2_with fail
    go_at_call 19
    refine (TS1.out _ (Below.refl _ _)).mono ?_
    rintro e wb ⟨rfl, db⟩
    have HDB := hide db
    clear db x0 x1 x2 x3 x4 z0 z1 z2 z3 z4
    have z0 : wb.cell? ⟨bm, 0, none⟩ = some (.int .i64 (n : Int)) := cell_of (blk_on HE.out.2.2.2.2.2.2.2.1 HDB.out) rfl
    have z1 : wb.cell? ⟨bm, 1, none⟩ = some (.int .i64 (M : Int)) := cell_of (blk_on HE.out.2.2.2.2.2.2.2.1 HDB.out) rfl
    have z2 : wb.cell? ⟨bm, 2, none⟩ = some (.int .i64 0) := cell_of (blk_on HE.out.2.2.2.2.2.2.2.1 HDB.out) rfl
    have z3 : wb.cell? ⟨bm, 3, none⟩ = some (.slice uF mF c5) := cell_of (blk_on HE.out.2.2.2.2.2.2.2.1 HDB.out) rfl
    have z4 : wb.cell? ⟨bm, 4, none⟩ = some (.slice uN mN c6) := cell_of (blk_on HE.out.2.2.2.2.2.2.2.1 HDB.out) rfl
    have v0 : wb.cell? ⟨bn, 0, none⟩ = some (.int .i64 (n2 : Int)) := cell_of (blk_on HN.out.1 HDB.out) rfl
    have v1 : wb.cell? ⟨bn, 1, none⟩ = some (.int .i64 (M : Int)) := cell_of (blk_on HN.out.1 HDB.out) rfl
    have v2 : wb.cell? ⟨bn, 2, none⟩ = some (.int .i64 0) := cell_of (blk_on HN.out.1 HDB.out) rfl
    have v3 : wb.cell? ⟨bn, 3, none⟩ = some (.slice vF lF9 d5) := cell_of (blk_on HN.out.1 HDB.out) rfl
    have v4 : wb.cell? ⟨bn, 4, none⟩ = some (.slice vN lN9 d6) := cell_of (blk_on HN.out.1 HDB.out) rfl
    go_wp2_with fail
    go_at_call 19
    refine (TS2.out _ HDB.out).mono ?_
    rintro e wc ⟨rfl, dc⟩
    have HDC := hide (HDB.out.trans (dc.mono HDB.out.size))
    clear dc v0 v1 v2 v3 v4 z0 z1 z2 z3 z4
    have z0 : wc.cell? ⟨bm, 0, none⟩ = some (.int .i64 (n : Int)) := cell_of (blk_on HE.out.2.2.2.2.2.2.2.1 HDC.out) rfl
    have z2 : wc.cell? ⟨bm, 2, none⟩ = some (.int .i64 0) := cell_of (blk_on HE.out.2.2.2.2.2.2.2.1 HDC.out) rfl
    have k0 : wc.cell? ⟨w.heap.size, 0, none⟩ = some (.int .i64 (N : Int)) := cell_of (blk_on HE.out.1 HDC.out) rfl
    go_upto_region 11 with fail
    have HE := hide (And.intro (blk_on HE.out.1 HDC.out) (And.intro (HE.out.2.1.on HDC.out) (And.intro (HE.out.2.2.1.on HDC.out) (And.intro (HE.out.2.2.2.1.on HDC.out) (And.intro (HE.out.2.2.2.2.1.on HDC.out) (And.intro (HE.out.2.2.2.2.2.1.on HDC.out) (And.intro (HE.out.2.2.2.2.2.2.1.trans (HDC.out.mono HE.out.2.2.2.2.2.2.1.size)) (And.intro (blk_on HE.out.2.2.2.2.2.2.2.1 HDC.out) (And.intro (HE.out.2.2.2.2.2.2.2.2.1.on HDC.out) (And.intro (HE.out.2.2.2.2.2.2.2.2.2.1.on HDC.out) (HE.out.2.2.2.2.2.2.2.2.2.2.on HDC.out)))))))))))
    clear HDB HDC TS1 TS2 HN HX HS3 HN2 z0 z2 k0 c1 c2
    have HLU : Hid ((natI u).length ≤ 4194304) := hide (by rw [natI_len]; have := ht.2.2.1; have := HN9.out; omega)
    obtain ⟨n9, hn9⟩ : ∃ n9, N + N2 = n9 + 2 := ⟨N + N2 - 2, by have := ht.2.2.1; omega⟩
    obtain ⟨n8, hn8⟩ : ∃ n8, N + N2 = n8 := ⟨_, rfl⟩
    have HW2 := hide (show IntKind.i64.wrap ((N : Int) + (N2 : Int)) = (n8 : Int) ∧ IntKind.i64.wrap ((n8 : Int) - 2) = (n9 : Int) ∧ ((natI u).length : Int) ≤ (n9 : Int) by rw [IntKind.wrap_i64, IntKind.wrap_i64, natI_len]; have := ht.2.2.1; have := HN9.out; omega)
    clear hn9 hn8
    obtain ⟨b1, hb1⟩ : ∃ x, tkB N M st Fi Nx (natI u) = x := ⟨_, rfl⟩
    obtain ⟨b2, hb2⟩ : ∃ x, tkB N2 M s2 Gi Ex (natI u) = x := ⟨_, rfl⟩
    have TK3 : Hid (∀ W gF3 kF3 gN3 kN3 gW3 kW3, RdN W (some ⟨gF3, 0, none⟩) Fi → RdN W (some ⟨gN3, 0, none⟩) Nx → RdN W (some ⟨gW3, 0, none⟩) (natI u) → Calls Try.prog 16 #[.agg #[.int .i64 (N : Int), .int .i64 (M : Int), .int .i64 (st : Int), .slice (some ⟨gF3, 0, none⟩) Fi.length kF3, .slice (some ⟨gN3, 0, none⟩) Nx.length kN3], .slice (some ⟨gW3, 0, none⟩) (natI u).length kW3] W fun e w' => e = .returned (.bool b1) ∧ Below W.heap.size W w') := hide (fun W gF3 kF3 gN3 kN3 gW3 kW3 h1 h2 h3 => hb1 ▸ takesL_any W N M st (some ⟨gF3, 0, none⟩) (some ⟨gN3, 0, none⟩) (some ⟨gW3, 0, none⟩) Fi.length kF3 Nx.length kN3 (natI u).length kW3 Fi Nx (natI u) h1 h2 h3 rfl rfl rfl bF (by omega) HLU.out)
    have TK4 : Hid (∀ W gF3 kF3 gN3 kN3 gW3 kW3, RdN W (some ⟨gF3, 0, none⟩) Gi → RdN W (some ⟨gN3, 0, none⟩) Ex → RdN W (some ⟨gW3, 0, none⟩) (natI u) → Calls Try.prog 16 #[.agg #[.int .i64 (N2 : Int), .int .i64 (M : Int), .int .i64 (s2 : Int), .slice (some ⟨gF3, 0, none⟩) Gi.length kF3, .slice (some ⟨gN3, 0, none⟩) Ex.length kN3], .slice (some ⟨gW3, 0, none⟩) (natI u).length kW3] W fun e w' => e = .returned (.bool b2) ∧ Below W.heap.size W w') := hide (fun W gF3 kF3 gN3 kN3 gW3 kW3 h1 h2 h3 => hb2 ▸ takesL_any W N2 M s2 (some ⟨gF3, 0, none⟩) (some ⟨gN3, 0, none⟩) (some ⟨gW3, 0, none⟩) Gi.length kF3 Ex.length kN3 (natI u).length kW3 Gi Ex (natI u) h1 h2 h3 rfl rfl rfl bG (by omega) HLU.out)
    have HBB : Hid (¬ b1 = b2) := hide (by rw [← hb1, ← hb2]; exact tk_told2 HV.out.1 HV.out.2.1 ht)
    clear hb1 hb2
    obtain ⟨o2, ho2⟩ : ∃ x, tkB N2 M s2 Gi Ex Wd = x := ⟨_, rfl⟩
    obtain ⟨o1, ho1⟩ : ∃ x, tkB N M st Fi Nx Wd = x := ⟨_, rfl⟩
    have ho3 : tkB n M (0 : Nat) (mnF Fi T) (mnX Nx M T al) Wd = o1 := by rw [← ho1]; exact (tk_eqv HV.out.1 HLN.out.2.2.1 HLN.out.2.1 Wd).symm
    have TK1 : Hid (∀ W gF3 kF3 gN3 kN3 gW3 kW3, RdN W (some ⟨gF3, 0, none⟩) Fi → RdN W (some ⟨gN3, 0, none⟩) Nx → RdN W (some ⟨gW3, 0, none⟩) Wd → Calls Try.prog 16 #[.agg #[.int .i64 (N : Int), .int .i64 (M : Int), .int .i64 (st : Int), .slice (some ⟨gF3, 0, none⟩) Fi.length kF3, .slice (some ⟨gN3, 0, none⟩) Nx.length kN3], .slice (some ⟨gW3, 0, none⟩) Wd.length kW3] W fun e w' => e = .returned (.bool o1) ∧ Below W.heap.size W w') := hide (fun W gF3 kF3 gN3 kN3 gW3 kW3 h1 h2 h3 => ho1 ▸ takesL_any W N M st (some ⟨gF3, 0, none⟩) (some ⟨gN3, 0, none⟩) (some ⟨gW3, 0, none⟩) Fi.length kF3 Nx.length kN3 Wd.length kW3 Fi Nx Wd h1 h2 h3 rfl rfl rfl bF (by omega) bW)
    have TK2 : Hid (∀ W gF3 kF3 gN3 kN3 gW3 kW3, RdN W (some ⟨gF3, 0, none⟩) Gi → RdN W (some ⟨gN3, 0, none⟩) Ex → RdN W (some ⟨gW3, 0, none⟩) Wd → Calls Try.prog 16 #[.agg #[.int .i64 (N2 : Int), .int .i64 (M : Int), .int .i64 (s2 : Int), .slice (some ⟨gF3, 0, none⟩) Gi.length kF3, .slice (some ⟨gN3, 0, none⟩) Ex.length kN3], .slice (some ⟨gW3, 0, none⟩) Wd.length kW3] W fun e w' => e = .returned (.bool o2) ∧ Below W.heap.size W w') := hide (fun W gF3 kF3 gN3 kN3 gW3 kW3 h1 h2 h3 => ho2 ▸ takesL_any W N2 M s2 (some ⟨gF3, 0, none⟩) (some ⟨gN3, 0, none⟩) (some ⟨gW3, 0, none⟩) Gi.length kF3 Ex.length kN3 Wd.length kW3 Gi Ex Wd h1 h2 h3 rfl rfl rfl bG (by omega) bW)
    have TKM : Hid (∀ W gW3 kW3, RdN W uF (mnF Fi T) → RdN W uN (mnX Nx M T al) → RdN W (some ⟨gW3, 0, none⟩) Wd → Calls Try.prog 16 #[.agg #[.int .i64 (n : Int), .int .i64 (M : Int), .int .i64 0, .slice uF mF c5, .slice uN mN c6], .slice (some ⟨gW3, 0, none⟩) Wd.length kW3] W fun e w' => e = .returned (.bool o1) ∧ Below W.heap.size W w') := hide (fun W gW3 kW3 h1 h2 h3 => ho3 ▸ takesL_any W n M (0 : Nat) uF uN (some ⟨gW3, 0, none⟩) mF c5 mN c6 Wd.length kW3 (mnF Fi T) (mnX Nx M T al) Wd h1 h2 h3 HLN.out.2.2.2.1 HLN.out.2.2.2.2.1 rfl HLN.out.2.2.2.2.2.1 (by have := HLN.out.2.2.2.2.2.2; omega) bW)
    have HO : Hid (¬ o1 = o2 → ahB (natI u) Wd = true) := hide (by rw [← ho1, ← ho2]; exact tk_ahead2 HV.out.1 HV.out.2.1 ht Wd)
    clear ho1 ho2 ho3 ht
    have hmo : MonIL 0 [vI 0 (.pointer (some ⟨w.heap.size, 0, none⟩)), vI 1 (.agg #[.int .i64 (N : Int), .int .i64 (M : Int), .int .i64 (st : Int), .slice aF Fi.length cF, .slice aN Nx.length cN]), pI 2 (twP N M st Fi Nx), vI 3 (.pointer (some ⟨w.heap.size, 12, none⟩)), vI 4 (.slice aW Wd.length cW), pI 5 (inP Wd), vI 6 (.bool o1), vI 7 (.bool o1)] := ⟨vI_mono _ _, vI_mono _ _, pI_mono twP_mono, vI_mono _ _, vI_mono _ _, pI_mono inP_mono, vI_mono _ _, vI_mono _ _, trivial⟩
    refine wp_region_sl [vI 0 (.pointer (some ⟨w.heap.size, 0, none⟩)), vI 1 (.agg #[.int .i64 (N : Int), .int .i64 (M : Int), .int .i64 (st : Int), .slice aF Fi.length cF, .slice aN Nx.length cN]), pI 2 (twP N M st Fi Nx), vI 3 (.pointer (some ⟨w.heap.size, 12, none⟩)), vI 4 (.slice aW Wd.length cW), pI 5 (inP Wd), vI 6 (.bool o1), vI 7 (.bool o1)] (by kernel_rfl) (by kernel_rfl) (by kernel_rfl) (by kernel_rfl) hmo ⟨?o0, ?o1, ?o2, ?o3, ?o4, ?o5, ?o6, ?o7, trivial⟩ ?fin
    case o0 =>
      intro At yy W hy hb d hd K hK
      have s1 : At.tmps.getD 1 undef = .pointer (some ⟨w.heap.size, 0, none⟩) := hb 1 rfl
      have s1' := s1
      rw [Array.getD_eq_getD_getElem?] at s1'
      clear hd hy hb
      go_simp
      exact hK.out _ W (stp_of hmo d (Below.refl _ _)) (if_pos rfl)
    case o1 =>
      intro At yy W hy hb d hd K hK
      have e0 : yy 0 = .pointer (some ⟨w.heap.size, 0, none⟩) := by obtain ⟨_, _, _, _, e⟩ := hd ⟨0, .data⟩ (by simp) rfl rfl; exact e
      have s106 := (hy 0 _ 106 rfl rfl).trans e0
      have s106' := s106
      rw [Array.getD_eq_getD_getElem?] at s106'
      clear hd hy hb
      have yb0 : W.cell? ⟨w.heap.size, 0, none⟩ = some (.int .i64 (N : Int)) := cell_of (blk_on HE.out.1 d) rfl
      have yb1 : W.cell? ⟨w.heap.size, 1, none⟩ = some (.int .i64 (M : Int)) := cell_of (blk_on HE.out.1 d) rfl
      have yb2 : W.cell? ⟨w.heap.size, 2, none⟩ = some (.int .i64 (st : Int)) := cell_of (blk_on HE.out.1 d) rfl
      have yb3 : W.cell? ⟨w.heap.size, 3, none⟩ = some (.slice aF Fi.length cF) := cell_of (blk_on HE.out.1 d) rfl
      have yb4 : W.cell? ⟨w.heap.size, 4, none⟩ = some (.slice aN Nx.length cN) := cell_of (blk_on HE.out.1 d) rfl
      go_simp
      exact hK.out _ W (stp_of hmo d (Below.refl _ _)) (if_pos rfl)
    case o2 =>
      intro At yy W hy hb d hd K hK
      have e1 : yy 1 = .agg #[.int .i64 (N : Int), .int .i64 (M : Int), .int .i64 (st : Int), .slice aF Fi.length cF, .slice aN Nx.length cN] := by obtain ⟨_, _, _, _, e⟩ := hd ⟨1, .data⟩ (by simp) rfl rfl; exact e
      have s107 := (hy 1 _ 107 rfl rfl).trans e1
      have s107' := s107
      rw [Array.getD_eq_getD_getElem?] at s107'
      clear hd hy hb
      go_simp
      go_wp2_with (go_at_call 9; refine (twin_any _ N M st aF aN cF cN Fi Nx (HE.out.2.1.on d) (HE.out.2.2.1.on d) bF (by omega)).mono ?_; rintro e wa ⟨gF3, kF3, gN3, kN3, rfl, HT3, da⟩)
      exact hK.out _ wa (stp_of hmo d da) ⟨gF3, kF3, gN3, kN3, if_pos rfl, HT3.out.f.rd, HT3.out.n.rd⟩
    case o3 =>
      intro At yy W hy hb d hd K hK
      have s1 : At.tmps.getD 1 undef = .pointer (some ⟨w.heap.size, 0, none⟩) := hb 1 rfl
      have s1' := s1
      rw [Array.getD_eq_getD_getElem?] at s1'
      clear hd hy hb
      go_simp
      exact hK.out _ W (stp_of hmo d (Below.refl _ _)) (if_pos rfl)
    case o4 =>
      intro At yy W hy hb d hd K hK
      have e3 : yy 3 = .pointer (some ⟨w.heap.size, 12, none⟩) := by obtain ⟨_, _, _, _, e⟩ := hd ⟨3, .data⟩ (by simp) rfl rfl; exact e
      have s109 := (hy 3 _ 109 rfl rfl).trans e3
      have s109' := s109
      rw [Array.getD_eq_getD_getElem?] at s109'
      clear hd hy hb
      have yb12 : W.cell? ⟨w.heap.size, 12, none⟩ = some (.slice aW Wd.length cW) := cell_of (blk_on HE.out.1 d) rfl
      go_simp
      exact hK.out _ W (stp_of hmo d (Below.refl _ _)) (if_pos rfl)
    case o5 =>
      intro At yy W hy hb d hd K hK
      have e4 : yy 4 = .slice aW Wd.length cW := by obtain ⟨_, _, _, _, e⟩ := hd ⟨4, .data⟩ (by simp) rfl rfl; exact e
      have s110 := (hy 4 _ 110 rfl rfl).trans e4
      have s110' := s110
      rw [Array.getD_eq_getD_getElem?] at s110'
      clear hd hy hb
      go_simp
      go_wp2_with (go_at_call 13; refine (ints_any _ aW Wd cW (hide (HE.out.2.2.2.2.2.1.on d)) bW).mono ?_; rintro e wa ⟨gW3, kW3, rfl, HM3, da⟩)
      exact hK.out _ wa (stp_of hmo d da) ⟨gW3, kW3, if_pos rfl, HM3.out.rd⟩
    case o6 =>
      intro At yy W hy hb d hd K hK
      have f2 := hd ⟨2, .data⟩ (by simp) rfl rfl
      have f5 := hd ⟨5, .data⟩ (by simp) rfl rfl
      obtain ⟨lo2, hi2, hl2, hh2, gF3, kF3, gN3, kN3, e2, ra, rb⟩ := f2
      obtain ⟨lo5, hi5, hl5, hh5, gW3, kW3, e5, rw3⟩ := f5
      have s108 := (hy 2 _ 108 rfl rfl).trans e2
      have s108' := s108
      rw [Array.getD_eq_getD_getElem?] at s108'
      have s111 := (hy 5 _ 111 rfl rfl).trans e5
      have s111' := s111
      rw [Array.getD_eq_getD_getElem?] at s111'
      clear hd hy hb
      go_simp
      go_wp2_with (go_at_call 16; refine (TK1.out _ gF3 kF3 gN3 kN3 gW3 kW3 ra rb rw3).mono ?_; rintro e wa ⟨rfl, da⟩)
      exact hK.out _ wa (stp_of hmo d da) (if_pos rfl)
    case o7 =>
      intro At yy W hy hb d hd K hK
      have e6 : yy 6 = .bool o1 := by obtain ⟨_, _, _, _, e⟩ := hd ⟨6, .data⟩ (by simp) rfl rfl; exact e
      have s112 := (hy 6 _ 112 rfl rfl).trans e6
      have s112' := s112
      rw [Array.getD_eq_getD_getElem?] at s112'
      clear hd hy hb
      go_simp
      exact hK.out _ W (stp_of hmo d (Below.refl _ _)) (if_pos rfl)
    case fin =>
      intro yy lo hi W hM
      show wpList _ _ _ [] _ _
      have e0 : yy 0 = .pointer (some ⟨w.heap.size, 0, none⟩) := hM.fact 0 (by simp) rfl (notR_all 0 rfl)
      have e1 : yy 1 = .agg #[.int .i64 (N : Int), .int .i64 (M : Int), .int .i64 (st : Int), .slice aF Fi.length cF, .slice aN Nx.length cN] := hM.fact 1 (by simp) rfl (notR_all 1 rfl)
      have e3 : yy 3 = .pointer (some ⟨w.heap.size, 12, none⟩) := hM.fact 3 (by simp) rfl (notR_all 3 rfl)
      have e4 : yy 4 = .slice aW Wd.length cW := hM.fact 4 (by simp) rfl (notR_all 4 rfl)
      have e6 : yy 6 = .bool o1 := hM.fact 6 (by simp) rfl (notR_all 6 rfl)
      have e7 : yy 7 = .bool o1 := hM.fact 7 (by simp) rfl (notR_all 7 rfl)
      have dd := hM.d
      simp only [fills, Act.put, List.take, List.length, List.setIfInBounds_toArray, List.set_cons_zero, List.set_cons_succ, e0, e1, e3, e4, e6, e7]
      obtain ⟨gF2, kF2, gN2, kN2, e2, _, _⟩ := hM.fact 2 (by simp) rfl (notR_all 2 rfl)
      obtain ⟨gW5, kW5, e5, _⟩ := hM.fact 5 (by simp) rfl (notR_all 5 rfl)
      rw [e2, e5]
      clear hM hmo e0 e1 e3 e4 e6 e7 e2 e5
      have HE := hide (And.intro (blk_on HE.out.1 dd) (And.intro (HE.out.2.1.on dd) (And.intro (HE.out.2.2.1.on dd) (And.intro (HE.out.2.2.2.1.on dd) (And.intro (HE.out.2.2.2.2.1.on dd) (And.intro (HE.out.2.2.2.2.2.1.on dd) (And.intro (HE.out.2.2.2.2.2.2.1.trans (dd.mono HE.out.2.2.2.2.2.2.1.size)) (And.intro (blk_on HE.out.2.2.2.2.2.2.2.1 dd) (And.intro (HE.out.2.2.2.2.2.2.2.2.1.on dd) (And.intro (HE.out.2.2.2.2.2.2.2.2.2.1.on dd) (HE.out.2.2.2.2.2.2.2.2.2.2.on dd)))))))))))
      clear dd
      go_upto_region 12 with fail
      have hmo : MonIL 0 [vI 0 (.pointer (some ⟨w.heap.size, 5, none⟩)), vI 1 (.agg #[.int .i64 (N2 : Int), .int .i64 (M : Int), .int .i64 (s2 : Int), .slice aG Gi.length cG, .slice aX Ex.length cX]), pI 2 (twP N2 M s2 Gi Ex), vI 3 (.pointer (some ⟨w.heap.size, 12, none⟩)), vI 4 (.slice aW Wd.length cW), pI 5 (inP Wd), vI 6 (.bool o2), vI 7 (.bool o2)] := ⟨vI_mono _ _, vI_mono _ _, pI_mono twP_mono, vI_mono _ _, vI_mono _ _, pI_mono inP_mono, vI_mono _ _, vI_mono _ _, trivial⟩
      refine wp_region_sl [vI 0 (.pointer (some ⟨w.heap.size, 5, none⟩)), vI 1 (.agg #[.int .i64 (N2 : Int), .int .i64 (M : Int), .int .i64 (s2 : Int), .slice aG Gi.length cG, .slice aX Ex.length cX]), pI 2 (twP N2 M s2 Gi Ex), vI 3 (.pointer (some ⟨w.heap.size, 12, none⟩)), vI 4 (.slice aW Wd.length cW), pI 5 (inP Wd), vI 6 (.bool o2), vI 7 (.bool o2)] (by kernel_rfl) (by kernel_rfl) (by kernel_rfl) (by kernel_rfl) hmo ⟨?o0, ?o1, ?o2, ?o3, ?o4, ?o5, ?o6, ?o7, trivial⟩ ?fin
      case o0 =>
        intro At yy W hy hb d hd K hK
        have s1 : At.tmps.getD 1 undef = .pointer (some ⟨w.heap.size, 0, none⟩) := hb 1 rfl
        have s1' := s1
        rw [Array.getD_eq_getD_getElem?] at s1'
        clear hd hy hb
        go_simp
        exact hK.out _ W (stp_of hmo d (Below.refl _ _)) (if_pos rfl)
      case o1 =>
        intro At yy W hy hb d hd K hK
        have e0 : yy 0 = .pointer (some ⟨w.heap.size, 5, none⟩) := by obtain ⟨_, _, _, _, e⟩ := hd ⟨0, .data⟩ (by simp) rfl rfl; exact e
        have s113 := (hy 0 _ 113 rfl rfl).trans e0
        have s113' := s113
        rw [Array.getD_eq_getD_getElem?] at s113'
        clear hd hy hb
        have yb5 : W.cell? ⟨w.heap.size, 5, none⟩ = some (.int .i64 (N2 : Int)) := cell_of (blk_on HE.out.1 d) rfl
        have yb6 : W.cell? ⟨w.heap.size, 6, none⟩ = some (.int .i64 (M : Int)) := cell_of (blk_on HE.out.1 d) rfl
        have yb7 : W.cell? ⟨w.heap.size, 7, none⟩ = some (.int .i64 (s2 : Int)) := cell_of (blk_on HE.out.1 d) rfl
        have yb8 : W.cell? ⟨w.heap.size, 8, none⟩ = some (.slice aG Gi.length cG) := cell_of (blk_on HE.out.1 d) rfl
        have yb9 : W.cell? ⟨w.heap.size, 9, none⟩ = some (.slice aX Ex.length cX) := cell_of (blk_on HE.out.1 d) rfl
        go_simp
        exact hK.out _ W (stp_of hmo d (Below.refl _ _)) (if_pos rfl)
      case o2 =>
        intro At yy W hy hb d hd K hK
        have e1 : yy 1 = .agg #[.int .i64 (N2 : Int), .int .i64 (M : Int), .int .i64 (s2 : Int), .slice aG Gi.length cG, .slice aX Ex.length cX] := by obtain ⟨_, _, _, _, e⟩ := hd ⟨1, .data⟩ (by simp) rfl rfl; exact e
        have s114 := (hy 1 _ 114 rfl rfl).trans e1
        have s114' := s114
        rw [Array.getD_eq_getD_getElem?] at s114'
        clear hd hy hb
        go_simp
        go_wp2_with (go_at_call 9; refine (twin_any _ N2 M s2 aG aX cG cX Gi Ex (HE.out.2.2.2.1.on d) (HE.out.2.2.2.2.1.on d) bG (by omega)).mono ?_; rintro e wa ⟨gF3, kF3, gN3, kN3, rfl, HT3, da⟩)
        exact hK.out _ wa (stp_of hmo d da) ⟨gF3, kF3, gN3, kN3, if_pos rfl, HT3.out.f.rd, HT3.out.n.rd⟩
      case o3 =>
        intro At yy W hy hb d hd K hK
        have s1 : At.tmps.getD 1 undef = .pointer (some ⟨w.heap.size, 0, none⟩) := hb 1 rfl
        have s1' := s1
        rw [Array.getD_eq_getD_getElem?] at s1'
        clear hd hy hb
        go_simp
        exact hK.out _ W (stp_of hmo d (Below.refl _ _)) (if_pos rfl)
      case o4 =>
        intro At yy W hy hb d hd K hK
        have e3 : yy 3 = .pointer (some ⟨w.heap.size, 12, none⟩) := by obtain ⟨_, _, _, _, e⟩ := hd ⟨3, .data⟩ (by simp) rfl rfl; exact e
        have s116 := (hy 3 _ 116 rfl rfl).trans e3
        have s116' := s116
        rw [Array.getD_eq_getD_getElem?] at s116'
        clear hd hy hb
        have yb12 : W.cell? ⟨w.heap.size, 12, none⟩ = some (.slice aW Wd.length cW) := cell_of (blk_on HE.out.1 d) rfl
        go_simp
        exact hK.out _ W (stp_of hmo d (Below.refl _ _)) (if_pos rfl)
      case o5 =>
        intro At yy W hy hb d hd K hK
        have e4 : yy 4 = .slice aW Wd.length cW := by obtain ⟨_, _, _, _, e⟩ := hd ⟨4, .data⟩ (by simp) rfl rfl; exact e
        have s117 := (hy 4 _ 117 rfl rfl).trans e4
        have s117' := s117
        rw [Array.getD_eq_getD_getElem?] at s117'
        clear hd hy hb
        go_simp
        go_wp2_with (go_at_call 13; refine (ints_any _ aW Wd cW (hide (HE.out.2.2.2.2.2.1.on d)) bW).mono ?_; rintro e wa ⟨gW3, kW3, rfl, HM3, da⟩)
        exact hK.out _ wa (stp_of hmo d da) ⟨gW3, kW3, if_pos rfl, HM3.out.rd⟩
      case o6 =>
        intro At yy W hy hb d hd K hK
        have f2 := hd ⟨2, .data⟩ (by simp) rfl rfl
        have f5 := hd ⟨5, .data⟩ (by simp) rfl rfl
        obtain ⟨lo2, hi2, hl2, hh2, gF3, kF3, gN3, kN3, e2, ra, rb⟩ := f2
        obtain ⟨lo5, hi5, hl5, hh5, gW3, kW3, e5, rw3⟩ := f5
        have s115 := (hy 2 _ 115 rfl rfl).trans e2
        have s115' := s115
        rw [Array.getD_eq_getD_getElem?] at s115'
        have s118 := (hy 5 _ 118 rfl rfl).trans e5
        have s118' := s118
        rw [Array.getD_eq_getD_getElem?] at s118'
        clear hd hy hb
        go_simp
        go_wp2_with (go_at_call 16; refine (TK2.out _ gF3 kF3 gN3 kN3 gW3 kW3 ra rb rw3).mono ?_; rintro e wa ⟨rfl, da⟩)
        exact hK.out _ wa (stp_of hmo d da) (if_pos rfl)
      case o7 =>
        intro At yy W hy hb d hd K hK
        have e6 : yy 6 = .bool o2 := by obtain ⟨_, _, _, _, e⟩ := hd ⟨6, .data⟩ (by simp) rfl rfl; exact e
        have s119 := (hy 6 _ 119 rfl rfl).trans e6
        have s119' := s119
        rw [Array.getD_eq_getD_getElem?] at s119'
        clear hd hy hb
        go_simp
        exact hK.out _ W (stp_of hmo d (Below.refl _ _)) (if_pos rfl)
      case fin =>
        intro yy lo hi W hM
        show wpList _ _ _ [] _ _
        have e0 : yy 0 = .pointer (some ⟨w.heap.size, 5, none⟩) := hM.fact 0 (by simp) rfl (notR_all 0 rfl)
        have e1 : yy 1 = .agg #[.int .i64 (N2 : Int), .int .i64 (M : Int), .int .i64 (s2 : Int), .slice aG Gi.length cG, .slice aX Ex.length cX] := hM.fact 1 (by simp) rfl (notR_all 1 rfl)
        have e3 : yy 3 = .pointer (some ⟨w.heap.size, 12, none⟩) := hM.fact 3 (by simp) rfl (notR_all 3 rfl)
        have e4 : yy 4 = .slice aW Wd.length cW := hM.fact 4 (by simp) rfl (notR_all 4 rfl)
        have e6 : yy 6 = .bool o2 := hM.fact 6 (by simp) rfl (notR_all 6 rfl)
        have e7 : yy 7 = .bool o2 := hM.fact 7 (by simp) rfl (notR_all 7 rfl)
        have dd := hM.d
        simp only [fills, Act.put, List.take, List.length, List.setIfInBounds_toArray, List.set_cons_zero, List.set_cons_succ, e0, e1, e3, e4, e6, e7]
        obtain ⟨gF2, kF2, gN2, kN2, e2, _, _⟩ := hM.fact 2 (by simp) rfl (notR_all 2 rfl)
        obtain ⟨gW5, kW5, e5, _⟩ := hM.fact 5 (by simp) rfl (notR_all 5 rfl)
        rw [e2, e5]
        clear hM hmo e0 e1 e3 e4 e6 e7 e2 e5
        have HE := hide (And.intro (blk_on HE.out.1 dd) (And.intro (HE.out.2.1.on dd) (And.intro (HE.out.2.2.1.on dd) (And.intro (HE.out.2.2.2.1.on dd) (And.intro (HE.out.2.2.2.2.1.on dd) (And.intro (HE.out.2.2.2.2.2.1.on dd) (And.intro (HE.out.2.2.2.2.2.2.1.trans (dd.mono HE.out.2.2.2.2.2.2.1.size)) (And.intro (blk_on HE.out.2.2.2.2.2.2.2.1 dd) (And.intro (HE.out.2.2.2.2.2.2.2.2.1.on dd) (And.intro (HE.out.2.2.2.2.2.2.2.2.2.1.on dd) (HE.out.2.2.2.2.2.2.2.2.2.2.on dd)))))))))))
        clear dd
        go_upto_region 13 with fail
        have hmo : MonIL 0 [vI 0 (.agg #[.int .i64 (n : Int), .int .i64 (M : Int), .int .i64 0, .slice uF mF c5, .slice uN mN c6]), vI 1 (.pointer (some ⟨w.heap.size, 12, none⟩)), vI 2 (.slice aW Wd.length cW), pI 3 (inP Wd), vI 4 (.bool o1), vI 5 (.bool o1), vI 6 (.bool false)] := ⟨vI_mono _ _, vI_mono _ _, vI_mono _ _, pI_mono inP_mono, vI_mono _ _, vI_mono _ _, vI_mono _ _, trivial⟩
        refine wp_region_sl [vI 0 (.agg #[.int .i64 (n : Int), .int .i64 (M : Int), .int .i64 0, .slice uF mF c5, .slice uN mN c6]), vI 1 (.pointer (some ⟨w.heap.size, 12, none⟩)), vI 2 (.slice aW Wd.length cW), pI 3 (inP Wd), vI 4 (.bool o1), vI 5 (.bool o1), vI 6 (.bool false)] (by kernel_rfl) (by kernel_rfl) (by kernel_rfl) (by kernel_rfl) hmo ⟨?o0, ?o1, ?o2, ?o3, ?o4, ?o5, ?o6, trivial⟩ ?fin
        case o0 =>
          intro At yy W hy hb d hd K hK
          have s3 : At.tmps.getD 3 undef = .pointer (some ⟨bm, 0, none⟩) := hb 3 rfl
          have s3' := s3
          rw [Array.getD_eq_getD_getElem?] at s3'
          clear hd hy hb
          have ym0 : W.cell? ⟨bm, 0, none⟩ = some (.int .i64 (n : Int)) := cell_of (blk_on HE.out.2.2.2.2.2.2.2.1 d) rfl
          have ym1 : W.cell? ⟨bm, 1, none⟩ = some (.int .i64 (M : Int)) := cell_of (blk_on HE.out.2.2.2.2.2.2.2.1 d) rfl
          have ym2 : W.cell? ⟨bm, 2, none⟩ = some (.int .i64 0) := cell_of (blk_on HE.out.2.2.2.2.2.2.2.1 d) rfl
          have ym3 : W.cell? ⟨bm, 3, none⟩ = some (.slice uF mF c5) := cell_of (blk_on HE.out.2.2.2.2.2.2.2.1 d) rfl
          have ym4 : W.cell? ⟨bm, 4, none⟩ = some (.slice uN mN c6) := cell_of (blk_on HE.out.2.2.2.2.2.2.2.1 d) rfl
          go_simp
          exact hK.out _ W (stp_of hmo d (Below.refl _ _)) (if_pos rfl)
        case o1 =>
          intro At yy W hy hb d hd K hK
          have s1 : At.tmps.getD 1 undef = .pointer (some ⟨w.heap.size, 0, none⟩) := hb 1 rfl
          have s1' := s1
          rw [Array.getD_eq_getD_getElem?] at s1'
          clear hd hy hb
          go_simp
          exact hK.out _ W (stp_of hmo d (Below.refl _ _)) (if_pos rfl)
        case o2 =>
          intro At yy W hy hb d hd K hK
          have e1 : yy 1 = .pointer (some ⟨w.heap.size, 12, none⟩) := by obtain ⟨_, _, _, _, e⟩ := hd ⟨1, .data⟩ (by simp) rfl rfl; exact e
          have s121 := (hy 1 _ 121 rfl rfl).trans e1
          have s121' := s121
          rw [Array.getD_eq_getD_getElem?] at s121'
          clear hd hy hb
          have yb12 : W.cell? ⟨w.heap.size, 12, none⟩ = some (.slice aW Wd.length cW) := cell_of (blk_on HE.out.1 d) rfl
          go_simp
          exact hK.out _ W (stp_of hmo d (Below.refl _ _)) (if_pos rfl)
        case o3 =>
          intro At yy W hy hb d hd K hK
          have e2 : yy 2 = .slice aW Wd.length cW := by obtain ⟨_, _, _, _, e⟩ := hd ⟨2, .data⟩ (by simp) rfl rfl; exact e
          have s122 := (hy 2 _ 122 rfl rfl).trans e2
          have s122' := s122
          rw [Array.getD_eq_getD_getElem?] at s122'
          clear hd hy hb
          go_simp
          go_wp2_with (go_at_call 13; refine (ints_any _ aW Wd cW (hide (HE.out.2.2.2.2.2.1.on d)) bW).mono ?_; rintro e wa ⟨gW3, kW3, rfl, HM3, da⟩)
          exact hK.out _ wa (stp_of hmo d da) ⟨gW3, kW3, if_pos rfl, HM3.out.rd⟩
        case o4 =>
          intro At yy W hy hb d hd K hK
          have e0 : yy 0 = .agg #[.int .i64 (n : Int), .int .i64 (M : Int), .int .i64 0, .slice uF mF c5, .slice uN mN c6] := by obtain ⟨_, _, _, _, e⟩ := hd ⟨0, .data⟩ (by simp) rfl rfl; exact e
          have f3 := hd ⟨3, .data⟩ (by simp) rfl rfl
          obtain ⟨lo3, hi3, hl3, hh3, gW3, kW3, e3, rw3⟩ := f3
          have s120 := (hy 0 _ 120 rfl rfl).trans e0
          have s120' := s120
          rw [Array.getD_eq_getD_getElem?] at s120'
          have s123 := (hy 3 _ 123 rfl rfl).trans e3
          have s123' := s123
          rw [Array.getD_eq_getD_getElem?] at s123'
          clear hd hy hb
          go_simp
          go_wp2_with (go_at_call 16; refine (TKM.out _ gW3 kW3 (HE.out.2.2.2.2.2.2.2.2.1.on d) (HE.out.2.2.2.2.2.2.2.2.2.1.on d) rw3).mono ?_; rintro e wa ⟨rfl, da⟩)
          exact hK.out _ wa (stp_of hmo d da) (if_pos rfl)
        case o5 =>
          intro At yy W hy hb d hd K hK
          have s11 : At.tmps.getD 11 undef = .bool o1 := hb 11 rfl
          have s11' := s11
          rw [Array.getD_eq_getD_getElem?] at s11'
          clear hd hy hb
          go_simp
          exact hK.out _ W (stp_of hmo d (Below.refl _ _)) (if_pos rfl)
        case o6 =>
          intro At yy W hy hb d hd K hK
          have e4 : yy 4 = .bool o1 := by obtain ⟨_, _, _, _, e⟩ := hd ⟨4, .data⟩ (by simp) rfl rfl; exact e
          have e5 : yy 5 = .bool o1 := by obtain ⟨_, _, _, _, e⟩ := hd ⟨5, .data⟩ (by simp) rfl rfl; exact e
          have hoo : (o1 != o1) = false := by simp
          have s124 := (hy 4 _ 124 rfl rfl).trans e4
          have s124' := s124
          rw [Array.getD_eq_getD_getElem?] at s124'
          have s125 := (hy 5 _ 125 rfl rfl).trans e5
          have s125' := s125
          rw [Array.getD_eq_getD_getElem?] at s125'
          clear hd hy hb
          go_simp
          exact hK.out _ W (stp_of hmo d (Below.refl _ _)) (if_pos rfl)
        case fin =>
          intro yy lo hi W hM
          show wpList _ _ _ [] _ _
          have e0 : yy 0 = .agg #[.int .i64 (n : Int), .int .i64 (M : Int), .int .i64 0, .slice uF mF c5, .slice uN mN c6] := hM.fact 0 (by simp) rfl (notR_all 0 rfl)
          have e1 : yy 1 = .pointer (some ⟨w.heap.size, 12, none⟩) := hM.fact 1 (by simp) rfl (notR_all 1 rfl)
          have e2 : yy 2 = .slice aW Wd.length cW := hM.fact 2 (by simp) rfl (notR_all 2 rfl)
          have e4 : yy 4 = .bool o1 := hM.fact 4 (by simp) rfl (notR_all 4 rfl)
          have e5 : yy 5 = .bool o1 := hM.fact 5 (by simp) rfl (notR_all 5 rfl)
          have e6 : yy 6 = .bool false := hM.fact 6 (by simp) rfl (notR_all 6 rfl)
          have dd := hM.d
          simp only [fills, Act.put, List.take, List.length, List.setIfInBounds_toArray, List.set_cons_zero, List.set_cons_succ, e0, e1, e2, e4, e5, e6]
          obtain ⟨gW3, kW3, e3, _⟩ := hM.fact 3 (by simp) rfl (notR_all 3 rfl)
          rw [e3]
          clear hM hmo e0 e1 e2 e4 e5 e6 e3
          have HE := hide (And.intro (blk_on HE.out.1 dd) (And.intro (HE.out.2.1.on dd) (And.intro (HE.out.2.2.1.on dd) (And.intro (HE.out.2.2.2.1.on dd) (And.intro (HE.out.2.2.2.2.1.on dd) (And.intro (HE.out.2.2.2.2.2.1.on dd) (And.intro (HE.out.2.2.2.2.2.2.1.trans (dd.mono HE.out.2.2.2.2.2.2.1.size)) (And.intro (blk_on HE.out.2.2.2.2.2.2.2.1 dd) (And.intro (HE.out.2.2.2.2.2.2.2.2.1.on dd) (And.intro (HE.out.2.2.2.2.2.2.2.2.2.1.on dd) (HE.out.2.2.2.2.2.2.2.2.2.2.on dd)))))))))))
          clear dd
          go_upto_region 17 with fail
          have hmo : MonIL 0 [vI 0 (.pointer (some ⟨w.heap.size, 0, none⟩)), vI 1 (.agg #[.int .i64 (N : Int), .int .i64 (M : Int), .int .i64 (st : Int), .slice aF Fi.length cF, .slice aN Nx.length cN]), pI 2 (twP N M st Fi Nx), vI 3 (.slice b (natI u).length c), pI 4 (inP (natI u)), vI 5 (.bool b1), vI 6 (.pointer (some ⟨w.heap.size, 5, none⟩)), vI 7 (.agg #[.int .i64 (N2 : Int), .int .i64 (M : Int), .int .i64 (s2 : Int), .slice aG Gi.length cG, .slice aX Ex.length cX]), pI 8 (twP N2 M s2 Gi Ex), vI 9 (.slice b (natI u).length c), pI 10 (inP (natI u)), vI 11 (.bool b2), vI 12 (.bool false), vI 13 (.bool false), vI 14 (.slice b (natI u).length c), vI 15 (.int .i64 ((natI u).length : Int)), vI 16 (.pointer (some ⟨w.heap.size, 0, none⟩)), vI 17 (.pointer (some ⟨w.heap.size, 0, none⟩)), vI 18 (.int .i64 (N : Int)), vI 19 (.pointer (some ⟨w.heap.size, 5, none⟩)), vI 20 (.pointer (some ⟨w.heap.size, 5, none⟩)), vI 21 (.int .i64 (N2 : Int)), vI 22 (.int .i64 (n8 : Int)), vI 23 (.int .i64 (n9 : Int)), vI 24 (.bool false), vI 25 (.bool false)] := ⟨vI_mono _ _, vI_mono _ _, pI_mono twP_mono, vI_mono _ _, pI_mono inP_mono, vI_mono _ _, vI_mono _ _, vI_mono _ _, pI_mono twP_mono, vI_mono _ _, pI_mono inP_mono, vI_mono _ _, vI_mono _ _, vI_mono _ _, vI_mono _ _, vI_mono _ _, vI_mono _ _, vI_mono _ _, vI_mono _ _, vI_mono _ _, vI_mono _ _, vI_mono _ _, vI_mono _ _, vI_mono _ _, vI_mono _ _, vI_mono _ _, trivial⟩
          refine wp_region_sl [vI 0 (.pointer (some ⟨w.heap.size, 0, none⟩)), vI 1 (.agg #[.int .i64 (N : Int), .int .i64 (M : Int), .int .i64 (st : Int), .slice aF Fi.length cF, .slice aN Nx.length cN]), pI 2 (twP N M st Fi Nx), vI 3 (.slice b (natI u).length c), pI 4 (inP (natI u)), vI 5 (.bool b1), vI 6 (.pointer (some ⟨w.heap.size, 5, none⟩)), vI 7 (.agg #[.int .i64 (N2 : Int), .int .i64 (M : Int), .int .i64 (s2 : Int), .slice aG Gi.length cG, .slice aX Ex.length cX]), pI 8 (twP N2 M s2 Gi Ex), vI 9 (.slice b (natI u).length c), pI 10 (inP (natI u)), vI 11 (.bool b2), vI 12 (.bool false), vI 13 (.bool false), vI 14 (.slice b (natI u).length c), vI 15 (.int .i64 ((natI u).length : Int)), vI 16 (.pointer (some ⟨w.heap.size, 0, none⟩)), vI 17 (.pointer (some ⟨w.heap.size, 0, none⟩)), vI 18 (.int .i64 (N : Int)), vI 19 (.pointer (some ⟨w.heap.size, 5, none⟩)), vI 20 (.pointer (some ⟨w.heap.size, 5, none⟩)), vI 21 (.int .i64 (N2 : Int)), vI 22 (.int .i64 (n8 : Int)), vI 23 (.int .i64 (n9 : Int)), vI 24 (.bool false), vI 25 (.bool false)] (by kernel_rfl) (by kernel_rfl) (by kernel_rfl) (by kernel_rfl) hmo ⟨?o0, ?o1, ?o2, ?o3, ?o4, ?o5, ?o6, ?o7, ?o8, ?o9, ?o10, ?o11, ?o12, ?o13, ?o14, ?o15, ?o16, ?o17, ?o18, ?o19, ?o20, ?o21, ?o22, ?o23, ?o24, ?o25, trivial⟩ ?fin
          case o0 =>
            intro At yy W hy hb d hd K hK
            have s1 : At.tmps.getD 1 undef = .pointer (some ⟨w.heap.size, 0, none⟩) := hb 1 rfl
            have s1' := s1
            rw [Array.getD_eq_getD_getElem?] at s1'
            clear hd hy hb
            go_simp
            exact hK.out _ W (stp_of hmo d (Below.refl _ _)) (if_pos rfl)
          case o1 =>
            intro At yy W hy hb d hd K hK
            have e0 : yy 0 = .pointer (some ⟨w.heap.size, 0, none⟩) := by obtain ⟨_, _, _, _, e⟩ := hd ⟨0, .data⟩ (by simp) rfl rfl; exact e
            have s144 := (hy 0 _ 144 rfl rfl).trans e0
            have s144' := s144
            rw [Array.getD_eq_getD_getElem?] at s144'
            clear hd hy hb
            have yb0 : W.cell? ⟨w.heap.size, 0, none⟩ = some (.int .i64 (N : Int)) := cell_of (blk_on HE.out.1 d) rfl
            have yb1 : W.cell? ⟨w.heap.size, 1, none⟩ = some (.int .i64 (M : Int)) := cell_of (blk_on HE.out.1 d) rfl
            have yb2 : W.cell? ⟨w.heap.size, 2, none⟩ = some (.int .i64 (st : Int)) := cell_of (blk_on HE.out.1 d) rfl
            have yb3 : W.cell? ⟨w.heap.size, 3, none⟩ = some (.slice aF Fi.length cF) := cell_of (blk_on HE.out.1 d) rfl
            have yb4 : W.cell? ⟨w.heap.size, 4, none⟩ = some (.slice aN Nx.length cN) := cell_of (blk_on HE.out.1 d) rfl
            go_simp
            exact hK.out _ W (stp_of hmo d (Below.refl _ _)) (if_pos rfl)
          case o2 =>
            intro At yy W hy hb d hd K hK
            have e1 : yy 1 = .agg #[.int .i64 (N : Int), .int .i64 (M : Int), .int .i64 (st : Int), .slice aF Fi.length cF, .slice aN Nx.length cN] := by obtain ⟨_, _, _, _, e⟩ := hd ⟨1, .data⟩ (by simp) rfl rfl; exact e
            have s145 := (hy 1 _ 145 rfl rfl).trans e1
            have s145' := s145
            rw [Array.getD_eq_getD_getElem?] at s145'
            clear hd hy hb
            go_simp
            go_wp2_with (go_at_call 9; refine (twin_any _ N M st aF aN cF cN Fi Nx (HE.out.2.1.on d) (HE.out.2.2.1.on d) bF (by omega)).mono ?_; rintro e wa ⟨gF3, kF3, gN3, kN3, rfl, HT3, da⟩)
            exact hK.out _ wa (stp_of hmo d da) ⟨gF3, kF3, gN3, kN3, if_pos rfl, HT3.out.f.rd, HT3.out.n.rd⟩
          case o3 =>
            intro At yy W hy hb d hd K hK
            have s8 : At.tmps.getD 8 undef = .slice b (natI u).length c := hb 8 rfl
            have s8' := s8
            rw [Array.getD_eq_getD_getElem?] at s8'
            clear hd hy hb
            go_simp
            exact hK.out _ W (stp_of hmo d (Below.refl _ _)) (if_pos rfl)
          case o4 =>
            intro At yy W hy hb d hd K hK
            have e3 : yy 3 = .slice b (natI u).length c := by obtain ⟨_, _, _, _, e⟩ := hd ⟨3, .data⟩ (by simp) rfl rfl; exact e
            have s147 := (hy 3 _ 147 rfl rfl).trans e3
            have s147' := s147
            rw [Array.getD_eq_getD_getElem?] at s147'
            clear hd hy hb
            go_simp
            go_wp2_with (go_at_call 13; refine (ints_any _ b (natI u) c (hide (HE.out.2.2.2.2.2.2.2.2.2.2.on d)) HLU.out).mono ?_; rintro e wa ⟨gW3, kW3, rfl, HM3, da⟩)
            exact hK.out _ wa (stp_of hmo d da) ⟨gW3, kW3, if_pos rfl, HM3.out.rd⟩
          case o5 =>
            intro At yy W hy hb d hd K hK
            have f2 := hd ⟨2, .data⟩ (by simp) rfl rfl
            have f4 := hd ⟨4, .data⟩ (by simp) rfl rfl
            obtain ⟨lo2, hi2, hl2, hh2, gF3, kF3, gN3, kN3, e2, ra, rb⟩ := f2
            obtain ⟨lo4, hi4, hl4, hh4, gW3, kW3, e4, rw3⟩ := f4
            have s146 := (hy 2 _ 146 rfl rfl).trans e2
            have s146' := s146
            rw [Array.getD_eq_getD_getElem?] at s146'
            have s148 := (hy 4 _ 148 rfl rfl).trans e4
            have s148' := s148
            rw [Array.getD_eq_getD_getElem?] at s148'
            clear hd hy hb
            go_simp
            go_wp2_with (go_at_call 16; refine (TK3.out _ gF3 kF3 gN3 kN3 gW3 kW3 ra rb rw3).mono ?_; rintro e wa ⟨rfl, da⟩)
            exact hK.out _ wa (stp_of hmo d da) (if_pos rfl)
          case o6 =>
            intro At yy W hy hb d hd K hK
            have s1 : At.tmps.getD 1 undef = .pointer (some ⟨w.heap.size, 0, none⟩) := hb 1 rfl
            have s1' := s1
            rw [Array.getD_eq_getD_getElem?] at s1'
            clear hd hy hb
            go_simp
            exact hK.out _ W (stp_of hmo d (Below.refl _ _)) (if_pos rfl)
          case o7 =>
            intro At yy W hy hb d hd K hK
            have e6 : yy 6 = .pointer (some ⟨w.heap.size, 5, none⟩) := by obtain ⟨_, _, _, _, e⟩ := hd ⟨6, .data⟩ (by simp) rfl rfl; exact e
            have s150 := (hy 6 _ 150 rfl rfl).trans e6
            have s150' := s150
            rw [Array.getD_eq_getD_getElem?] at s150'
            clear hd hy hb
            have yb5 : W.cell? ⟨w.heap.size, 5, none⟩ = some (.int .i64 (N2 : Int)) := cell_of (blk_on HE.out.1 d) rfl
            have yb6 : W.cell? ⟨w.heap.size, 6, none⟩ = some (.int .i64 (M : Int)) := cell_of (blk_on HE.out.1 d) rfl
            have yb7 : W.cell? ⟨w.heap.size, 7, none⟩ = some (.int .i64 (s2 : Int)) := cell_of (blk_on HE.out.1 d) rfl
            have yb8 : W.cell? ⟨w.heap.size, 8, none⟩ = some (.slice aG Gi.length cG) := cell_of (blk_on HE.out.1 d) rfl
            have yb9 : W.cell? ⟨w.heap.size, 9, none⟩ = some (.slice aX Ex.length cX) := cell_of (blk_on HE.out.1 d) rfl
            go_simp
            exact hK.out _ W (stp_of hmo d (Below.refl _ _)) (if_pos rfl)
          case o8 =>
            intro At yy W hy hb d hd K hK
            have e7 : yy 7 = .agg #[.int .i64 (N2 : Int), .int .i64 (M : Int), .int .i64 (s2 : Int), .slice aG Gi.length cG, .slice aX Ex.length cX] := by obtain ⟨_, _, _, _, e⟩ := hd ⟨7, .data⟩ (by simp) rfl rfl; exact e
            have s151 := (hy 7 _ 151 rfl rfl).trans e7
            have s151' := s151
            rw [Array.getD_eq_getD_getElem?] at s151'
            clear hd hy hb
            go_simp
            go_wp2_with (go_at_call 9; refine (twin_any _ N2 M s2 aG aX cG cX Gi Ex (HE.out.2.2.2.1.on d) (HE.out.2.2.2.2.1.on d) bG (by omega)).mono ?_; rintro e wa ⟨gF3, kF3, gN3, kN3, rfl, HT3, da⟩)
            exact hK.out _ wa (stp_of hmo d da) ⟨gF3, kF3, gN3, kN3, if_pos rfl, HT3.out.f.rd, HT3.out.n.rd⟩
          case o9 =>
            intro At yy W hy hb d hd K hK
            have s8 : At.tmps.getD 8 undef = .slice b (natI u).length c := hb 8 rfl
            have s8' := s8
            rw [Array.getD_eq_getD_getElem?] at s8'
            clear hd hy hb
            go_simp
            exact hK.out _ W (stp_of hmo d (Below.refl _ _)) (if_pos rfl)
          case o10 =>
            intro At yy W hy hb d hd K hK
            have e9 : yy 9 = .slice b (natI u).length c := by obtain ⟨_, _, _, _, e⟩ := hd ⟨9, .data⟩ (by simp) rfl rfl; exact e
            have s153 := (hy 9 _ 153 rfl rfl).trans e9
            have s153' := s153
            rw [Array.getD_eq_getD_getElem?] at s153'
            clear hd hy hb
            go_simp
            go_wp2_with (go_at_call 13; refine (ints_any _ b (natI u) c (hide (HE.out.2.2.2.2.2.2.2.2.2.2.on d)) HLU.out).mono ?_; rintro e wa ⟨gW3, kW3, rfl, HM3, da⟩)
            exact hK.out _ wa (stp_of hmo d da) ⟨gW3, kW3, if_pos rfl, HM3.out.rd⟩
          case o11 =>
            intro At yy W hy hb d hd K hK
            have f8 := hd ⟨8, .data⟩ (by simp) rfl rfl
            have f10 := hd ⟨10, .data⟩ (by simp) rfl rfl
            obtain ⟨lo8, hi8, hl8, hh8, gF3, kF3, gN3, kN3, e8, ra, rb⟩ := f8
            obtain ⟨lo10, hi10, hl10, hh10, gW3, kW3, e10, rw3⟩ := f10
            have s152 := (hy 8 _ 152 rfl rfl).trans e8
            have s152' := s152
            rw [Array.getD_eq_getD_getElem?] at s152'
            have s154 := (hy 10 _ 154 rfl rfl).trans e10
            have s154' := s154
            rw [Array.getD_eq_getD_getElem?] at s154'
            clear hd hy hb
            go_simp
            go_wp2_with (go_at_call 16; refine (TK4.out _ gF3 kF3 gN3 kN3 gW3 kW3 ra rb rw3).mono ?_; rintro e wa ⟨rfl, da⟩)
            exact hK.out _ wa (stp_of hmo d da) (if_pos rfl)
          case o12 =>
            intro At yy W hy hb d hd K hK
            have e5 : yy 5 = .bool b1 := by obtain ⟨_, _, _, _, e⟩ := hd ⟨5, .data⟩ (by simp) rfl rfl; exact e
            have e11 : yy 11 = .bool b2 := by obtain ⟨_, _, _, _, e⟩ := hd ⟨11, .data⟩ (by simp) rfl rfl; exact e
            have hbb : (b1 == b2) = false := by simpa using HBB.out
            have s149 := (hy 5 _ 149 rfl rfl).trans e5
            have s149' := s149
            rw [Array.getD_eq_getD_getElem?] at s149'
            have s155 := (hy 11 _ 155 rfl rfl).trans e11
            have s155' := s155
            rw [Array.getD_eq_getD_getElem?] at s155'
            clear hd hy hb
            go_simp
            exact hK.out _ W (stp_of hmo d (Below.refl _ _)) (if_pos rfl)
          case o13 =>
            intro At yy W hy hb d hd K hK
            have e12 : yy 12 = .bool false := by obtain ⟨_, _, _, _, e⟩ := hd ⟨12, .data⟩ (by simp) rfl rfl; exact e
            have s156 := (hy 12 _ 156 rfl rfl).trans e12
            have s156' := s156
            rw [Array.getD_eq_getD_getElem?] at s156'
            clear hd hy hb
            go_simp
            exact hK.out _ W (stp_of hmo d (Below.refl _ _)) (if_pos rfl)
          case o14 =>
            intro At yy W hy hb d hd K hK
            have e13 : yy 13 = .bool false := by obtain ⟨_, _, _, _, e⟩ := hd ⟨13, .guard⟩ (by simp) rfl rfl; exact e
            have s8 : At.tmps.getD 8 undef = .slice b (natI u).length c := hb 8 rfl
            have s8' := s8
            rw [Array.getD_eq_getD_getElem?] at s8'
            have s157 := (hy 13 _ 157 rfl rfl).trans e13
            have s157' := s157
            rw [Array.getD_eq_getD_getElem?] at s157'
            have g157 := got_bool s157
            clear hd hy hb
            go_simp
            exact hK.out _ W (stp_of hmo d (Below.refl _ _)) (if_pos rfl)
          case o15 =>
            intro At yy W hy hb d hd K hK
            have e14 : yy 14 = .slice b (natI u).length c := by obtain ⟨_, _, _, _, e⟩ := hd ⟨14, .data⟩ (by simp) rfl rfl; exact e
            have e13 : yy 13 = .bool false := by obtain ⟨_, _, _, _, e⟩ := hd ⟨13, .guard⟩ (by simp) rfl rfl; exact e
            have s157 := (hy 13 _ 157 rfl rfl).trans e13
            have s157' := s157
            rw [Array.getD_eq_getD_getElem?] at s157'
            have s158 := (hy 14 _ 158 rfl rfl).trans e14
            have s158' := s158
            rw [Array.getD_eq_getD_getElem?] at s158'
            have g157 := got_bool s157
            clear hd hy hb
            go_simp
            exact hK.out _ W (stp_of hmo d (Below.refl _ _)) (if_pos rfl)
          case o16 =>
            intro At yy W hy hb d hd K hK
            have e13 : yy 13 = .bool false := by obtain ⟨_, _, _, _, e⟩ := hd ⟨13, .guard⟩ (by simp) rfl rfl; exact e
            have s1 : At.tmps.getD 1 undef = .pointer (some ⟨w.heap.size, 0, none⟩) := hb 1 rfl
            have s1' := s1
            rw [Array.getD_eq_getD_getElem?] at s1'
            have s157 := (hy 13 _ 157 rfl rfl).trans e13
            have s157' := s157
            rw [Array.getD_eq_getD_getElem?] at s157'
            have g157 := got_bool s157
            clear hd hy hb
            go_simp
            exact hK.out _ W (stp_of hmo d (Below.refl _ _)) (if_pos rfl)
          case o17 =>
            intro At yy W hy hb d hd K hK
            have e16 : yy 16 = .pointer (some ⟨w.heap.size, 0, none⟩) := by obtain ⟨_, _, _, _, e⟩ := hd ⟨16, .data⟩ (by simp) rfl rfl; exact e
            have e13 : yy 13 = .bool false := by obtain ⟨_, _, _, _, e⟩ := hd ⟨13, .guard⟩ (by simp) rfl rfl; exact e
            have s157 := (hy 13 _ 157 rfl rfl).trans e13
            have s157' := s157
            rw [Array.getD_eq_getD_getElem?] at s157'
            have s160 := (hy 16 _ 160 rfl rfl).trans e16
            have s160' := s160
            rw [Array.getD_eq_getD_getElem?] at s160'
            have g157 := got_bool s157
            clear hd hy hb
            go_simp
            exact hK.out _ W (stp_of hmo d (Below.refl _ _)) (if_pos rfl)
          case o18 =>
            intro At yy W hy hb d hd K hK
            have e17 : yy 17 = .pointer (some ⟨w.heap.size, 0, none⟩) := by obtain ⟨_, _, _, _, e⟩ := hd ⟨17, .data⟩ (by simp) rfl rfl; exact e
            have e13 : yy 13 = .bool false := by obtain ⟨_, _, _, _, e⟩ := hd ⟨13, .guard⟩ (by simp) rfl rfl; exact e
            have s157 := (hy 13 _ 157 rfl rfl).trans e13
            have s157' := s157
            rw [Array.getD_eq_getD_getElem?] at s157'
            have s161 := (hy 17 _ 161 rfl rfl).trans e17
            have s161' := s161
            rw [Array.getD_eq_getD_getElem?] at s161'
            have g157 := got_bool s157
            clear hd hy hb
            have yb0 : W.cell? ⟨w.heap.size, 0, none⟩ = some (.int .i64 (N : Int)) := cell_of (blk_on HE.out.1 d) rfl
            go_simp
            exact hK.out _ W (stp_of hmo d (Below.refl _ _)) (if_pos rfl)
          case o19 =>
            intro At yy W hy hb d hd K hK
            have e13 : yy 13 = .bool false := by obtain ⟨_, _, _, _, e⟩ := hd ⟨13, .guard⟩ (by simp) rfl rfl; exact e
            have s1 : At.tmps.getD 1 undef = .pointer (some ⟨w.heap.size, 0, none⟩) := hb 1 rfl
            have s1' := s1
            rw [Array.getD_eq_getD_getElem?] at s1'
            have s157 := (hy 13 _ 157 rfl rfl).trans e13
            have s157' := s157
            rw [Array.getD_eq_getD_getElem?] at s157'
            have g157 := got_bool s157
            clear hd hy hb
            go_simp
            exact hK.out _ W (stp_of hmo d (Below.refl _ _)) (if_pos rfl)
          case o20 =>
            intro At yy W hy hb d hd K hK
            have e19 : yy 19 = .pointer (some ⟨w.heap.size, 5, none⟩) := by obtain ⟨_, _, _, _, e⟩ := hd ⟨19, .data⟩ (by simp) rfl rfl; exact e
            have e13 : yy 13 = .bool false := by obtain ⟨_, _, _, _, e⟩ := hd ⟨13, .guard⟩ (by simp) rfl rfl; exact e
            have s157 := (hy 13 _ 157 rfl rfl).trans e13
            have s157' := s157
            rw [Array.getD_eq_getD_getElem?] at s157'
            have s163 := (hy 19 _ 163 rfl rfl).trans e19
            have s163' := s163
            rw [Array.getD_eq_getD_getElem?] at s163'
            have g157 := got_bool s157
            clear hd hy hb
            go_simp
            exact hK.out _ W (stp_of hmo d (Below.refl _ _)) (if_pos rfl)
          case o21 =>
            intro At yy W hy hb d hd K hK
            have e20 : yy 20 = .pointer (some ⟨w.heap.size, 5, none⟩) := by obtain ⟨_, _, _, _, e⟩ := hd ⟨20, .data⟩ (by simp) rfl rfl; exact e
            have e13 : yy 13 = .bool false := by obtain ⟨_, _, _, _, e⟩ := hd ⟨13, .guard⟩ (by simp) rfl rfl; exact e
            have s157 := (hy 13 _ 157 rfl rfl).trans e13
            have s157' := s157
            rw [Array.getD_eq_getD_getElem?] at s157'
            have s164 := (hy 20 _ 164 rfl rfl).trans e20
            have s164' := s164
            rw [Array.getD_eq_getD_getElem?] at s164'
            have g157 := got_bool s157
            clear hd hy hb
            have yb5 : W.cell? ⟨w.heap.size, 5, none⟩ = some (.int .i64 (N2 : Int)) := cell_of (blk_on HE.out.1 d) rfl
            go_simp
            exact hK.out _ W (stp_of hmo d (Below.refl _ _)) (if_pos rfl)
          case o22 =>
            intro At yy W hy hb d hd K hK
            have e18 : yy 18 = .int .i64 (N : Int) := by obtain ⟨_, _, _, _, e⟩ := hd ⟨18, .data⟩ (by simp) rfl rfl; exact e
            have e21 : yy 21 = .int .i64 (N2 : Int) := by obtain ⟨_, _, _, _, e⟩ := hd ⟨21, .data⟩ (by simp) rfl rfl; exact e
            have e13 : yy 13 = .bool false := by obtain ⟨_, _, _, _, e⟩ := hd ⟨13, .guard⟩ (by simp) rfl rfl; exact e
            have h22 := HW2.out.1
            have s157 := (hy 13 _ 157 rfl rfl).trans e13
            have s157' := s157
            rw [Array.getD_eq_getD_getElem?] at s157'
            have s162 := (hy 18 _ 162 rfl rfl).trans e18
            have s162' := s162
            rw [Array.getD_eq_getD_getElem?] at s162'
            have s165 := (hy 21 _ 165 rfl rfl).trans e21
            have s165' := s165
            rw [Array.getD_eq_getD_getElem?] at s165'
            have g157 := got_bool s157
            clear hd hy hb
            go_simp
            exact hK.out _ W (stp_of hmo d (Below.refl _ _)) (if_pos rfl)
          case o23 =>
            intro At yy W hy hb d hd K hK
            have e22 : yy 22 = .int .i64 (n8 : Int) := by obtain ⟨_, _, _, _, e⟩ := hd ⟨22, .data⟩ (by simp) rfl rfl; exact e
            have e13 : yy 13 = .bool false := by obtain ⟨_, _, _, _, e⟩ := hd ⟨13, .guard⟩ (by simp) rfl rfl; exact e
            have h23 := HW2.out.2.1
            have s157 := (hy 13 _ 157 rfl rfl).trans e13
            have s157' := s157
            rw [Array.getD_eq_getD_getElem?] at s157'
            have s166 := (hy 22 _ 166 rfl rfl).trans e22
            have s166' := s166
            rw [Array.getD_eq_getD_getElem?] at s166'
            have g157 := got_bool s157
            clear hd hy hb
            go_simp
            exact hK.out _ W (stp_of hmo d (Below.refl _ _)) (if_pos rfl)
          case o24 =>
            intro At yy W hy hb d hd K hK
            have e15 : yy 15 = .int .i64 ((natI u).length : Int) := by obtain ⟨_, _, _, _, e⟩ := hd ⟨15, .data⟩ (by simp) rfl rfl; exact e
            have e23 : yy 23 = .int .i64 (n9 : Int) := by obtain ⟨_, _, _, _, e⟩ := hd ⟨23, .data⟩ (by simp) rfl rfl; exact e
            have e13 : yy 13 = .bool false := by obtain ⟨_, _, _, _, e⟩ := hd ⟨13, .guard⟩ (by simp) rfl rfl; exact e
            have h24 := HW2.out.2.2
            have h25 : ¬ (n9 : Int) < ((natI u).length : Int) := by omega
            have s157 := (hy 13 _ 157 rfl rfl).trans e13
            have s157' := s157
            rw [Array.getD_eq_getD_getElem?] at s157'
            have s159 := (hy 15 _ 159 rfl rfl).trans e15
            have s159' := s159
            rw [Array.getD_eq_getD_getElem?] at s159'
            have s167 := (hy 23 _ 167 rfl rfl).trans e23
            have s167' := s167
            rw [Array.getD_eq_getD_getElem?] at s167'
            have g157 := got_bool s157
            clear hd hy hb
            go_simp
            exact hK.out _ W (stp_of hmo d (Below.refl _ _)) (if_pos rfl)
          case o25 =>
            intro At yy W hy hb d hd K hK
            have e13 : yy 13 = .bool false := by obtain ⟨_, _, _, _, e⟩ := hd ⟨13, .data⟩ (by simp) rfl rfl; exact e
            have e24 : yy 24 = .bool false := by obtain ⟨_, _, _, _, e⟩ := hd ⟨24, .data⟩ (by simp) rfl rfl; exact e
            have s157 := (hy 13 _ 157 rfl rfl).trans e13
            have s157' := s157
            rw [Array.getD_eq_getD_getElem?] at s157'
            have s168 := (hy 24 _ 168 rfl rfl).trans e24
            have s168' := s168
            rw [Array.getD_eq_getD_getElem?] at s168'
            clear hd hy hb
            go_simp
            exact hK.out _ W (stp_of hmo d (Below.refl _ _)) (if_pos rfl)
          case fin =>
            intro yy lo hi W hM
            show wpList _ _ _ [] _ _
            have e0 : yy 0 = .pointer (some ⟨w.heap.size, 0, none⟩) := hM.fact 0 (by simp) rfl (notR_all 0 rfl)
            have e1 : yy 1 = .agg #[.int .i64 (N : Int), .int .i64 (M : Int), .int .i64 (st : Int), .slice aF Fi.length cF, .slice aN Nx.length cN] := hM.fact 1 (by simp) rfl (notR_all 1 rfl)
            have e3 : yy 3 = .slice b (natI u).length c := hM.fact 3 (by simp) rfl (notR_all 3 rfl)
            have e5 : yy 5 = .bool b1 := hM.fact 5 (by simp) rfl (notR_all 5 rfl)
            have e6 : yy 6 = .pointer (some ⟨w.heap.size, 5, none⟩) := hM.fact 6 (by simp) rfl (notR_all 6 rfl)
            have e7 : yy 7 = .agg #[.int .i64 (N2 : Int), .int .i64 (M : Int), .int .i64 (s2 : Int), .slice aG Gi.length cG, .slice aX Ex.length cX] := hM.fact 7 (by simp) rfl (notR_all 7 rfl)
            have e9 : yy 9 = .slice b (natI u).length c := hM.fact 9 (by simp) rfl (notR_all 9 rfl)
            have e11 : yy 11 = .bool b2 := hM.fact 11 (by simp) rfl (notR_all 11 rfl)
            have e12 : yy 12 = .bool false := hM.fact 12 (by simp) rfl (notR_all 12 rfl)
            have e13 : yy 13 = .bool false := hM.fact 13 (by simp) rfl (notR_all 13 rfl)
            have e14 : yy 14 = .slice b (natI u).length c := hM.fact 14 (by simp) rfl (notR_all 14 rfl)
            have e15 : yy 15 = .int .i64 ((natI u).length : Int) := hM.fact 15 (by simp) rfl (notR_all 15 rfl)
            have e16 : yy 16 = .pointer (some ⟨w.heap.size, 0, none⟩) := hM.fact 16 (by simp) rfl (notR_all 16 rfl)
            have e17 : yy 17 = .pointer (some ⟨w.heap.size, 0, none⟩) := hM.fact 17 (by simp) rfl (notR_all 17 rfl)
            have e18 : yy 18 = .int .i64 (N : Int) := hM.fact 18 (by simp) rfl (notR_all 18 rfl)
            have e19 : yy 19 = .pointer (some ⟨w.heap.size, 5, none⟩) := hM.fact 19 (by simp) rfl (notR_all 19 rfl)
            have e20 : yy 20 = .pointer (some ⟨w.heap.size, 5, none⟩) := hM.fact 20 (by simp) rfl (notR_all 20 rfl)
            have e21 : yy 21 = .int .i64 (N2 : Int) := hM.fact 21 (by simp) rfl (notR_all 21 rfl)
            have e22 : yy 22 = .int .i64 (n8 : Int) := hM.fact 22 (by simp) rfl (notR_all 22 rfl)
            have e23 : yy 23 = .int .i64 (n9 : Int) := hM.fact 23 (by simp) rfl (notR_all 23 rfl)
            have e24 : yy 24 = .bool false := hM.fact 24 (by simp) rfl (notR_all 24 rfl)
            have e25 : yy 25 = .bool false := hM.fact 25 (by simp) rfl (notR_all 25 rfl)
            have dd := hM.d
            simp only [fills, Act.put, List.take, List.length, List.setIfInBounds_toArray, List.set_cons_zero, List.set_cons_succ, e0, e1, e3, e5, e6, e7, e9, e11, e12, e13, e14, e15, e16, e17, e18, e19, e20, e21, e22, e23, e24, e25]
            obtain ⟨gF2, kF2, gN2, kN2, e2, _, _⟩ := hM.fact 2 (by simp) rfl (notR_all 2 rfl)
            obtain ⟨gF8, kF8, gN8, kN8, e8, _, _⟩ := hM.fact 8 (by simp) rfl (notR_all 8 rfl)
            obtain ⟨gW4, kW4, e4, _⟩ := hM.fact 4 (by simp) rfl (notR_all 4 rfl)
            obtain ⟨gW10, kW10, e10, _⟩ := hM.fact 10 (by simp) rfl (notR_all 10 rfl)
            rw [e2, e8, e4, e10]
            clear hM hmo e0 e1 e3 e5 e6 e7 e9 e11 e12 e13 e14 e15 e16 e17 e18 e19 e20 e21 e22 e23 e24 e25 e2 e8 e4 e10
            have HE := hide (And.intro (blk_on HE.out.1 dd) (And.intro (HE.out.2.1.on dd) (And.intro (HE.out.2.2.1.on dd) (And.intro (HE.out.2.2.2.1.on dd) (And.intro (HE.out.2.2.2.2.1.on dd) (And.intro (HE.out.2.2.2.2.2.1.on dd) (And.intro (HE.out.2.2.2.2.2.2.1.trans (dd.mono HE.out.2.2.2.2.2.2.1.size)) (And.intro (blk_on HE.out.2.2.2.2.2.2.2.1 dd) (And.intro (HE.out.2.2.2.2.2.2.2.2.1.on dd) (And.intro (HE.out.2.2.2.2.2.2.2.2.2.1.on dd) (HE.out.2.2.2.2.2.2.2.2.2.2.on dd)))))))))))
            clear dd
            go_upto_region 19 with fail
            by_cases ho : o1 = o2
            · subst ho
              have hoo : (o1 == o1) = true := by simp
              go_wp2_with fail
              go_ret
              exact ⟨rfl, HE.out.2.2.2.2.2.2.1⟩
            · have TA : Hid (∀ W', Below W.heap.size W W' → Calls Try.prog 11 #[.slice b (natI u).length c, .slice aW Wd.length cW] W' fun e w' => e = .returned (.bool true) ∧ Below W'.heap.size W' w') := hide (fun W' d => by
                have z := ahead_any W' b aW (natI u).length c Wd.length cW (natI u) Wd (HE.out.2.2.2.2.2.2.2.2.2.2.on d) (HE.out.2.2.2.2.2.1.on d) rfl rfl HLU.out bW
                rwa [HO.out ho] at z)
              have hoo : (o1 == o2) = false := by simpa using ho
              have y12 : W.cell? ⟨w.heap.size, 12, none⟩ = some (.slice aW Wd.length cW) := cell_of HE.out.1 rfl
              go_wp2_with (go_at_call 11; refine (TA.out _ (Below.refl _ _)).mono ?_; rintro e wz ⟨rfl, dz⟩; have HDZ := hide dz; clear dz y12)
              go_ret
              exact ⟨rfl, HE.out.2.2.2.2.2.2.1.trans (HDZ.out.mono HE.out.2.2.2.2.2.2.1.size)⟩
end Go.Proofs.Ytocoghljmlpdeaa
