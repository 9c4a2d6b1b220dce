import Derived.Test.YtocoghljmlpdeaaQak
namespace Go.Proofs.Ytocoghljmlpdeaa
open Go.RowKit Go.Maps
attribute [local go_sem] Oper.semAt_some
/-! ### Tells: two states -/
theorem vd_start {N M st p : Nat} {Fi Nx : List Int} (h : vd N M st Fi Nx = true) (hp : p < N) : vd N M p Fi Nx = true := by
  have hb : inB (N : Int) (p : Int) = true := inB_iff.2 ⟨by omega, by omega⟩
  unfold vd at h ⊢
  simp only [Bool.and_eq_true] at h ⊢
  exact ⟨⟨⟨⟨h.1.1.1.1, hb⟩, h.1.1.2⟩, h.1.2⟩, h.2⟩
theorem tk_at {N M st p : Nat} {Fi Nx : List Int} (h : vd N M st Fi Nx = true) (hp : p < N) (L : List Int) : tkB N M p Fi Nx L = (L.all (inB M) && inF Fi (dls Nx M p (L.map Int.toNat))) := by
  unfold tkB
  rw [vd_start h hp, Bool.true_and]
  rfl
theorem all_nat {M : Nat} {L : List Int} (h : L.all (inB M) = true) : natI (L.map Int.toNat) = L ∧ ∀ a ∈ L.map Int.toNat, a < M := by
  have h := List.all_eq_true.1 h
  constructor
  · unfold natI
    rw [List.map_map]
    conv => rhs; rw [← List.map_id L]
    refine List.map_congr_left fun x hx => ?_
    have := inB_iff.1 (h x hx)
    show ((x.toNat : Nat) : Int) = x
    omega
  · intro a ha
    obtain ⟨x, hx, rfl⟩ := List.mem_map.1 ha
    have := inB_iff.1 (h x hx)
    omega
theorem nat_all {M : Nat} {u : List Nat} (h : ∀ a ∈ u, a < M) : (natI u).all (inB M) = true ∧ (natI u).map Int.toNat = u := by
  constructor
  · refine List.all_eq_true.2 fun x hx => ?_
    obtain ⟨a, ha, rfl⟩ := List.mem_map.1 hx
    have := h a ha
    exact inB_iff.2 ⟨by omega, by omega⟩
  · unfold natI
    rw [List.map_map]
    conv => rhs; rw [← List.map_id u]
    exact List.map_congr_left fun x _ => rfl
theorem tk_ali {N M st p q : Nat} {Fi Nx : List Int} (h : vd N M st Fi Nx = true) (hp : p < N) (hq : q < N) (hA : Ali Nx (inF Fi) M p q) (L : List Int) : tkB N M p Fi Nx L = tkB N M q Fi Nx L := by
  rw [tk_at h hp, tk_at h hq]
  by_cases c : L.all (inB M) = true
  · rw [hA _ (all_nat c).2]
  · rw [Bool.eq_false_iff.2 c, Bool.false_and, Bool.false_and]
theorem tk_told {N M st p q : Nat} {Fi Nx : List Int} {u : List Nat} (h : vd N M st Fi Nx = true) (hp : p < N) (hq : q < N) (hT : TlW Nx (inF Fi) N M p q u) : ¬ tkB N M p Fi Nx (natI u) = tkB N M q Fi Nx (natI u) := by
  rw [tk_at h hp, tk_at h hq, (nat_all hT.1).1, (nat_all hT.1).2, Bool.true_and, Bool.true_and]
  exact hT.2.1
theorem tk_ahead {N M st p q : Nat} {Fi Nx : List Int} {u : List Nat} (h : vd N M st Fi Nx = true) (hp : p < N) (hq : q < N) (hT : TlW Nx (inF Fi) N M p q u) (L : List Int) (hne : ¬ tkB N M p Fi Nx L = tkB N M q Fi Nx L) : ahB (natI u) L = true := by
  rw [tk_at h hp, tk_at h hq] at hne
  by_cases c : L.all (inB M) = true
  · rw [c, Bool.true_and, Bool.true_and] at hne
    have e := all_nat c
    have z : ahB (natI u) (natI (L.map Int.toNat)) = decide (rk M u ≤ rk M (L.map Int.toNat)) := ahB_rk hT.1 e.2
    rw [e.1] at z
    rw [z]
    exact decide_eq_true (hT.2.2.2 _ e.2 hne)
  · rw [Bool.eq_false_iff.2 c, Bool.false_and, Bool.false_and] at hne
    exact absurd rfl hne
def telP (Nx : List Int) (fin : Nat → Bool) (N M p q : Nat) : MkP := fun x _ _ W => ∃ b c u, x = .tuple #[.slice b (natI u).length c, .int .i64 0] ∧ TlW Nx fin N M p q u ∧ RdN W b (natI u)
theorem telP_mono {Nx : List Int} {fin : Nat → Bool} {N M p q : Nat} : MonoP (telP Nx fin N M p q) := fun _ _ _ _ _ _ d ⟨b, c, u, e, t, r⟩ => ⟨b, c, u, e, t, r.on d⟩
def telS (Nx : List Int) (fin : Nat → Bool) (N M p q : Nat) : MkP := fun x _ _ W => ∃ b c u, x = .slice b (natI u).length c ∧ TlW Nx fin N M p q u ∧ RdN W b (natI u)
theorem telS_mono {Nx : List Int} {fin : Nat → Bool} {N M p q : Nat} : MonoP (telS Nx fin N M p q) := fun _ _ _ _ _ _ d ⟨b, c, u, e, t, r⟩ => ⟨b, c, u, e, t, r.on d⟩
theorem tell_told (w : World) (N M st : Nat) (aF aN : Option Addr) (lF cF lN cN : Nat) (Fi Nx : List Int) (hF : RdN w aF Fi) (hN : RdN w aN Nx) (hlF : Fi.length = lF) (hlN : Nx.length = lN) (bF : lF ≤ 4194304) (bN : lN ≤ 4194304) (hv : vd N M st Fi Nx = true) (p q : Nat) (hp : p < N) (hq : q < N) (hA : ¬ Ali Nx (inF Fi) M p q) :
    Calls Try.prog 15 #[.agg #[.int .i64 (N : Int), .int .i64 (M : Int), .int .i64 (st : Int), .slice aF lF cF, .slice aN lN cN], .int .i64 (p : Int), .int .i64 (q : Int)] w fun e w' => ∃ b c u, e = .returned (.tuple #[.slice b (natI u).length c, .int .i64 0]) ∧ TlW Nx (inF Fi) N M p q u ∧ RdN w' b (natI u) ∧ Below w.heap.size w w' := by
  refine (tell_ok w N M st aF aN lF cF lN cN Fi Nx hF hN hlF hlN bF bN hv p q hp hq).mono ?_
  rintro e w' ⟨b, n, c, er, rfl, H⟩
  rcases H.out with ⟨d, ⟨rfl, rfl, rfl, rfl, h⟩ | ⟨rfl, u, o, t⟩⟩
  · exact absurd h hA
  · obtain ⟨rfl, r⟩ := owI_rd o
    exact ⟨b, c, u, rfl, t, r, d⟩
theorem tell_same (w : World) (N M st : Nat) (aF aN : Option Addr) (lF cF lN cN : Nat) (Fi Nx : List Int) (hF : RdN w aF Fi) (hN : RdN w aN Nx) (hlF : Fi.length = lF) (hlN : Nx.length = lN) (bF : lF ≤ 4194304) (bN : lN ≤ 4194304) (hv : vd N M st Fi Nx = true) (p q : Nat) (hp : p < N) (hq : q < N) (hA : Ali Nx (inF Fi) M p q) :
    Calls Try.prog 15 #[.agg #[.int .i64 (N : Int), .int .i64 (M : Int), .int .i64 (st : Int), .slice aF lF cF, .slice aN lN cN], .int .i64 (p : Int), .int .i64 (q : Int)] w fun e w' => e = .returned (.tuple #[.slice none 0 0, .int .i64 60]) ∧ Below w.heap.size w w' := by
  refine (tell_ok w N M st aF aN lF cF lN cN Fi Nx hF hN hlF hlN bF bN hv p q hp hq).mono ?_
  rintro e w' ⟨b, n, c, er, rfl, H⟩
  rcases H.out with ⟨d, ⟨rfl, rfl, rfl, rfl, h⟩ | ⟨rfl, u, o, t⟩⟩
  · exact ⟨rfl, d⟩
  · exact absurd (hA u t.1) t.2.1
theorem cl_idem {Nx : List Int} {fin : Nat → Bool} {N M : Nat} {al : Nat → Nat} (h : ClA Nx fin N M al) {s : Nat} (hs : s < N) : al (al s) = al s := by
  obtain ⟨a1, a2, a3⟩ := h s hs
  obtain ⟨b1, b2, b3⟩ := h (al s) (by omega)
  have z := a3 (al (al s)) (by omega) (fun u hu => (a2 u hu).trans (b2 u hu))
  omega
theorem cl_iff {Nx : List Int} {fin : Nat → Bool} {N M : Nat} {al : Nat → Nat} (h : ClA Nx fin N M al) {p q : Nat} (hp : p < N) (hq : q < N) : al p = al q ↔ Ali Nx fin M p q := by
  obtain ⟨a1, a2, a3⟩ := h p hp
  obtain ⟨b1, b2, b3⟩ := h q hq
  constructor
  · intro e u hu
    have z1 := a2 u hu
    have z2 := b2 u hu
    rw [e] at z1
    exact z1.trans z2.symm
  · intro e
    have z1 := a3 (al q) (by omega) (fun u hu => (e u hu).trans (b2 u hu))
    have z2 := b3 (al p) (by omega) (fun u hu => (e u hu).symm.trans (a2 u hu))
    omega
set_option maxRecDepth 100000 in
set_option maxHeartbeats 4000000 in
theorem tells_same (w : World) (N M st : Nat) (p q : Nat) (aF aN aW : Option Addr) (cF cN cW : Nat) (Fi Nx Wd : List Int) (x5 x6 x7 x8 x9 : Value) (hF : RdN w aF Fi) (hN : RdN w aN Nx) (hW : RdN w aW Wd) (bF : Fi.length ≤ 4194304) (bN : Nx.length ≤ 4194304) (bW : Wd.length ≤ 4194304) (hv : vd N M st Fi Nx = true) (hp : p < N) (hq : q < N) (hA : Ali Nx (inF Fi) M p q) :
    Calls Try.prog 4 #[.agg #[.int .i64 (N : Int), .int .i64 (M : Int), .int .i64 (st : Int), .slice aF Fi.length cF, .slice aN Nx.length cN, x5, x6, x7, x8, x9, .int .i64 (p : Int), .int .i64 (q : Int), .slice aW Wd.length cW]] w fun e w' => e = .returned (.bool true) ∧ Below w.heap.size w w' := by
  obtain ⟨W0, hW0⟩ : ∃ W, w.alloc (.cells #[.int .i64 (N : Int), .int .i64 (M : Int), .int .i64 (st : Int), .slice aF Fi.length cF, .slice aN Nx.length cN, x5, x6, x7, x8, x9, .int .i64 (p : Int), .int .i64 (q : Int), .slice aW Wd.length cW] 26) = W := ⟨_, rfl⟩
  have d0 : Below w.heap.size w W0 := by rw [← hW0]; exact (Below.refl _ _).alloc (Nat.le_refl _) _
  have B0 : W0.heap[w.heap.size]? = some (.cells #[.int .i64 (N : Int), .int .i64 (M : Int), .int .i64 (st : Int), .slice aF Fi.length cF, .slice aN Nx.length cN, x5, x6, x7, x8, x9, .int .i64 (p : Int), .int .i64 (q : Int), .slice aW Wd.length cW] 26 (0, 0)) := by rw [← hW0]; exact World.alloc_heap_new _ _
  have HW := hide (And.intro d0 (And.intro B0 (And.intro (hF.on d0) (And.intro (hN.on d0) (hW.on d0)))))
  clear d0 B0 hF hN hW
  have HN9 := hide (show N ≤ 4096 by obtain ⟨n0, m0, s0, en, em, es, n1, n2, _⟩ := vd_nat hv; omega)
  have HV := hide (And.intro hv (And.intro hp (And.intro hq hA)))
  clear hv hp hq hA
  go_enter Try.func4, Try.ntmps4
  go_upto_region 3 with (go_at_call 7; refine (works_any _).mono ?_; rintro e w1 ⟨rfl, D1⟩)
  have B1 := blk_on HW.out.2.1 D1
  have k0 : w1.cell? ⟨w.heap.size, 0, none⟩ = some (.int .i64 (N : Int)) := cell_of B1 rfl
  have k1 : w1.cell? ⟨w.heap.size, 1, none⟩ = some (.int .i64 (M : Int)) := cell_of B1 rfl
  have k2 : w1.cell? ⟨w.heap.size, 2, none⟩ = some (.int .i64 (st : Int)) := cell_of B1 rfl
  have k3 : w1.cell? ⟨w.heap.size, 3, none⟩ = some (.slice aF Fi.length cF) := cell_of B1 rfl
  have k4 : w1.cell? ⟨w.heap.size, 4, none⟩ = some (.slice aN Nx.length cN) := cell_of B1 rfl
  have T9 := twin_any w1 N M st aF aN cF cN Fi Nx (HW.out.2.2.1.on D1) (HW.out.2.2.2.1.on D1) bF bN
  have HB1 := hide (And.intro (HW.out.1.trans (D1.mono HW.out.1.size)) (And.intro B1 (And.intro (HW.out.2.2.1.on D1) (And.intro (HW.out.2.2.2.1.on D1) (HW.out.2.2.2.2.on D1)))))
  clear D1 B1
  go_upto_region 4 with (first | (go_at_call 9; refine T9.mono ?_; rintro e w2 ⟨gF, kF, gN, kN, rfl, HT, D2⟩; have T8 := classes_ok w2 N M st (some ⟨gF, 0, none⟩) (some ⟨gN, 0, none⟩) Fi.length kF Nx.length kN Fi Nx HT.out.f.rd HT.out.n.rd rfl rfl bF bN HV.out.1; have HD2 := hide D2; clear D2 k0 k1 k2 k3 k4) | (go_at_call 14; refine T8.mono ?_; rintro e w3 ⟨hc, rfl, al, HCC⟩; have HD3 := hide (HD2.out.trans (HCC.out.2.2.2.mono HD2.out.size))))
  have HE := hide (And.intro (blk_on HB1.out.2.1 HD3.out) (And.intro (HB1.out.2.2.1.on HD3.out) (And.intro (HB1.out.2.2.2.1.on HD3.out) (And.intro (HB1.out.2.2.2.2.on HD3.out) (And.intro (HB1.out.1.trans (HD3.out.mono HB1.out.1.size)) True.intro)))))
  have HR := hide HCC.out.1
  have HAL := hide HCC.out.2.2.1
  clear HB1 HD3 HD2 HW T8 T9 HCC
  have hmo : MonIL 0 [vI 0 (.pointer (some ⟨w.heap.size, 0, none⟩)), vI 1 (.agg #[.int .i64 (N : Int), .int .i64 (M : Int), .int .i64 (st : Int), .slice aF Fi.length cF, .slice aN Nx.length cN]), pI 2 (twP N M st Fi Nx), vI 3 (.pointer (some ⟨w.heap.size, 10, none⟩)), vI 4 (.int .i64 (p : Int)), vI 5 (.pointer (some ⟨w.heap.size, 11, none⟩)), vI 6 (.int .i64 (q : Int)), vI 7 (.tuple #[.slice none 0 0, .int .i64 60]), vI 8 (.tuple #[.slice none 0 0, .int .i64 60]), vI 9 (.slice none 0 0), vI 10 (.int .i64 60), vI 11 (.slice none 0 0), vI 12 (.int .i64 60)] := ⟨vI_mono _ _, vI_mono _ _, pI_mono twP_mono, vI_mono _ _, vI_mono _ _, vI_mono _ _, vI_mono _ _, vI_mono _ _, vI_mono _ _, vI_mono _ _, vI_mono _ _, vI_mono _ _, vI_mono _ _, trivial⟩
  refine wp_region_sl [vI 0 (.pointer (some ⟨w.heap.size, 0, none⟩)), vI 1 (.agg #[.int .i64 (N : Int), .int .i64 (M : Int), .int .i64 (st : Int), .slice aF Fi.length cF, .slice aN Nx.length cN]), pI 2 (twP N M st Fi Nx), vI 3 (.pointer (some ⟨w.heap.size, 10, none⟩)), vI 4 (.int .i64 (p : Int)), vI 5 (.pointer (some ⟨w.heap.size, 11, none⟩)), vI 6 (.int .i64 (q : Int)), vI 7 (.tuple #[.slice none 0 0, .int .i64 60]), vI 8 (.tuple #[.slice none 0 0, .int .i64 60]), vI 9 (.slice none 0 0), vI 10 (.int .i64 60), vI 11 (.slice none 0 0), vI 12 (.int .i64 60)] (by kernel_rfl) (by kernel_rfl) (by kernel_rfl) (by kernel_rfl) hmo ⟨?o0, ?o1, ?o2, ?o3, ?o4, ?o5, ?o6, ?o7, ?o8, ?o9, ?o10, ?o11, ?o12, trivial⟩ ?fin
  case o0 =>
    intro At yy W hy hb d hd K hK
    have s1 : At.tmps.getD 1 undef = .pointer (some ⟨w.heap.size, 0, none⟩) := hb 1 rfl
    have s1' := s1
    rw [Array.getD_eq_getD_getElem?] at s1'
    clear hd hy hb
    go_simp
    exact hK.out _ W (stp_of hmo d (Below.refl _ _)) (if_pos rfl)
  case o1 =>
    intro At yy W hy hb d hd K hK
    have e0 : yy 0 = .pointer (some ⟨w.heap.size, 0, none⟩) := by obtain ⟨_, _, _, _, e⟩ := hd ⟨0, .data⟩ (by simp) rfl rfl; exact e
    have s19 := (hy 0 _ 19 rfl rfl).trans e0
    have s19' := s19
    rw [Array.getD_eq_getD_getElem?] at s19'
    clear hd hy hb
    have yb0 : W.cell? ⟨w.heap.size, 0, none⟩ = some (.int .i64 (N : Int)) := cell_of (blk_on HE.out.1 d) rfl
    have yb1 : W.cell? ⟨w.heap.size, 1, none⟩ = some (.int .i64 (M : Int)) := cell_of (blk_on HE.out.1 d) rfl
    have yb2 : W.cell? ⟨w.heap.size, 2, none⟩ = some (.int .i64 (st : Int)) := cell_of (blk_on HE.out.1 d) rfl
    have yb3 : W.cell? ⟨w.heap.size, 3, none⟩ = some (.slice aF Fi.length cF) := cell_of (blk_on HE.out.1 d) rfl
    have yb4 : W.cell? ⟨w.heap.size, 4, none⟩ = some (.slice aN Nx.length cN) := cell_of (blk_on HE.out.1 d) rfl
    go_simp
    exact hK.out _ W (stp_of hmo d (Below.refl _ _)) (if_pos rfl)
  case o2 =>
    intro At yy W hy hb d hd K hK
    have e1 : yy 1 = .agg #[.int .i64 (N : Int), .int .i64 (M : Int), .int .i64 (st : Int), .slice aF Fi.length cF, .slice aN Nx.length cN] := by obtain ⟨_, _, _, _, e⟩ := hd ⟨1, .data⟩ (by simp) rfl rfl; exact e
    have s20 := (hy 1 _ 20 rfl rfl).trans e1
    have s20' := s20
    rw [Array.getD_eq_getD_getElem?] at s20'
    clear hd hy hb
    go_simp
    go_wp2_with (go_at_call 9; refine (twin_any _ N M st aF aN cF cN Fi Nx (HE.out.2.1.on d) (HE.out.2.2.1.on d) bF bN).mono ?_; rintro e wa ⟨gF3, kF3, gN3, kN3, rfl, HT3, da⟩)
    exact hK.out _ wa (stp_of hmo d da) ⟨gF3, kF3, gN3, kN3, if_pos rfl, HT3.out.f.rd, HT3.out.n.rd⟩
  case o3 =>
    intro At yy W hy hb d hd K hK
    have s1 : At.tmps.getD 1 undef = .pointer (some ⟨w.heap.size, 0, none⟩) := hb 1 rfl
    have s1' := s1
    rw [Array.getD_eq_getD_getElem?] at s1'
    clear hd hy hb
    go_simp
    exact hK.out _ W (stp_of hmo d (Below.refl _ _)) (if_pos rfl)
  case o4 =>
    intro At yy W hy hb d hd K hK
    have e3 : yy 3 = .pointer (some ⟨w.heap.size, 10, none⟩) := by obtain ⟨_, _, _, _, e⟩ := hd ⟨3, .data⟩ (by simp) rfl rfl; exact e
    have s22 := (hy 3 _ 22 rfl rfl).trans e3
    have s22' := s22
    rw [Array.getD_eq_getD_getElem?] at s22'
    clear hd hy hb
    have yb10 : W.cell? ⟨w.heap.size, 10, none⟩ = some (.int .i64 (p : Int)) := cell_of (blk_on HE.out.1 d) rfl
    go_simp
    exact hK.out _ W (stp_of hmo d (Below.refl _ _)) (if_pos rfl)
  case o5 =>
    intro At yy W hy hb d hd K hK
    have s1 : At.tmps.getD 1 undef = .pointer (some ⟨w.heap.size, 0, none⟩) := hb 1 rfl
    have s1' := s1
    rw [Array.getD_eq_getD_getElem?] at s1'
    clear hd hy hb
    go_simp
    exact hK.out _ W (stp_of hmo d (Below.refl _ _)) (if_pos rfl)
  case o6 =>
    intro At yy W hy hb d hd K hK
    have e5 : yy 5 = .pointer (some ⟨w.heap.size, 11, none⟩) := by obtain ⟨_, _, _, _, e⟩ := hd ⟨5, .data⟩ (by simp) rfl rfl; exact e
    have s24 := (hy 5 _ 24 rfl rfl).trans e5
    have s24' := s24
    rw [Array.getD_eq_getD_getElem?] at s24'
    clear hd hy hb
    have yb11 : W.cell? ⟨w.heap.size, 11, none⟩ = some (.int .i64 (q : Int)) := cell_of (blk_on HE.out.1 d) rfl
    go_simp
    exact hK.out _ W (stp_of hmo d (Below.refl _ _)) (if_pos rfl)
  case o7 =>
    intro At yy W hy hb d hd K hK
    have f2 := hd ⟨2, .data⟩ (by simp) rfl rfl
    have e4 : yy 4 = .int .i64 (p : Int) := by obtain ⟨_, _, _, _, e⟩ := hd ⟨4, .data⟩ (by simp) rfl rfl; exact e
    have e6 : yy 6 = .int .i64 (q : Int) := by obtain ⟨_, _, _, _, e⟩ := hd ⟨6, .data⟩ (by simp) rfl rfl; exact e
    obtain ⟨lo2, hi2, hl2, hh2, gF3, kF3, gN3, kN3, e2, ra, rb⟩ := f2
    have s21 := (hy 2 _ 21 rfl rfl).trans e2
    have s21' := s21
    rw [Array.getD_eq_getD_getElem?] at s21'
    have s23 := (hy 4 _ 23 rfl rfl).trans e4
    have s23' := s23
    rw [Array.getD_eq_getD_getElem?] at s23'
    have s25 := (hy 6 _ 25 rfl rfl).trans e6
    have s25' := s25
    rw [Array.getD_eq_getD_getElem?] at s25'
    clear hd hy hb
    go_simp
    go_wp2_with (go_at_call 15; refine (tell_same _ N M st (some ⟨gF3, 0, none⟩) (some ⟨gN3, 0, none⟩) Fi.length kF3 Nx.length kN3 Fi Nx ra rb rfl rfl bF bN HV.out.1 p q HV.out.2.1 HV.out.2.2.1 HV.out.2.2.2).mono ?_; rintro e wa ⟨rfl, da⟩)
    exact hK.out _ wa (stp_of hmo d da) (if_pos rfl)
  case o8 =>
    intro At yy W hy hb d hd K hK
    have e7 : yy 7 = .tuple #[.slice none 0 0, .int .i64 60] := by obtain ⟨_, _, _, _, e⟩ := hd ⟨7, .data⟩ (by simp) rfl rfl; exact e
    have s26 := (hy 7 _ 26 rfl rfl).trans e7
    have s26' := s26
    rw [Array.getD_eq_getD_getElem?] at s26'
    clear hd hy hb
    go_simp
    exact hK.out _ W (stp_of hmo d (Below.refl _ _)) (if_pos rfl)
  case o9 =>
    intro At yy W hy hb d hd K hK
    have e8 : yy 8 = .tuple #[.slice none 0 0, .int .i64 60] := by obtain ⟨_, _, _, _, e⟩ := hd ⟨8, .data⟩ (by simp) rfl rfl; exact e
    have s18 := (hy 8 _ 18 rfl rfl).trans e8
    have s18' := s18
    rw [Array.getD_eq_getD_getElem?] at s18'
    clear hd hy hb
    go_simp
    exact hK.out _ W (stp_of hmo d (Below.refl _ _)) (if_pos rfl)
  case o10 =>
    intro At yy W hy hb d hd K hK
    have e8 : yy 8 = .tuple #[.slice none 0 0, .int .i64 60] := by obtain ⟨_, _, _, _, e⟩ := hd ⟨8, .data⟩ (by simp) rfl rfl; exact e
    have s18 := (hy 8 _ 18 rfl rfl).trans e8
    have s18' := s18
    rw [Array.getD_eq_getD_getElem?] at s18'
    clear hd hy hb
    go_simp
    exact hK.out _ W (stp_of hmo d (Below.refl _ _)) (if_pos rfl)
  case o11 =>
    intro At yy W hy hb d hd K hK
    have e9 : yy 9 = .slice none 0 0 := by obtain ⟨_, _, _, _, e⟩ := hd ⟨9, .data⟩ (by simp) rfl rfl; exact e
    have s27 := (hy 9 _ 27 rfl rfl).trans e9
    have s27' := s27
    rw [Array.getD_eq_getD_getElem?] at s27'
    clear hd hy hb
    go_simp
    exact hK.out _ W (stp_of hmo d (Below.refl _ _)) (if_pos rfl)
  case o12 =>
    intro At yy W hy hb d hd K hK
    have e10 : yy 10 = .int .i64 60 := by obtain ⟨_, _, _, _, e⟩ := hd ⟨10, .data⟩ (by simp) rfl rfl; exact e
    have s28 := (hy 10 _ 28 rfl rfl).trans e10
    have s28' := s28
    rw [Array.getD_eq_getD_getElem?] at s28'
    clear hd hy hb
    go_simp
    exact hK.out _ W (stp_of hmo d (Below.refl _ _)) (if_pos rfl)
  case fin =>
    intro yy lo hi W hM
    show wpList _ _ _ [] _ _
    have e0 : yy 0 = .pointer (some ⟨w.heap.size, 0, none⟩) := hM.fact 0 (by simp) rfl (notR_all 0 rfl)
    have e1 : yy 1 = .agg #[.int .i64 (N : Int), .int .i64 (M : Int), .int .i64 (st : Int), .slice aF Fi.length cF, .slice aN Nx.length cN] := hM.fact 1 (by simp) rfl (notR_all 1 rfl)
    have e3 : yy 3 = .pointer (some ⟨w.heap.size, 10, none⟩) := hM.fact 3 (by simp) rfl (notR_all 3 rfl)
    have e4 : yy 4 = .int .i64 (p : Int) := hM.fact 4 (by simp) rfl (notR_all 4 rfl)
    have e5 : yy 5 = .pointer (some ⟨w.heap.size, 11, none⟩) := hM.fact 5 (by simp) rfl (notR_all 5 rfl)
    have e6 : yy 6 = .int .i64 (q : Int) := hM.fact 6 (by simp) rfl (notR_all 6 rfl)
    have e7 : yy 7 = .tuple #[.slice none 0 0, .int .i64 60] := hM.fact 7 (by simp) rfl (notR_all 7 rfl)
    have e8 : yy 8 = .tuple #[.slice none 0 0, .int .i64 60] := hM.fact 8 (by simp) rfl (notR_all 8 rfl)
    have e9 : yy 9 = .slice none 0 0 := hM.fact 9 (by simp) rfl (notR_all 9 rfl)
    have e10 : yy 10 = .int .i64 60 := hM.fact 10 (by simp) rfl (notR_all 10 rfl)
    have e11 : yy 11 = .slice none 0 0 := hM.fact 11 (by simp) rfl (notR_all 11 rfl)
    have e12 : yy 12 = .int .i64 60 := hM.fact 12 (by simp) rfl (notR_all 12 rfl)
    have dd := hM.d
    simp only [fills, Act.put, List.take, List.length, List.setIfInBounds_toArray, List.set_cons_zero, List.set_cons_succ, e0, e1, e3, e4, e5, e6, e7, e8, e9, e10, e11, e12]
    obtain ⟨gF3, kF3, gN3, kN3, e2, _, _⟩ := hM.fact 2 (by simp) rfl (notR_all 2 rfl)
    rw [e2]
    clear hM hmo e0 e1 e3 e4 e5 e6 e7 e8 e9 e10 e11 e12 e2
    have HR := hide (HR.out.below dd HR.out.lt)
    have HE := hide (And.intro (blk_on HE.out.1 dd) (And.intro (HE.out.2.1.on dd) (And.intro (HE.out.2.2.1.on dd) (And.intro (HE.out.2.2.2.1.on dd) (And.intro (HE.out.2.2.2.2.1.trans (dd.mono HE.out.2.2.2.2.1.size)) True.intro)))))
    clear dd
    have y0 : W.cell? ⟨w.heap.size, 0, none⟩ = some (.int .i64 (N : Int)) := cell_of HE.out.1 rfl
    have y10 : W.cell? ⟨w.heap.size, 10, none⟩ = some (.int .i64 (p : Int)) := cell_of HE.out.1 rfl
    have y11 : W.cell? ⟨w.heap.size, 11, none⟩ = some (.int .i64 (q : Int)) := cell_of HE.out.1 rfl
    have c1 : ¬ ((p : Int) < 0) := by omega
    have c2 : ¬ ((q : Int) < 0) := by omega
    have c3 : (p : Int) < (N : Int) := by have := HV.out.2.1; omega
    have c4 : (q : Int) < (N : Int) := by have := HV.out.2.2.1; omega
    obtain ⟨o1, ho1⟩ : ∃ x, tkB N M p Fi Nx Wd = x := ⟨_, rfl⟩
    have ho2 : tkB N M q Fi Nx Wd = o1 := by rw [← ho1]; exact (tk_ali HV.out.1 HV.out.2.1 HV.out.2.2.1 HV.out.2.2.2 Wd).symm
    have TK1 : Hid (∀ W gF3 kF3 gN3 kN3 gW3 kW3, RdN W (some ⟨gF3, 0, none⟩) Fi → RdN W (some ⟨gN3, 0, none⟩) Nx → RdN W (some ⟨gW3, 0, none⟩) Wd → Calls Try.prog 16 #[.agg #[.int .i64 (N : Int), .int .i64 (M : Int), .int .i64 (p : Int), .slice (some ⟨gF3, 0, none⟩) Fi.length kF3, .slice (some ⟨gN3, 0, none⟩) Nx.length kN3], .slice (some ⟨gW3, 0, none⟩) Wd.length kW3] W fun e w' => e = .returned (.bool o1) ∧ Below W.heap.size W w') := hide (fun W gF3 kF3 gN3 kN3 gW3 kW3 h1 h2 h3 => ho1 ▸ takesL_any W N M p (some ⟨gF3, 0, none⟩) (some ⟨gN3, 0, none⟩) (some ⟨gW3, 0, none⟩) Fi.length kF3 Nx.length kN3 Wd.length kW3 Fi Nx Wd h1 h2 h3 rfl rfl rfl bF bN bW)
    have TK2 : Hid (∀ W gF3 kF3 gN3 kN3 gW3 kW3, RdN W (some ⟨gF3, 0, none⟩) Fi → RdN W (some ⟨gN3, 0, none⟩) Nx → RdN W (some ⟨gW3, 0, none⟩) Wd → Calls Try.prog 16 #[.agg #[.int .i64 (N : Int), .int .i64 (M : Int), .int .i64 (q : Int), .slice (some ⟨gF3, 0, none⟩) Fi.length kF3, .slice (some ⟨gN3, 0, none⟩) Nx.length kN3], .slice (some ⟨gW3, 0, none⟩) Wd.length kW3] W fun e w' => e = .returned (.bool o1) ∧ Below W.heap.size W w') := hide (fun W gF3 kF3 gN3 kN3 gW3 kW3 h1 h2 h3 => ho2 ▸ takesL_any W N M q (some ⟨gF3, 0, none⟩) (some ⟨gN3, 0, none⟩) (some ⟨gW3, 0, none⟩) Fi.length kF3 Nx.length kN3 Wd.length kW3 Fi Nx Wd h1 h2 h3 rfl rfl rfl bF bN bW)
    clear ho1 ho2
    go_upto_region 7 with fail
    go_upto_region 9 with fail
    have z1 : W.cell? ⟨hc, p, none⟩ = some (.int .i64 ((al p : Nat) : Int)) := HR.out.at p HV.out.2.1
    have z2 : W.cell? ⟨hc, q, none⟩ = some (.int .i64 ((al q : Nat) : Int)) := HR.out.at q HV.out.2.2.1
    have z3 : W.cell? ⟨hc, al p, none⟩ = some (.int .i64 ((al p : Nat) : Int)) := by have z := HR.out.at (al p) (by have := (HAL.out p HV.out.2.1).1; have := HV.out.2.1; omega); rwa [cl_idem HAL.out HV.out.2.1] at z
    have d1 : ((al p : Nat) : Int) ≤ (p : Int) := by have := (HAL.out p HV.out.2.1).1; omega
    have d2 : al p = al q := (cl_iff HAL.out HV.out.2.1 HV.out.2.2.1).2 HV.out.2.2.2
    clear HR HAL
    rw [← d2] at z2
    obtain ⟨r, hr⟩ : ∃ r, al p = r := ⟨_, rfl⟩
    rw [hr] at z1 z2 z3 d1
    clear hr d2
    have d4 : ((r : Nat) : Int) < (N : Int) := by omega
    have d5 : (0 : Int) ≤ ((r : Nat) : Int) := by omega
    have d6 : (0 : Int) ≤ (p : Int) := by omega
    have d7 : (0 : Int) ≤ (q : Int) := by omega
    have d8 : ¬ (p : Int) < ((r : Nat) : Int) := by omega
    go_quiet (fail)
    go_upto_region 11 with fail
    clear y0 y10 y11 z1 z2 z3 c1 c2 c3 c4 d1 d4 d5 d6 d7 d8
    have dd := below_drewN2 (Below.refl W.heap.size W) nq
    have HE := hide (And.intro (blk_on HE.out.1 dd) (And.intro (HE.out.2.1.on dd) (And.intro (HE.out.2.2.1.on dd) (And.intro (HE.out.2.2.2.1.on dd) (And.intro (HE.out.2.2.2.2.1.trans (dd.mono HE.out.2.2.2.2.1.size)) True.intro)))))
    clear dd
    obtain ⟨W9, hW9⟩ : ∃ x, W.drewN nq = x := ⟨_, rfl⟩
    rw [hW9] at HE ⊢
    clear hW9
    have hmo : MonIL 0 [vI 0 (.pointer (some ⟨w.heap.size, 0, none⟩)), vI 1 (.agg #[.int .i64 (N : Int), .int .i64 (M : Int), .int .i64 (st : Int), .slice aF Fi.length cF, .slice aN Nx.length cN]), vI 2 (.pointer (some ⟨w.heap.size, 10, none⟩)), vI 3 (.int .i64 (p : Int)), pI 4 (twP N M p Fi Nx), vI 5 (.pointer (some ⟨w.heap.size, 12, none⟩)), vI 6 (.slice aW Wd.length cW), pI 7 (inP Wd), vI 8 (.bool o1), vI 9 (.bool o1)] := ⟨vI_mono _ _, vI_mono _ _, vI_mono _ _, vI_mono _ _, pI_mono twP_mono, vI_mono _ _, vI_mono _ _, pI_mono inP_mono, vI_mono _ _, vI_mono _ _, trivial⟩
    refine wp_region_sl [vI 0 (.pointer (some ⟨w.heap.size, 0, none⟩)), vI 1 (.agg #[.int .i64 (N : Int), .int .i64 (M : Int), .int .i64 (st : Int), .slice aF Fi.length cF, .slice aN Nx.length cN]), vI 2 (.pointer (some ⟨w.heap.size, 10, none⟩)), vI 3 (.int .i64 (p : Int)), pI 4 (twP N M p Fi Nx), vI 5 (.pointer (some ⟨w.heap.size, 12, none⟩)), vI 6 (.slice aW Wd.length cW), pI 7 (inP Wd), vI 8 (.bool o1), vI 9 (.bool o1)] (by kernel_rfl) (by kernel_rfl) (by kernel_rfl) (by kernel_rfl) hmo ⟨?o0, ?o1, ?o2, ?o3, ?o4, ?o5, ?o6, ?o7, ?o8, ?o9, trivial⟩ ?fin
    case o0 =>
      intro At yy W hy hb d hd K hK
      have s1 : At.tmps.getD 1 undef = .pointer (some ⟨w.heap.size, 0, none⟩) := hb 1 rfl
      have s1' := s1
      rw [Array.getD_eq_getD_getElem?] at s1'
      clear hd hy hb
      go_simp
      exact hK.out _ W (stp_of hmo d (Below.refl _ _)) (if_pos rfl)
    case o1 =>
      intro At yy W hy hb d hd K hK
      have e0 : yy 0 = .pointer (some ⟨w.heap.size, 0, none⟩) := by obtain ⟨_, _, _, _, e⟩ := hd ⟨0, .data⟩ (by simp) rfl rfl; exact e
      have s119 := (hy 0 _ 119 rfl rfl).trans e0
      have s119' := s119
      rw [Array.getD_eq_getD_getElem?] at s119'
      clear hd hy hb
      have yb0 : W.cell? ⟨w.heap.size, 0, none⟩ = some (.int .i64 (N : Int)) := cell_of (blk_on HE.out.1 d) rfl
      have yb1 : W.cell? ⟨w.heap.size, 1, none⟩ = some (.int .i64 (M : Int)) := cell_of (blk_on HE.out.1 d) rfl
      have yb2 : W.cell? ⟨w.heap.size, 2, none⟩ = some (.int .i64 (st : Int)) := cell_of (blk_on HE.out.1 d) rfl
      have yb3 : W.cell? ⟨w.heap.size, 3, none⟩ = some (.slice aF Fi.length cF) := cell_of (blk_on HE.out.1 d) rfl
      have yb4 : W.cell? ⟨w.heap.size, 4, none⟩ = some (.slice aN Nx.length cN) := cell_of (blk_on HE.out.1 d) rfl
      go_simp
      exact hK.out _ W (stp_of hmo d (Below.refl _ _)) (if_pos rfl)
    case o2 =>
      intro At yy W hy hb d hd K hK
      have s1 : At.tmps.getD 1 undef = .pointer (some ⟨w.heap.size, 0, none⟩) := hb 1 rfl
      have s1' := s1
      rw [Array.getD_eq_getD_getElem?] at s1'
      clear hd hy hb
      go_simp
      exact hK.out _ W (stp_of hmo d (Below.refl _ _)) (if_pos rfl)
    case o3 =>
      intro At yy W hy hb d hd K hK
      have e2 : yy 2 = .pointer (some ⟨w.heap.size, 10, none⟩) := by obtain ⟨_, _, _, _, e⟩ := hd ⟨2, .data⟩ (by simp) rfl rfl; exact e
      have s121 := (hy 2 _ 121 rfl rfl).trans e2
      have s121' := s121
      rw [Array.getD_eq_getD_getElem?] at s121'
      clear hd hy hb
      have yb10 : W.cell? ⟨w.heap.size, 10, none⟩ = some (.int .i64 (p : Int)) := cell_of (blk_on HE.out.1 d) rfl
      go_simp
      exact hK.out _ W (stp_of hmo d (Below.refl _ _)) (if_pos rfl)
    case o4 =>
      intro At yy W hy hb d hd K hK
      have e1 : yy 1 = .agg #[.int .i64 (N : Int), .int .i64 (M : Int), .int .i64 (st : Int), .slice aF Fi.length cF, .slice aN Nx.length cN] := by obtain ⟨_, _, _, _, e⟩ := hd ⟨1, .data⟩ (by simp) rfl rfl; exact e
      have e3 : yy 3 = .int .i64 (p : Int) := by obtain ⟨_, _, _, _, e⟩ := hd ⟨3, .data⟩ (by simp) rfl rfl; exact e
      have s120 := (hy 1 _ 120 rfl rfl).trans e1
      have s120' := s120
      rw [Array.getD_eq_getD_getElem?] at s120'
      have s122 := (hy 3 _ 122 rfl rfl).trans e3
      have s122' := s122
      rw [Array.getD_eq_getD_getElem?] at s122'
      clear hd hy hb
      go_simp
      go_wp2_with (go_at_call 17; refine (from_any _ N M st p aF aN cF cN Fi Nx (HE.out.2.1.on d) (HE.out.2.2.1.on d) bF bN).mono ?_; rintro e wa ⟨gF3, kF3, gN3, kN3, rfl, HT3, da⟩)
      exact hK.out _ wa (stp_of hmo d da) ⟨gF3, kF3, gN3, kN3, if_pos rfl, HT3.out.f.rd, HT3.out.n.rd⟩
    case o5 =>
      intro At yy W hy hb d hd K hK
      have s1 : At.tmps.getD 1 undef = .pointer (some ⟨w.heap.size, 0, none⟩) := hb 1 rfl
      have s1' := s1
      rw [Array.getD_eq_getD_getElem?] at s1'
      clear hd hy hb
      go_simp
      exact hK.out _ W (stp_of hmo d (Below.refl _ _)) (if_pos rfl)
    case o6 =>
      intro At yy W hy hb d hd K hK
      have e5 : yy 5 = .pointer (some ⟨w.heap.size, 12, none⟩) := by obtain ⟨_, _, _, _, e⟩ := hd ⟨5, .data⟩ (by simp) rfl rfl; exact e
      have s124 := (hy 5 _ 124 rfl rfl).trans e5
      have s124' := s124
      rw [Array.getD_eq_getD_getElem?] at s124'
      clear hd hy hb
      have yb12 : W.cell? ⟨w.heap.size, 12, none⟩ = some (.slice aW Wd.length cW) := cell_of (blk_on HE.out.1 d) rfl
      go_simp
      exact hK.out _ W (stp_of hmo d (Below.refl _ _)) (if_pos rfl)
    case o7 =>
      intro At yy W hy hb d hd K hK
      have e6 : yy 6 = .slice aW Wd.length cW := by obtain ⟨_, _, _, _, e⟩ := hd ⟨6, .data⟩ (by simp) rfl rfl; exact e
      have s125 := (hy 6 _ 125 rfl rfl).trans e6
      have s125' := s125
      rw [Array.getD_eq_getD_getElem?] at s125'
      clear hd hy hb
      go_simp
      go_wp2_with (go_at_call 13; refine (ints_any _ aW Wd cW (hide (HE.out.2.2.2.1.on d)) bW).mono ?_; rintro e wa ⟨gW3, kW3, rfl, HM3, da⟩)
      exact hK.out _ wa (stp_of hmo d da) ⟨gW3, kW3, if_pos rfl, HM3.out.rd⟩
    case o8 =>
      intro At yy W hy hb d hd K hK
      have f4 := hd ⟨4, .data⟩ (by simp) rfl rfl
      have f7 := hd ⟨7, .data⟩ (by simp) rfl rfl
      obtain ⟨lo4, hi4, hl4, hh4, gF3, kF3, gN3, kN3, e4, ra, rb⟩ := f4
      obtain ⟨lo7, hi7, hl7, hh7, gW3, kW3, e7, rw3⟩ := f7
      have s123 := (hy 4 _ 123 rfl rfl).trans e4
      have s123' := s123
      rw [Array.getD_eq_getD_getElem?] at s123'
      have s126 := (hy 7 _ 126 rfl rfl).trans e7
      have s126' := s126
      rw [Array.getD_eq_getD_getElem?] at s126'
      clear hd hy hb
      go_simp
      go_wp2_with (go_at_call 16; refine (TK1.out _ gF3 kF3 gN3 kN3 gW3 kW3 ra rb rw3).mono ?_; rintro e wa ⟨rfl, da⟩)
      exact hK.out _ wa (stp_of hmo d da) (if_pos rfl)
    case o9 =>
      intro At yy W hy hb d hd K hK
      have e8 : yy 8 = .bool o1 := by obtain ⟨_, _, _, _, e⟩ := hd ⟨8, .data⟩ (by simp) rfl rfl; exact e
      have s127 := (hy 8 _ 127 rfl rfl).trans e8
      have s127' := s127
      rw [Array.getD_eq_getD_getElem?] at s127'
      clear hd hy hb
      go_simp
      exact hK.out _ W (stp_of hmo d (Below.refl _ _)) (if_pos rfl)
    case fin =>
      intro yy lo hi W hM
      show wpList _ _ _ [] _ _
      have e0 : yy 0 = .pointer (some ⟨w.heap.size, 0, none⟩) := hM.fact 0 (by simp) rfl (notR_all 0 rfl)
      have e1 : yy 1 = .agg #[.int .i64 (N : Int), .int .i64 (M : Int), .int .i64 (st : Int), .slice aF Fi.length cF, .slice aN Nx.length cN] := hM.fact 1 (by simp) rfl (notR_all 1 rfl)
      have e2 : yy 2 = .pointer (some ⟨w.heap.size, 10, none⟩) := hM.fact 2 (by simp) rfl (notR_all 2 rfl)
      have e3 : yy 3 = .int .i64 (p : Int) := hM.fact 3 (by simp) rfl (notR_all 3 rfl)
      have e5 : yy 5 = .pointer (some ⟨w.heap.size, 12, none⟩) := hM.fact 5 (by simp) rfl (notR_all 5 rfl)
      have e6 : yy 6 = .slice aW Wd.length cW := hM.fact 6 (by simp) rfl (notR_all 6 rfl)
      have e8 : yy 8 = .bool o1 := hM.fact 8 (by simp) rfl (notR_all 8 rfl)
      have e9 : yy 9 = .bool o1 := hM.fact 9 (by simp) rfl (notR_all 9 rfl)
      have dd := hM.d
      simp only [fills, Act.put, List.take, List.length, List.setIfInBounds_toArray, List.set_cons_zero, List.set_cons_succ, e0, e1, e2, e3, e5, e6, e8, e9]
      obtain ⟨gF4, kF4, gN4, kN4, e4, _, _⟩ := hM.fact 4 (by simp) rfl (notR_all 4 rfl)
      obtain ⟨gW7, kW7, e7, _⟩ := hM.fact 7 (by simp) rfl (notR_all 7 rfl)
      rw [e4, e7]
      clear hM hmo e0 e1 e2 e3 e5 e6 e8 e9 e4 e7
      have HE := hide (And.intro (blk_on HE.out.1 dd) (And.intro (HE.out.2.1.on dd) (And.intro (HE.out.2.2.1.on dd) (And.intro (HE.out.2.2.2.1.on dd) (And.intro (HE.out.2.2.2.2.1.trans (dd.mono HE.out.2.2.2.2.1.size)) True.intro)))))
      clear dd
      go_upto_region 12 with fail
      have hmo : MonIL 0 [vI 0 (.pointer (some ⟨w.heap.size, 0, none⟩)), vI 1 (.agg #[.int .i64 (N : Int), .int .i64 (M : Int), .int .i64 (st : Int), .slice aF Fi.length cF, .slice aN Nx.length cN]), vI 2 (.pointer (some ⟨w.heap.size, 11, none⟩)), vI 3 (.int .i64 (q : Int)), pI 4 (twP N M q Fi Nx), vI 5 (.pointer (some ⟨w.heap.size, 12, none⟩)), vI 6 (.slice aW Wd.length cW), pI 7 (inP Wd), vI 8 (.bool o1), vI 9 (.bool o1)] := ⟨vI_mono _ _, vI_mono _ _, vI_mono _ _, vI_mono _ _, pI_mono twP_mono, vI_mono _ _, vI_mono _ _, pI_mono inP_mono, vI_mono _ _, vI_mono _ _, trivial⟩
      refine wp_region_sl [vI 0 (.pointer (some ⟨w.heap.size, 0, none⟩)), vI 1 (.agg #[.int .i64 (N : Int), .int .i64 (M : Int), .int .i64 (st : Int), .slice aF Fi.length cF, .slice aN Nx.length cN]), vI 2 (.pointer (some ⟨w.heap.size, 11, none⟩)), vI 3 (.int .i64 (q : Int)), pI 4 (twP N M q Fi Nx), vI 5 (.pointer (some ⟨w.heap.size, 12, none⟩)), vI 6 (.slice aW Wd.length cW), pI 7 (inP Wd), vI 8 (.bool o1), vI 9 (.bool o1)] (by kernel_rfl) (by kernel_rfl) (by kernel_rfl) (by kernel_rfl) hmo ⟨?o0, ?o1, ?o2, ?o3, ?o4, ?o5, ?o6, ?o7, ?o8, ?o9, trivial⟩ ?fin
      case o0 =>
        intro At yy W hy hb d hd K hK
        have s1 : At.tmps.getD 1 undef = .pointer (some ⟨w.heap.size, 0, none⟩) := hb 1 rfl
        have s1' := s1
        rw [Array.getD_eq_getD_getElem?] at s1'
        clear hd hy hb
        go_simp
        exact hK.out _ W (stp_of hmo d (Below.refl _ _)) (if_pos rfl)
      case o1 =>
        intro At yy W hy hb d hd K hK
        have e0 : yy 0 = .pointer (some ⟨w.heap.size, 0, none⟩) := by obtain ⟨_, _, _, _, e⟩ := hd ⟨0, .data⟩ (by simp) rfl rfl; exact e
        have s128 := (hy 0 _ 128 rfl rfl).trans e0
        have s128' := s128
        rw [Array.getD_eq_getD_getElem?] at s128'
        clear hd hy hb
        have yb0 : W.cell? ⟨w.heap.size, 0, none⟩ = some (.int .i64 (N : Int)) := cell_of (blk_on HE.out.1 d) rfl
        have yb1 : W.cell? ⟨w.heap.size, 1, none⟩ = some (.int .i64 (M : Int)) := cell_of (blk_on HE.out.1 d) rfl
        have yb2 : W.cell? ⟨w.heap.size, 2, none⟩ = some (.int .i64 (st : Int)) := cell_of (blk_on HE.out.1 d) rfl
        have yb3 : W.cell? ⟨w.heap.size, 3, none⟩ = some (.slice aF Fi.length cF) := cell_of (blk_on HE.out.1 d) rfl
        have yb4 : W.cell? ⟨w.heap.size, 4, none⟩ = some (.slice aN Nx.length cN) := cell_of (blk_on HE.out.1 d) rfl
        go_simp
        exact hK.out _ W (stp_of hmo d (Below.refl _ _)) (if_pos rfl)
      case o2 =>
        intro At yy W hy hb d hd K hK
        have s1 : At.tmps.getD 1 undef = .pointer (some ⟨w.heap.size, 0, none⟩) := hb 1 rfl
        have s1' := s1
        rw [Array.getD_eq_getD_getElem?] at s1'
        clear hd hy hb
        go_simp
        exact hK.out _ W (stp_of hmo d (Below.refl _ _)) (if_pos rfl)
      case o3 =>
        intro At yy W hy hb d hd K hK
        have e2 : yy 2 = .pointer (some ⟨w.heap.size, 11, none⟩) := by obtain ⟨_, _, _, _, e⟩ := hd ⟨2, .data⟩ (by simp) rfl rfl; exact e
        have s130 := (hy 2 _ 130 rfl rfl).trans e2
        have s130' := s130
        rw [Array.getD_eq_getD_getElem?] at s130'
        clear hd hy hb
        have yb11 : W.cell? ⟨w.heap.size, 11, none⟩ = some (.int .i64 (q : Int)) := cell_of (blk_on HE.out.1 d) rfl
        go_simp
        exact hK.out _ W (stp_of hmo d (Below.refl _ _)) (if_pos rfl)
      case o4 =>
        intro At yy W hy hb d hd K hK
        have e1 : yy 1 = .agg #[.int .i64 (N : Int), .int .i64 (M : Int), .int .i64 (st : Int), .slice aF Fi.length cF, .slice aN Nx.length cN] := by obtain ⟨_, _, _, _, e⟩ := hd ⟨1, .data⟩ (by simp) rfl rfl; exact e
        have e3 : yy 3 = .int .i64 (q : Int) := by obtain ⟨_, _, _, _, e⟩ := hd ⟨3, .data⟩ (by simp) rfl rfl; exact e
        have s129 := (hy 1 _ 129 rfl rfl).trans e1
        have s129' := s129
        rw [Array.getD_eq_getD_getElem?] at s129'
        have s131 := (hy 3 _ 131 rfl rfl).trans e3
        have s131' := s131
        rw [Array.getD_eq_getD_getElem?] at s131'
        clear hd hy hb
        go_simp
        go_wp2_with (go_at_call 17; refine (from_any _ N M st q aF aN cF cN Fi Nx (HE.out.2.1.on d) (HE.out.2.2.1.on d) bF bN).mono ?_; rintro e wa ⟨gF3, kF3, gN3, kN3, rfl, HT3, da⟩)
        exact hK.out _ wa (stp_of hmo d da) ⟨gF3, kF3, gN3, kN3, if_pos rfl, HT3.out.f.rd, HT3.out.n.rd⟩
      case o5 =>
        intro At yy W hy hb d hd K hK
        have s1 : At.tmps.getD 1 undef = .pointer (some ⟨w.heap.size, 0, none⟩) := hb 1 rfl
        have s1' := s1
        rw [Array.getD_eq_getD_getElem?] at s1'
        clear hd hy hb
        go_simp
        exact hK.out _ W (stp_of hmo d (Below.refl _ _)) (if_pos rfl)
      case o6 =>
        intro At yy W hy hb d hd K hK
        have e5 : yy 5 = .pointer (some ⟨w.heap.size, 12, none⟩) := by obtain ⟨_, _, _, _, e⟩ := hd ⟨5, .data⟩ (by simp) rfl rfl; exact e
        have s133 := (hy 5 _ 133 rfl rfl).trans e5
        have s133' := s133
        rw [Array.getD_eq_getD_getElem?] at s133'
        clear hd hy hb
        have yb12 : W.cell? ⟨w.heap.size, 12, none⟩ = some (.slice aW Wd.length cW) := cell_of (blk_on HE.out.1 d) rfl
        go_simp
        exact hK.out _ W (stp_of hmo d (Below.refl _ _)) (if_pos rfl)
      case o7 =>
        intro At yy W hy hb d hd K hK
        have e6 : yy 6 = .slice aW Wd.length cW := by obtain ⟨_, _, _, _, e⟩ := hd ⟨6, .data⟩ (by simp) rfl rfl; exact e
        have s134 := (hy 6 _ 134 rfl rfl).trans e6
        have s134' := s134
        rw [Array.getD_eq_getD_getElem?] at s134'
        clear hd hy hb
        go_simp
        go_wp2_with (go_at_call 13; refine (ints_any _ aW Wd cW (hide (HE.out.2.2.2.1.on d)) bW).mono ?_; rintro e wa ⟨gW3, kW3, rfl, HM3, da⟩)
        exact hK.out _ wa (stp_of hmo d da) ⟨gW3, kW3, if_pos rfl, HM3.out.rd⟩
      case o8 =>
        intro At yy W hy hb d hd K hK
        have f4 := hd ⟨4, .data⟩ (by simp) rfl rfl
        have f7 := hd ⟨7, .data⟩ (by simp) rfl rfl
        obtain ⟨lo4, hi4, hl4, hh4, gF3, kF3, gN3, kN3, e4, ra, rb⟩ := f4
        obtain ⟨lo7, hi7, hl7, hh7, gW3, kW3, e7, rw3⟩ := f7
        have s132 := (hy 4 _ 132 rfl rfl).trans e4
        have s132' := s132
        rw [Array.getD_eq_getD_getElem?] at s132'
        have s135 := (hy 7 _ 135 rfl rfl).trans e7
        have s135' := s135
        rw [Array.getD_eq_getD_getElem?] at s135'
        clear hd hy hb
        go_simp
        go_wp2_with (go_at_call 16; refine (TK2.out _ gF3 kF3 gN3 kN3 gW3 kW3 ra rb rw3).mono ?_; rintro e wa ⟨rfl, da⟩)
        exact hK.out _ wa (stp_of hmo d da) (if_pos rfl)
      case o9 =>
        intro At yy W hy hb d hd K hK
        have e8 : yy 8 = .bool o1 := by obtain ⟨_, _, _, _, e⟩ := hd ⟨8, .data⟩ (by simp) rfl rfl; exact e
        have s136 := (hy 8 _ 136 rfl rfl).trans e8
        have s136' := s136
        rw [Array.getD_eq_getD_getElem?] at s136'
        clear hd hy hb
        go_simp
        exact hK.out _ W (stp_of hmo d (Below.refl _ _)) (if_pos rfl)
      case fin =>
        intro yy lo hi W hM
        show wpList _ _ _ [] _ _
        have e0 : yy 0 = .pointer (some ⟨w.heap.size, 0, none⟩) := hM.fact 0 (by simp) rfl (notR_all 0 rfl)
        have e1 : yy 1 = .agg #[.int .i64 (N : Int), .int .i64 (M : Int), .int .i64 (st : Int), .slice aF Fi.length cF, .slice aN Nx.length cN] := hM.fact 1 (by simp) rfl (notR_all 1 rfl)
        have e2 : yy 2 = .pointer (some ⟨w.heap.size, 11, none⟩) := hM.fact 2 (by simp) rfl (notR_all 2 rfl)
        have e3 : yy 3 = .int .i64 (q : Int) := hM.fact 3 (by simp) rfl (notR_all 3 rfl)
        have e5 : yy 5 = .pointer (some ⟨w.heap.size, 12, none⟩) := hM.fact 5 (by simp) rfl (notR_all 5 rfl)
        have e6 : yy 6 = .slice aW Wd.length cW := hM.fact 6 (by simp) rfl (notR_all 6 rfl)
        have e8 : yy 8 = .bool o1 := hM.fact 8 (by simp) rfl (notR_all 8 rfl)
        have e9 : yy 9 = .bool o1 := hM.fact 9 (by simp) rfl (notR_all 9 rfl)
        have dd := hM.d
        simp only [fills, Act.put, List.take, List.length, List.setIfInBounds_toArray, List.set_cons_zero, List.set_cons_succ, e0, e1, e2, e3, e5, e6, e8, e9]
        obtain ⟨gF4, kF4, gN4, kN4, e4, _, _⟩ := hM.fact 4 (by simp) rfl (notR_all 4 rfl)
        obtain ⟨gW7, kW7, e7, _⟩ := hM.fact 7 (by simp) rfl (notR_all 7 rfl)
        rw [e4, e7]
        clear hM hmo e0 e1 e2 e3 e5 e6 e8 e9 e4 e7
        have HE := hide (And.intro (blk_on HE.out.1 dd) (And.intro (HE.out.2.1.on dd) (And.intro (HE.out.2.2.1.on dd) (And.intro (HE.out.2.2.2.1.on dd) (And.intro (HE.out.2.2.2.2.1.trans (dd.mono HE.out.2.2.2.2.1.size)) True.intro)))))
        clear dd
        go_upto_region 14 with fail
        have hoo : (o1 == o1) = true := by simp
        go_wp2_with fail
        go_ret
        exact ⟨rfl, HE.out.2.2.2.2.1⟩
set_option maxRecDepth 100000 in
set_option maxHeartbeats 4000000 in
theorem tells_told (w : World) (N M st : Nat) (p q : Nat) (aF aN aW : Option Addr) (cF cN cW : Nat) (Fi Nx Wd : List Int) (x5 x6 x7 x8 x9 : Value) (hF : RdN w aF Fi) (hN : RdN w aN Nx) (hW : RdN w aW Wd) (bF : Fi.length ≤ 4194304) (bN : Nx.length ≤ 4194304) (bW : Wd.length ≤ 4194304) (hv : vd N M st Fi Nx = true) (hp : p < N) (hq : q < N) (hA : ¬ Ali Nx (inF Fi) M p q) :
    Calls Try.prog 4 #[.agg #[.int .i64 (N : Int), .int .i64 (M : Int), .int .i64 (st : Int), .slice aF Fi.length cF, .slice aN Nx.length cN, x5, x6, x7, x8, x9, .int .i64 (p : Int), .int .i64 (q : Int), .slice aW Wd.length cW]] w fun e w' => e = .returned (.bool true) ∧ Below w.heap.size w w' := by
  obtain ⟨W0, hW0⟩ : ∃ W, w.alloc (.cells #[.int .i64 (N : Int), .int .i64 (M : Int), .int .i64 (st : Int), .slice aF Fi.length cF, .slice aN Nx.length cN, x5, x6, x7, x8, x9, .int .i64 (p : Int), .int .i64 (q : Int), .slice aW Wd.length cW] 26) = W := ⟨_, rfl⟩
  have d0 : Below w.heap.size w W0 := by rw [← hW0]; exact (Below.refl _ _).alloc (Nat.le_refl _) _
  have B0 : W0.heap[w.heap.size]? = some (.cells #[.int .i64 (N : Int), .int .i64 (M : Int), .int .i64 (st : Int), .slice aF Fi.length cF, .slice aN Nx.length cN, x5, x6, x7, x8, x9, .int .i64 (p : Int), .int .i64 (q : Int), .slice aW Wd.length cW] 26 (0, 0)) := by rw [← hW0]; exact World.alloc_heap_new _ _
  have HW := hide (And.intro d0 (And.intro B0 (And.intro (hF.on d0) (And.intro (hN.on d0) (hW.on d0)))))
  clear d0 B0 hF hN hW
  have HN9 := hide (show N ≤ 4096 by obtain ⟨n0, m0, s0, en, em, es, n1, n2, _⟩ := vd_nat hv; omega)
  have HV := hide (And.intro hv (And.intro hp (And.intro hq hA)))
  clear hv hp hq hA
  go_enter Try.func4, Try.ntmps4
  go_upto_region 3 with (go_at_call 7; refine (works_any _).mono ?_; rintro e w1 ⟨rfl, D1⟩)
  have B1 := blk_on HW.out.2.1 D1
  have k0 : w1.cell? ⟨w.heap.size, 0, none⟩ = some (.int .i64 (N : Int)) := cell_of B1 rfl
  have k1 : w1.cell? ⟨w.heap.size, 1, none⟩ = some (.int .i64 (M : Int)) := cell_of B1 rfl
  have k2 : w1.cell? ⟨w.heap.size, 2, none⟩ = some (.int .i64 (st : Int)) := cell_of B1 rfl
  have k3 : w1.cell? ⟨w.heap.size, 3, none⟩ = some (.slice aF Fi.length cF) := cell_of B1 rfl
  have k4 : w1.cell? ⟨w.heap.size, 4, none⟩ = some (.slice aN Nx.length cN) := cell_of B1 rfl
  have T9 := twin_any w1 N M st aF aN cF cN Fi Nx (HW.out.2.2.1.on D1) (HW.out.2.2.2.1.on D1) bF bN
  have HB1 := hide (And.intro (HW.out.1.trans (D1.mono HW.out.1.size)) (And.intro B1 (And.intro (HW.out.2.2.1.on D1) (And.intro (HW.out.2.2.2.1.on D1) (HW.out.2.2.2.2.on D1)))))
  clear D1 B1
  go_upto_region 4 with (first | (go_at_call 9; refine T9.mono ?_; rintro e w2 ⟨gF, kF, gN, kN, rfl, HT, D2⟩; have T8 := classes_ok w2 N M st (some ⟨gF, 0, none⟩) (some ⟨gN, 0, none⟩) Fi.length kF Nx.length kN Fi Nx HT.out.f.rd HT.out.n.rd rfl rfl bF bN HV.out.1; have HD2 := hide D2; clear D2 k0 k1 k2 k3 k4) | (go_at_call 14; refine T8.mono ?_; rintro e w3 ⟨hc, rfl, al, HCC⟩; have HD3 := hide (HD2.out.trans (HCC.out.2.2.2.mono HD2.out.size))))
  have HE := hide (And.intro (blk_on HB1.out.2.1 HD3.out) (And.intro (HB1.out.2.2.1.on HD3.out) (And.intro (HB1.out.2.2.2.1.on HD3.out) (And.intro (HB1.out.2.2.2.2.on HD3.out) (And.intro (HB1.out.1.trans (HD3.out.mono HB1.out.1.size)) True.intro)))))
  have HR := hide HCC.out.1
  have HAL := hide HCC.out.2.2.1
  clear HB1 HD3 HD2 HW T8 T9 HCC
  have hmo : MonIL 0 [vI 0 (.pointer (some ⟨w.heap.size, 0, none⟩)), vI 1 (.agg #[.int .i64 (N : Int), .int .i64 (M : Int), .int .i64 (st : Int), .slice aF Fi.length cF, .slice aN Nx.length cN]), pI 2 (twP N M st Fi Nx), vI 3 (.pointer (some ⟨w.heap.size, 10, none⟩)), vI 4 (.int .i64 (p : Int)), vI 5 (.pointer (some ⟨w.heap.size, 11, none⟩)), vI 6 (.int .i64 (q : Int)), pI 7 (telP Nx (inF Fi) N M p q), pI 8 (telP Nx (inF Fi) N M p q), pI 9 (telS Nx (inF Fi) N M p q), vI 10 (.int .i64 0), pI 11 (telS Nx (inF Fi) N M p q), vI 12 (.int .i64 0)] := ⟨vI_mono _ _, vI_mono _ _, pI_mono twP_mono, vI_mono _ _, vI_mono _ _, vI_mono _ _, vI_mono _ _, pI_mono telP_mono, pI_mono telP_mono, pI_mono telS_mono, vI_mono _ _, pI_mono telS_mono, vI_mono _ _, trivial⟩
  refine wp_region_sl [vI 0 (.pointer (some ⟨w.heap.size, 0, none⟩)), vI 1 (.agg #[.int .i64 (N : Int), .int .i64 (M : Int), .int .i64 (st : Int), .slice aF Fi.length cF, .slice aN Nx.length cN]), pI 2 (twP N M st Fi Nx), vI 3 (.pointer (some ⟨w.heap.size, 10, none⟩)), vI 4 (.int .i64 (p : Int)), vI 5 (.pointer (some ⟨w.heap.size, 11, none⟩)), vI 6 (.int .i64 (q : Int)), pI 7 (telP Nx (inF Fi) N M p q), pI 8 (telP Nx (inF Fi) N M p q), pI 9 (telS Nx (inF Fi) N M p q), vI 10 (.int .i64 0), pI 11 (telS Nx (inF Fi) N M p q), vI 12 (.int .i64 0)] (by kernel_rfl) (by kernel_rfl) (by kernel_rfl) (by kernel_rfl) hmo ⟨?o0, ?o1, ?o2, ?o3, ?o4, ?o5, ?o6, ?o7, ?o8, ?o9, ?o10, ?o11, ?o12, trivial⟩ ?fin
  case o0 =>
    intro At yy W hy hb d hd K hK
    have s1 : At.tmps.getD 1 undef = .pointer (some ⟨w.heap.size, 0, none⟩) := hb 1 rfl
    have s1' := s1
    rw [Array.getD_eq_getD_getElem?] at s1'
    clear hd hy hb
    go_simp
    exact hK.out _ W (stp_of hmo d (Below.refl _ _)) (if_pos rfl)
  case o1 =>
    intro At yy W hy hb d hd K hK
    have e0 : yy 0 = .pointer (some ⟨w.heap.size, 0, none⟩) := by obtain ⟨_, _, _, _, e⟩ := hd ⟨0, .data⟩ (by simp) rfl rfl; exact e
    have s19 := (hy 0 _ 19 rfl rfl).trans e0
    have s19' := s19
    rw [Array.getD_eq_getD_getElem?] at s19'
    clear hd hy hb
    have yb0 : W.cell? ⟨w.heap.size, 0, none⟩ = some (.int .i64 (N : Int)) := cell_of (blk_on HE.out.1 d) rfl
    have yb1 : W.cell? ⟨w.heap.size, 1, none⟩ = some (.int .i64 (M : Int)) := cell_of (blk_on HE.out.1 d) rfl
    have yb2 : W.cell? ⟨w.heap.size, 2, none⟩ = some (.int .i64 (st : Int)) := cell_of (blk_on HE.out.1 d) rfl
    have yb3 : W.cell? ⟨w.heap.size, 3, none⟩ = some (.slice aF Fi.length cF) := cell_of (blk_on HE.out.1 d) rfl
    have yb4 : W.cell? ⟨w.heap.size, 4, none⟩ = some (.slice aN Nx.length cN) := cell_of (blk_on HE.out.1 d) rfl
    go_simp
    exact hK.out _ W (stp_of hmo d (Below.refl _ _)) (if_pos rfl)
  case o2 =>
    intro At yy W hy hb d hd K hK
    have e1 : yy 1 = .agg #[.int .i64 (N : Int), .int .i64 (M : Int), .int .i64 (st : Int), .slice aF Fi.length cF, .slice aN Nx.length cN] := by obtain ⟨_, _, _, _, e⟩ := hd ⟨1, .data⟩ (by simp) rfl rfl; exact e
    have s20 := (hy 1 _ 20 rfl rfl).trans e1
    have s20' := s20
    rw [Array.getD_eq_getD_getElem?] at s20'
    clear hd hy hb
    go_simp
    go_wp2_with (go_at_call 9; refine (twin_any _ N M st aF aN cF cN Fi Nx (HE.out.2.1.on d) (HE.out.2.2.1.on d) bF bN).mono ?_; rintro e wa ⟨gF3, kF3, gN3, kN3, rfl, HT3, da⟩)
    exact hK.out _ wa (stp_of hmo d da) ⟨gF3, kF3, gN3, kN3, if_pos rfl, HT3.out.f.rd, HT3.out.n.rd⟩
  case o3 =>
    intro At yy W hy hb d hd K hK
    have s1 : At.tmps.getD 1 undef = .pointer (some ⟨w.heap.size, 0, none⟩) := hb 1 rfl
    have s1' := s1
    rw [Array.getD_eq_getD_getElem?] at s1'
    clear hd hy hb
    go_simp
    exact hK.out _ W (stp_of hmo d (Below.refl _ _)) (if_pos rfl)
  case o4 =>
    intro At yy W hy hb d hd K hK
    have e3 : yy 3 = .pointer (some ⟨w.heap.size, 10, none⟩) := by obtain ⟨_, _, _, _, e⟩ := hd ⟨3, .data⟩ (by simp) rfl rfl; exact e
    have s22 := (hy 3 _ 22 rfl rfl).trans e3
    have s22' := s22
    rw [Array.getD_eq_getD_getElem?] at s22'
    clear hd hy hb
    have yb10 : W.cell? ⟨w.heap.size, 10, none⟩ = some (.int .i64 (p : Int)) := cell_of (blk_on HE.out.1 d) rfl
    go_simp
    exact hK.out _ W (stp_of hmo d (Below.refl _ _)) (if_pos rfl)
  case o5 =>
    intro At yy W hy hb d hd K hK
    have s1 : At.tmps.getD 1 undef = .pointer (some ⟨w.heap.size, 0, none⟩) := hb 1 rfl
    have s1' := s1
    rw [Array.getD_eq_getD_getElem?] at s1'
    clear hd hy hb
    go_simp
    exact hK.out _ W (stp_of hmo d (Below.refl _ _)) (if_pos rfl)
  case o6 =>
    intro At yy W hy hb d hd K hK
    have e5 : yy 5 = .pointer (some ⟨w.heap.size, 11, none⟩) := by obtain ⟨_, _, _, _, e⟩ := hd ⟨5, .data⟩ (by simp) rfl rfl; exact e
    have s24 := (hy 5 _ 24 rfl rfl).trans e5
    have s24' := s24
    rw [Array.getD_eq_getD_getElem?] at s24'
    clear hd hy hb
    have yb11 : W.cell? ⟨w.heap.size, 11, none⟩ = some (.int .i64 (q : Int)) := cell_of (blk_on HE.out.1 d) rfl
    go_simp
    exact hK.out _ W (stp_of hmo d (Below.refl _ _)) (if_pos rfl)
  case o7 =>
    intro At yy W hy hb d hd K hK
    have f2 := hd ⟨2, .data⟩ (by simp) rfl rfl
    have e4 : yy 4 = .int .i64 (p : Int) := by obtain ⟨_, _, _, _, e⟩ := hd ⟨4, .data⟩ (by simp) rfl rfl; exact e
    have e6 : yy 6 = .int .i64 (q : Int) := by obtain ⟨_, _, _, _, e⟩ := hd ⟨6, .data⟩ (by simp) rfl rfl; exact e
    obtain ⟨lo2, hi2, hl2, hh2, gF3, kF3, gN3, kN3, e2, ra, rb⟩ := f2
    have s21 := (hy 2 _ 21 rfl rfl).trans e2
    have s21' := s21
    rw [Array.getD_eq_getD_getElem?] at s21'
    have s23 := (hy 4 _ 23 rfl rfl).trans e4
    have s23' := s23
    rw [Array.getD_eq_getD_getElem?] at s23'
    have s25 := (hy 6 _ 25 rfl rfl).trans e6
    have s25' := s25
    rw [Array.getD_eq_getD_getElem?] at s25'
    clear hd hy hb
    go_simp
    go_wp2_with (go_at_call 15; refine (tell_told _ N M st (some ⟨gF3, 0, none⟩) (some ⟨gN3, 0, none⟩) Fi.length kF3 Nx.length kN3 Fi Nx ra rb rfl rfl bF bN HV.out.1 p q HV.out.2.1 HV.out.2.2.1 HV.out.2.2.2).mono ?_; rintro e wa ⟨b7, c7, u7, rfl, t7, r7, da⟩)
    exact hK.out _ wa (stp_of hmo d da) ⟨b7, c7, u7, if_pos rfl, t7, r7⟩
  case o8 =>
    intro At yy W hy hb d hd K hK
    have f7 := hd ⟨7, .data⟩ (by simp) rfl rfl
    obtain ⟨lo7, hi7, hl7, hh7, b7, c7, u7, e7, t7, r7⟩ := f7
    have s26 := (hy 7 _ 26 rfl rfl).trans e7
    have s26' := s26
    rw [Array.getD_eq_getD_getElem?] at s26'
    clear hd hy hb
    go_simp
    exact hK.out _ W (stp_of hmo d (Below.refl _ _)) ⟨b7, c7, u7, if_pos rfl, t7, r7⟩
  case o9 =>
    intro At yy W hy hb d hd K hK
    have f8 := hd ⟨8, .data⟩ (by simp) rfl rfl
    obtain ⟨lo8, hi8, hl8, hh8, b8, c8, u8, e8, t8, r8⟩ := f8
    have s18 := (hy 8 _ 18 rfl rfl).trans e8
    have s18' := s18
    rw [Array.getD_eq_getD_getElem?] at s18'
    clear hd hy hb
    go_simp
    exact hK.out _ W (stp_of hmo d (Below.refl _ _)) ⟨b8, c8, u8, if_pos rfl, t8, r8⟩
  case o10 =>
    intro At yy W hy hb d hd K hK
    have f8 := hd ⟨8, .data⟩ (by simp) rfl rfl
    obtain ⟨lo8, hi8, hl8, hh8, b8, c8, u8, e8, t8, r8⟩ := f8
    have s18 := (hy 8 _ 18 rfl rfl).trans e8
    have s18' := s18
    rw [Array.getD_eq_getD_getElem?] at s18'
    clear hd hy hb
    go_simp
    exact hK.out _ W (stp_of hmo d (Below.refl _ _)) (if_pos rfl)
  case o11 =>
    intro At yy W hy hb d hd K hK
    have f9 := hd ⟨9, .data⟩ (by simp) rfl rfl
    obtain ⟨lo9, hi9, hl9, hh9, b9, c9, u9, e9, t9, r9⟩ := f9
    have s27 := (hy 9 _ 27 rfl rfl).trans e9
    have s27' := s27
    rw [Array.getD_eq_getD_getElem?] at s27'
    clear hd hy hb
    go_simp
    exact hK.out _ W (stp_of hmo d (Below.refl _ _)) ⟨b9, c9, u9, if_pos rfl, t9, r9⟩
  case o12 =>
    intro At yy W hy hb d hd K hK
    have e10 : yy 10 = .int .i64 0 := by obtain ⟨_, _, _, _, e⟩ := hd ⟨10, .data⟩ (by simp) rfl rfl; exact e
    have s28 := (hy 10 _ 28 rfl rfl).trans e10
    have s28' := s28
    rw [Array.getD_eq_getD_getElem?] at s28'
    clear hd hy hb
    go_simp
    exact hK.out _ W (stp_of hmo d (Below.refl _ _)) (if_pos rfl)
  case fin =>
    intro yy lo hi W hM
    show wpList _ _ _ [] _ _
    have e0 : yy 0 = .pointer (some ⟨w.heap.size, 0, none⟩) := hM.fact 0 (by simp) rfl (notR_all 0 rfl)
    have e1 : yy 1 = .agg #[.int .i64 (N : Int), .int .i64 (M : Int), .int .i64 (st : Int), .slice aF Fi.length cF, .slice aN Nx.length cN] := hM.fact 1 (by simp) rfl (notR_all 1 rfl)
    have e3 : yy 3 = .pointer (some ⟨w.heap.size, 10, none⟩) := hM.fact 3 (by simp) rfl (notR_all 3 rfl)
    have e4 : yy 4 = .int .i64 (p : Int) := hM.fact 4 (by simp) rfl (notR_all 4 rfl)
    have e5 : yy 5 = .pointer (some ⟨w.heap.size, 11, none⟩) := hM.fact 5 (by simp) rfl (notR_all 5 rfl)
    have e6 : yy 6 = .int .i64 (q : Int) := hM.fact 6 (by simp) rfl (notR_all 6 rfl)
    have e10 : yy 10 = .int .i64 0 := hM.fact 10 (by simp) rfl (notR_all 10 rfl)
    have e12 : yy 12 = .int .i64 0 := hM.fact 12 (by simp) rfl (notR_all 12 rfl)
    have dd := hM.d
    simp only [fills, Act.put, List.take, List.length, List.setIfInBounds_toArray, List.set_cons_zero, List.set_cons_succ, e0, e1, e3, e4, e5, e6, e10, e12]
    obtain ⟨gF3, kF3, gN3, kN3, e2, _, _⟩ := hM.fact 2 (by simp) rfl (notR_all 2 rfl)
    obtain ⟨b7, c7, u7, e7, _, _⟩ := hM.fact 7 (by simp) rfl (notR_all 7 rfl)
    obtain ⟨b8, c8, u8, e8, _, _⟩ := hM.fact 8 (by simp) rfl (notR_all 8 rfl)
    obtain ⟨b9, c9, u9, e9, _, _⟩ := hM.fact 9 (by simp) rfl (notR_all 9 rfl)
    obtain ⟨b, c, u, e11, ht, hr⟩ := hM.fact 11 (by simp) rfl (notR_all 11 rfl)
    rw [e2, e7, e8, e9, e11]
    clear hM hmo e0 e1 e3 e4 e5 e6 e10 e12 e2 e7 e8 e9 e11
    have HR := hide (HR.out.below dd HR.out.lt)
    have HE := hide (And.intro (blk_on HE.out.1 dd) (And.intro (HE.out.2.1.on dd) (And.intro (HE.out.2.2.1.on dd) (And.intro (HE.out.2.2.2.1.on dd) (And.intro (HE.out.2.2.2.2.1.trans (dd.mono HE.out.2.2.2.2.1.size)) hr)))))
    clear dd hr
    have y0 : W.cell? ⟨w.heap.size, 0, none⟩ = some (.int .i64 (N : Int)) := cell_of HE.out.1 rfl
    have y10 : W.cell? ⟨w.heap.size, 10, none⟩ = some (.int .i64 (p : Int)) := cell_of HE.out.1 rfl
    have y11 : W.cell? ⟨w.heap.size, 11, none⟩ = some (.int .i64 (q : Int)) := cell_of HE.out.1 rfl
    have c1 : ¬ ((p : Int) < 0) := by omega
    have c2 : ¬ ((q : Int) < 0) := by omega
    have c3 : (p : Int) < (N : Int) := by have := HV.out.2.1; omega
    have c4 : (q : Int) < (N : Int) := by have := HV.out.2.2.1; omega
    have HLU : Hid ((natI u).length ≤ 4194304) := hide (by rw [natI_len]; have := ht.2.2.1; have := HN9.out; omega)
    obtain ⟨n2, hn2⟩ : ∃ n2, N = n2 + 2 := ⟨N - 2, by have := ht.2.2.1; omega⟩
    have HW2 := hide (show IntKind.i64.wrap ((N : Int) - 2) = (n2 : Int) ∧ ((natI u).length : Int) ≤ (n2 : Int) by rw [IntKind.wrap_i64, natI_len]; have := ht.2.2.1; have := HN9.out; omega)
    clear hn2
    obtain ⟨b1, hb1⟩ : ∃ x, tkB N M p Fi Nx (natI u) = x := ⟨_, rfl⟩
    obtain ⟨b2, hb2⟩ : ∃ x, tkB N M q Fi Nx (natI u) = x := ⟨_, rfl⟩
    have TK3 : Hid (∀ W gF3 kF3 gN3 kN3 gW3 kW3, RdN W (some ⟨gF3, 0, none⟩) Fi → RdN W (some ⟨gN3, 0, none⟩) Nx → RdN W (some ⟨gW3, 0, none⟩) (natI u) → Calls Try.prog 16 #[.agg #[.int .i64 (N : Int), .int .i64 (M : Int), .int .i64 (p : Int), .slice (some ⟨gF3, 0, none⟩) Fi.length kF3, .slice (some ⟨gN3, 0, none⟩) Nx.length kN3], .slice (some ⟨gW3, 0, none⟩) (natI u).length kW3] W fun e w' => e = .returned (.bool b1) ∧ Below W.heap.size W w') := hide (fun W gF3 kF3 gN3 kN3 gW3 kW3 h1 h2 h3 => hb1 ▸ takesL_any W N M p (some ⟨gF3, 0, none⟩) (some ⟨gN3, 0, none⟩) (some ⟨gW3, 0, none⟩) Fi.length kF3 Nx.length kN3 (natI u).length kW3 Fi Nx (natI u) h1 h2 h3 rfl rfl rfl bF bN HLU.out)
    have TK4 : Hid (∀ W gF3 kF3 gN3 kN3 gW3 kW3, RdN W (some ⟨gF3, 0, none⟩) Fi → RdN W (some ⟨gN3, 0, none⟩) Nx → RdN W (some ⟨gW3, 0, none⟩) (natI u) → Calls Try.prog 16 #[.agg #[.int .i64 (N : Int), .int .i64 (M : Int), .int .i64 (q : Int), .slice (some ⟨gF3, 0, none⟩) Fi.length kF3, .slice (some ⟨gN3, 0, none⟩) Nx.length kN3], .slice (some ⟨gW3, 0, none⟩) (natI u).length kW3] W fun e w' => e = .returned (.bool b2) ∧ Below W.heap.size W w') := hide (fun W gF3 kF3 gN3 kN3 gW3 kW3 h1 h2 h3 => hb2 ▸ takesL_any W N M q (some ⟨gF3, 0, none⟩) (some ⟨gN3, 0, none⟩) (some ⟨gW3, 0, none⟩) Fi.length kF3 Nx.length kN3 (natI u).length kW3 Fi Nx (natI u) h1 h2 h3 rfl rfl rfl bF bN HLU.out)
    have HBB : Hid (¬ b1 = b2) := hide (by rw [← hb1, ← hb2]; exact tk_told HV.out.1 HV.out.2.1 HV.out.2.2.1 ht)
    clear hb1 hb2
    obtain ⟨o1, ho1⟩ : ∃ x, tkB N M p Fi Nx Wd = x := ⟨_, rfl⟩
    obtain ⟨o2, ho2⟩ : ∃ x, tkB N M q Fi Nx Wd = x := ⟨_, rfl⟩
    have TK1 : Hid (∀ W gF3 kF3 gN3 kN3 gW3 kW3, RdN W (some ⟨gF3, 0, none⟩) Fi → RdN W (some ⟨gN3, 0, none⟩) Nx → RdN W (some ⟨gW3, 0, none⟩) Wd → Calls Try.prog 16 #[.agg #[.int .i64 (N : Int), .int .i64 (M : Int), .int .i64 (p : Int), .slice (some ⟨gF3, 0, none⟩) Fi.length kF3, .slice (some ⟨gN3, 0, none⟩) Nx.length kN3], .slice (some ⟨gW3, 0, none⟩) Wd.length kW3] W fun e w' => e = .returned (.bool o1) ∧ Below W.heap.size W w') := hide (fun W gF3 kF3 gN3 kN3 gW3 kW3 h1 h2 h3 => ho1 ▸ takesL_any W N M p (some ⟨gF3, 0, none⟩) (some ⟨gN3, 0, none⟩) (some ⟨gW3, 0, none⟩) Fi.length kF3 Nx.length kN3 Wd.length kW3 Fi Nx Wd h1 h2 h3 rfl rfl rfl bF bN bW)
    have TK2 : Hid (∀ W gF3 kF3 gN3 kN3 gW3 kW3, RdN W (some ⟨gF3, 0, none⟩) Fi → RdN W (some ⟨gN3, 0, none⟩) Nx → RdN W (some ⟨gW3, 0, none⟩) Wd → Calls Try.prog 16 #[.agg #[.int .i64 (N : Int), .int .i64 (M : Int), .int .i64 (q : Int), .slice (some ⟨gF3, 0, none⟩) Fi.length kF3, .slice (some ⟨gN3, 0, none⟩) Nx.length kN3], .slice (some ⟨gW3, 0, none⟩) Wd.length kW3] W fun e w' => e = .returned (.bool o2) ∧ Below W.heap.size W w') := hide (fun W gF3 kF3 gN3 kN3 gW3 kW3 h1 h2 h3 => ho2 ▸ takesL_any W N M q (some ⟨gF3, 0, none⟩) (some ⟨gN3, 0, none⟩) (some ⟨gW3, 0, none⟩) Fi.length kF3 Nx.length kN3 Wd.length kW3 Fi Nx Wd h1 h2 h3 rfl rfl rfl bF bN bW)
    have HO : Hid (¬ o1 = o2 → ahB (natI u) Wd = true) := hide (by rw [← ho1, ← ho2]; exact tk_ahead HV.out.1 HV.out.2.1 HV.out.2.2.1 ht Wd)
    clear ho1 ho2 ht
    go_upto_region 7 with fail
    go_upto_region 9 with fail
    have z1 : W.cell? ⟨hc, p, none⟩ = some (.int .i64 ((al p : Nat) : Int)) := HR.out.at p HV.out.2.1
    have z2 : W.cell? ⟨hc, q, none⟩ = some (.int .i64 ((al q : Nat) : Int)) := HR.out.at q HV.out.2.2.1
    have z3 : W.cell? ⟨hc, al p, none⟩ = some (.int .i64 ((al p : Nat) : Int)) := by have z := HR.out.at (al p) (by have := (HAL.out p HV.out.2.1).1; have := HV.out.2.1; omega); rwa [cl_idem HAL.out HV.out.2.1] at z
    have d1 : ((al p : Nat) : Int) ≤ (p : Int) := by have := (HAL.out p HV.out.2.1).1; omega
    have d2 : ¬ al p = al q := fun e => HV.out.2.2.2 ((cl_iff HAL.out HV.out.2.1 HV.out.2.2.1).1 e)
    clear HR HAL
    obtain ⟨r, hr⟩ : ∃ r, al p = r := ⟨_, rfl⟩
    obtain ⟨r2, hr2⟩ : ∃ r, al q = r := ⟨_, rfl⟩
    rw [hr] at z1 z3 d1 d2
    rw [hr2] at z2 d2
    clear hr hr2
    have d3 : ¬ ((r : Nat) : Int) = ((r2 : Nat) : Int) := by omega
    have d4 : ((r : Nat) : Int) < (N : Int) := by omega
    have d5 : (0 : Int) ≤ ((r : Nat) : Int) := by omega
    have d6 : (0 : Int) ≤ (p : Int) := by omega
    have d7 : (0 : Int) ≤ (q : Int) := by omega
    have d8 : ¬ (p : Int) < ((r : Nat) : Int) := by omega
    go_quiet (fail)
    go_upto_region 11 with fail
    clear y0 y10 y11 z1 z2 z3 c1 c2 c3 c4 d1 d4 d5 d6 d7 d8 d2 d3
    have dd := below_drewN2 (Below.refl W.heap.size W) nq
    have HE := hide (And.intro (blk_on HE.out.1 dd) (And.intro (HE.out.2.1.on dd) (And.intro (HE.out.2.2.1.on dd) (And.intro (HE.out.2.2.2.1.on dd) (And.intro (HE.out.2.2.2.2.1.trans (dd.mono HE.out.2.2.2.2.1.size)) (HE.out.2.2.2.2.2.on dd))))))
    clear dd
    obtain ⟨W9, hW9⟩ : ∃ x, W.drewN nq = x := ⟨_, rfl⟩
    rw [hW9] at HE ⊢
    clear hW9
    have hmo : MonIL 0 [vI 0 (.pointer (some ⟨w.heap.size, 0, none⟩)), vI 1 (.agg #[.int .i64 (N : Int), .int .i64 (M : Int), .int .i64 (st : Int), .slice aF Fi.length cF, .slice aN Nx.length cN]), vI 2 (.pointer (some ⟨w.heap.size, 10, none⟩)), vI 3 (.int .i64 (p : Int)), pI 4 (twP N M p Fi Nx), vI 5 (.pointer (some ⟨w.heap.size, 12, none⟩)), vI 6 (.slice aW Wd.length cW), pI 7 (inP Wd), vI 8 (.bool o1), vI 9 (.bool o1)] := ⟨vI_mono _ _, vI_mono _ _, vI_mono _ _, vI_mono _ _, pI_mono twP_mono, vI_mono _ _, vI_mono _ _, pI_mono inP_mono, vI_mono _ _, vI_mono _ _, trivial⟩
    refine wp_region_sl [vI 0 (.pointer (some ⟨w.heap.size, 0, none⟩)), vI 1 (.agg #[.int .i64 (N : Int), .int .i64 (M : Int), .int .i64 (st : Int), .slice aF Fi.length cF, .slice aN Nx.length cN]), vI 2 (.pointer (some ⟨w.heap.size, 10, none⟩)), vI 3 (.int .i64 (p : Int)), pI 4 (twP N M p Fi Nx), vI 5 (.pointer (some ⟨w.heap.size, 12, none⟩)), vI 6 (.slice aW Wd.length cW), pI 7 (inP Wd), vI 8 (.bool o1), vI 9 (.bool o1)] (by kernel_rfl) (by kernel_rfl) (by kernel_rfl) (by kernel_rfl) hmo ⟨?o0, ?o1, ?o2, ?o3, ?o4, ?o5, ?o6, ?o7, ?o8, ?o9, trivial⟩ ?fin
    case o0 =>
      intro At yy W hy hb d hd K hK
      have s1 : At.tmps.getD 1 undef = .pointer (some ⟨w.heap.size, 0, none⟩) := hb 1 rfl
      have s1' := s1
      rw [Array.getD_eq_getD_getElem?] at s1'
      clear hd hy hb
      go_simp
      exact hK.out _ W (stp_of hmo d (Below.refl _ _)) (if_pos rfl)
    case o1 =>
      intro At yy W hy hb d hd K hK
      have e0 : yy 0 = .pointer (some ⟨w.heap.size, 0, none⟩) := by obtain ⟨_, _, _, _, e⟩ := hd ⟨0, .data⟩ (by simp) rfl rfl; exact e
      have s119 := (hy 0 _ 119 rfl rfl).trans e0
      have s119' := s119
      rw [Array.getD_eq_getD_getElem?] at s119'
      clear hd hy hb
      have yb0 : W.cell? ⟨w.heap.size, 0, none⟩ = some (.int .i64 (N : Int)) := cell_of (blk_on HE.out.1 d) rfl
      have yb1 : W.cell? ⟨w.heap.size, 1, none⟩ = some (.int .i64 (M : Int)) := cell_of (blk_on HE.out.1 d) rfl
      have yb2 : W.cell? ⟨w.heap.size, 2, none⟩ = some (.int .i64 (st : Int)) := cell_of (blk_on HE.out.1 d) rfl
      have yb3 : W.cell? ⟨w.heap.size, 3, none⟩ = some (.slice aF Fi.length cF) := cell_of (blk_on HE.out.1 d) rfl
      have yb4 : W.cell? ⟨w.heap.size, 4, none⟩ = some (.slice aN Nx.length cN) := cell_of (blk_on HE.out.1 d) rfl
      go_simp
      exact hK.out _ W (stp_of hmo d (Below.refl _ _)) (if_pos rfl)
    case o2 =>
      intro At yy W hy hb d hd K hK
      have s1 : At.tmps.getD 1 undef = .pointer (some ⟨w.heap.size, 0, none⟩) := hb 1 rfl
      have s1' := s1
      rw [Array.getD_eq_getD_getElem?] at s1'
      clear hd hy hb
      go_simp
      exact hK.out _ W (stp_of hmo d (Below.refl _ _)) (if_pos rfl)
    case o3 =>
      intro At yy W hy hb d hd K hK
      have e2 : yy 2 = .pointer (some ⟨w.heap.size, 10, none⟩) := by obtain ⟨_, _, _, _, e⟩ := hd ⟨2, .data⟩ (by simp) rfl rfl; exact e
      have s121 := (hy 2 _ 121 rfl rfl).trans e2
      have s121' := s121
      rw [Array.getD_eq_getD_getElem?] at s121'
      clear hd hy hb
      have yb10 : W.cell? ⟨w.heap.size, 10, none⟩ = some (.int .i64 (p : Int)) := cell_of (blk_on HE.out.1 d) rfl
      go_simp
      exact hK.out _ W (stp_of hmo d (Below.refl _ _)) (if_pos rfl)
    case o4 =>
      intro At yy W hy hb d hd K hK
      have e1 : yy 1 = .agg #[.int .i64 (N : Int), .int .i64 (M : Int), .int .i64 (st : Int), .slice aF Fi.length cF, .slice aN Nx.length cN] := by obtain ⟨_, _, _, _, e⟩ := hd ⟨1, .data⟩ (by simp) rfl rfl; exact e
      have e3 : yy 3 = .int .i64 (p : Int) := by obtain ⟨_, _, _, _, e⟩ := hd ⟨3, .data⟩ (by simp) rfl rfl; exact e
      have s120 := (hy 1 _ 120 rfl rfl).trans e1
      have s120' := s120
      rw [Array.getD_eq_getD_getElem?] at s120'
      have s122 := (hy 3 _ 122 rfl rfl).trans e3
      have s122' := s122
      rw [Array.getD_eq_getD_getElem?] at s122'
      clear hd hy hb
      go_simp
      go_wp2_with (go_at_call 17; refine (from_any _ N M st p aF aN cF cN Fi Nx (HE.out.2.1.on d) (HE.out.2.2.1.on d) bF bN).mono ?_; rintro e wa ⟨gF3, kF3, gN3, kN3, rfl, HT3, da⟩)
      exact hK.out _ wa (stp_of hmo d da) ⟨gF3, kF3, gN3, kN3, if_pos rfl, HT3.out.f.rd, HT3.out.n.rd⟩
    case o5 =>
      intro At yy W hy hb d hd K hK
      have s1 : At.tmps.getD 1 undef = .pointer (some ⟨w.heap.size, 0, none⟩) := hb 1 rfl
      have s1' := s1
      rw [Array.getD_eq_getD_getElem?] at s1'
      clear hd hy hb
      go_simp
      exact hK.out _ W (stp_of hmo d (Below.refl _ _)) (if_pos rfl)
    case o6 =>
      intro At yy W hy hb d hd K hK
      have e5 : yy 5 = .pointer (some ⟨w.heap.size, 12, none⟩) := by obtain ⟨_, _, _, _, e⟩ := hd ⟨5, .data⟩ (by simp) rfl rfl; exact e
      have s124 := (hy 5 _ 124 rfl rfl).trans e5
      have s124' := s124
      rw [Array.getD_eq_getD_getElem?] at s124'
      clear hd hy hb
      have yb12 : W.cell? ⟨w.heap.size, 12, none⟩ = some (.slice aW Wd.length cW) := cell_of (blk_on HE.out.1 d) rfl
      go_simp
      exact hK.out _ W (stp_of hmo d (Below.refl _ _)) (if_pos rfl)
    case o7 =>
      intro At yy W hy hb d hd K hK
      have e6 : yy 6 = .slice aW Wd.length cW := by obtain ⟨_, _, _, _, e⟩ := hd ⟨6, .data⟩ (by simp) rfl rfl; exact e
      have s125 := (hy 6 _ 125 rfl rfl).trans e6
      have s125' := s125
      rw [Array.getD_eq_getD_getElem?] at s125'
      clear hd hy hb
      go_simp
      go_wp2_with (go_at_call 13; refine (ints_any _ aW Wd cW (hide (HE.out.2.2.2.1.on d)) bW).mono ?_; rintro e wa ⟨gW3, kW3, rfl, HM3, da⟩)
      exact hK.out _ wa (stp_of hmo d da) ⟨gW3, kW3, if_pos rfl, HM3.out.rd⟩
    case o8 =>
      intro At yy W hy hb d hd K hK
      have f4 := hd ⟨4, .data⟩ (by simp) rfl rfl
      have f7 := hd ⟨7, .data⟩ (by simp) rfl rfl
      obtain ⟨lo4, hi4, hl4, hh4, gF3, kF3, gN3, kN3, e4, ra, rb⟩ := f4
      obtain ⟨lo7, hi7, hl7, hh7, gW3, kW3, e7, rw3⟩ := f7
      have s123 := (hy 4 _ 123 rfl rfl).trans e4
      have s123' := s123
      rw [Array.getD_eq_getD_getElem?] at s123'
      have s126 := (hy 7 _ 126 rfl rfl).trans e7
      have s126' := s126
      rw [Array.getD_eq_getD_getElem?] at s126'
      clear hd hy hb
      go_simp
      go_wp2_with (go_at_call 16; refine (TK1.out _ gF3 kF3 gN3 kN3 gW3 kW3 ra rb rw3).mono ?_; rintro e wa ⟨rfl, da⟩)
      exact hK.out _ wa (stp_of hmo d da) (if_pos rfl)
    case o9 =>
      intro At yy W hy hb d hd K hK
      have e8 : yy 8 = .bool o1 := by obtain ⟨_, _, _, _, e⟩ := hd ⟨8, .data⟩ (by simp) rfl rfl; exact e
      have s127 := (hy 8 _ 127 rfl rfl).trans e8
      have s127' := s127
      rw [Array.getD_eq_getD_getElem?] at s127'
      clear hd hy hb
      go_simp
      exact hK.out _ W (stp_of hmo d (Below.refl _ _)) (if_pos rfl)
    case fin =>
      intro yy lo hi W hM
      show wpList _ _ _ [] _ _
      have e0 : yy 0 = .pointer (some ⟨w.heap.size, 0, none⟩) := hM.fact 0 (by simp) rfl (notR_all 0 rfl)
      have e1 : yy 1 = .agg #[.int .i64 (N : Int), .int .i64 (M : Int), .int .i64 (st : Int), .slice aF Fi.length cF, .slice aN Nx.length cN] := hM.fact 1 (by simp) rfl (notR_all 1 rfl)
      have e2 : yy 2 = .pointer (some ⟨w.heap.size, 10, none⟩) := hM.fact 2 (by simp) rfl (notR_all 2 rfl)
      have e3 : yy 3 = .int .i64 (p : Int) := hM.fact 3 (by simp) rfl (notR_all 3 rfl)
      have e5 : yy 5 = .pointer (some ⟨w.heap.size, 12, none⟩) := hM.fact 5 (by simp) rfl (notR_all 5 rfl)
      have e6 : yy 6 = .slice aW Wd.length cW := hM.fact 6 (by simp) rfl (notR_all 6 rfl)
      have e8 : yy 8 = .bool o1 := hM.fact 8 (by simp) rfl (notR_all 8 rfl)
      have e9 : yy 9 = .bool o1 := hM.fact 9 (by simp) rfl (notR_all 9 rfl)
      have dd := hM.d
      simp only [fills, Act.put, List.take, List.length, List.setIfInBounds_toArray, List.set_cons_zero, List.set_cons_succ, e0, e1, e2, e3, e5, e6, e8, e9]
      obtain ⟨gF4, kF4, gN4, kN4, e4, _, _⟩ := hM.fact 4 (by simp) rfl (notR_all 4 rfl)
      obtain ⟨gW7, kW7, e7, _⟩ := hM.fact 7 (by simp) rfl (notR_all 7 rfl)
      rw [e4, e7]
      clear hM hmo e0 e1 e2 e3 e5 e6 e8 e9 e4 e7
      have HE := hide (And.intro (blk_on HE.out.1 dd) (And.intro (HE.out.2.1.on dd) (And.intro (HE.out.2.2.1.on dd) (And.intro (HE.out.2.2.2.1.on dd) (And.intro (HE.out.2.2.2.2.1.trans (dd.mono HE.out.2.2.2.2.1.size)) (HE.out.2.2.2.2.2.on dd))))))
      clear dd
      go_upto_region 12 with fail
      have hmo : MonIL 0 [vI 0 (.pointer (some ⟨w.heap.size, 0, none⟩)), vI 1 (.agg #[.int .i64 (N : Int), .int .i64 (M : Int), .int .i64 (st : Int), .slice aF Fi.length cF, .slice aN Nx.length cN]), vI 2 (.pointer (some ⟨w.heap.size, 11, none⟩)), vI 3 (.int .i64 (q : Int)), pI 4 (twP N M q Fi Nx), vI 5 (.pointer (some ⟨w.heap.size, 12, none⟩)), vI 6 (.slice aW Wd.length cW), pI 7 (inP Wd), vI 8 (.bool o2), vI 9 (.bool o2)] := ⟨vI_mono _ _, vI_mono _ _, vI_mono _ _, vI_mono _ _, pI_mono twP_mono, vI_mono _ _, vI_mono _ _, pI_mono inP_mono, vI_mono _ _, vI_mono _ _, trivial⟩
      refine wp_region_sl [vI 0 (.pointer (some ⟨w.heap.size, 0, none⟩)), vI 1 (.agg #[.int .i64 (N : Int), .int .i64 (M : Int), .int .i64 (st : Int), .slice aF Fi.length cF, .slice aN Nx.length cN]), vI 2 (.pointer (some ⟨w.heap.size, 11, none⟩)), vI 3 (.int .i64 (q : Int)), pI 4 (twP N M q Fi Nx), vI 5 (.pointer (some ⟨w.heap.size, 12, none⟩)), vI 6 (.slice aW Wd.length cW), pI 7 (inP Wd), vI 8 (.bool o2), vI 9 (.bool o2)] (by kernel_rfl) (by kernel_rfl) (by kernel_rfl) (by kernel_rfl) hmo ⟨?o0, ?o1, ?o2, ?o3, ?o4, ?o5, ?o6, ?o7, ?o8, ?o9, trivial⟩ ?fin
      case o0 =>
        intro At yy W hy hb d hd K hK
        have s1 : At.tmps.getD 1 undef = .pointer (some ⟨w.heap.size, 0, none⟩) := hb 1 rfl
        have s1' := s1
        rw [Array.getD_eq_getD_getElem?] at s1'
        clear hd hy hb
        go_simp
        exact hK.out _ W (stp_of hmo d (Below.refl _ _)) (if_pos rfl)
      case o1 =>
        intro At yy W hy hb d hd K hK
        have e0 : yy 0 = .pointer (some ⟨w.heap.size, 0, none⟩) := by obtain ⟨_, _, _, _, e⟩ := hd ⟨0, .data⟩ (by simp) rfl rfl; exact e
        have s128 := (hy 0 _ 128 rfl rfl).trans e0
        have s128' := s128
        rw [Array.getD_eq_getD_getElem?] at s128'
        clear hd hy hb
        have yb0 : W.cell? ⟨w.heap.size, 0, none⟩ = some (.int .i64 (N : Int)) := cell_of (blk_on HE.out.1 d) rfl
        have yb1 : W.cell? ⟨w.heap.size, 1, none⟩ = some (.int .i64 (M : Int)) := cell_of (blk_on HE.out.1 d) rfl
        have yb2 : W.cell? ⟨w.heap.size, 2, none⟩ = some (.int .i64 (st : Int)) := cell_of (blk_on HE.out.1 d) rfl
        have yb3 : W.cell? ⟨w.heap.size, 3, none⟩ = some (.slice aF Fi.length cF) := cell_of (blk_on HE.out.1 d) rfl
        have yb4 : W.cell? ⟨w.heap.size, 4, none⟩ = some (.slice aN Nx.length cN) := cell_of (blk_on HE.out.1 d) rfl
        go_simp
        exact hK.out _ W (stp_of hmo d (Below.refl _ _)) (if_pos rfl)
      case o2 =>
        intro At yy W hy hb d hd K hK
        have s1 : At.tmps.getD 1 undef = .pointer (some ⟨w.heap.size, 0, none⟩) := hb 1 rfl
        have s1' := s1
        rw [Array.getD_eq_getD_getElem?] at s1'
        clear hd hy hb
        go_simp
        exact hK.out _ W (stp_of hmo d (Below.refl _ _)) (if_pos rfl)
      case o3 =>
        intro At yy W hy hb d hd K hK
        have e2 : yy 2 = .pointer (some ⟨w.heap.size, 11, none⟩) := by obtain ⟨_, _, _, _, e⟩ := hd ⟨2, .data⟩ (by simp) rfl rfl; exact e
        have s130 := (hy 2 _ 130 rfl rfl).trans e2
        have s130' := s130
        rw [Array.getD_eq_getD_getElem?] at s130'
        clear hd hy hb
        have yb11 : W.cell? ⟨w.heap.size, 11, none⟩ = some (.int .i64 (q : Int)) := cell_of (blk_on HE.out.1 d) rfl
        go_simp
        exact hK.out _ W (stp_of hmo d (Below.refl _ _)) (if_pos rfl)
      case o4 =>
        intro At yy W hy hb d hd K hK
        have e1 : yy 1 = .agg #[.int .i64 (N : Int), .int .i64 (M : Int), .int .i64 (st : Int), .slice aF Fi.length cF, .slice aN Nx.length cN] := by obtain ⟨_, _, _, _, e⟩ := hd ⟨1, .data⟩ (by simp) rfl rfl; exact e
        have e3 : yy 3 = .int .i64 (q : Int) := by obtain ⟨_, _, _, _, e⟩ := hd ⟨3, .data⟩ (by simp) rfl rfl; exact e
        have s129 := (hy 1 _ 129 rfl rfl).trans e1
        have s129' := s129
        rw [Array.getD_eq_getD_getElem?] at s129'
        have s131 := (hy 3 _ 131 rfl rfl).trans e3
        have s131' := s131
        rw [Array.getD_eq_getD_getElem?] at s131'
        clear hd hy hb
        go_simp
        go_wp2_with (go_at_call 17; refine (from_any _ N M st q aF aN cF cN Fi Nx (HE.out.2.1.on d) (HE.out.2.2.1.on d) bF bN).mono ?_; rintro e wa ⟨gF3, kF3, gN3, kN3, rfl, HT3, da⟩)
        exact hK.out _ wa (stp_of hmo d da) ⟨gF3, kF3, gN3, kN3, if_pos rfl, HT3.out.f.rd, HT3.out.n.rd⟩
      case o5 =>
        intro At yy W hy hb d hd K hK
        have s1 : At.tmps.getD 1 undef = .pointer (some ⟨w.heap.size, 0, none⟩) := hb 1 rfl
        have s1' := s1
        rw [Array.getD_eq_getD_getElem?] at s1'
        clear hd hy hb
        go_simp
        exact hK.out _ W (stp_of hmo d (Below.refl _ _)) (if_pos rfl)
      case o6 =>
        intro At yy W hy hb d hd K hK
        have e5 : yy 5 = .pointer (some ⟨w.heap.size, 12, none⟩) := by obtain ⟨_, _, _, _, e⟩ := hd ⟨5, .data⟩ (by simp) rfl rfl; exact e
        have s133 := (hy 5 _ 133 rfl rfl).trans e5
        have s133' := s133
        rw [Array.getD_eq_getD_getElem?] at s133'
        clear hd hy hb
        have yb12 : W.cell? ⟨w.heap.size, 12, none⟩ = some (.slice aW Wd.length cW) := cell_of (blk_on HE.out.1 d) rfl
        go_simp
        exact hK.out _ W (stp_of hmo d (Below.refl _ _)) (if_pos rfl)
      case o7 =>
        intro At yy W hy hb d hd K hK
        have e6 : yy 6 = .slice aW Wd.length cW := by obtain ⟨_, _, _, _, e⟩ := hd ⟨6, .data⟩ (by simp) rfl rfl; exact e
        have s134 := (hy 6 _ 134 rfl rfl).trans e6
        have s134' := s134
        rw [Array.getD_eq_getD_getElem?] at s134'
        clear hd hy hb
        go_simp
        go_wp2_with (go_at_call 13; refine (ints_any _ aW Wd cW (hide (HE.out.2.2.2.1.on d)) bW).mono ?_; rintro e wa ⟨gW3, kW3, rfl, HM3, da⟩)
        exact hK.out _ wa (stp_of hmo d da) ⟨gW3, kW3, if_pos rfl, HM3.out.rd⟩
      case o8 =>
        intro At yy W hy hb d hd K hK
        have f4 := hd ⟨4, .data⟩ (by simp) rfl rfl
        have f7 := hd ⟨7, .data⟩ (by simp) rfl rfl
        obtain ⟨lo4, hi4, hl4, hh4, gF3, kF3, gN3, kN3, e4, ra, rb⟩ := f4
        obtain ⟨lo7, hi7, hl7, hh7, gW3, kW3, e7, rw3⟩ := f7
        have s132 := (hy 4 _ 132 rfl rfl).trans e4
        have s132' := s132
        rw [Array.getD_eq_getD_getElem?] at s132'
        have s135 := (hy 7 _ 135 rfl rfl).trans e7
        have s135' := s135
        rw [Array.getD_eq_getD_getElem?] at s135'
        clear hd hy hb
        go_simp
        go_wp2_with (go_at_call 16; refine (TK2.out _ gF3 kF3 gN3 kN3 gW3 kW3 ra rb rw3).mono ?_; rintro e wa ⟨rfl, da⟩)
        exact hK.out _ wa (stp_of hmo d da) (if_pos rfl)
      case o9 =>
        intro At yy W hy hb d hd K hK
        have e8 : yy 8 = .bool o2 := by obtain ⟨_, _, _, _, e⟩ := hd ⟨8, .data⟩ (by simp) rfl rfl; exact e
        have s136 := (hy 8 _ 136 rfl rfl).trans e8
        have s136' := s136
        rw [Array.getD_eq_getD_getElem?] at s136'
        clear hd hy hb
        go_simp
        exact hK.out _ W (stp_of hmo d (Below.refl _ _)) (if_pos rfl)
      case fin =>
        intro yy lo hi W hM
        show wpList _ _ _ [] _ _
        have e0 : yy 0 = .pointer (some ⟨w.heap.size, 0, none⟩) := hM.fact 0 (by simp) rfl (notR_all 0 rfl)
        have e1 : yy 1 = .agg #[.int .i64 (N : Int), .int .i64 (M : Int), .int .i64 (st : Int), .slice aF Fi.length cF, .slice aN Nx.length cN] := hM.fact 1 (by simp) rfl (notR_all 1 rfl)
        have e2 : yy 2 = .pointer (some ⟨w.heap.size, 11, none⟩) := hM.fact 2 (by simp) rfl (notR_all 2 rfl)
        have e3 : yy 3 = .int .i64 (q : Int) := hM.fact 3 (by simp) rfl (notR_all 3 rfl)
        have e5 : yy 5 = .pointer (some ⟨w.heap.size, 12, none⟩) := hM.fact 5 (by simp) rfl (notR_all 5 rfl)
        have e6 : yy 6 = .slice aW Wd.length cW := hM.fact 6 (by simp) rfl (notR_all 6 rfl)
        have e8 : yy 8 = .bool o2 := hM.fact 8 (by simp) rfl (notR_all 8 rfl)
        have e9 : yy 9 = .bool o2 := hM.fact 9 (by simp) rfl (notR_all 9 rfl)
        have dd := hM.d
        simp only [fills, Act.put, List.take, List.length, List.setIfInBounds_toArray, List.set_cons_zero, List.set_cons_succ, e0, e1, e2, e3, e5, e6, e8, e9]
        obtain ⟨gF4, kF4, gN4, kN4, e4, _, _⟩ := hM.fact 4 (by simp) rfl (notR_all 4 rfl)
        obtain ⟨gW7, kW7, e7, _⟩ := hM.fact 7 (by simp) rfl (notR_all 7 rfl)
        rw [e4, e7]
        clear hM hmo e0 e1 e2 e3 e5 e6 e8 e9 e4 e7
        have HE := hide (And.intro (blk_on HE.out.1 dd) (And.intro (HE.out.2.1.on dd) (And.intro (HE.out.2.2.1.on dd) (And.intro (HE.out.2.2.2.1.on dd) (And.intro (HE.out.2.2.2.2.1.trans (dd.mono HE.out.2.2.2.2.1.size)) (HE.out.2.2.2.2.2.on dd))))))
        clear dd
        go_upto_region 15 with fail
        have hmo : MonIL 0 [vI 0 (.pointer (some ⟨w.heap.size, 0, none⟩)), vI 1 (.agg #[.int .i64 (N : Int), .int .i64 (M : Int), .int .i64 (st : Int), .slice aF Fi.length cF, .slice aN Nx.length cN]), vI 2 (.pointer (some ⟨w.heap.size, 10, none⟩)), vI 3 (.int .i64 (p : Int)), pI 4 (twP N M p Fi Nx), vI 5 (.slice b (natI u).length c), pI 6 (inP (natI u)), vI 7 (.bool b1), vI 8 (.pointer (some ⟨w.heap.size, 0, none⟩)), vI 9 (.agg #[.int .i64 (N : Int), .int .i64 (M : Int), .int .i64 (st : Int), .slice aF Fi.length cF, .slice aN Nx.length cN]), vI 10 (.pointer (some ⟨w.heap.size, 11, none⟩)), vI 11 (.int .i64 (q : Int)), pI 12 (twP N M q Fi Nx), vI 13 (.slice b (natI u).length c), pI 14 (inP (natI u)), vI 15 (.bool b2), vI 16 (.bool false), vI 17 (.bool false), vI 18 (.slice b (natI u).length c), vI 19 (.int .i64 ((natI u).length : Int)), vI 20 (.pointer (some ⟨w.heap.size, 0, none⟩)), vI 21 (.pointer (some ⟨w.heap.size, 0, none⟩)), vI 22 (.int .i64 (N : Int)), vI 23 (.int .i64 (n2 : Int)), vI 24 (.bool false), vI 25 (.bool false)] := ⟨vI_mono _ _, vI_mono _ _, vI_mono _ _, vI_mono _ _, pI_mono twP_mono, vI_mono _ _, pI_mono inP_mono, vI_mono _ _, vI_mono _ _, vI_mono _ _, vI_mono _ _, vI_mono _ _, pI_mono twP_mono, vI_mono _ _, pI_mono inP_mono, vI_mono _ _, vI_mono _ _, vI_mono _ _, vI_mono _ _, vI_mono _ _, vI_mono _ _, vI_mono _ _, vI_mono _ _, vI_mono _ _, vI_mono _ _, vI_mono _ _, trivial⟩
        refine wp_region_sl [vI 0 (.pointer (some ⟨w.heap.size, 0, none⟩)), vI 1 (.agg #[.int .i64 (N : Int), .int .i64 (M : Int), .int .i64 (st : Int), .slice aF Fi.length cF, .slice aN Nx.length cN]), vI 2 (.pointer (some ⟨w.heap.size, 10, none⟩)), vI 3 (.int .i64 (p : Int)), pI 4 (twP N M p Fi Nx), vI 5 (.slice b (natI u).length c), pI 6 (inP (natI u)), vI 7 (.bool b1), vI 8 (.pointer (some ⟨w.heap.size, 0, none⟩)), vI 9 (.agg #[.int .i64 (N : Int), .int .i64 (M : Int), .int .i64 (st : Int), .slice aF Fi.length cF, .slice aN Nx.length cN]), vI 10 (.pointer (some ⟨w.heap.size, 11, none⟩)), vI 11 (.int .i64 (q : Int)), pI 12 (twP N M q Fi Nx), vI 13 (.slice b (natI u).length c), pI 14 (inP (natI u)), vI 15 (.bool b2), vI 16 (.bool false), vI 17 (.bool false), vI 18 (.slice b (natI u).length c), vI 19 (.int .i64 ((natI u).length : Int)), vI 20 (.pointer (some ⟨w.heap.size, 0, none⟩)), vI 21 (.pointer (some ⟨w.heap.size, 0, none⟩)), vI 22 (.int .i64 (N : Int)), vI 23 (.int .i64 (n2 : Int)), vI 24 (.bool false), vI 25 (.bool false)] (by kernel_rfl) (by kernel_rfl) (by kernel_rfl) (by kernel_rfl) hmo ⟨?o0, ?o1, ?o2, ?o3, ?o4, ?o5, ?o6, ?o7, ?o8, ?o9, ?o10, ?o11, ?o12, ?o13, ?o14, ?o15, ?o16, ?o17, ?o18, ?o19, ?o20, ?o21, ?o22, ?o23, ?o24, ?o25, trivial⟩ ?fin
        case o0 =>
          intro At yy W hy hb d hd K hK
          have s1 : At.tmps.getD 1 undef = .pointer (some ⟨w.heap.size, 0, none⟩) := hb 1 rfl
          have s1' := s1
          rw [Array.getD_eq_getD_getElem?] at s1'
          clear hd hy hb
          go_simp
          exact hK.out _ W (stp_of hmo d (Below.refl _ _)) (if_pos rfl)
        case o1 =>
          intro At yy W hy hb d hd K hK
          have e0 : yy 0 = .pointer (some ⟨w.heap.size, 0, none⟩) := by obtain ⟨_, _, _, _, e⟩ := hd ⟨0, .data⟩ (by simp) rfl rfl; exact e
          have s146 := (hy 0 _ 146 rfl rfl).trans e0
          have s146' := s146
          rw [Array.getD_eq_getD_getElem?] at s146'
          clear hd hy hb
          have yb0 : W.cell? ⟨w.heap.size, 0, none⟩ = some (.int .i64 (N : Int)) := cell_of (blk_on HE.out.1 d) rfl
          have yb1 : W.cell? ⟨w.heap.size, 1, none⟩ = some (.int .i64 (M : Int)) := cell_of (blk_on HE.out.1 d) rfl
          have yb2 : W.cell? ⟨w.heap.size, 2, none⟩ = some (.int .i64 (st : Int)) := cell_of (blk_on HE.out.1 d) rfl
          have yb3 : W.cell? ⟨w.heap.size, 3, none⟩ = some (.slice aF Fi.length cF) := cell_of (blk_on HE.out.1 d) rfl
          have yb4 : W.cell? ⟨w.heap.size, 4, none⟩ = some (.slice aN Nx.length cN) := cell_of (blk_on HE.out.1 d) rfl
          go_simp
          exact hK.out _ W (stp_of hmo d (Below.refl _ _)) (if_pos rfl)
        case o2 =>
          intro At yy W hy hb d hd K hK
          have s1 : At.tmps.getD 1 undef = .pointer (some ⟨w.heap.size, 0, none⟩) := hb 1 rfl
          have s1' := s1
          rw [Array.getD_eq_getD_getElem?] at s1'
          clear hd hy hb
          go_simp
          exact hK.out _ W (stp_of hmo d (Below.refl _ _)) (if_pos rfl)
        case o3 =>
          intro At yy W hy hb d hd K hK
          have e2 : yy 2 = .pointer (some ⟨w.heap.size, 10, none⟩) := by obtain ⟨_, _, _, _, e⟩ := hd ⟨2, .data⟩ (by simp) rfl rfl; exact e
          have s148 := (hy 2 _ 148 rfl rfl).trans e2
          have s148' := s148
          rw [Array.getD_eq_getD_getElem?] at s148'
          clear hd hy hb
          have yb10 : W.cell? ⟨w.heap.size, 10, none⟩ = some (.int .i64 (p : Int)) := cell_of (blk_on HE.out.1 d) rfl
          go_simp
          exact hK.out _ W (stp_of hmo d (Below.refl _ _)) (if_pos rfl)
        case o4 =>
          intro At yy W hy hb d hd K hK
          have e1 : yy 1 = .agg #[.int .i64 (N : Int), .int .i64 (M : Int), .int .i64 (st : Int), .slice aF Fi.length cF, .slice aN Nx.length cN] := by obtain ⟨_, _, _, _, e⟩ := hd ⟨1, .data⟩ (by simp) rfl rfl; exact e
          have e3 : yy 3 = .int .i64 (p : Int) := by obtain ⟨_, _, _, _, e⟩ := hd ⟨3, .data⟩ (by simp) rfl rfl; exact e
          have s147 := (hy 1 _ 147 rfl rfl).trans e1
          have s147' := s147
          rw [Array.getD_eq_getD_getElem?] at s147'
          have s149 := (hy 3 _ 149 rfl rfl).trans e3
          have s149' := s149
          rw [Array.getD_eq_getD_getElem?] at s149'
          clear hd hy hb
          go_simp
          go_wp2_with (go_at_call 17; refine (from_any _ N M st p aF aN cF cN Fi Nx (HE.out.2.1.on d) (HE.out.2.2.1.on d) bF bN).mono ?_; rintro e wa ⟨gF3, kF3, gN3, kN3, rfl, HT3, da⟩)
          exact hK.out _ wa (stp_of hmo d da) ⟨gF3, kF3, gN3, kN3, if_pos rfl, HT3.out.f.rd, HT3.out.n.rd⟩
        case o5 =>
          intro At yy W hy hb d hd K hK
          have s5 : At.tmps.getD 5 undef = .slice b (natI u).length c := hb 5 rfl
          have s5' := s5
          rw [Array.getD_eq_getD_getElem?] at s5'
          clear hd hy hb
          go_simp
          exact hK.out _ W (stp_of hmo d (Below.refl _ _)) (if_pos rfl)
        case o6 =>
          intro At yy W hy hb d hd K hK
          have e5 : yy 5 = .slice b (natI u).length c := by obtain ⟨_, _, _, _, e⟩ := hd ⟨5, .data⟩ (by simp) rfl rfl; exact e
          have s151 := (hy 5 _ 151 rfl rfl).trans e5
          have s151' := s151
          rw [Array.getD_eq_getD_getElem?] at s151'
          clear hd hy hb
          go_simp
          go_wp2_with (go_at_call 13; refine (ints_any _ b (natI u) c (hide (HE.out.2.2.2.2.2.on d)) HLU.out).mono ?_; rintro e wa ⟨gW3, kW3, rfl, HM3, da⟩)
          exact hK.out _ wa (stp_of hmo d da) ⟨gW3, kW3, if_pos rfl, HM3.out.rd⟩
        case o7 =>
          intro At yy W hy hb d hd K hK
          have f4 := hd ⟨4, .data⟩ (by simp) rfl rfl
          have f6 := hd ⟨6, .data⟩ (by simp) rfl rfl
          obtain ⟨lo4, hi4, hl4, hh4, gF3, kF3, gN3, kN3, e4, ra, rb⟩ := f4
          obtain ⟨lo6, hi6, hl6, hh6, gW3, kW3, e6, rw3⟩ := f6
          have s150 := (hy 4 _ 150 rfl rfl).trans e4
          have s150' := s150
          rw [Array.getD_eq_getD_getElem?] at s150'
          have s152 := (hy 6 _ 152 rfl rfl).trans e6
          have s152' := s152
          rw [Array.getD_eq_getD_getElem?] at s152'
          clear hd hy hb
          go_simp
          go_wp2_with (go_at_call 16; refine (TK3.out _ gF3 kF3 gN3 kN3 gW3 kW3 ra rb rw3).mono ?_; rintro e wa ⟨rfl, da⟩)
          exact hK.out _ wa (stp_of hmo d da) (if_pos rfl)
        case o8 =>
          intro At yy W hy hb d hd K hK
          have s1 : At.tmps.getD 1 undef = .pointer (some ⟨w.heap.size, 0, none⟩) := hb 1 rfl
          have s1' := s1
          rw [Array.getD_eq_getD_getElem?] at s1'
          clear hd hy hb
          go_simp
          exact hK.out _ W (stp_of hmo d (Below.refl _ _)) (if_pos rfl)
        case o9 =>
          intro At yy W hy hb d hd K hK
          have e8 : yy 8 = .pointer (some ⟨w.heap.size, 0, none⟩) := by obtain ⟨_, _, _, _, e⟩ := hd ⟨8, .data⟩ (by simp) rfl rfl; exact e
          have s154 := (hy 8 _ 154 rfl rfl).trans e8
          have s154' := s154
          rw [Array.getD_eq_getD_getElem?] at s154'
          clear hd hy hb
          have yb0 : W.cell? ⟨w.heap.size, 0, none⟩ = some (.int .i64 (N : Int)) := cell_of (blk_on HE.out.1 d) rfl
          have yb1 : W.cell? ⟨w.heap.size, 1, none⟩ = some (.int .i64 (M : Int)) := cell_of (blk_on HE.out.1 d) rfl
          have yb2 : W.cell? ⟨w.heap.size, 2, none⟩ = some (.int .i64 (st : Int)) := cell_of (blk_on HE.out.1 d) rfl
          have yb3 : W.cell? ⟨w.heap.size, 3, none⟩ = some (.slice aF Fi.length cF) := cell_of (blk_on HE.out.1 d) rfl
          have yb4 : W.cell? ⟨w.heap.size, 4, none⟩ = some (.slice aN Nx.length cN) := cell_of (blk_on HE.out.1 d) rfl
          go_simp
          exact hK.out _ W (stp_of hmo d (Below.refl _ _)) (if_pos rfl)
        case o10 =>
          intro At yy W hy hb d hd K hK
          have s1 : At.tmps.getD 1 undef = .pointer (some ⟨w.heap.size, 0, none⟩) := hb 1 rfl
          have s1' := s1
          rw [Array.getD_eq_getD_getElem?] at s1'
          clear hd hy hb
          go_simp
          exact hK.out _ W (stp_of hmo d (Below.refl _ _)) (if_pos rfl)
        case o11 =>
          intro At yy W hy hb d hd K hK
          have e10 : yy 10 = .pointer (some ⟨w.heap.size, 11, none⟩) := by obtain ⟨_, _, _, _, e⟩ := hd ⟨10, .data⟩ (by simp) rfl rfl; exact e
          have s156 := (hy 10 _ 156 rfl rfl).trans e10
          have s156' := s156
          rw [Array.getD_eq_getD_getElem?] at s156'
          clear hd hy hb
          have yb11 : W.cell? ⟨w.heap.size, 11, none⟩ = some (.int .i64 (q : Int)) := cell_of (blk_on HE.out.1 d) rfl
          go_simp
          exact hK.out _ W (stp_of hmo d (Below.refl _ _)) (if_pos rfl)
        case o12 =>
          intro At yy W hy hb d hd K hK
          have e9 : yy 9 = .agg #[.int .i64 (N : Int), .int .i64 (M : Int), .int .i64 (st : Int), .slice aF Fi.length cF, .slice aN Nx.length cN] := by obtain ⟨_, _, _, _, e⟩ := hd ⟨9, .data⟩ (by simp) rfl rfl; exact e
          have e11 : yy 11 = .int .i64 (q : Int) := by obtain ⟨_, _, _, _, e⟩ := hd ⟨11, .data⟩ (by simp) rfl rfl; exact e
          have s155 := (hy 9 _ 155 rfl rfl).trans e9
          have s155' := s155
          rw [Array.getD_eq_getD_getElem?] at s155'
          have s157 := (hy 11 _ 157 rfl rfl).trans e11
          have s157' := s157
          rw [Array.getD_eq_getD_getElem?] at s157'
          clear hd hy hb
          go_simp
          go_wp2_with (go_at_call 17; refine (from_any _ N M st q aF aN cF cN Fi Nx (HE.out.2.1.on d) (HE.out.2.2.1.on d) bF bN).mono ?_; rintro e wa ⟨gF3, kF3, gN3, kN3, rfl, HT3, da⟩)
          exact hK.out _ wa (stp_of hmo d da) ⟨gF3, kF3, gN3, kN3, if_pos rfl, HT3.out.f.rd, HT3.out.n.rd⟩
        case o13 =>
          intro At yy W hy hb d hd K hK
          have s5 : At.tmps.getD 5 undef = .slice b (natI u).length c := hb 5 rfl
          have s5' := s5
          rw [Array.getD_eq_getD_getElem?] at s5'
          clear hd hy hb
          go_simp
          exact hK.out _ W (stp_of hmo d (Below.refl _ _)) (if_pos rfl)
        case o14 =>
          intro At yy W hy hb d hd K hK
          have e13 : yy 13 = .slice b (natI u).length c := by obtain ⟨_, _, _, _, e⟩ := hd ⟨13, .data⟩ (by simp) rfl rfl; exact e
          have s159 := (hy 13 _ 159 rfl rfl).trans e13
          have s159' := s159
          rw [Array.getD_eq_getD_getElem?] at s159'
          clear hd hy hb
          go_simp
          go_wp2_with (go_at_call 13; refine (ints_any _ b (natI u) c (hide (HE.out.2.2.2.2.2.on d)) HLU.out).mono ?_; rintro e wa ⟨gW3, kW3, rfl, HM3, da⟩)
          exact hK.out _ wa (stp_of hmo d da) ⟨gW3, kW3, if_pos rfl, HM3.out.rd⟩
        case o15 =>
          intro At yy W hy hb d hd K hK
          have f12 := hd ⟨12, .data⟩ (by simp) rfl rfl
          have f14 := hd ⟨14, .data⟩ (by simp) rfl rfl
          obtain ⟨lo12, hi12, hl12, hh12, gF3, kF3, gN3, kN3, e12, ra, rb⟩ := f12
          obtain ⟨lo14, hi14, hl14, hh14, gW3, kW3, e14, rw3⟩ := f14
          have s158 := (hy 12 _ 158 rfl rfl).trans e12
          have s158' := s158
          rw [Array.getD_eq_getD_getElem?] at s158'
          have s160 := (hy 14 _ 160 rfl rfl).trans e14
          have s160' := s160
          rw [Array.getD_eq_getD_getElem?] at s160'
          clear hd hy hb
          go_simp
          go_wp2_with (go_at_call 16; refine (TK4.out _ gF3 kF3 gN3 kN3 gW3 kW3 ra rb rw3).mono ?_; rintro e wa ⟨rfl, da⟩)
          exact hK.out _ wa (stp_of hmo d da) (if_pos rfl)
        case o16 =>
          intro At yy W hy hb d hd K hK
          have e7 : yy 7 = .bool b1 := by obtain ⟨_, _, _, _, e⟩ := hd ⟨7, .data⟩ (by simp) rfl rfl; exact e
          have e15 : yy 15 = .bool b2 := by obtain ⟨_, _, _, _, e⟩ := hd ⟨15, .data⟩ (by simp) rfl rfl; exact e
          have hbb : (b1 == b2) = false := by simpa using HBB.out
          have s153 := (hy 7 _ 153 rfl rfl).trans e7
          have s153' := s153
          rw [Array.getD_eq_getD_getElem?] at s153'
          have s161 := (hy 15 _ 161 rfl rfl).trans e15
          have s161' := s161
          rw [Array.getD_eq_getD_getElem?] at s161'
          clear hd hy hb
          go_simp
          exact hK.out _ W (stp_of hmo d (Below.refl _ _)) (if_pos rfl)
        case o17 =>
          intro At yy W hy hb d hd K hK
          have e16 : yy 16 = .bool false := by obtain ⟨_, _, _, _, e⟩ := hd ⟨16, .data⟩ (by simp) rfl rfl; exact e
          have s162 := (hy 16 _ 162 rfl rfl).trans e16
          have s162' := s162
          rw [Array.getD_eq_getD_getElem?] at s162'
          clear hd hy hb
          go_simp
          exact hK.out _ W (stp_of hmo d (Below.refl _ _)) (if_pos rfl)
        case o18 =>
          intro At yy W hy hb d hd K hK
          have e17 : yy 17 = .bool false := by obtain ⟨_, _, _, _, e⟩ := hd ⟨17, .guard⟩ (by simp) rfl rfl; exact e
          have s5 : At.tmps.getD 5 undef = .slice b (natI u).length c := hb 5 rfl
          have s5' := s5
          rw [Array.getD_eq_getD_getElem?] at s5'
          have s163 := (hy 17 _ 163 rfl rfl).trans e17
          have s163' := s163
          rw [Array.getD_eq_getD_getElem?] at s163'
          have g163 := got_bool s163
          clear hd hy hb
          go_simp
          exact hK.out _ W (stp_of hmo d (Below.refl _ _)) (if_pos rfl)
        case o19 =>
          intro At yy W hy hb d hd K hK
          have e18 : yy 18 = .slice b (natI u).length c := by obtain ⟨_, _, _, _, e⟩ := hd ⟨18, .data⟩ (by simp) rfl rfl; exact e
          have e17 : yy 17 = .bool false := by obtain ⟨_, _, _, _, e⟩ := hd ⟨17, .guard⟩ (by simp) rfl rfl; exact e
          have s163 := (hy 17 _ 163 rfl rfl).trans e17
          have s163' := s163
          rw [Array.getD_eq_getD_getElem?] at s163'
          have s164 := (hy 18 _ 164 rfl rfl).trans e18
          have s164' := s164
          rw [Array.getD_eq_getD_getElem?] at s164'
          have g163 := got_bool s163
          clear hd hy hb
          go_simp
          exact hK.out _ W (stp_of hmo d (Below.refl _ _)) (if_pos rfl)
        case o20 =>
          intro At yy W hy hb d hd K hK
          have e17 : yy 17 = .bool false := by obtain ⟨_, _, _, _, e⟩ := hd ⟨17, .guard⟩ (by simp) rfl rfl; exact e
          have s1 : At.tmps.getD 1 undef = .pointer (some ⟨w.heap.size, 0, none⟩) := hb 1 rfl
          have s1' := s1
          rw [Array.getD_eq_getD_getElem?] at s1'
          have s163 := (hy 17 _ 163 rfl rfl).trans e17
          have s163' := s163
          rw [Array.getD_eq_getD_getElem?] at s163'
          have g163 := got_bool s163
          clear hd hy hb
          go_simp
          exact hK.out _ W (stp_of hmo d (Below.refl _ _)) (if_pos rfl)
        case o21 =>
          intro At yy W hy hb d hd K hK
          have e20 : yy 20 = .pointer (some ⟨w.heap.size, 0, none⟩) := by obtain ⟨_, _, _, _, e⟩ := hd ⟨20, .data⟩ (by simp) rfl rfl; exact e
          have e17 : yy 17 = .bool false := by obtain ⟨_, _, _, _, e⟩ := hd ⟨17, .guard⟩ (by simp) rfl rfl; exact e
          have s163 := (hy 17 _ 163 rfl rfl).trans e17
          have s163' := s163
          rw [Array.getD_eq_getD_getElem?] at s163'
          have s166 := (hy 20 _ 166 rfl rfl).trans e20
          have s166' := s166
          rw [Array.getD_eq_getD_getElem?] at s166'
          have g163 := got_bool s163
          clear hd hy hb
          go_simp
          exact hK.out _ W (stp_of hmo d (Below.refl _ _)) (if_pos rfl)
        case o22 =>
          intro At yy W hy hb d hd K hK
          have e21 : yy 21 = .pointer (some ⟨w.heap.size, 0, none⟩) := by obtain ⟨_, _, _, _, e⟩ := hd ⟨21, .data⟩ (by simp) rfl rfl; exact e
          have e17 : yy 17 = .bool false := by obtain ⟨_, _, _, _, e⟩ := hd ⟨17, .guard⟩ (by simp) rfl rfl; exact e
          have s163 := (hy 17 _ 163 rfl rfl).trans e17
          have s163' := s163
          rw [Array.getD_eq_getD_getElem?] at s163'
          have s167 := (hy 21 _ 167 rfl rfl).trans e21
          have s167' := s167
          rw [Array.getD_eq_getD_getElem?] at s167'
          have g163 := got_bool s163
          clear hd hy hb
          have yb0 : W.cell? ⟨w.heap.size, 0, none⟩ = some (.int .i64 (N : Int)) := cell_of (blk_on HE.out.1 d) rfl
          go_simp
          exact hK.out _ W (stp_of hmo d (Below.refl _ _)) (if_pos rfl)
        case o23 =>
          intro At yy W hy hb d hd K hK
          have e22 : yy 22 = .int .i64 (N : Int) := by obtain ⟨_, _, _, _, e⟩ := hd ⟨22, .data⟩ (by simp) rfl rfl; exact e
          have e17 : yy 17 = .bool false := by obtain ⟨_, _, _, _, e⟩ := hd ⟨17, .guard⟩ (by simp) rfl rfl; exact e
          have h23 := HW2.out.1
          have s163 := (hy 17 _ 163 rfl rfl).trans e17
          have s163' := s163
          rw [Array.getD_eq_getD_getElem?] at s163'
          have s168 := (hy 22 _ 168 rfl rfl).trans e22
          have s168' := s168
          rw [Array.getD_eq_getD_getElem?] at s168'
          have g163 := got_bool s163
          clear hd hy hb
          go_simp
          exact hK.out _ W (stp_of hmo d (Below.refl _ _)) (if_pos rfl)
        case o24 =>
          intro At yy W hy hb d hd K hK
          have e19 : yy 19 = .int .i64 ((natI u).length : Int) := by obtain ⟨_, _, _, _, e⟩ := hd ⟨19, .data⟩ (by simp) rfl rfl; exact e
          have e23 : yy 23 = .int .i64 (n2 : Int) := by obtain ⟨_, _, _, _, e⟩ := hd ⟨23, .data⟩ (by simp) rfl rfl; exact e
          have e17 : yy 17 = .bool false := by obtain ⟨_, _, _, _, e⟩ := hd ⟨17, .guard⟩ (by simp) rfl rfl; exact e
          have h24 := HW2.out.2
          have h25 : ¬ (n2 : Int) < ((natI u).length : Int) := by omega
          have s163 := (hy 17 _ 163 rfl rfl).trans e17
          have s163' := s163
          rw [Array.getD_eq_getD_getElem?] at s163'
          have s165 := (hy 19 _ 165 rfl rfl).trans e19
          have s165' := s165
          rw [Array.getD_eq_getD_getElem?] at s165'
          have s169 := (hy 23 _ 169 rfl rfl).trans e23
          have s169' := s169
          rw [Array.getD_eq_getD_getElem?] at s169'
          have g163 := got_bool s163
          clear hd hy hb
          go_simp
          exact hK.out _ W (stp_of hmo d (Below.refl _ _)) (if_pos rfl)
        case o25 =>
          intro At yy W hy hb d hd K hK
          have e17 : yy 17 = .bool false := by obtain ⟨_, _, _, _, e⟩ := hd ⟨17, .data⟩ (by simp) rfl rfl; exact e
          have e24 : yy 24 = .bool false := by obtain ⟨_, _, _, _, e⟩ := hd ⟨24, .data⟩ (by simp) rfl rfl; exact e
          have s163 := (hy 17 _ 163 rfl rfl).trans e17
          have s163' := s163
          rw [Array.getD_eq_getD_getElem?] at s163'
          have s170 := (hy 24 _ 170 rfl rfl).trans e24
          have s170' := s170
          rw [Array.getD_eq_getD_getElem?] at s170'
          clear hd hy hb
          go_simp
          exact hK.out _ W (stp_of hmo d (Below.refl _ _)) (if_pos rfl)
        case fin =>
          intro yy lo hi W hM
          show wpList _ _ _ [] _ _
          have e0 : yy 0 = .pointer (some ⟨w.heap.size, 0, none⟩) := hM.fact 0 (by simp) rfl (notR_all 0 rfl)
          have e1 : yy 1 = .agg #[.int .i64 (N : Int), .int .i64 (M : Int), .int .i64 (st : Int), .slice aF Fi.length cF, .slice aN Nx.length cN] := hM.fact 1 (by simp) rfl (notR_all 1 rfl)
          have e2 : yy 2 = .pointer (some ⟨w.heap.size, 10, none⟩) := hM.fact 2 (by simp) rfl (notR_all 2 rfl)
          have e3 : yy 3 = .int .i64 (p : Int) := hM.fact 3 (by simp) rfl (notR_all 3 rfl)
          have e5 : yy 5 = .slice b (natI u).length c := hM.fact 5 (by simp) rfl (notR_all 5 rfl)
          have e7 : yy 7 = .bool b1 := hM.fact 7 (by simp) rfl (notR_all 7 rfl)
          have e8 : yy 8 = .pointer (some ⟨w.heap.size, 0, none⟩) := hM.fact 8 (by simp) rfl (notR_all 8 rfl)
          have e9 : yy 9 = .agg #[.int .i64 (N : Int), .int .i64 (M : Int), .int .i64 (st : Int), .slice aF Fi.length cF, .slice aN Nx.length cN] := hM.fact 9 (by simp) rfl (notR_all 9 rfl)
          have e10 : yy 10 = .pointer (some ⟨w.heap.size, 11, none⟩) := hM.fact 10 (by simp) rfl (notR_all 10 rfl)
          have e11 : yy 11 = .int .i64 (q : Int) := hM.fact 11 (by simp) rfl (notR_all 11 rfl)
          have e13 : yy 13 = .slice b (natI u).length c := hM.fact 13 (by simp) rfl (notR_all 13 rfl)
          have e15 : yy 15 = .bool b2 := hM.fact 15 (by simp) rfl (notR_all 15 rfl)
          have e16 : yy 16 = .bool false := hM.fact 16 (by simp) rfl (notR_all 16 rfl)
          have e17 : yy 17 = .bool false := hM.fact 17 (by simp) rfl (notR_all 17 rfl)
          have e18 : yy 18 = .slice b (natI u).length c := hM.fact 18 (by simp) rfl (notR_all 18 rfl)
          have e19 : yy 19 = .int .i64 ((natI u).length : Int) := hM.fact 19 (by simp) rfl (notR_all 19 rfl)
          have e20 : yy 20 = .pointer (some ⟨w.heap.size, 0, none⟩) := hM.fact 20 (by simp) rfl (notR_all 20 rfl)
          have e21 : yy 21 = .pointer (some ⟨w.heap.size, 0, none⟩) := hM.fact 21 (by simp) rfl (notR_all 21 rfl)
          have e22 : yy 22 = .int .i64 (N : Int) := hM.fact 22 (by simp) rfl (notR_all 22 rfl)
          have e23 : yy 23 = .int .i64 (n2 : Int) := hM.fact 23 (by simp) rfl (notR_all 23 rfl)
          have e24 : yy 24 = .bool false := hM.fact 24 (by simp) rfl (notR_all 24 rfl)
          have e25 : yy 25 = .bool false := hM.fact 25 (by simp) rfl (notR_all 25 rfl)
          have dd := hM.d
          simp only [fills, Act.put, List.take, List.length, List.setIfInBounds_toArray, List.set_cons_zero, List.set_cons_succ, e0, e1, e2, e3, e5, e7, e8, e9, e10, e11, e13, e15, e16, e17, e18, e19, e20, e21, e22, e23, e24, e25]
          obtain ⟨gF4, kF4, gN4, kN4, e4, _, _⟩ := hM.fact 4 (by simp) rfl (notR_all 4 rfl)
          obtain ⟨gF12, kF12, gN12, kN12, e12, _, _⟩ := hM.fact 12 (by simp) rfl (notR_all 12 rfl)
          obtain ⟨gW6, kW6, e6, _⟩ := hM.fact 6 (by simp) rfl (notR_all 6 rfl)
          obtain ⟨gW14, kW14, e14, _⟩ := hM.fact 14 (by simp) rfl (notR_all 14 rfl)
          rw [e4, e12, e6, e14]
          clear hM hmo e0 e1 e2 e3 e5 e7 e8 e9 e10 e11 e13 e15 e16 e17 e18 e19 e20 e21 e22 e23 e24 e25 e4 e12 e6 e14
          have HE := hide (And.intro (blk_on HE.out.1 dd) (And.intro (HE.out.2.1.on dd) (And.intro (HE.out.2.2.1.on dd) (And.intro (HE.out.2.2.2.1.on dd) (And.intro (HE.out.2.2.2.2.1.trans (dd.mono HE.out.2.2.2.2.1.size)) (HE.out.2.2.2.2.2.on dd))))))
          clear dd
          go_upto_region 17 with fail
          by_cases ho : o1 = o2
          · subst ho
            have hoo : (o1 == o1) = true := by simp
            go_wp2_with fail
            go_ret
            exact ⟨rfl, HE.out.2.2.2.2.1⟩
          · have TA : Hid (∀ W', Below W.heap.size W W' → Calls Try.prog 11 #[.slice b (natI u).length c, .slice aW Wd.length cW] W' fun e w' => e = .returned (.bool true) ∧ Below W'.heap.size W' w') := hide (fun W' d => by
              have z := ahead_any W' b aW (natI u).length c Wd.length cW (natI u) Wd (HE.out.2.2.2.2.2.on d) (HE.out.2.2.2.1.on d) rfl rfl HLU.out bW
              rwa [HO.out ho] at z)
            have hoo : (o1 == o2) = false := by simpa using ho
            have y12 : W.cell? ⟨w.heap.size, 12, none⟩ = some (.slice aW Wd.length cW) := cell_of HE.out.1 rfl
            go_wp2_with (go_at_call 11; refine (TA.out _ (Below.refl _ _)).mono ?_; rintro e wz ⟨rfl, dz⟩; have HDZ := hide dz; clear dz y12)
            go_ret
            exact ⟨rfl, HE.out.2.2.2.2.1.trans (HDZ.out.mono HE.out.2.2.2.2.1.size)⟩
/-! ### Two automata, field by field -/
set_option maxRecDepth 100000 in
set_option maxHeartbeats 1000000 in
theorem rsameInts_any (w : World) (aa ab : Option Addr) (la ca lb cb : Nat) (A B : List Int) (hA : RdN w aa A) (hB : RdN w ab B) (hla : A.length = la) (hlb : B.length = lb) (ba : la ≤ 4194304) (bb : lb ≤ 4194304) :
    Calls Try.prog 45 #[.slice aa la ca, .slice ab lb cb] w fun e w' => e = .returned (.bool (decide (A = B))) ∧ Below w.heap.size w w' := by
  have H := hide (And.intro hA (And.intro hB (And.intro hla hlb)))
  obtain ⟨q, hq⟩ : ∃ q, decide (A = B) = q := ⟨_, rfl⟩
  rw [hq]
  have HQ := hide hq
  clear hA hB hla hlb hq
  by_cases hl : la = lb
  · subst hl
    go_enter Try.func45, Try.ntmps45
    go_wp2
    go_loopw [5] (fun iv wr => ∃ i : Nat, i ≤ la ∧ iv = .int .i64 i ∧ Hid (A.take i = B.take i ∧ Below w.heap.size w wr)) (fun iv _ => la - (intOf iv).toNat)
    case atStart => exact ⟨0, Nat.zero_le _, rfl, hide ⟨by simp, Below.refl _ _⟩⟩
    case round =>
      obtain ⟨i, hi, rfl, HY⟩ := hrel
      by_cases hlt : i < la
      · have l0 : (i : Int) < (la : Int) := by omega
        have l1 : (0 : Int) ≤ (i : Int) := by omega
        have hiA : i < A.length := by have := H.out.2.2.1; omega
        have hiB : i < B.length := by have := H.out.2.2.2; omega
        obtain ⟨g, o, rfl, c⟩ := (H.out.1.on HY.out.2) i hiA
        obtain ⟨g2, o2, rfl, c2⟩ := (H.out.2.1.on HY.out.2) i hiB
        by_cases hx : A[i] = B[i]
        · rw [← hx] at c2
          have HX := hide (show A.take (i + 1) = B.take (i + 1) by
            rw [List.take_add_one, List.take_add_one, HY.out.1, List.getElem?_eq_getElem hiA, List.getElem?_eq_getElem hiB, hx])
          clear hx
          generalize A[i] = x at *
          go_upto_region 6 with fail
          go_quiet (fail)
          go_wp2
          go_roundw
          case rel => exact ⟨i + 1, by omega, by go_num, hide ⟨HX.out, below_drewN2 HY.out.2 _⟩⟩
          case measure => simp [intOf]; omega
        · have HX := hide (show ¬ A = B from fun e => hx (by subst e; rfl))
          have hxx : (A[i] != B[i]) = true := by simp [hx]
          obtain rfl : false = q := by rw [← HQ.out]; symm; simpa using HX.out
          generalize A[i] = x at *
          generalize B[i] = y at *
          go_upto_region 6 with fail
          go_quiet (fail)
          go_wp2
          go_ret
          exact ⟨rfl, below_drewN2 HY.out.2 _⟩
      · have l0 : ¬ (i : Int) < (la : Int) := by omega
        obtain rfl : i = la := by omega
        obtain rfl : true = q := by
          have e := HY.out.1
          rw [List.take_of_length_le (by have := H.out.2.2.1; omega), List.take_of_length_le (by have := H.out.2.2.2; omega)] at e
          rw [← HQ.out]
          symm
          simpa using e
        go_wp2
        go_ret
        exact ⟨rfl, HY.out.2⟩
  · obtain rfl : false = q := by
      rw [← HQ.out]
      symm
      simp only [decide_eq_false_iff_not]
      rintro rfl
      exact hl (H.out.2.2.1.symm.trans H.out.2.2.2)
    have hl2 : ¬ ((la : Int) = (lb : Int)) := by omega
    go_enter Try.func45, Try.ntmps45
    go_wp2
    go_ret
    exact ⟨rfl, Below.refl _ _⟩
set_option maxRecDepth 100000 in
set_option maxHeartbeats 2000000 in
/-- Are two automata one, field by field? -/
theorem same_any (w : World) (N1 M1 st1 N2 M2 st2 : Int) (aF1 aN1 aF2 aN2 : Option Addr) (lF1 cF1 lN1 cN1 lF2 cF2 lN2 cN2 : Nat) (F1 X1 F2 X2 : List Int) (hF1 : RdN w aF1 F1) (hX1 : RdN w aN1 X1) (hF2 : RdN w aF2 F2) (hX2 : RdN w aN2 X2) (e1 : F1.length = lF1) (e2 : X1.length = lN1) (e3 : F2.length = lF2) (e4 : X2.length = lN2) (b1 : lF1 ≤ 4194304) (b2 : lN1 ≤ 4194304) (b3 : lF2 ≤ 4194304) (b4 : lN2 ≤ 4194304) :
    Calls Try.prog 19 #[.agg #[.int .i64 N1, .int .i64 M1, .int .i64 st1, .slice aF1 lF1 cF1, .slice aN1 lN1 cN1], .agg #[.int .i64 N2, .int .i64 M2, .int .i64 st2, .slice aF2 lF2 cF2, .slice aN2 lN2 cN2]] w fun e w' => e = .returned (.bool (decide (N1 = N2 ∧ M1 = M2 ∧ st1 = st2 ∧ F1 = F2 ∧ X1 = X2))) ∧ Below w.heap.size w w' := by
  obtain ⟨W0, hW0⟩ : ∃ W0, (w.alloc (.cells #[.int .i64 N1, .int .i64 M1, .int .i64 st1, .slice aF1 lF1 cF1, .slice aN1 lN1 cN1] 24)).alloc (.cells #[.int .i64 N2, .int .i64 M2, .int .i64 st2, .slice aF2 lF2 cF2, .slice aN2 lN2 cN2] 24) = W0 := ⟨_, rfl⟩
  have H2 := hide (two_al w #[.int .i64 N1, .int .i64 M1, .int .i64 st1, .slice aF1 lF1 cF1, .slice aN1 lN1 cN1] #[.int .i64 N2, .int .i64 M2, .int .i64 st2, .slice aF2 lF2 cF2, .slice aN2 lN2 cN2] 24 24)
  rw [hW0] at H2
  have x0 : W0.cell? ⟨w.heap.size, 0, none⟩ = some (.int .i64 N1) := cell_of H2.out.2.1 rfl
  have x1 : W0.cell? ⟨w.heap.size, 1, none⟩ = some (.int .i64 M1) := cell_of H2.out.2.1 rfl
  have x2 : W0.cell? ⟨w.heap.size, 2, none⟩ = some (.int .i64 st1) := cell_of H2.out.2.1 rfl
  have x3 : W0.cell? ⟨w.heap.size, 3, none⟩ = some (.slice aF1 lF1 cF1) := cell_of H2.out.2.1 rfl
  have x4 : W0.cell? ⟨w.heap.size, 4, none⟩ = some (.slice aN1 lN1 cN1) := cell_of H2.out.2.1 rfl
  have y0 : W0.cell? ⟨w.heap.size + 1, 0, none⟩ = some (.int .i64 N2) := cell_of H2.out.2.2.1 rfl
  have y1 : W0.cell? ⟨w.heap.size + 1, 1, none⟩ = some (.int .i64 M2) := cell_of H2.out.2.2.1 rfl
  have y2 : W0.cell? ⟨w.heap.size + 1, 2, none⟩ = some (.int .i64 st2) := cell_of H2.out.2.2.1 rfl
  have y3 : W0.cell? ⟨w.heap.size + 1, 3, none⟩ = some (.slice aF2 lF2 cF2) := cell_of H2.out.2.2.1 rfl
  have y4 : W0.cell? ⟨w.heap.size + 1, 4, none⟩ = some (.slice aN2 lN2 cN2) := cell_of H2.out.2.2.1 rfl
  have TF : Hid (∀ W, Below W0.heap.size W0 W → Calls Try.prog 45 #[.slice aF1 lF1 cF1, .slice aF2 lF2 cF2] W fun e w' => e = .returned (.bool (decide (F1 = F2))) ∧ Below W.heap.size W w') := hide (fun W d => rsameInts_any W aF1 aF2 lF1 cF1 lF2 cF2 F1 F2 ((hF1.on H2.out.1).on d) ((hF2.on H2.out.1).on d) e1 e3 b1 b3)
  have TX : Hid (∀ W, Below W0.heap.size W0 W → Calls Try.prog 45 #[.slice aN1 lN1 cN1, .slice aN2 lN2 cN2] W fun e w' => e = .returned (.bool (decide (X1 = X2))) ∧ Below W.heap.size W w') := hide (fun W d => rsameInts_any W aN1 aN2 lN1 cN1 lN2 cN2 X1 X2 ((hX1.on H2.out.1).on d) ((hX2.on H2.out.1).on d) e2 e4 b2 b4)
  clear hF1 hX1 hF2 hX2 e1 e2 e3 e4 b1 b2 b3 b4
  by_cases n1 : N1 = N2
  · by_cases n2 : M1 = M2
    · by_cases n3 : st1 = st2
      · subst n1 n2 n3
        by_cases n4 : F1 = F2
        · rw [decide_eq_true n4] at TF
          by_cases n5 : X1 = X2
          · rw [decide_eq_true n5] at TX
            rw [decide_eq_true ⟨rfl, rfl, rfl, n4, n5⟩]
            clear n4 n5
            go_enter Try.func19, Try.ntmps19
            go_wp2_with fail
            go_at_call 45
            refine (TF.out W0 (Below.refl _ _)).mono ?_
            rintro e w2 ⟨rfl, d2⟩
            have Z1 := blk_on H2.out.2.1 d2
            have Z2 := blk_on H2.out.2.2.1 d2
            have HD := hide d2
            clear x0 y0 x1 y1 x2 y2 x3 y3 x4 y4 d2
            have x0 : w2.cell? ⟨w.heap.size, 0, none⟩ = some (.int .i64 N1) := cell_of Z1 rfl
            have x1 : w2.cell? ⟨w.heap.size, 1, none⟩ = some (.int .i64 M1) := cell_of Z1 rfl
            have x2 : w2.cell? ⟨w.heap.size, 2, none⟩ = some (.int .i64 st1) := cell_of Z1 rfl
            have x3 : w2.cell? ⟨w.heap.size, 3, none⟩ = some (.slice aF1 lF1 cF1) := cell_of Z1 rfl
            have x4 : w2.cell? ⟨w.heap.size, 4, none⟩ = some (.slice aN1 lN1 cN1) := cell_of Z1 rfl
            have y0 : w2.cell? ⟨w.heap.size + 1, 0, none⟩ = some (.int .i64 N1) := cell_of Z2 rfl
            have y1 : w2.cell? ⟨w.heap.size + 1, 1, none⟩ = some (.int .i64 M1) := cell_of Z2 rfl
            have y2 : w2.cell? ⟨w.heap.size + 1, 2, none⟩ = some (.int .i64 st1) := cell_of Z2 rfl
            have y3 : w2.cell? ⟨w.heap.size + 1, 3, none⟩ = some (.slice aF2 lF2 cF2) := cell_of Z2 rfl
            have y4 : w2.cell? ⟨w.heap.size + 1, 4, none⟩ = some (.slice aN2 lN2 cN2) := cell_of Z2 rfl
            clear Z1 Z2
            go_wp2_with fail
            go_at_call 45
            refine (TX.out w2 HD.out).mono ?_
            rintro e w3 ⟨rfl, d3⟩
            have HD3 := hide (HD.out.trans (d3.mono HD.out.size))
            clear d3 x0 y0 x1 y1 x2 y2 x3 y3 x4 y4
            go_wp2_with fail
            go_ret
            exact ⟨rfl, H2.out.1.trans (HD3.out.mono H2.out.1.size)⟩
          · rw [decide_eq_false n5] at TX
            rw [decide_eq_false (fun h => n5 h.2.2.2.2)]
            clear n4 n5
            go_enter Try.func19, Try.ntmps19
            go_wp2_with fail
            go_at_call 45
            refine (TF.out W0 (Below.refl _ _)).mono ?_
            rintro e w2 ⟨rfl, d2⟩
            have Z1 := blk_on H2.out.2.1 d2
            have Z2 := blk_on H2.out.2.2.1 d2
            have HD := hide d2
            clear x0 y0 x1 y1 x2 y2 x3 y3 x4 y4 d2
            have x0 : w2.cell? ⟨w.heap.size, 0, none⟩ = some (.int .i64 N1) := cell_of Z1 rfl
            have x1 : w2.cell? ⟨w.heap.size, 1, none⟩ = some (.int .i64 M1) := cell_of Z1 rfl
            have x2 : w2.cell? ⟨w.heap.size, 2, none⟩ = some (.int .i64 st1) := cell_of Z1 rfl
            have x3 : w2.cell? ⟨w.heap.size, 3, none⟩ = some (.slice aF1 lF1 cF1) := cell_of Z1 rfl
            have x4 : w2.cell? ⟨w.heap.size, 4, none⟩ = some (.slice aN1 lN1 cN1) := cell_of Z1 rfl
            have y0 : w2.cell? ⟨w.heap.size + 1, 0, none⟩ = some (.int .i64 N1) := cell_of Z2 rfl
            have y1 : w2.cell? ⟨w.heap.size + 1, 1, none⟩ = some (.int .i64 M1) := cell_of Z2 rfl
            have y2 : w2.cell? ⟨w.heap.size + 1, 2, none⟩ = some (.int .i64 st1) := cell_of Z2 rfl
            have y3 : w2.cell? ⟨w.heap.size + 1, 3, none⟩ = some (.slice aF2 lF2 cF2) := cell_of Z2 rfl
            have y4 : w2.cell? ⟨w.heap.size + 1, 4, none⟩ = some (.slice aN2 lN2 cN2) := cell_of Z2 rfl
            clear Z1 Z2
            go_wp2_with fail
            go_at_call 45
            refine (TX.out w2 HD.out).mono ?_
            rintro e w3 ⟨rfl, d3⟩
            have HD3 := hide (HD.out.trans (d3.mono HD.out.size))
            clear d3 x0 y0 x1 y1 x2 y2 x3 y3 x4 y4
            go_wp2_with fail
            go_ret
            exact ⟨rfl, H2.out.1.trans (HD3.out.mono H2.out.1.size)⟩
        · rw [decide_eq_false n4] at TF
          rw [decide_eq_false (fun h => n4 h.2.2.2.1)]
          clear n4
          go_enter Try.func19, Try.ntmps19
          go_wp2_with fail
          go_at_call 45
          refine (TF.out W0 (Below.refl _ _)).mono ?_
          rintro e w2 ⟨rfl, d2⟩
          have HD := hide d2
          clear x0 y0 x1 y1 x2 y2 x3 y3 x4 y4 d2
          go_wp2_with fail
          go_ret
          exact ⟨rfl, H2.out.1.trans (HD.out.mono H2.out.1.size)⟩
      · rw [decide_eq_false (fun h => n3 h.2.2.1)]
        subst n1 n2
        go_enter Try.func19, Try.ntmps19
        go_wp2_with fail
        go_ret
        exact ⟨rfl, H2.out.1⟩
    · rw [decide_eq_false (fun h => n2 h.2.1)]
      subst n1
      go_enter Try.func19, Try.ntmps19
      go_wp2_with fail
      go_ret
      exact ⟨rfl, H2.out.1⟩
  · rw [decide_eq_false (fun h => n1 h.1)]
    go_enter Try.func19, Try.ntmps19
    go_wp2_with fail
    go_ret
    exact ⟨rfl, H2.out.1⟩
end Go.Proofs.Ytocoghljmlpdeaa
