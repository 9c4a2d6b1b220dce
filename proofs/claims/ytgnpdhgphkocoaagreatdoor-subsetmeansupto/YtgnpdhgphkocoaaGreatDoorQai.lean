import Derived.Test.YtgnpdhgphkocoaaGreatDoorQah
namespace Go.Proofs.YtgnpdhgphkocoaaGreatDoor
open Go.RowKit Go.Maps
attribute [local go_sem] Oper.semAt_some
/-! ### Turn -/
def rwP (B n : Nat) (K : List Int) : MkP := fun x _ _ W => ∃ b c, x = .slice b n c ∧ W.ownsRow B 3 1 (.slice b n c) n (K.map (Value.int .i64))
theorem rwP_mono {B n : Nat} {K : List Int} : MonoP (rwP B n K) := fun _ _ _ _ _ _ d ⟨b, c, e, h⟩ => ⟨b, c, e, own_below h d⟩
set_option maxRecDepth 100000 in
set_option maxHeartbeats 8000000 in
theorem turn_ok (w : World) (N M st : Nat) (aF aN : Option Addr) (lF cF lN cN : Nat) (Fi Nx : List Int) (hF : RdN w aF Fi) (hN : RdN w aN Nx) (hlF : Fi.length = lF) (hlN : Nx.length = lN) (bF : lF ≤ 4194304) (bN : lN ≤ 4194304) (hv : vd N M st Fi Nx = true) (hT : TabAt w) (h0 : 0 < w.heap.size) :
    Calls Tryz.prog 20 #[.agg #[.int .i64 (N : Int), .int .i64 (M : Int), .int .i64 (st : Int), .slice aF lF cF, .slice aN lN cN]] w fun e w' => ∃ vF vN, e = .returned (.tuple #[.agg #[.int .i64 (N : Int), .int .i64 (M : Int), .int .i64 (st : Int), vF, vN], .int .i64 0]) ∧ OwI w' w.heap.size vF (natI (elems N (notN N (setI N Fi)))) ∧ OwI w' w.heap.size vN Nx ∧ Below w.heap.size w w' := by
  obtain ⟨W0, hW0⟩ : ∃ W0, (w.alloc (.cells #[.int .i64 (N : Int), .int .i64 (M : Int), .int .i64 (st : Int), .slice aF lF cF, .slice aN lN cN] 27)).alloc (.cells #[.int .i64 0, .int .i64 0, .int .i64 0, .slice none 0 0, .slice none 0 0] 27) = W0 := ⟨_, rfl⟩
  have HD := hide (box2t w #[.int .i64 (N : Int), .int .i64 (M : Int), .int .i64 (st : Int), .slice aF lF cF, .slice aN lN cN] #[.int .i64 0, .int .i64 0, .int .i64 0, .slice none 0 0, .slice none 0 0] 27 27)
  rw [hW0] at HD
  obtain ⟨n0, m0, s0, en, -, -, n1, n2, m1, s1, e1, i1, i2⟩ := vd_nat hv
  have HL : Hid (N ≤ 4096 ∧ Fi.all (inB N) = true) := hide ⟨by omega, by
    rw [List.all_eq_true]
    exact fun x hx => inB_iff.2 (by have := i2 x hx; omega)⟩
  have B0 := HD.out.2.1
  have y0 : W0.cell? ⟨w.heap.size, 0, none⟩ = some (.int .i64 (N : Int)) := cell_of B0 rfl
  have y1 : W0.cell? ⟨w.heap.size, 1, none⟩ = some (.int .i64 (M : Int)) := cell_of B0 rfl
  have y2 : W0.cell? ⟨w.heap.size, 2, none⟩ = some (.int .i64 (st : Int)) := cell_of B0 rfl
  have y3 : W0.cell? ⟨w.heap.size, 3, none⟩ = some (.slice aF lF cF) := cell_of B0 rfl
  have y4 : W0.cell? ⟨w.heap.size, 4, none⟩ = some (.slice aN lN cN) := cell_of B0 rfl
  have T1 := dvalid_any W0 N M st aF aN lF cF lN cN Fi Nx (hF.on HD.out.1) (hN.on HD.out.1) hlF hlN bF bN
  rw [hv, if_pos rfl] at T1
  have HQ := hide (And.intro (hF.on HD.out.1) (And.intro (hN.on HD.out.1) (And.intro hT h0)))
  have HLN0 := hide (And.intro hlN bN)
  clear B0 en n1 n2 m1 s1 e1 i1 i2 hv hF hN hT h0 hlN bN
  go_enter Tryz.func20, Tryz.ntmps20
  go_upto_region 4 with (go_at_call 33; refine T1.mono ?_; rintro e w1 ⟨rfl, d1⟩; have H1 := hide d1; clear d1 T1 hW0)
  have B1 := blk_on HD.out.2.1 H1.out
  clear y0 y1 y2 y3 y4
  have y0 : w1.cell? ⟨w.heap.size, 0, none⟩ = some (.int .i64 (N : Int)) := cell_of B1 rfl
  have y3 : w1.cell? ⟨w.heap.size, 3, none⟩ = some (.slice aF lF cF) := cell_of B1 rfl
  have TS : Calls Tryz.prog 47 #[.int .i64 (N : Int), .slice aF lF cF] w1 fun e w' => ∃ b g cap, e = .returned (.pointer (some ⟨b, 0, none⟩)) ∧ SetN w1 w' b g cap N (setI N Fi) := by
    subst hlF
    exact setOf_any w1 N aF cF Fi (HQ.out.1.on H1.out) bF HL.out.1 HL.out.2
  clear B1
  go_upto_region 5 with (first
    | (go_at_call 47; refine TS.mono ?_; rintro e w2 ⟨b2, g2, c2, rfl, h2⟩; have H2 := hide h2; clear h2)
    | (go_at_call 63; refine (not_any b2 g2 c2 N (setI N Fi) w2 H2.out.1).mono ?_; rintro e w3 ⟨b3, g3, c3, rfl, h3, -, -, -, d3⟩; have H3 := hide (And.intro h3 d3); clear h3 d3)
    | (go_at_call 59; refine (list_any b3 g3 c3 N _ w3 H3.out.1 (HQ.out.2.2.1.below (B := w.heap.size) (((HD.out.1.trans (H1.out.mono (by have := HD.out.2.2.2; omega))).trans (H2.out.2.2.2.2.mono (by have := HD.out.2.2.2; have := H1.out.size; omega))).trans (H3.out.2.mono (by have := HD.out.2.2.2; have := H1.out.size; have := H2.out.2.2.2.2.size; omega))) HQ.out.2.2.2)).mono ?_; rintro e W4 ⟨gl, kl, rfl, ho4, d4⟩; have H4a := hide (And.intro ho4 d4); clear ho4 d4))
  have hz := HD.out.2.2.2
  have hz1 := H1.out.size
  have hz2 := H2.out.2.2.2.2.size
  have hz3 := H3.out.2.size
  have hz4 := H4a.out.2.size
  have dA : Below W0.heap.size W0 W4 := ((H1.out.trans (H2.out.2.2.2.2.mono (by omega))).trans (H3.out.2.mono (by omega))).trans (H4a.out.2.mono (by omega))
  have H4 : Hid (W4.heap[w.heap.size]? = some (.cells #[.int .i64 (N : Int), .int .i64 (M : Int), .int .i64 (st : Int), .slice aF lF cF, .slice aN lN cN] 27 (0, 0)) ∧ W4.heap[w.heap.size + 1]? = some (.cells #[.int .i64 0, .int .i64 0, .int .i64 0, .slice none 0 0, .slice none 0 0] 27 (0, 0)) ∧ w.heap.size + 2 ≤ w3.heap.size ∧ Below w.heap.size w W4) := hide ⟨blk_on HD.out.2.1 dA, blk_on HD.out.2.2.1 dA, by omega, HD.out.1.trans (dA.mono (by omega))⟩
  have HLN : Hid (Nx.length = lN ∧ RdN W4 aN Nx ∧ lN ≤ 4194304) := hide ⟨HLN0.out.1, HQ.out.2.1.on dA, HLN0.out.2⟩
  obtain ⟨L, hLL⟩ : ∃ L, elems N (notN N (setI N Fi)) = L := ⟨_, rfl⟩
  rw [hLL] at H4a
  have HLL := hide hLL
  rw [hLL]
  obtain ⟨nl, hnl⟩ : ∃ l, L.length = l := ⟨_, rfl⟩
  have HF : Hid (OwI W4 w3.heap.size (.slice (some ⟨gl, 0, none⟩) nl kl) (natI L)) := hide (by
    unfold OwI
    rw [natI_len, natI_intV, ← hnl]
    exact H4a.out.1)
  rw [hnl]
  have HS := hide hz4
  clear dA hz hz1 hz2 hz3 hz4 hLL hnl H4a y0 y3 TS HQ HD H1 H2 H3
  have hmo : MonIL 0 [vI 0 (.pointer (some ⟨w.heap.size, 0, none⟩)), vI 1 (.int .i64 (N : Int)), vI 2 (.pointer (some ⟨w.heap.size, 1, none⟩)), vI 3 (.int .i64 (M : Int)), vI 4 (.pointer (some ⟨w.heap.size, 2, none⟩)), vI 5 (.int .i64 (st : Int)), vI 6 (.slice (some ⟨gl, 0, none⟩) nl kl), vI 7 (.pointer (some ⟨w.heap.size, 4, none⟩)), vI 8 (.slice aN lN cN), pI 9 (rwP W4.heap.size lN Nx), ⟨[9], [], fun y _ _ _ => y 10 = .agg #[.int .i64 (N : Int), .int .i64 (M : Int), .int .i64 (st : Int), .slice (some ⟨gl, 0, none⟩) nl kl, y 9]⟩] := ⟨vI_mono _ _, vI_mono _ _, vI_mono _ _, vI_mono _ _, vI_mono _ _, vI_mono _ _, vI_mono _ _, vI_mono _ _, vI_mono _ _, pI_mono rwP_mono, (fun _ _ _ _ _ _ _ _ hy h => by dsimp only at hy h ⊢; rw [hy 10 (Or.inl rfl), hy 9 (Or.inr (by simp))]; exact h), trivial⟩
  refine wp_region_sl [vI 0 (.pointer (some ⟨w.heap.size, 0, none⟩)), vI 1 (.int .i64 (N : Int)), vI 2 (.pointer (some ⟨w.heap.size, 1, none⟩)), vI 3 (.int .i64 (M : Int)), vI 4 (.pointer (some ⟨w.heap.size, 2, none⟩)), vI 5 (.int .i64 (st : Int)), vI 6 (.slice (some ⟨gl, 0, none⟩) nl kl), vI 7 (.pointer (some ⟨w.heap.size, 4, none⟩)), vI 8 (.slice aN lN cN), pI 9 (rwP W4.heap.size lN Nx), ⟨[9], [], fun y _ _ _ => y 10 = .agg #[.int .i64 (N : Int), .int .i64 (M : Int), .int .i64 (st : Int), .slice (some ⟨gl, 0, none⟩) nl kl, y 9]⟩] (by kernel_rfl) (by kernel_rfl) (by kernel_rfl) (by kernel_rfl) hmo ⟨?o0, ?o1, ?o2, ?o3, ?o4, ?o5, ?o6, ?o7, ?o8, ?o9, ?o10, trivial⟩ ?fin
  case o0 =>
    intro At yy W hy hb d hd K hK
    have s1 : At.tmps.getD 1 undef = .pointer (some ⟨w.heap.size, 0, none⟩) := hb 1 rfl
    have s1' := s1
    rw [Array.getD_eq_getD_getElem?] at s1'
    clear hd hy hb
    go_simp
    exact hK.out _ W (stp_of hmo d (Below.refl _ _)) (if_pos rfl)
  case o1 =>
    intro At yy W hy hb d hd K hK
    have e0 : yy 0 = .pointer (some ⟨w.heap.size, 0, none⟩) := by obtain ⟨_, _, _, _, e⟩ := hd ⟨0, .data⟩ (by simp) rfl rfl; exact e
    have s19 := (hy 0 _ 19 rfl rfl).trans e0
    have s19' := s19
    rw [Array.getD_eq_getD_getElem?] at s19'
    clear hd hy hb
    have z0 : W.cell? ⟨w.heap.size, 0, none⟩ = some (.int .i64 (N : Int)) := cell_of (blk_on H4.out.1 d) rfl
    go_simp
    exact hK.out _ W (stp_of hmo d (Below.refl _ _)) (if_pos rfl)
  case o2 =>
    intro At yy W hy hb d hd K hK
    have s1 : At.tmps.getD 1 undef = .pointer (some ⟨w.heap.size, 0, none⟩) := hb 1 rfl
    have s1' := s1
    rw [Array.getD_eq_getD_getElem?] at s1'
    clear hd hy hb
    go_simp
    exact hK.out _ W (stp_of hmo d (Below.refl _ _)) (if_pos rfl)
  case o3 =>
    intro At yy W hy hb d hd K hK
    have e2 : yy 2 = .pointer (some ⟨w.heap.size, 1, none⟩) := by obtain ⟨_, _, _, _, e⟩ := hd ⟨2, .data⟩ (by simp) rfl rfl; exact e
    have s21 := (hy 2 _ 21 rfl rfl).trans e2
    have s21' := s21
    rw [Array.getD_eq_getD_getElem?] at s21'
    clear hd hy hb
    have z1 : W.cell? ⟨w.heap.size, 1, none⟩ = some (.int .i64 (M : Int)) := cell_of (blk_on H4.out.1 d) rfl
    go_simp
    exact hK.out _ W (stp_of hmo d (Below.refl _ _)) (if_pos rfl)
  case o4 =>
    intro At yy W hy hb d hd K hK
    have s1 : At.tmps.getD 1 undef = .pointer (some ⟨w.heap.size, 0, none⟩) := hb 1 rfl
    have s1' := s1
    rw [Array.getD_eq_getD_getElem?] at s1'
    clear hd hy hb
    go_simp
    exact hK.out _ W (stp_of hmo d (Below.refl _ _)) (if_pos rfl)
  case o5 =>
    intro At yy W hy hb d hd K hK
    have e4 : yy 4 = .pointer (some ⟨w.heap.size, 2, none⟩) := by obtain ⟨_, _, _, _, e⟩ := hd ⟨4, .data⟩ (by simp) rfl rfl; exact e
    have s23 := (hy 4 _ 23 rfl rfl).trans e4
    have s23' := s23
    rw [Array.getD_eq_getD_getElem?] at s23'
    clear hd hy hb
    have z2 : W.cell? ⟨w.heap.size, 2, none⟩ = some (.int .i64 (st : Int)) := cell_of (blk_on H4.out.1 d) rfl
    go_simp
    exact hK.out _ W (stp_of hmo d (Below.refl _ _)) (if_pos rfl)
  case o6 =>
    intro At yy W hy hb d hd K hK
    have s5 : At.tmps.getD 5 undef = .slice (some ⟨gl, 0, none⟩) nl kl := hb 5 rfl
    have s5' := s5
    rw [Array.getD_eq_getD_getElem?] at s5'
    clear hd hy hb
    go_simp
    exact hK.out _ W (stp_of hmo d (Below.refl _ _)) (if_pos rfl)
  case o7 =>
    intro At yy W hy hb d hd K hK
    have s1 : At.tmps.getD 1 undef = .pointer (some ⟨w.heap.size, 0, none⟩) := hb 1 rfl
    have s1' := s1
    rw [Array.getD_eq_getD_getElem?] at s1'
    clear hd hy hb
    go_simp
    exact hK.out _ W (stp_of hmo d (Below.refl _ _)) (if_pos rfl)
  case o8 =>
    intro At yy W hy hb d hd K hK
    have e7 : yy 7 = .pointer (some ⟨w.heap.size, 4, none⟩) := by obtain ⟨_, _, _, _, e⟩ := hd ⟨7, .data⟩ (by simp) rfl rfl; exact e
    have s26 := (hy 7 _ 26 rfl rfl).trans e7
    have s26' := s26
    rw [Array.getD_eq_getD_getElem?] at s26'
    clear hd hy hb
    have z4 : W.cell? ⟨w.heap.size, 4, none⟩ = some (.slice aN lN cN) := cell_of (blk_on H4.out.1 d) rfl
    go_simp
    exact hK.out _ W (stp_of hmo d (Below.refl _ _)) (if_pos rfl)
  case o9 =>
    intro At yy W hy hb d hd K hK
    have e8 : yy 8 = .slice aN lN cN := by obtain ⟨_, _, _, _, e⟩ := hd ⟨8, .data⟩ (by simp) rfl rfl; exact e
    have s27 := (hy 8 _ 27 rfl rfl).trans e8
    have s27' := s27
    rw [Array.getD_eq_getD_getElem?] at s27'
    clear hd hy hb
    go_simp
    go_wp2_with (go_at_call 64; refine (clone_own W aN lN cN Nx HLN.out.1 (hide (HLN.out.2.1.on d)) HLN.out.2.2).mono ?_; rintro e wa ⟨v', rfl, ho⟩; obtain ⟨b9, c9, e9⟩ := own_slice ho.out.1; subst e9; have dl := ho.out.2)
    exact hK.out _ wa (stp_of hmo d dl) ⟨b9, c9, if_pos rfl, own_low ho.out.1 d.size⟩
  case o10 =>
    intro At yy W hy hb d hd K hK
    have e1 : yy 1 = .int .i64 (N : Int) := by obtain ⟨_, _, _, _, e⟩ := hd ⟨1, .data⟩ (by simp) rfl rfl; exact e
    have e3 : yy 3 = .int .i64 (M : Int) := by obtain ⟨_, _, _, _, e⟩ := hd ⟨3, .data⟩ (by simp) rfl rfl; exact e
    have e5 : yy 5 = .int .i64 (st : Int) := by obtain ⟨_, _, _, _, e⟩ := hd ⟨5, .data⟩ (by simp) rfl rfl; exact e
    have e6 : yy 6 = .slice (some ⟨gl, 0, none⟩) nl kl := by obtain ⟨_, _, _, _, e⟩ := hd ⟨6, .data⟩ (by simp) rfl rfl; exact e
    have f9 := hd ⟨9, .data⟩ (by simp) rfl rfl
    obtain ⟨lo9, hi9, _, _, b9, c9, e9, h9⟩ := f9
    have s20 := (hy 1 _ 20 rfl rfl).trans e1
    have s20' := s20
    rw [Array.getD_eq_getD_getElem?] at s20'
    have s22 := (hy 3 _ 22 rfl rfl).trans e3
    have s22' := s22
    rw [Array.getD_eq_getD_getElem?] at s22'
    have s24 := (hy 5 _ 24 rfl rfl).trans e5
    have s24' := s24
    rw [Array.getD_eq_getD_getElem?] at s24'
    have s25 := (hy 6 _ 25 rfl rfl).trans e6
    have s25' := s25
    rw [Array.getD_eq_getD_getElem?] at s25'
    have s28 := (hy 9 _ 28 rfl rfl).trans e9
    have s28' := s28
    rw [Array.getD_eq_getD_getElem?] at s28'
    clear hd hy hb
    go_simp
    exact hK.out _ W (stp_of hmo d (Below.refl _ _)) (by show updV yy 10 _ 10 = .agg #[_, _, _, _, updV yy 10 _ 9]; rw [show ∀ x, updV yy 10 x 10 = x from fun x => if_pos rfl, show ∀ x, updV yy 10 x 9 = yy 9 from fun x => if_neg (by decide), e9])
  case fin =>
    intro yy lo hi W hM
    show wpList _ _ _ [_, _] _ _
    have e0 : yy 0 = .pointer (some ⟨w.heap.size, 0, none⟩) := hM.fact 0 (by simp) rfl (notR_all 0 rfl)
    have e1 : yy 1 = .int .i64 (N : Int) := hM.fact 1 (by simp) rfl (notR_all 1 rfl)
    have e2 : yy 2 = .pointer (some ⟨w.heap.size, 1, none⟩) := hM.fact 2 (by simp) rfl (notR_all 2 rfl)
    have e3 : yy 3 = .int .i64 (M : Int) := hM.fact 3 (by simp) rfl (notR_all 3 rfl)
    have e4 : yy 4 = .pointer (some ⟨w.heap.size, 2, none⟩) := hM.fact 4 (by simp) rfl (notR_all 4 rfl)
    have e5 : yy 5 = .int .i64 (st : Int) := hM.fact 5 (by simp) rfl (notR_all 5 rfl)
    have e6 : yy 6 = .slice (some ⟨gl, 0, none⟩) nl kl := hM.fact 6 (by simp) rfl (notR_all 6 rfl)
    have e7 : yy 7 = .pointer (some ⟨w.heap.size, 4, none⟩) := hM.fact 7 (by simp) rfl (notR_all 7 rfl)
    have e8 : yy 8 = .slice aN lN cN := hM.fact 8 (by simp) rfl (notR_all 8 rfl)
    have F9 : rwP W4.heap.size lN Nx (yy 9) (lo 9) (hi 9) W := hM.fact 9 (by simp) rfl (notR_all 9 rfl)
    have e10 : yy 10 = .agg #[.int .i64 (N : Int), .int .i64 (M : Int), .int .i64 (st : Int), .slice (some ⟨gl, 0, none⟩) nl kl, yy 9] := hM.fact 10 (by simp) rfl (notR_all 10 rfl)
    have dd := hM.d
    obtain ⟨b9, c9, e9, F9⟩ := F9
    rw [e9] at e10
    simp only [fills, Act.put, List.take, List.length, List.setIfInBounds_toArray, List.set_cons_zero, List.set_cons_succ, e0, e1, e2, e3, e4, e5, e6, e7, e8, e9, e10]
    clear hM hmo e9 e10 e0 e1 e2 e3 e4 e5 e6 e7 e8
    have F3 := blk_on H4.out.2.1 dd
    have o0 : W.cell? ⟨w.heap.size + 1, 0, none⟩ = some (.int .i64 0) := cell_of F3 rfl
    have f0 : W.frozen? ⟨w.heap.size + 1, 0, none⟩ = false := fz_of F3
    have o1 : W.cell? ⟨w.heap.size + 1, 1, none⟩ = some (.int .i64 0) := cell_of F3 rfl
    have f1 : W.frozen? ⟨w.heap.size + 1, 1, none⟩ = false := fz_of F3
    have o2 : W.cell? ⟨w.heap.size + 1, 2, none⟩ = some (.int .i64 0) := cell_of F3 rfl
    have f2 : W.frozen? ⟨w.heap.size + 1, 2, none⟩ = false := fz_of F3
    have o3 : W.cell? ⟨w.heap.size + 1, 3, none⟩ = some (.slice none 0 0) := cell_of F3 rfl
    have f3 : W.frozen? ⟨w.heap.size + 1, 3, none⟩ = false := fz_of F3
    have o4 : W.cell? ⟨w.heap.size + 1, 4, none⟩ = some (.slice none 0 0) := cell_of F3 rfl
    have f4 : W.frozen? ⟨w.heap.size + 1, 4, none⟩ = false := fz_of F3
    have O6 := hide (And.intro (set5 W (w.heap.size + 1) _ _ _ _ _ (.int .i64 (N : Int)) (.int .i64 (M : Int)) (.int .i64 (st : Int)) (.slice (some ⟨gl, 0, none⟩) nl kl) (.slice b9 lN c9) 27 F3) (only5 W (w.heap.size + 1) (.int .i64 (N : Int)) (.int .i64 (M : Int)) (.int .i64 (st : Int)) (.slice (some ⟨gl, 0, none⟩) nl kl) (.slice b9 lN c9)))
    have HE := hide (And.intro F9 dd)
    clear F3 F9 dd
    go_wp2_with fail
    refine bodyPost_ret (results_c1 (p := 2) (q := 3) (ty := 27) rfl _ _ (w.heap.size + 1) 27 _ (0, 0) _ _ rfl rfl O6.out.1 Tryz.underlying27 rfl (by kernel_rfl)) rfl ?_
    have hs := H4.out.2.2.1
    have hs2 := HE.out.2.size
    have hs5 := HS.out
    refine ⟨.slice (some ⟨gl, 0, none⟩) nl kl, .slice b9 lN c9, rfl, ?_, ?_, (H4.out.2.2.2.trans (HE.out.2.mono (by have := H4.out.2.2.2.size; omega))).trans (O6.out.2.toBelow (by omega) (fun k hk => by omega))⟩
    · rw [HLL.out]
      have z := own_below HF.out HE.out.2
      have z2 := row_only z O6.out.2 (fun k hk e => by have := (z.lt k hk).1; omega)
      exact own_low (B := w3.heap.size) z2 (by omega)
    · have z := HE.out.1
      have q : OwI W W4.heap.size (.slice b9 lN c9) Nx := by unfold OwI; rw [HLN.out.1]; exact z
      have q2 := row_only q O6.out.2 (fun k hk e => by have := (q.lt k hk).1; omega)
      exact own_low (B := W4.heap.size) q2 (by omega)
/-! ### Auto -/
theorem info62 : (Tryz.prog.info? 62).map (fun i => (i.zero, i.size, i.bytes)) = some (some (.agg #[.int .i64 0, .int .i64 0, .int .i64 0]), 3, 24) := by kernel_rfl
theorem three_cells {W : World} {x y z : Value} {t : TypeId} {p : Nat} (h : W.heap[p]? = some (.cells #[x, y, z] t (0, 0))) : ∀ (j : Nat) (u : Value), [x, y, z][j]? = some u → W.cell? ((⟨p, 0, none⟩ : Addr).add j) = some u := fun j u hu => by
  rw [Addr.add_lit]
  match j, hu with
  | 0, hu => obtain rfl : x = u := by simpa using hu
             exact cell_of h rfl
  | 1, hu => obtain rfl : y = u := by simpa using hu
             exact cell_of h rfl
  | 2, hu => obtain rfl : z = u := by simpa using hu
             exact cell_of h rfl
  | j + 3, hu => simp at hu
theorem row_kind {W : World} {B k n sz : Nat} {e : TypeId} {v : Value} {xs : List Value} (h : W.ownsRow B e sz v n xs) (hk : v.ownBlock = some k) : ∃ cs fr, W.heap[k]? = some (.cells cs e fr) := by
  rcases h.2 with ⟨hv, _⟩ | ⟨g', cap', cur', hv, _, hgc, _⟩
  · subst hv
    cases hk
  · subst hv
    obtain rfl : g' = k := by injection hk
    exact ⟨_, _, hgc⟩
def OwE (W : World) (B : Nat) (v : Value) (E : List EdT) : Prop := W.ownsRow B 62 3 v E.length (E.flatMap encE)
theorem dwpList_appE {ops : Array Oper} {rest : List Oper} {o : Oper} {a : Act} {Q : Exit → Act → World → Prop} {w : World} (hgd : o.guard = none) (s x : Operand)
    (ho : o.op = .call { callee := .builtin .append, args := #[s, x], argTypes := #[23, 23] }) (B : Nat) (v : Value) (X : List EdT) (hs : a.eval s = v) (hown : OwE w B v X) (p : Nat) (y : EdT) (hx : a.eval x = .slice (some ⟨p, 0, none⟩) 1 1) (hp : w.heap[p]? = some (.cells #[.int .i64 y.1, .int .i64 y.2.1, .int .i64 y.2.2] 62 (0, 0))) (hl : X.length ≤ 16777216) (hB : B ≤ w.heap.size)
    (h : ∀ b n c w', Hid (OwE w' B (.slice b n c) (X ++ [y])) → Hid (n = X.length + 1) → Hid (Only w w' (fun k => v.ownBlock = some k)) → wpList Tryz.prog ops Q rest (a.put o.dst (.slice b n c)) w') : wpList Tryz.prog ops Q (o :: rest) a w := by
  obtain ⟨i62, hi62, hz0, hz1, hz2⟩ := info_parts info62
  refine wpList_append_own_at _ hgd s x 23 ho B 62 i62 _ 3 24 Tryz.underlying23 hi62 hz0 hz1 hz2 rfl (by omega) v X.length (X.flatMap encE) hs hown ⟨p, 0, none⟩ 1 1 [.int .i64 y.1, .int .i64 y.2.1, .int .i64 y.2.2] hx rfl (three_cells hp) (by simp [Value.oneCell']) (by unfold maxLen; omega) (by omega) (by omega) ?_
  intro v2 w2 h2 hgr _ hn
  have h3 : OwE w2 B v2 (X ++ [y]) := by unfold OwE; rw [List.flatMap_append, List.length_append]; simpa [encE] using h2
  obtain ⟨b, c, rfl⟩ := own_slice h2
  exact h b _ c w2 (hide h3) (hide rfl) (hide (grown_only hgr))
/-- The edges of an automaton that goes one way alone. -/
def edF (Nx : List Int) (M k : Nat) : List EdT := (List.range k).map fun j => (((j / M : Nat) : Int), ((j % M : Nat) : Int), (dl Nx M (j / M) (j % M) : Int))
theorem edF_len (Nx : List Int) (M k : Nat) : (edF Nx M k).length = k := by simp [edF]
theorem edF_up (Nx : List Int) {M i a : Nat} (ha : a < M) : edF Nx M (i * M + a + 1) = edF Nx M (i * M + a) ++ [((i : Int), (a : Int), (dl Nx M i a : Int))] := by
  obtain ⟨e1, e2⟩ := suF_div (n := i) ha
  unfold edF
  rw [List.range_succ, List.map_append, List.map_singleton, e1, e2]
def ox3P (B : Nat) (cs : Array Value) : MkP := fun x lo hi W => x = .slice (some ⟨lo, 0, none⟩) 1 1 ∧ B ≤ lo ∧ lo < hi ∧ W.heap[lo]? = some (.cells cs 62 (0, 0))
theorem ox3P_mono {B : Nat} {cs : Array Value} : MonoP (ox3P B cs) := fun _ _ _ _ _ hs d ⟨e, l, l2, z⟩ => ⟨e, l, l2, (d.block _ (by omega)).trans z⟩
def rgP (B n : Nat) (K : List Int) : MkP := fun x _ _ W => ∃ g c, x = .slice (some ⟨g, 0, none⟩) n c ∧ W.ownsRow B 3 1 (.slice (some ⟨g, 0, none⟩) n c) n (K.map (Value.int .i64))
theorem rgP_mono {B n : Nat} {K : List Int} : MonoP (rgP B n K) := fun _ _ _ _ _ _ d ⟨b, c, e, h⟩ => ⟨b, c, e, own_below h d⟩
def bxP25 (B : Nat) : MkP := fun x lo hi W => x = .pointer (some ⟨lo, 0, none⟩) ∧ B ≤ lo ∧ lo < hi ∧ W.heap[lo]? = some (.cells #[.int .i64 0, .int .i64 0, .slice none 0 0, .slice none 0 0, .slice none 0 0] 25 (0, 0))
theorem bxP25_mono {B : Nat} : MonoP (bxP25 B) := fun _ _ _ _ _ hs d ⟨e, l, l2, z⟩ => ⟨e, l, l2, (d.block _ (by omega)).trans z⟩
/-- The automaton as it grows. -/
structure AuR (B : Nat) (w : World) (p5 N M gs gl nl kl : Nat) (st : Nat) (L : List Nat) (vE : Value) (E : List EdT) : Prop where
  b : w.heap[p5]? = some (.cells #[.int .i64 (N : Int), .int .i64 (M : Int), .slice (some ⟨gs, 0, none⟩) 1 1, .slice (some ⟨gl, 0, none⟩) nl kl, vE] 25 (0, 0))
  s : OwI w B (.slice (some ⟨gs, 0, none⟩) 1 1) [(st : Int)]
  f : w.ownsRow B 3 1 (.slice (some ⟨gl, 0, none⟩) nl kl) nl ((natI L).map (Value.int .i64))
  e : OwE w B vE E
theorem AuR.on {B p5 N M gs gl nl kl st : Nat} {w w' : World} {L : List Nat} {vE : Value} {E : List EdT} (h : AuR B w p5 N M gs gl nl kl st L vE E) (d : Below w.heap.size w w') : AuR B w' p5 N M gs gl nl kl st L vE E :=
  ⟨blk_on h.b d, own_below h.s d, own_below h.f d, own_below h.e d⟩
theorem AuR.app {B p5 N M gs gl nl kl st : Nat} {w w' : World} {L : List Nat} {vE v : Value} {E E' : List EdT} (h : AuR B w p5 N M gs gl nl kl st L vE E) (he : OwE w' B v E') (o : Only w w' (fun k => vE.ownBlock = some k)) (hB : B ≤ p5) : AuR B (w'.setCell ⟨p5, 4, none⟩ v) p5 N M gs gl nl kl st L v E' ∧ w'.heap[p5]? = some (.cells #[.int .i64 (N : Int), .int .i64 (M : Int), .slice (some ⟨gs, 0, none⟩) 1 1, .slice (some ⟨gl, 0, none⟩) nl kl, vE] 25 (0, 0)) ∧ Only w (w'.setCell ⟨p5, 4, none⟩ v) (fun k => B ≤ k) := by
  have hb : w'.heap[p5]? = _ := (o.block p5 (Array.getElem?_eq_some_iff.1 h.b).1 (fun k => row_tag h.e h.b (by decide) k)).trans h.b
  have o2 := only_set w' p5 4 v
  have ne : ∀ {u : Value} {n : Nat} {xs : List Value}, w.ownsRow B 3 1 u n xs → ∀ k, u.ownBlock = some k → ¬ vE.ownBlock = some k := fun hu k hk hk2 => by
    obtain ⟨cs, fr, z⟩ := row_kind h.e hk2
    exact row_tag hu z (by decide) hk
  have n5 : ∀ {u : Value} {n sz e : Nat} {xs : List Value}, w'.ownsRow B e sz u n xs → e ≠ 25 → ∀ k, u.ownBlock = some k → ¬ k = p5 := fun hu he k hk hk2 => by
    subst hk2
    exact row_tag hu hb (fun e => he e.symm) hk
  have s1 := row_only h.s o (ne h.s)
  have f1 := row_only h.f o (ne h.f)
  refine ⟨⟨heap_setCell_same _ _ 4 _ 25 _ hb, row_only s1 o2 (n5 s1 (by decide)), row_only f1 o2 (n5 f1 (by decide)), row_only he o2 (n5 he (by decide))⟩, hb, (o.mono (fun k _ hk => (h.e.lt k hk).1)).trans (o2.mono (fun k _ hk => by rw [hk]; exact hB))⟩
theorem list_nl {N X b g c nl : Nat} {W : World} {L : List Nat} (hs : IsSet W b g c N X) (hT : TabAt W) (e : elems N X = L ∧ L.length = nl) :
    Calls Tryz.prog 59 #[.pointer (some ⟨b, 0, none⟩)] W fun e w' => ∃ gl kl, e = .returned (.slice (some ⟨gl, 0, none⟩) nl kl) ∧ w'.ownsRow W.heap.size 3 1 (.slice (some ⟨gl, 0, none⟩) nl kl) nl ((natI L).map (Value.int .i64)) ∧ Below W.heap.size W w' := by
  obtain ⟨e1, e2⟩ := e
  subst e1 e2
  refine (list_any b g c N X W hs hT).mono ?_
  rintro e w' ⟨gl, kl, rfl, h, d⟩
  exact ⟨gl, kl, rfl, by rw [natI_intV]; exact h, d⟩
set_option maxRecDepth 100000 in
set_option maxHeartbeats 16000000 in
theorem auto_ok (w : World) (N M st : Nat) (aF aN : Option Addr) (lF cF lN cN : Nat) (Fi Nx : List Int) (hF : RdN w aF Fi) (hN : RdN w aN Nx) (hlF : Fi.length = lF) (hlN : Nx.length = lN) (bF : lF ≤ 4194304) (bN : lN ≤ 65536) (hv : vd N M st Fi Nx = true) (hT : TabAt w) (h0 : 0 < w.heap.size) :
    Calls Tryz.prog 16 #[.agg #[.int .i64 (N : Int), .int .i64 (M : Int), .int .i64 (st : Int), .slice aF lF cF, .slice aN lN cN]] w fun e w' => ∃ vS vF vE, e = .returned (.tuple #[.agg #[.int .i64 (N : Int), .int .i64 (M : Int), vS, vF, vE], .int .i64 0]) ∧ OwI w' w.heap.size vS [(st : Int)] ∧ OwI w' w.heap.size vF (natI (elems N (setI N Fi))) ∧ OwE w' w.heap.size vE (edF Nx M (N * M)) ∧ Below w.heap.size w w' := by
  obtain ⟨W0, hW0⟩ : ∃ W0, (w.alloc (.cells #[.int .i64 (N : Int), .int .i64 (M : Int), .int .i64 (st : Int), .slice aF lF cF, .slice aN lN cN] 27)).alloc (.cells #[.int .i64 0, .int .i64 0, .slice none 0 0, .slice none 0 0, .slice none 0 0] 25) = W0 := ⟨_, rfl⟩
  have HD := hide (box2t w #[.int .i64 (N : Int), .int .i64 (M : Int), .int .i64 (st : Int), .slice aF lF cF, .slice aN lN cN] #[.int .i64 0, .int .i64 0, .slice none 0 0, .slice none 0 0, .slice none 0 0] 27 25)
  rw [hW0] at HD
  obtain ⟨n0, m0, s0, en, em, es, n1, n2, m1, s1, e1, i1, i2⟩ := vd_nat hv
  have HLm : Hid (N ≤ 4096 ∧ Fi.all (inB N) = true ∧ M < 129 ∧ st < N ∧ Nx.length = N * M ∧ (∀ x ∈ Nx, 0 ≤ x ∧ x < (N : Int))) := hide ⟨by omega, by
    rw [List.all_eq_true]
    exact fun x hx => inB_iff.2 (by have := i2 x hx; omega), by omega, by omega, by
      obtain rfl : N = n0 := by omega
      obtain rfl : M = m0 := by omega
      exact e1, fun x hx => by have := i1 x hx; omega⟩
  have B0 := HD.out.2.1
  have y0 : W0.cell? ⟨w.heap.size, 0, none⟩ = some (.int .i64 (N : Int)) := cell_of B0 rfl
  have y1 : W0.cell? ⟨w.heap.size, 1, none⟩ = some (.int .i64 (M : Int)) := cell_of B0 rfl
  have y2 : W0.cell? ⟨w.heap.size, 2, none⟩ = some (.int .i64 (st : Int)) := cell_of B0 rfl
  have y3 : W0.cell? ⟨w.heap.size, 3, none⟩ = some (.slice aF lF cF) := cell_of B0 rfl
  have y4 : W0.cell? ⟨w.heap.size, 4, none⟩ = some (.slice aN lN cN) := cell_of B0 rfl
  have T1 := dvalid_any W0 N M st aF aN lF cF lN cN Fi Nx (hF.on HD.out.1) (hN.on HD.out.1) hlF hlN bF (by omega)
  rw [hv, if_pos rfl] at T1
  have HQ := hide (And.intro (hF.on HD.out.1) (And.intro (hN.on HD.out.1) (And.intro hT h0)))
  have HLN0 := hide hlN
  clear B0 en em es n1 n2 m1 s1 e1 i1 i2 hv hF hN hT h0 hlN
  obtain ⟨L, hLL⟩ : ∃ L, elems N (setI N Fi) = L := ⟨_, rfl⟩
  rw [hLL]
  obtain ⟨nl, hnl⟩ : ∃ l, L.length = l := ⟨_, rfl⟩
  have HL := hide (And.intro hLL hnl)
  clear hLL hnl
  go_enter Tryz.func16, Tryz.ntmps16
  go_upto_region 2 with (go_at_call 33; refine T1.mono ?_; rintro e w1 ⟨rfl, d1⟩; have H1a := hide d1; clear d1 T1 hW0)
  clear y0 y1 y2 y3 y4
  have y4 : w1.cell? ⟨w.heap.size, 4, none⟩ = some (.slice aN lN cN) := cell_of (blk_on HD.out.2.1 H1a.out) rfl
  go_upto_region 6 with fail
  clear y4
  have H1 : Hid (w1.heap[w.heap.size]? = some (.cells #[.int .i64 (N : Int), .int .i64 (M : Int), .int .i64 (st : Int), .slice aF lF cF, .slice aN lN cN] 27 (0, 0)) ∧ w1.heap[w.heap.size + 1]? = some (.cells #[.int .i64 0, .int .i64 0, .slice none 0 0, .slice none 0 0, .slice none 0 0] 25 (0, 0)) ∧ w.heap.size + 2 ≤ w1.heap.size ∧ Below w.heap.size w w1) := hide ⟨blk_on HD.out.2.1 H1a.out, blk_on HD.out.2.2.1 H1a.out, by have := HD.out.2.2.2; have := H1a.out.size; omega, HD.out.1.trans (H1a.out.mono (by have := HD.out.2.2.2; omega))⟩
  have HT : Hid (TabAt w1 ∧ 0 < w1.heap.size) := hide ⟨HQ.out.2.2.1.below H1.out.2.2.2 HQ.out.2.2.2, by have := H1.out.2.2.1; omega⟩
  have TS : Hid (∀ W, Below w1.heap.size w1 W → Calls Tryz.prog 47 #[.int .i64 (N : Int), .slice aF lF cF] W fun e w' => ∃ b g cap, e = .returned (.pointer (some ⟨b, 0, none⟩)) ∧ SetN W w' b g cap N (setI N Fi)) := hide (fun W d => by
    subst hlF
    exact setOf_any W N aF cF Fi ((HQ.out.1.on H1a.out).on d) bF HLm.out.1 HLm.out.2.1)
  have hmo : MonIL 0 [vI 0 (.pointer (some ⟨w.heap.size, 0, none⟩)), vI 1 (.int .i64 (N : Int)), vI 2 (.pointer (some ⟨w.heap.size, 1, none⟩)), vI 3 (.int .i64 (M : Int)), vI 4 (.pointer (some ⟨w.heap.size, 2, none⟩)), vI 5 (.int .i64 (st : Int)), pI 6 (ox1P w1.heap.size (.int .i64 (st : Int))), vI 7 (.pointer (some ⟨w.heap.size, 0, none⟩)), vI 8 (.int .i64 (N : Int)), vI 9 (.pointer (some ⟨w.heap.size, 3, none⟩)), vI 10 (.slice aF lF cF), pI 11 (setXP w1.heap.size N (setI N Fi)), pI 12 (rgP w1.heap.size nl (natI L)), ⟨[6, 12], [], fun y _ _ _ => y 13 = .agg #[.int .i64 (N : Int), .int .i64 (M : Int), y 6, y 12, .slice none 0 0]⟩, pI 14 (bxP25 w1.heap.size)] := ⟨vI_mono _ _, vI_mono _ _, vI_mono _ _, vI_mono _ _, vI_mono _ _, vI_mono _ _, pI_mono ox1P_mono, vI_mono _ _, vI_mono _ _, vI_mono _ _, vI_mono _ _, pI_mono setXP_mono, pI_mono rgP_mono, (fun _ _ _ _ _ _ _ _ hy h => by dsimp only at hy h ⊢; rw [hy 13 (Or.inl rfl), hy 6 (Or.inr (by simp)), hy 12 (Or.inr (by simp))]; exact h), pI_mono bxP25_mono, trivial⟩
  refine wp_region_sl [vI 0 (.pointer (some ⟨w.heap.size, 0, none⟩)), vI 1 (.int .i64 (N : Int)), vI 2 (.pointer (some ⟨w.heap.size, 1, none⟩)), vI 3 (.int .i64 (M : Int)), vI 4 (.pointer (some ⟨w.heap.size, 2, none⟩)), vI 5 (.int .i64 (st : Int)), pI 6 (ox1P w1.heap.size (.int .i64 (st : Int))), vI 7 (.pointer (some ⟨w.heap.size, 0, none⟩)), vI 8 (.int .i64 (N : Int)), vI 9 (.pointer (some ⟨w.heap.size, 3, none⟩)), vI 10 (.slice aF lF cF), pI 11 (setXP w1.heap.size N (setI N Fi)), pI 12 (rgP w1.heap.size nl (natI L)), ⟨[6, 12], [], fun y _ _ _ => y 13 = .agg #[.int .i64 (N : Int), .int .i64 (M : Int), y 6, y 12, .slice none 0 0]⟩, pI 14 (bxP25 w1.heap.size)] (by kernel_rfl) (by kernel_rfl) (by kernel_rfl) (by kernel_rfl) hmo ⟨?o0, ?o1, ?o2, ?o3, ?o4, ?o5, ?o6, ?o7, ?o8, ?o9, ?o10, ?o11, ?o12, ?o13, ?o14, trivial⟩ ?fin
  case o0 =>
    intro At yy W hy hb d hd K hK
    have s1 : At.tmps.getD 1 undef = .pointer (some ⟨w.heap.size, 0, none⟩) := hb 1 rfl
    have s1' := s1
    rw [Array.getD_eq_getD_getElem?] at s1'
    clear hd hy hb
    go_simp
    exact hK.out _ W (stp_of hmo d (Below.refl _ _)) (if_pos rfl)
  case o1 =>
    intro At yy W hy hb d hd K hK
    have e0 : yy 0 = .pointer (some ⟨w.heap.size, 0, none⟩) := by obtain ⟨_, _, _, _, e⟩ := hd ⟨0, .data⟩ (by simp) rfl rfl; exact e
    have s19 := (hy 0 _ 19 rfl rfl).trans e0
    have s19' := s19
    rw [Array.getD_eq_getD_getElem?] at s19'
    clear hd hy hb
    have z0 : W.cell? ⟨w.heap.size, 0, none⟩ = some (.int .i64 (N : Int)) := cell_of (blk_on H1.out.1 d) rfl
    go_simp
    exact hK.out _ W (stp_of hmo d (Below.refl _ _)) (if_pos rfl)
  case o2 =>
    intro At yy W hy hb d hd K hK
    have s1 : At.tmps.getD 1 undef = .pointer (some ⟨w.heap.size, 0, none⟩) := hb 1 rfl
    have s1' := s1
    rw [Array.getD_eq_getD_getElem?] at s1'
    clear hd hy hb
    go_simp
    exact hK.out _ W (stp_of hmo d (Below.refl _ _)) (if_pos rfl)
  case o3 =>
    intro At yy W hy hb d hd K hK
    have e2 : yy 2 = .pointer (some ⟨w.heap.size, 1, none⟩) := by obtain ⟨_, _, _, _, e⟩ := hd ⟨2, .data⟩ (by simp) rfl rfl; exact e
    have s21 := (hy 2 _ 21 rfl rfl).trans e2
    have s21' := s21
    rw [Array.getD_eq_getD_getElem?] at s21'
    clear hd hy hb
    have z1 : W.cell? ⟨w.heap.size, 1, none⟩ = some (.int .i64 (M : Int)) := cell_of (blk_on H1.out.1 d) rfl
    go_simp
    exact hK.out _ W (stp_of hmo d (Below.refl _ _)) (if_pos rfl)
  case o4 =>
    intro At yy W hy hb d hd K hK
    have s1 : At.tmps.getD 1 undef = .pointer (some ⟨w.heap.size, 0, none⟩) := hb 1 rfl
    have s1' := s1
    rw [Array.getD_eq_getD_getElem?] at s1'
    clear hd hy hb
    go_simp
    exact hK.out _ W (stp_of hmo d (Below.refl _ _)) (if_pos rfl)
  case o5 =>
    intro At yy W hy hb d hd K hK
    have e4 : yy 4 = .pointer (some ⟨w.heap.size, 2, none⟩) := by obtain ⟨_, _, _, _, e⟩ := hd ⟨4, .data⟩ (by simp) rfl rfl; exact e
    have s23 := (hy 4 _ 23 rfl rfl).trans e4
    have s23' := s23
    rw [Array.getD_eq_getD_getElem?] at s23'
    clear hd hy hb
    have z2 : W.cell? ⟨w.heap.size, 2, none⟩ = some (.int .i64 (st : Int)) := cell_of (blk_on H1.out.1 d) rfl
    go_simp
    exact hK.out _ W (stp_of hmo d (Below.refl _ _)) (if_pos rfl)
  case o6 =>
    intro At yy W hy hb d hd K hK
    have e5 : yy 5 = .int .i64 (st : Int) := by obtain ⟨_, _, _, _, e⟩ := hd ⟨5, .data⟩ (by simp) rfl rfl; exact e
    have s24 := (hy 5 _ 24 rfl rfl).trans e5
    have s24' := s24
    rw [Array.getD_eq_getD_getElem?] at s24'
    clear hd hy hb
    go_simp
    exact hK.out _ _ (stp_of hmo d ((Below.refl _ _).alloc (Nat.le_refl _) _)) ⟨if_pos rfl, d.size, by simp, World.alloc_heap_new _ _⟩
  case o7 =>
    intro At yy W hy hb d hd K hK
    have s1 : At.tmps.getD 1 undef = .pointer (some ⟨w.heap.size, 0, none⟩) := hb 1 rfl
    have s1' := s1
    rw [Array.getD_eq_getD_getElem?] at s1'
    clear hd hy hb
    go_simp
    exact hK.out _ W (stp_of hmo d (Below.refl _ _)) (if_pos rfl)
  case o8 =>
    intro At yy W hy hb d hd K hK
    have e7 : yy 7 = .pointer (some ⟨w.heap.size, 0, none⟩) := by obtain ⟨_, _, _, _, e⟩ := hd ⟨7, .data⟩ (by simp) rfl rfl; exact e
    have s26 := (hy 7 _ 26 rfl rfl).trans e7
    have s26' := s26
    rw [Array.getD_eq_getD_getElem?] at s26'
    clear hd hy hb
    have z0 : W.cell? ⟨w.heap.size, 0, none⟩ = some (.int .i64 (N : Int)) := cell_of (blk_on H1.out.1 d) rfl
    go_simp
    exact hK.out _ W (stp_of hmo d (Below.refl _ _)) (if_pos rfl)
  case o9 =>
    intro At yy W hy hb d hd K hK
    have s1 : At.tmps.getD 1 undef = .pointer (some ⟨w.heap.size, 0, none⟩) := hb 1 rfl
    have s1' := s1
    rw [Array.getD_eq_getD_getElem?] at s1'
    clear hd hy hb
    go_simp
    exact hK.out _ W (stp_of hmo d (Below.refl _ _)) (if_pos rfl)
  case o10 =>
    intro At yy W hy hb d hd K hK
    have e9 : yy 9 = .pointer (some ⟨w.heap.size, 3, none⟩) := by obtain ⟨_, _, _, _, e⟩ := hd ⟨9, .data⟩ (by simp) rfl rfl; exact e
    have s28 := (hy 9 _ 28 rfl rfl).trans e9
    have s28' := s28
    rw [Array.getD_eq_getD_getElem?] at s28'
    clear hd hy hb
    have z3 : W.cell? ⟨w.heap.size, 3, none⟩ = some (.slice aF lF cF) := cell_of (blk_on H1.out.1 d) rfl
    go_simp
    exact hK.out _ W (stp_of hmo d (Below.refl _ _)) (if_pos rfl)
  case o11 =>
    intro At yy W hy hb d hd K hK
    have e8 : yy 8 = .int .i64 (N : Int) := by obtain ⟨_, _, _, _, e⟩ := hd ⟨8, .data⟩ (by simp) rfl rfl; exact e
    have e10 : yy 10 = .slice aF lF cF := by obtain ⟨_, _, _, _, e⟩ := hd ⟨10, .data⟩ (by simp) rfl rfl; exact e
    have s27 := (hy 8 _ 27 rfl rfl).trans e8
    have s27' := s27
    rw [Array.getD_eq_getD_getElem?] at s27'
    have s29 := (hy 10 _ 29 rfl rfl).trans e10
    have s29' := s29
    rw [Array.getD_eq_getD_getElem?] at s29'
    clear hd hy hb
    go_simp
    go_wp2_with (go_at_call 47; refine (TS.out W d).mono ?_; rintro e wa ⟨b, g, c, rfl, hq⟩)
    exact hK.out _ wa (stp_of hmo d hq.2.2.2.2) ⟨b, g, c, if_pos rfl, hq.1⟩
  case o12 =>
    intro At yy W hy hb d hd K hK
    have f11 := hd ⟨11, .data⟩ (by simp) rfl rfl
    obtain ⟨lo11, hi11, _, _, b2, g2, c2, e11, h11⟩ := f11
    have s30 := (hy 11 _ 30 rfl rfl).trans e11
    have s30' := s30
    rw [Array.getD_eq_getD_getElem?] at s30'
    clear hd hy hb
    go_simp
    go_wp2_with (go_at_call 59; refine (list_nl h11 (HT.out.1.below d HT.out.2) HL.out).mono ?_; rintro e wa ⟨gl, kl, rfl, hol, dl⟩)
    exact hK.out _ wa (stp_of hmo d dl) ⟨gl, kl, if_pos rfl, own_low hol d.size⟩
  case o13 =>
    intro At yy W hy hb d hd K hK
    have e1 : yy 1 = .int .i64 (N : Int) := by obtain ⟨_, _, _, _, e⟩ := hd ⟨1, .data⟩ (by simp) rfl rfl; exact e
    have e3 : yy 3 = .int .i64 (M : Int) := by obtain ⟨_, _, _, _, e⟩ := hd ⟨3, .data⟩ (by simp) rfl rfl; exact e
    have f6 := hd ⟨6, .data⟩ (by simp) rfl rfl
    have f12 := hd ⟨12, .data⟩ (by simp) rfl rfl
    obtain ⟨lo6, hi6, _, _, e6, h6⟩ := f6
    obtain ⟨lo12, hi12, _, _, gl, kl, e12, h12⟩ := f12
    have s20 := (hy 1 _ 20 rfl rfl).trans e1
    have s20' := s20
    rw [Array.getD_eq_getD_getElem?] at s20'
    have s22 := (hy 3 _ 22 rfl rfl).trans e3
    have s22' := s22
    rw [Array.getD_eq_getD_getElem?] at s22'
    have s25 := (hy 6 _ 25 rfl rfl).trans e6
    have s25' := s25
    rw [Array.getD_eq_getD_getElem?] at s25'
    have s31 := (hy 12 _ 31 rfl rfl).trans e12
    have s31' := s31
    rw [Array.getD_eq_getD_getElem?] at s31'
    clear hd hy hb
    go_simp
    exact hK.out _ W (stp_of hmo d (Below.refl _ _)) (by show updV yy 13 _ 13 = .agg #[_, _, updV yy 13 _ 6, updV yy 13 _ 12, _]; rw [show ∀ x, updV yy 13 x 13 = x from fun x => if_pos rfl, show ∀ x, updV yy 13 x 6 = yy 6 from fun x => if_neg (by decide), show ∀ x, updV yy 13 x 12 = yy 12 from fun x => if_neg (by decide), e6, e12])
  case o14 =>
    intro At yy W hy hb d hd K hK
    clear hd hy hb
    go_simp
    exact hK.out _ _ (stp_of hmo d ((Below.refl _ _).alloc (Nat.le_refl _) _)) ⟨if_pos rfl, d.size, by simp, World.alloc_heap_new _ _⟩
  case fin =>
    intro yy lo hi W hM
    show wpList _ _ _ [_] _ _
    have e0 : yy 0 = .pointer (some ⟨w.heap.size, 0, none⟩) := hM.fact 0 (by simp) rfl (notR_all 0 rfl)
    have e1 : yy 1 = .int .i64 (N : Int) := hM.fact 1 (by simp) rfl (notR_all 1 rfl)
    have e2 : yy 2 = .pointer (some ⟨w.heap.size, 1, none⟩) := hM.fact 2 (by simp) rfl (notR_all 2 rfl)
    have e3 : yy 3 = .int .i64 (M : Int) := hM.fact 3 (by simp) rfl (notR_all 3 rfl)
    have e4 : yy 4 = .pointer (some ⟨w.heap.size, 2, none⟩) := hM.fact 4 (by simp) rfl (notR_all 4 rfl)
    have e5 : yy 5 = .int .i64 (st : Int) := hM.fact 5 (by simp) rfl (notR_all 5 rfl)
    have e7 : yy 7 = .pointer (some ⟨w.heap.size, 0, none⟩) := hM.fact 7 (by simp) rfl (notR_all 7 rfl)
    have e8 : yy 8 = .int .i64 (N : Int) := hM.fact 8 (by simp) rfl (notR_all 8 rfl)
    have e9 : yy 9 = .pointer (some ⟨w.heap.size, 3, none⟩) := hM.fact 9 (by simp) rfl (notR_all 9 rfl)
    have e10 : yy 10 = .slice aF lF cF := hM.fact 10 (by simp) rfl (notR_all 10 rfl)
    obtain ⟨e6, b6, l6, z6⟩ := hM.fact 6 (by simp) rfl (notR_all 6 rfl)
    obtain ⟨gl, kl, e12, h12⟩ := hM.fact 12 (by simp) rfl (notR_all 12 rfl)
    have e13 : yy 13 = .agg #[.int .i64 (N : Int), .int .i64 (M : Int), yy 6, yy 12, .slice none 0 0] := hM.fact 13 (by simp) rfl (notR_all 13 rfl)
    obtain ⟨e14, b14, l14, z14⟩ := hM.fact 14 (by simp) rfl (notR_all 14 rfl)
    have dd := hM.d
    rw [e6, e12] at e13
    simp only [fills, Act.put, List.take, List.length, List.setIfInBounds_toArray, List.set_cons_zero, List.set_cons_succ, e0, e1, e2, e3, e4, e5, e7, e8, e9, e10, e6, e12, e13, e14]
    generalize lo 6 = gs at z6 b6 l6 ⊢
    generalize lo 14 = p5 at z14 b14 l14 ⊢
    generalize yy 11 = v11
    clear hM hmo e6 e12 e13 e14 e0 e1 e2 e3 e4 e5 e7 e8 e9 e10
    have HL12 := hide (And.intro h12 dd)
    have oS : OwI W w1.heap.size (.slice (some ⟨gs, 0, none⟩) 1 1) [(st : Int)] := ⟨rfl, .inr ⟨gs, 1, _, rfl, b6, z6, Nat.le_refl _, by unfold maxLen; omega, rfl, rfl⟩⟩
    have HSS := hide oS
    have HB5 := hide b14
    have F3 := z14
    have o0 : W.cell? ⟨p5, 0, none⟩ = some (.int .i64 0) := cell_of F3 rfl
    have f0 : W.frozen? ⟨p5, 0, none⟩ = false := fz_of F3
    have o1 : W.cell? ⟨p5, 1, none⟩ = some (.int .i64 0) := cell_of F3 rfl
    have f1 : W.frozen? ⟨p5, 1, none⟩ = false := fz_of F3
    have o2 : W.cell? ⟨p5, 2, none⟩ = some (.slice none 0 0) := cell_of F3 rfl
    have f2 : W.frozen? ⟨p5, 2, none⟩ = false := fz_of F3
    have o3 : W.cell? ⟨p5, 3, none⟩ = some (.slice none 0 0) := cell_of F3 rfl
    have f3 : W.frozen? ⟨p5, 3, none⟩ = false := fz_of F3
    have o4 : W.cell? ⟨p5, 4, none⟩ = some (.slice none 0 0) := cell_of F3 rfl
    have f4 : W.frozen? ⟨p5, 4, none⟩ = false := fz_of F3
    clear oS h12 dd z6 b6 l6 F3
    have HO6 := hide (And.intro (set5 W p5 _ _ _ _ _ (.int .i64 (N : Int)) (.int .i64 (M : Int)) (.slice (some ⟨gs, 0, none⟩) 1 1) (.slice (some ⟨gl, 0, none⟩) nl kl) (.slice none 0 0) 25 z14) (And.intro (only5 W p5 (.int .i64 (N : Int)) (.int .i64 (M : Int)) (.slice (some ⟨gs, 0, none⟩) 1 1) (.slice (some ⟨gl, 0, none⟩) nl kl) (.slice none 0 0)) z14))
    clear z14 b14 l14
    go_upto_region 7 with fail
    obtain ⟨W6, hW6⟩ : ∃ V, (((((W.setCell ⟨p5, 0, none⟩ (.int .i64 (N : Int))).setCell ⟨p5, 1, none⟩ (.int .i64 (M : Int))).setCell ⟨p5, 2, none⟩ (.slice (some ⟨gs, 0, none⟩) 1 1)).setCell ⟨p5, 3, none⟩ (.slice (some ⟨gl, 0, none⟩) nl kl)).setCell ⟨p5, 4, none⟩ (.slice none 0 0)) = V := ⟨_, rfl⟩
    rw [hW6] at HO6 ⊢
    clear o0 o1 o2 o3 o4 f0 f1 f2 f3 f4 hW6
    have HR0 : Hid (AuR w1.heap.size W6 p5 N M gs gl nl kl st L (.slice none 0 0) (edF Nx M (0 * M)) ∧ Below w1.heap.size w1 W6) := hide ⟨⟨HO6.out.1, row_only HSS.out HO6.out.2.1 (fun k hk e => by subst e; exact row_tag HSS.out HO6.out.2.2 (by decide) hk), row_only HL12.out.1 HO6.out.2.1 (fun k hk e => by subst e; exact row_tag HL12.out.1 HO6.out.2.2 (by decide) hk), by rw [Nat.zero_mul]; exact World.ownsRow_nil _ _ _ _⟩, HL12.out.2.trans (HO6.out.2.1.toBelow HL12.out.2.size (fun k e => by rw [e]; exact HB5.out))⟩
    clear HO6 HSS HL12
    have y0 : W6.cell? ⟨w.heap.size, 0, none⟩ = some (.int .i64 (N : Int)) := cell_of (blk_on H1.out.1 HR0.out.2) rfl
    have hN4 : N ≤ 4096 := HLm.out.1
    have hM4 : M < 129 := HLm.out.2.2.1
    go_wp2_with fail
    clear y0
    go_loopw [35] (fun iv wr => ∃ i : Nat, i ≤ N ∧ iv = .int .i64 (i : Int) ∧ Hid (∃ tE nE kE, AuR w1.heap.size wr p5 N M gs gl nl kl st L (.slice tE nE kE) (edF Nx M (i * M)) ∧ Below w1.heap.size w1 wr)) (fun iv _ => N - (intOf iv).toNat)
    case atStart => exact ⟨0, Nat.zero_le _, rfl, hide ⟨none, 0, 0, HR0.out⟩⟩
    case round =>
      clear HR0
      obtain ⟨i, hi, rfl, HR⟩ := hrel
      by_cases hlt : i < N
      · have y1 : wr.cell? ⟨w.heap.size, 1, none⟩ = some (.int .i64 (M : Int)) := by
          obtain ⟨_, _, _, _, d⟩ := HR.out
          exact cell_of (blk_on H1.out.1 d) rfl
        go_wp2_with fail
        have HRi : Hid (∃ tE nE kE, AuR w1.heap.size wr p5 N M gs gl nl kl st L (.slice tE nE kE) (edF Nx M (i * M + 0)) ∧ Below w1.heap.size w1 wr) := hide HR.out
        clear y1 HR
        rename World => wo
        go_loopw [40] (fun iv wx => ∃ a : Nat, a ≤ M ∧ iv = .int .i64 (a : Int) ∧ Hid (∃ tE nE kE, AuR w1.heap.size wx p5 N M gs gl nl kl st L (.slice tE nE kE) (edF Nx M (i * M + a)) ∧ Below w1.heap.size w1 wx)) (fun iv _ => M - (intOf iv).toNat)
        case atStart => exact ⟨0, Nat.zero_le _, rfl, HRi⟩
        case round =>
          clear HRi
          obtain ⟨a, ha, rfl, HR⟩ := hrel
          by_cases haM : a < M
          · obtain ⟨tE, nE, kE, HR⟩ : ∃ tE nE kE, Hid (AuR w1.heap.size wr p5 N M gs gl nl kl st L (.slice tE nE kE) (edF Nx M (i * M + a)) ∧ Below w1.heap.size w1 wr) := by
              obtain ⟨tE, nE, kE, h⟩ := HR.out
              exact ⟨tE, nE, kE, hide h⟩
            obtain ⟨t, ht⟩ : ∃ t, dl Nx M i a = t := ⟨_, rfl⟩
            have hNM : N * M ≤ 4096 * 128 := Nat.mul_le_mul hN4 (by omega)
            have hple := place_lt hlt haM
            have HED : Hid (edF Nx M (i * M + (a + 1)) = edF Nx M (i * M + a) ++ [((i : Int), (a : Int), (t : Int))]) := hide (by rw [← Nat.add_assoc, edF_up Nx haM, ht])
            have HLE : Hid ((edF Nx M (i * M + a)).length ≤ 16777216) := hide (by rw [edF_len]; omega)
            have TST : Hid (∀ W, Below wr.heap.size wr W → Calls Tryz.prog 60 #[.agg #[.int .i64 (N : Int), .int .i64 (M : Int), .int .i64 (st : Int), .slice aF lF cF, .slice aN lN cN], .int .i64 (i : Int), .int .i64 (a : Int)] W fun e w' => e = .returned (.int .i64 (t : Int)) ∧ Below W.heap.size W w') := hide (fun W d => by
              rw [← ht]
              exact step_rd W M N i a lN cN N st aF lF cF aN Nx (((HQ.out.2.1.on H1a.out).on (HR.out.2.trans (d.mono HR.out.2.size)))) HLm.out.2.2.2.2.1 HLm.out.2.2.2.2.2 (by rw [← HLN0.out]; exact HLm.out.2.2.2.2.1) hlt haM (by omega) (by omega) (by omega))
            have HA := hide (blk_on H1.out.1 HR.out.2)
            have HSZ : Hid (w1.heap.size ≤ wr.heap.size) := hide HR.out.2.size
            clear ht hNM hple
            go_upto_region 13 with fail
            have hmo : MonIL 0 [vI 0 (.pointer (some ⟨p5, 4, none⟩)), vI 1 (.slice tE nE kE), vI 2 (.int .i64 (i : Int)), vI 3 (.int .i64 (a : Int)), vI 4 (.agg #[.int .i64 (N : Int), .int .i64 (M : Int), .int .i64 (st : Int), .slice aF lF cF, .slice aN lN cN]), vI 5 (.int .i64 (i : Int)), vI 6 (.int .i64 (a : Int)), vI 7 (.int .i64 (t : Int)), vI 8 (.agg #[.int .i64 (i : Int), .int .i64 (a : Int), .int .i64 (t : Int)]), pI 9 (ox3P wr.heap.size #[.int .i64 (i : Int), .int .i64 (a : Int), .int .i64 (t : Int)])] := ⟨vI_mono _ _, vI_mono _ _, vI_mono _ _, vI_mono _ _, vI_mono _ _, vI_mono _ _, vI_mono _ _, vI_mono _ _, vI_mono _ _, pI_mono ox3P_mono, trivial⟩
            refine wp_region_sl [vI 0 (.pointer (some ⟨p5, 4, none⟩)), vI 1 (.slice tE nE kE), vI 2 (.int .i64 (i : Int)), vI 3 (.int .i64 (a : Int)), vI 4 (.agg #[.int .i64 (N : Int), .int .i64 (M : Int), .int .i64 (st : Int), .slice aF lF cF, .slice aN lN cN]), vI 5 (.int .i64 (i : Int)), vI 6 (.int .i64 (a : Int)), vI 7 (.int .i64 (t : Int)), vI 8 (.agg #[.int .i64 (i : Int), .int .i64 (a : Int), .int .i64 (t : Int)]), pI 9 (ox3P wr.heap.size #[.int .i64 (i : Int), .int .i64 (a : Int), .int .i64 (t : Int)])] (by kernel_rfl) (by kernel_rfl) (by kernel_rfl) (by kernel_rfl) hmo ⟨?o0, ?o1, ?o2, ?o3, ?o4, ?o5, ?o6, ?o7, ?o8, ?o9, trivial⟩ ?fin
            case o0 =>
              intro At yy W hy hb d hd K hK
              have s5 : At.tmps.getD 5 undef = .pointer (some ⟨p5, 0, none⟩) := hb 5 rfl
              have s5' := s5
              rw [Array.getD_eq_getD_getElem?] at s5'
              clear hd hy hb
              go_simp
              exact hK.out _ W (stp_of hmo d (Below.refl _ _)) (if_pos rfl)
            case o1 =>
              intro At yy W hy hb d hd K hK
              have e0 : yy 0 = .pointer (some ⟨p5, 4, none⟩) := by obtain ⟨_, _, _, _, e⟩ := hd ⟨0, .data⟩ (by simp) rfl rfl; exact e
              have s43 := (hy 0 _ 43 rfl rfl).trans e0
              have s43' := s43
              rw [Array.getD_eq_getD_getElem?] at s43'
              clear hd hy hb
              have y4 : W.cell? ⟨p5, 4, none⟩ = some (.slice tE nE kE) := cell_of (blk_on HR.out.1.b d) rfl
              go_simp
              exact hK.out _ W (stp_of hmo d (Below.refl _ _)) (if_pos rfl)
            case o2 =>
              intro At yy W hy hb d hd K hK
              have s6 : At.tmps.getD 6 undef = .int .i64 (i : Int) := hb 6 rfl
              have s6' := s6
              rw [Array.getD_eq_getD_getElem?] at s6'
              clear hd hy hb
              go_simp
              exact hK.out _ W (stp_of hmo d (Below.refl _ _)) (if_pos rfl)
            case o3 =>
              intro At yy W hy hb d hd K hK
              have s7 : At.tmps.getD 7 undef = .int .i64 (a : Int) := hb 7 rfl
              have s7' := s7
              rw [Array.getD_eq_getD_getElem?] at s7'
              clear hd hy hb
              go_simp
              exact hK.out _ W (stp_of hmo d (Below.refl _ _)) (if_pos rfl)
            case o4 =>
              intro At yy W hy hb d hd K hK
              have s1 : At.tmps.getD 1 undef = .pointer (some ⟨w.heap.size, 0, none⟩) := hb 1 rfl
              have s1' := s1
              rw [Array.getD_eq_getD_getElem?] at s1'
              clear hd hy hb
              have z0 : W.cell? ⟨w.heap.size, 0, none⟩ = some (.int .i64 (N : Int)) := cell_of (blk_on HA.out d) rfl
              have z1 : W.cell? ⟨w.heap.size, 1, none⟩ = some (.int .i64 (M : Int)) := cell_of (blk_on HA.out d) rfl
              have z2 : W.cell? ⟨w.heap.size, 2, none⟩ = some (.int .i64 (st : Int)) := cell_of (blk_on HA.out d) rfl
              have z3 : W.cell? ⟨w.heap.size, 3, none⟩ = some (.slice aF lF cF) := cell_of (blk_on HA.out d) rfl
              have z4 : W.cell? ⟨w.heap.size, 4, none⟩ = some (.slice aN lN cN) := cell_of (blk_on HA.out d) rfl
              go_simp
              exact hK.out _ W (stp_of hmo d (Below.refl _ _)) (if_pos rfl)
            case o5 =>
              intro At yy W hy hb d hd K hK
              have s6 : At.tmps.getD 6 undef = .int .i64 (i : Int) := hb 6 rfl
              have s6' := s6
              rw [Array.getD_eq_getD_getElem?] at s6'
              clear hd hy hb
              go_simp
              exact hK.out _ W (stp_of hmo d (Below.refl _ _)) (if_pos rfl)
            case o6 =>
              intro At yy W hy hb d hd K hK
              have s7 : At.tmps.getD 7 undef = .int .i64 (a : Int) := hb 7 rfl
              have s7' := s7
              rw [Array.getD_eq_getD_getElem?] at s7'
              clear hd hy hb
              go_simp
              exact hK.out _ W (stp_of hmo d (Below.refl _ _)) (if_pos rfl)
            case o7 =>
              intro At yy W hy hb d hd K hK
              have e4 : yy 4 = .agg #[.int .i64 (N : Int), .int .i64 (M : Int), .int .i64 (st : Int), .slice aF lF cF, .slice aN lN cN] := by obtain ⟨_, _, _, _, e⟩ := hd ⟨4, .data⟩ (by simp) rfl rfl; exact e
              have e5 : yy 5 = .int .i64 (i : Int) := by obtain ⟨_, _, _, _, e⟩ := hd ⟨5, .data⟩ (by simp) rfl rfl; exact e
              have e6 : yy 6 = .int .i64 (a : Int) := by obtain ⟨_, _, _, _, e⟩ := hd ⟨6, .data⟩ (by simp) rfl rfl; exact e
              have s47 := (hy 4 _ 47 rfl rfl).trans e4
              have s47' := s47
              rw [Array.getD_eq_getD_getElem?] at s47'
              have s48 := (hy 5 _ 48 rfl rfl).trans e5
              have s48' := s48
              rw [Array.getD_eq_getD_getElem?] at s48'
              have s49 := (hy 6 _ 49 rfl rfl).trans e6
              have s49' := s49
              rw [Array.getD_eq_getD_getElem?] at s49'
              clear hd hy hb
              go_simp
              go_wp2_with (go_at_call 60; refine (TST.out W d).mono ?_; rintro e wa ⟨rfl, da⟩)
              exact hK.out _ wa (stp_of hmo d da) (if_pos rfl)
            case o8 =>
              intro At yy W hy hb d hd K hK
              have e2 : yy 2 = .int .i64 (i : Int) := by obtain ⟨_, _, _, _, e⟩ := hd ⟨2, .data⟩ (by simp) rfl rfl; exact e
              have e3 : yy 3 = .int .i64 (a : Int) := by obtain ⟨_, _, _, _, e⟩ := hd ⟨3, .data⟩ (by simp) rfl rfl; exact e
              have e7 : yy 7 = .int .i64 (t : Int) := by obtain ⟨_, _, _, _, e⟩ := hd ⟨7, .data⟩ (by simp) rfl rfl; exact e
              have s45 := (hy 2 _ 45 rfl rfl).trans e2
              have s45' := s45
              rw [Array.getD_eq_getD_getElem?] at s45'
              have s46 := (hy 3 _ 46 rfl rfl).trans e3
              have s46' := s46
              rw [Array.getD_eq_getD_getElem?] at s46'
              have s50 := (hy 7 _ 50 rfl rfl).trans e7
              have s50' := s50
              rw [Array.getD_eq_getD_getElem?] at s50'
              clear hd hy hb
              go_simp
              exact hK.out _ W (stp_of hmo d (Below.refl _ _)) (if_pos rfl)
            case o9 =>
              intro At yy W hy hb d hd K hK
              have e8 : yy 8 = .agg #[.int .i64 (i : Int), .int .i64 (a : Int), .int .i64 (t : Int)] := by obtain ⟨_, _, _, _, e⟩ := hd ⟨8, .data⟩ (by simp) rfl rfl; exact e
              have s51 := (hy 8 _ 51 rfl rfl).trans e8
              have s51' := s51
              rw [Array.getD_eq_getD_getElem?] at s51'
              clear hd hy hb
              go_simp
              exact hK.out _ _ (stp_of hmo d ((Below.refl _ _).alloc (Nat.le_refl _) _)) ⟨if_pos rfl, d.size, by simp, World.alloc_heap_new _ _⟩
            case fin =>
              intro yy lo hi W hM
              show wpList _ _ _ [_, _, _] _ _
              have e0 : yy 0 = .pointer (some ⟨p5, 4, none⟩) := hM.fact 0 (by simp) rfl (notR_all 0 rfl)
              have e1 : yy 1 = .slice tE nE kE := hM.fact 1 (by simp) rfl (notR_all 1 rfl)
              have e2 : yy 2 = .int .i64 (i : Int) := hM.fact 2 (by simp) rfl (notR_all 2 rfl)
              have e3 : yy 3 = .int .i64 (a : Int) := hM.fact 3 (by simp) rfl (notR_all 3 rfl)
              have e4 : yy 4 = .agg #[.int .i64 (N : Int), .int .i64 (M : Int), .int .i64 (st : Int), .slice aF lF cF, .slice aN lN cN] := hM.fact 4 (by simp) rfl (notR_all 4 rfl)
              have e5 : yy 5 = .int .i64 (i : Int) := hM.fact 5 (by simp) rfl (notR_all 5 rfl)
              have e6 : yy 6 = .int .i64 (a : Int) := hM.fact 6 (by simp) rfl (notR_all 6 rfl)
              have e7 : yy 7 = .int .i64 (t : Int) := hM.fact 7 (by simp) rfl (notR_all 7 rfl)
              have e8 : yy 8 = .agg #[.int .i64 (i : Int), .int .i64 (a : Int), .int .i64 (t : Int)] := hM.fact 8 (by simp) rfl (notR_all 8 rfl)
              obtain ⟨e9, b9, l9, z9⟩ := hM.fact 9 (by simp) rfl (notR_all 9 rfl)
              have dd := hM.d
              simp only [fills, Act.put, List.take, List.length, List.setIfInBounds_toArray, List.set_cons_zero, List.set_cons_succ, e0, e1, e2, e3, e4, e5, e6, e7, e8, e9]
              generalize lo 9 = p9 at z9 b9 l9 ⊢
              clear hM hmo e9 e0 e1 e2 e3 e4 e5 e6 e7 e8
              have HR2 := hide (HR.out.1.on dd)
              have HD2 := hide (And.intro (HR.out.2.trans (dd.mono HR.out.2.size)) (Nat.le_trans HR.out.2.size dd.size))
              clear dd
              refine dwpList_appE rfl _ _ rfl w1.heap.size (.slice tE nE kE) (edF Nx M (i * M + a)) rfl HR2.out.e p9 ((i : Int), (a : Int), (t : Int)) rfl z9 HLE.out HD2.out.2 ?_
              intro bE nE2 cE w8 hoE hnE hgE
              rw [← HED.out] at hoE
              have HR3 := hide (HR2.out.app hoE.out hgE.out HB5.out)
              have y4 : w8.cell? ⟨p5, 4, none⟩ = some (.slice tE nE kE) := cell_of HR3.out.2.1 rfl
              have g4 : w8.frozen? ⟨p5, 4, none⟩ = false := fz_of HR3.out.2.1
              have HD3 := hide (HD2.out.1.trans (HR3.out.2.2.toBelow HD2.out.2 (fun k hk => hk)))
              clear HR2 z9 b9 l9 hoE hnE hgE
              go_wp2_with fail
              go_roundw
              case rel => exact ⟨a + 1, by omega, by go_num, hide ⟨_, _, _, HR3.out.1, HD3.out⟩⟩
              case measure => simp [intOf]; omega
          · obtain rfl : a = M := by omega
            have HE : Hid (∃ tE nE kE, AuR w1.heap.size wr p5 N a gs gl nl kl st L (.slice tE nE kE) (edF Nx a ((i + 1) * a)) ∧ Below w1.heap.size w1 wr) := hide (by rw [Nat.succ_mul]; exact HR.out)
            clear HR
            go_wp2_with fail
            go_roundw
            case rel => exact ⟨i + 1, by omega, by go_num, HE⟩
            case measure => simp [intOf]; omega
      · obtain rfl : i = N := by omega
        obtain ⟨tE, nE, kE, HR⟩ : ∃ tE nE kE, Hid (AuR w1.heap.size wr p5 i M gs gl nl kl st L (.slice tE nE kE) (edF Nx M (i * M)) ∧ Below w1.heap.size w1 wr) := by
          obtain ⟨tE, nE, kE, h⟩ := HR.out
          exact ⟨tE, nE, kE, hide h⟩
        have Fb := HR.out.1.b
        have k0 : wr.cell? ⟨p5, 0, none⟩ = some (.int .i64 (i : Int)) := cell_of Fb rfl
        have k1 : wr.cell? ⟨p5, 1, none⟩ = some (.int .i64 (M : Int)) := cell_of Fb rfl
        have k2 : wr.cell? ⟨p5, 2, none⟩ = some (.slice (some ⟨gs, 0, none⟩) 1 1) := cell_of Fb rfl
        have k3 : wr.cell? ⟨p5, 3, none⟩ = some (.slice (some ⟨gl, 0, none⟩) nl kl) := cell_of Fb rfl
        have k4 : wr.cell? ⟨p5, 4, none⟩ = some (.slice tE nE kE) := cell_of Fb rfl
        have F3 := blk_on H1.out.2.1 HR.out.2
        have o0 : wr.cell? ⟨w.heap.size + 1, 0, none⟩ = some (.int .i64 0) := cell_of F3 rfl
        have f0 : wr.frozen? ⟨w.heap.size + 1, 0, none⟩ = false := fz_of F3
        have o1 : wr.cell? ⟨w.heap.size + 1, 1, none⟩ = some (.int .i64 0) := cell_of F3 rfl
        have f1 : wr.frozen? ⟨w.heap.size + 1, 1, none⟩ = false := fz_of F3
        have o2 : wr.cell? ⟨w.heap.size + 1, 2, none⟩ = some (.slice none 0 0) := cell_of F3 rfl
        have f2 : wr.frozen? ⟨w.heap.size + 1, 2, none⟩ = false := fz_of F3
        have o3 : wr.cell? ⟨w.heap.size + 1, 3, none⟩ = some (.slice none 0 0) := cell_of F3 rfl
        have f3 : wr.frozen? ⟨w.heap.size + 1, 3, none⟩ = false := fz_of F3
        have o4 : wr.cell? ⟨w.heap.size + 1, 4, none⟩ = some (.slice none 0 0) := cell_of F3 rfl
        have f4 : wr.frozen? ⟨w.heap.size + 1, 4, none⟩ = false := fz_of F3
        have O6 := hide (And.intro (set5 wr (w.heap.size + 1) _ _ _ _ _ (.int .i64 (i : Int)) (.int .i64 (M : Int)) (.slice (some ⟨gs, 0, none⟩) 1 1) (.slice (some ⟨gl, 0, none⟩) nl kl) (.slice tE nE kE) 25 F3) (only5 wr (w.heap.size + 1) (.int .i64 (i : Int)) (.int .i64 (M : Int)) (.slice (some ⟨gs, 0, none⟩) 1 1) (.slice (some ⟨gl, 0, none⟩) nl kl) (.slice tE nE kE)))
        clear F3 Fb
        go_wp2_with fail
        refine bodyPost_ret (results_c1 (p := 2) (q := 3) (ty := 25) rfl _ _ (w.heap.size + 1) 25 _ (0, 0) _ _ rfl rfl O6.out.1 Tryz.underlying25 rfl (by kernel_rfl)) rfl ?_
        have hs := H1.out.2.2.1
        have hs2 := HR.out.2.size
        refine ⟨_, _, _, rfl, own_low (row_only HR.out.1.s O6.out.2 (fun k hk e => by have := (HR.out.1.s.lt k hk).1; omega)) (by omega), ?_, own_low (row_only HR.out.1.e O6.out.2 (fun k hk e => by have := (HR.out.1.e.lt k hk).1; omega)) (by omega), (H1.out.2.2.2.trans (HR.out.2.mono (by omega))).trans (O6.out.2.toBelow (by omega) (fun k hk => by omega))⟩
        unfold OwI
        rw [natI_len, HL.out.2]
        exact own_low (row_only HR.out.1.f O6.out.2 (fun k hk e => by have := (HR.out.1.f.lt k hk).1; omega)) (by omega)
/-! ### oneWay -/
def wk62 (B : Nat) : MkP := fun x lo hi W => x = .pointer (some ⟨lo, 0, none⟩) ∧ B ≤ lo ∧ lo < hi ∧ ∃ a b c, W.heap[lo]? = some (.cells #[a, b, c] 62 (0, 0))
theorem wk62_mono {B : Nat} : MonoP (wk62 B) := fun _ _ _ _ _ hs d ⟨e, l, l2, a, b, c, z⟩ => ⟨e, l, l2, a, b, c, (d.block _ (by omega)).trans z⟩
theorem wk62_keep {B p lo hi : Nat} {x a b c : Value} {W W' : World} (h : wk62 B x lo hi W) (z : W'.heap[p]? = some (.cells #[a, b, c] 62 (0, 0))) (o : Only W W' (fun k => k = p)) : wk62 B x lo hi W' := by
  obtain ⟨e, l, l2, a', b', c', z'⟩ := h
  refine ⟨e, l, l2, ?_⟩
  by_cases q : lo = p
  · subst q
    exact ⟨a, b, c, z⟩
  · exact ⟨a', b', c', (o.block lo (Array.getElem?_eq_some_iff.1 z').1 q).trans z'⟩
def clF (x y : EdT) : Prop := y.1 = x.1 ∧ y.2.1 = x.2.1
instance (x y : EdT) : Decidable (clF x y) := inferInstanceAs (Decidable (_ ∧ _))
/-- No two edges side by side go from one state by one symbol. -/
def owB (Ed : List EdT) (k : Nat) : Bool := (List.range k).all fun j => !decide (clF (Ed.getD j (0, 0, 0)) (Ed.getD (j + 1) (0, 0, 0)))
theorem owB_up (Ed : List EdT) (k : Nat) : owB Ed (k + 1) = (owB Ed k && !decide (clF (Ed.getD k (0, 0, 0)) (Ed.getD (k + 1) (0, 0, 0)))) := by
  unfold owB
  rw [List.range_succ, List.all_append]
  simp
theorem owB_bad {Ed : List EdT} {j k : Nat} (hj : j < k) (h : clF (Ed.getD j (0, 0, 0)) (Ed.getD (j + 1) (0, 0, 0))) : owB Ed k = false := by
  unfold owB
  rw [List.all_eq_false]
  exact ⟨j, List.mem_range.2 hj, by simpa using h⟩
set_option maxRecDepth 100000 in
set_option maxHeartbeats 16000000 in
theorem oneWay_any (w : World) (n m : Int) (a1 a2 : Option Addr) (g3 lS lF lE c1 c2 c3 : Nat) (Ed : List EdT) (hE : RdE w (some ⟨g3, 0, none⟩) Ed) (hlE : Ed.length = lE) (hl : lE ≤ 4194304) (hS : lS ≤ 4194304) :
    Calls Tryz.prog 61 #[.agg #[.int .i64 n, .int .i64 m, .slice a1 lS c1, .slice a2 lF c2, .slice (some ⟨g3, 0, none⟩) lE c3]] w fun e w' => e = .returned (.bool (decide (lS ≤ 1) && owB Ed (lE - 1))) ∧ Below w.heap.size w w' := by
  obtain ⟨W0, hW0⟩ : ∃ W0, w.alloc (.cells #[.int .i64 n, .int .i64 m, .slice a1 lS c1, .slice a2 lF c2, .slice (some ⟨g3, 0, none⟩) lE c3] 25) = W0 := ⟨_, rfl⟩
  have d0 : Below w.heap.size w W0 := by rw [← hW0]; exact (Below.refl _ _).alloc (Nat.le_refl _) _
  have B0 : W0.heap[w.heap.size]? = some (.cells #[.int .i64 n, .int .i64 m, .slice a1 lS c1, .slice a2 lF c2, .slice (some ⟨g3, 0, none⟩) lE c3] 25 (0, 0)) := by rw [← hW0]; exact World.alloc_heap_new _ _
  have HD := hide d0
  have HB0 := hide B0
  have HE0 := hide (hE.on d0)
  have HLE := hide hlE
  clear d0 B0 hE hlE
  go_enter Tryz.func61, Tryz.ntmps61
  go_upto_region 2 with fail
  clear hW0
  go_loopw [3] (fun iv wr => ∃ j : Nat, j ≤ lE - 1 ∧ iv = .int .i64 ((j : Int) + 1) ∧ Hid (Below W0.heap.size W0 wr ∧ owB Ed j = true)) (fun iv _ => lE + 1 - (intOf iv).toNat)
  case atStart => exact ⟨0, Nat.zero_le _, rfl, hide ⟨Below.refl _ _, rfl⟩⟩
  case round =>
    obtain ⟨j, hj, rfl, HR⟩ := hrel
    have y4 : wr.cell? ⟨w.heap.size, 4, none⟩ = some (.slice (some ⟨g3, 0, none⟩) lE c3) := cell_of (blk_on HB0.out HR.out.1) rfl
    by_cases hlt : j + 1 < lE
    · have HB := hide (blk_on HB0.out HR.out.1)
      obtain ⟨⟨x1, x2, x3⟩, hx⟩ : ∃ x, Ed.getD j (0, 0, 0) = x := ⟨_, rfl⟩
      obtain ⟨⟨y1, y2, y3⟩, hy⟩ : ∃ y, Ed.getD (j + 1) (0, 0, 0) = y := ⟨_, rfl⟩
      have HE : Hid (∀ W, Below wr.heap.size wr W → (W.cell? ⟨g3, j * 3, none⟩ = some (.int .i64 x1) ∧ W.cell? ⟨g3, j * 3 + 1, none⟩ = some (.int .i64 x2) ∧ W.cell? ⟨g3, j * 3 + 2, none⟩ = some (.int .i64 x3)) ∧ (W.cell? ⟨g3, (j + 1) * 3, none⟩ = some (.int .i64 y1) ∧ W.cell? ⟨g3, (j + 1) * 3 + 1, none⟩ = some (.int .i64 y2) ∧ W.cell? ⟨g3, (j + 1) * 3 + 2, none⟩ = some (.int .i64 y3))) := hide (fun W d => by
        have z := (HE0.out.on HR.out.1).on d
        obtain ⟨g, o, e, q1, q2, q3⟩ := z j (by rw [HLE.out]; omega)
        obtain ⟨g', o', e', q1', q2', q3'⟩ := z (j + 1) (by rw [HLE.out]; omega)
        injection e with e
        injection e with eg eo
        injection e' with e'
        injection e' with eg' eo'
        subst eg eo eg' eo'
        rw [List.getD_eq_getElem?_getD, List.getElem?_eq_getElem (by rw [HLE.out]; omega)] at hx hy
        have hx : Ed[j]'(by rw [HLE.out]; omega) = (x1, x2, x3) := hx
        have hy : Ed[j + 1]'(by rw [HLE.out]; omega) = (y1, y2, y3) := hy
        rw [hx] at q1 q2 q3
        rw [hy] at q1' q2' q3'
        simp only [Nat.zero_add] at q1 q2 q3 q1' q2' q3'
        exact ⟨⟨q1, q2, q3⟩, q1', q2', q3'⟩)
      have HCl : Hid ((y1 = x1 ∧ y2 = x2) → (decide (lS ≤ 1) && owB Ed (lE - 1)) = false) := hide (fun h => by
        rw [owB_bad (j := j) (by omega) (by rw [hx, hy]; exact h), Bool.and_false])
      have HNc : Hid (¬ (y1 = x1 ∧ y2 = x2) → owB Ed (j + 1) = true) := hide (fun h => by
        rw [owB_up, HR.out.2, hx, hy]
        simp only [Bool.true_and, Bool.not_eq_true', decide_eq_false_iff_not]
        exact h)
      clear hx hy
      have p1 : (j : Int) + 1 < (lE : Int) := by omega
      have p2 : (j : Int) < (lE : Int) := by omega
      have p3 : j < lE := by omega
      have pw : IntKind.i64.wrap (j : Int) = (j : Int) := by rw [IntKind.wrap_i64]; omega
      go_upto_region 4 with fail
      clear y4
      have hmo : MonIL 0 [vI 0 (.pointer (some ⟨w.heap.size, 4, none⟩)), vI 1 (.slice (some ⟨g3, 0, none⟩) lE c3), vI 2 (.int .i64 (j + 1 : Int)), vI 3 (.int .i64 (j : Int)), vI 4 (.pointer (some ⟨g3, j * 3, none⟩)), vI 5 (.agg #[.int .i64 x1, .int .i64 x2, .int .i64 x3]), vI 6 (.pointer (some ⟨w.heap.size, 4, none⟩)), vI 7 (.slice (some ⟨g3, 0, none⟩) lE c3), vI 8 (.int .i64 (j + 1 : Int)), vI 9 (.pointer (some ⟨g3, (j + 1) * 3, none⟩)), vI 10 (.agg #[.int .i64 y1, .int .i64 y2, .int .i64 y3]), pI 11 (wk62 wr.heap.size), pI 12 (wk62 wr.heap.size), ⟨[11], [], fun y _ _ W => ∃ p, y 11 = .pointer (some ⟨p, 0, none⟩) ∧ W.heap[p]? = some (.cells #[.int .i64 x1, .int .i64 x2, .int .i64 x3] 62 (0, 0))⟩] := ⟨vI_mono _ _, vI_mono _ _, vI_mono _ _, vI_mono _ _, vI_mono _ _, vI_mono _ _, vI_mono _ _, vI_mono _ _, vI_mono _ _, vI_mono _ _, vI_mono _ _, pI_mono wk62_mono, pI_mono wk62_mono, (fun _ _ _ _ _ _ _ d hy h => by dsimp only at hy h ⊢; rw [hy 11 (Or.inr (by simp))]; obtain ⟨p, e, z⟩ := h; exact ⟨p, e, blk_on z d⟩), trivial⟩
      refine wp_region_sl [vI 0 (.pointer (some ⟨w.heap.size, 4, none⟩)), vI 1 (.slice (some ⟨g3, 0, none⟩) lE c3), vI 2 (.int .i64 (j + 1 : Int)), vI 3 (.int .i64 (j : Int)), vI 4 (.pointer (some ⟨g3, j * 3, none⟩)), vI 5 (.agg #[.int .i64 x1, .int .i64 x2, .int .i64 x3]), vI 6 (.pointer (some ⟨w.heap.size, 4, none⟩)), vI 7 (.slice (some ⟨g3, 0, none⟩) lE c3), vI 8 (.int .i64 (j + 1 : Int)), vI 9 (.pointer (some ⟨g3, (j + 1) * 3, none⟩)), vI 10 (.agg #[.int .i64 y1, .int .i64 y2, .int .i64 y3]), pI 11 (wk62 wr.heap.size), pI 12 (wk62 wr.heap.size), ⟨[11], [], fun y _ _ W => ∃ p, y 11 = .pointer (some ⟨p, 0, none⟩) ∧ W.heap[p]? = some (.cells #[.int .i64 x1, .int .i64 x2, .int .i64 x3] 62 (0, 0))⟩] (by kernel_rfl) (by kernel_rfl) (by kernel_rfl) (by kernel_rfl) hmo ⟨?o0, ?o1, ?o2, ?o3, ?o4, ?o5, ?o6, ?o7, ?o8, ?o9, ?o10, ?o11, ?o12, ?o13, trivial⟩ ?fin
      case o0 =>
        intro At yy W hy hb d hd K hK
        have s1 : At.tmps.getD 1 undef = .pointer (some ⟨w.heap.size, 0, none⟩) := hb 1 rfl
        have s1' := s1
        rw [Array.getD_eq_getD_getElem?] at s1'
        clear hd hy hb
        go_simp
        exact hK.out _ W (stp_of hmo d (Below.refl _ _)) (if_pos rfl)
      case o1 =>
        intro At yy W hy hb d hd K hK
        have e0 : yy 0 = .pointer (some ⟨w.heap.size, 4, none⟩) := by obtain ⟨_, _, _, _, e⟩ := hd ⟨0, .data⟩ (by simp) rfl rfl; exact e
        have s13 := (hy 0 _ 13 rfl rfl).trans e0
        have s13' := s13
        rw [Array.getD_eq_getD_getElem?] at s13'
        clear hd hy hb
        have y4 : W.cell? ⟨w.heap.size, 4, none⟩ = some (.slice (some ⟨g3, 0, none⟩) lE c3) := cell_of (blk_on HB.out d) rfl
        go_simp
        exact hK.out _ W (stp_of hmo d (Below.refl _ _)) (if_pos rfl)
      case o2 =>
        intro At yy W hy hb d hd K hK
        have s3 : At.tmps.getD 3 undef = .int .i64 (j + 1 : Int) := hb 3 rfl
        have s3' := s3
        rw [Array.getD_eq_getD_getElem?] at s3'
        clear hd hy hb
        go_simp
        exact hK.out _ W (stp_of hmo d (Below.refl _ _)) (if_pos rfl)
      case o3 =>
        intro At yy W hy hb d hd K hK
        have e2 : yy 2 = .int .i64 (j + 1 : Int) := by obtain ⟨_, _, _, _, e⟩ := hd ⟨2, .data⟩ (by simp) rfl rfl; exact e
        have s15 := (hy 2 _ 15 rfl rfl).trans e2
        have s15' := s15
        rw [Array.getD_eq_getD_getElem?] at s15'
        clear hd hy hb
        go_simp
        exact hK.out _ W (stp_of hmo d (Below.refl _ _)) (if_pos rfl)
      case o4 =>
        intro At yy W hy hb d hd K hK
        have e1 : yy 1 = .slice (some ⟨g3, 0, none⟩) lE c3 := by obtain ⟨_, _, _, _, e⟩ := hd ⟨1, .data⟩ (by simp) rfl rfl; exact e
        have e3 : yy 3 = .int .i64 (j : Int) := by obtain ⟨_, _, _, _, e⟩ := hd ⟨3, .data⟩ (by simp) rfl rfl; exact e
        have s14 := (hy 1 _ 14 rfl rfl).trans e1
        have s14' := s14
        rw [Array.getD_eq_getD_getElem?] at s14'
        have s16 := (hy 3 _ 16 rfl rfl).trans e3
        have s16' := s16
        rw [Array.getD_eq_getD_getElem?] at s16'
        clear hd hy hb
        go_simp
        exact hK.out _ W (stp_of hmo d (Below.refl _ _)) (if_pos rfl)
      case o5 =>
        intro At yy W hy hb d hd K hK
        have e4 : yy 4 = .pointer (some ⟨g3, j * 3, none⟩) := by obtain ⟨_, _, _, _, e⟩ := hd ⟨4, .data⟩ (by simp) rfl rfl; exact e
        have s17 := (hy 4 _ 17 rfl rfl).trans e4
        have s17' := s17
        rw [Array.getD_eq_getD_getElem?] at s17'
        clear hd hy hb
        have x0 := (HE.out W d).1.1
        have x1 := (HE.out W d).1.2.1
        have x2 := (HE.out W d).1.2.2
        go_simp
        exact hK.out _ W (stp_of hmo d (Below.refl _ _)) (if_pos rfl)
      case o6 =>
        intro At yy W hy hb d hd K hK
        have s1 : At.tmps.getD 1 undef = .pointer (some ⟨w.heap.size, 0, none⟩) := hb 1 rfl
        have s1' := s1
        rw [Array.getD_eq_getD_getElem?] at s1'
        clear hd hy hb
        go_simp
        exact hK.out _ W (stp_of hmo d (Below.refl _ _)) (if_pos rfl)
      case o7 =>
        intro At yy W hy hb d hd K hK
        have e6 : yy 6 = .pointer (some ⟨w.heap.size, 4, none⟩) := by obtain ⟨_, _, _, _, e⟩ := hd ⟨6, .data⟩ (by simp) rfl rfl; exact e
        have s19 := (hy 6 _ 19 rfl rfl).trans e6
        have s19' := s19
        rw [Array.getD_eq_getD_getElem?] at s19'
        clear hd hy hb
        have y4 : W.cell? ⟨w.heap.size, 4, none⟩ = some (.slice (some ⟨g3, 0, none⟩) lE c3) := cell_of (blk_on HB.out d) rfl
        go_simp
        exact hK.out _ W (stp_of hmo d (Below.refl _ _)) (if_pos rfl)
      case o8 =>
        intro At yy W hy hb d hd K hK
        have s3 : At.tmps.getD 3 undef = .int .i64 (j + 1 : Int) := hb 3 rfl
        have s3' := s3
        rw [Array.getD_eq_getD_getElem?] at s3'
        clear hd hy hb
        go_simp
        exact hK.out _ W (stp_of hmo d (Below.refl _ _)) (if_pos rfl)
      case o9 =>
        intro At yy W hy hb d hd K hK
        have e7 : yy 7 = .slice (some ⟨g3, 0, none⟩) lE c3 := by obtain ⟨_, _, _, _, e⟩ := hd ⟨7, .data⟩ (by simp) rfl rfl; exact e
        have e8 : yy 8 = .int .i64 (j + 1 : Int) := by obtain ⟨_, _, _, _, e⟩ := hd ⟨8, .data⟩ (by simp) rfl rfl; exact e
        have s20 := (hy 7 _ 20 rfl rfl).trans e7
        have s20' := s20
        rw [Array.getD_eq_getD_getElem?] at s20'
        have s21 := (hy 8 _ 21 rfl rfl).trans e8
        have s21' := s21
        rw [Array.getD_eq_getD_getElem?] at s21'
        clear hd hy hb
        go_simp
        exact hK.out _ W (stp_of hmo d (Below.refl _ _)) (if_pos rfl)
      case o10 =>
        intro At yy W hy hb d hd K hK
        have e9 : yy 9 = .pointer (some ⟨g3, (j + 1) * 3, none⟩) := by obtain ⟨_, _, _, _, e⟩ := hd ⟨9, .data⟩ (by simp) rfl rfl; exact e
        have s22 := (hy 9 _ 22 rfl rfl).trans e9
        have s22' := s22
        rw [Array.getD_eq_getD_getElem?] at s22'
        clear hd hy hb
        have y0 := (HE.out W d).2.1
        have y1 := (HE.out W d).2.2.1
        have y2 := (HE.out W d).2.2.2
        go_simp
        exact hK.out _ W (stp_of hmo d (Below.refl _ _)) (if_pos rfl)
      case o11 =>
        intro At yy W hy hb d hd K hK
        clear hd hy hb
        go_simp
        exact hK.out _ _ (stp_of hmo d ((Below.refl _ _).alloc (Nat.le_refl _) _)) ⟨if_pos rfl, d.size, by simp, _, _, _, World.alloc_heap_new _ _⟩
      case o12 =>
        intro At yy W hy hb d hd K hK
        clear hd hy hb
        go_simp
        exact hK.out _ _ (stp_of hmo d ((Below.refl _ _).alloc (Nat.le_refl _) _)) ⟨if_pos rfl, d.size, by simp, _, _, _, World.alloc_heap_new _ _⟩
      case o13 =>
        intro At yy W hy hb d hd K hK
        have f11 := hd ⟨11, .data⟩ (by simp) rfl rfl
        have e5 : yy 5 = .agg #[.int .i64 x1, .int .i64 x2, .int .i64 x3] := by obtain ⟨_, _, _, _, e⟩ := hd ⟨5, .data⟩ (by simp) rfl rfl; exact e
        obtain ⟨l11, u11, q11, r11, e11, lt11, ll11, o1, o2, o3, z11⟩ := f11
        have s4 := (hy 11 _ 4 rfl rfl).trans e11
        have s4' := s4
        rw [Array.getD_eq_getD_getElem?] at s4'
        have s18 := (hy 5 _ 18 rfl rfl).trans e5
        have s18' := s18
        rw [Array.getD_eq_getD_getElem?] at s18'
        clear hd hy hb
        have k0 : W.cell? ⟨l11, 0, none⟩ = some o1 := cell_of z11 rfl
        have k1 : W.cell? ⟨l11, 1, none⟩ = some o2 := cell_of z11 rfl
        have k2 : W.cell? ⟨l11, 2, none⟩ = some o3 := cell_of z11 rfl
        have f0 : W.frozen? ⟨l11, 0, none⟩ = false := fz_of z11
        have f1 : W.frozen? ⟨l11, 1, none⟩ = false := fz_of z11
        have f2 : W.frozen? ⟨l11, 2, none⟩ = false := fz_of z11
        have O6 := And.intro (set3 W l11 o1 o2 o3 (.int .i64 x1) (.int .i64 x2) (.int .i64 x3) 62 z11) (only3 W l11 0 1 2 (.int .i64 x1) (.int .i64 x2) (.int .i64 x3))
        go_simp
        exact hK.out undef _ (stp_keeps [] rfl (d.trans (O6.2.toBelow d.size (fun k hk => by omega))) O6.2.size ⟨.inr (fun _ _ _ h => h), .inr (fun _ _ _ h => h), .inr (fun _ _ _ h => h), .inr (fun _ _ _ h => h), .inr (fun _ _ _ h => h), .inr (fun _ _ _ h => h), .inr (fun _ _ _ h => h), .inr (fun _ _ _ h => h), .inr (fun _ _ _ h => h), .inr (fun _ _ _ h => h), .inr (fun _ _ _ h => h), .inr (fun lo hi _ h => wk62_keep h O6.1 O6.2), .inr (fun lo hi _ h => wk62_keep h O6.1 O6.2), .inl (by simp), trivial⟩) ⟨l11, by rw [show ∀ x, updV yy 13 x 11 = yy 11 from fun x => if_neg (by decide)]; exact e11, O6.1⟩
      case fin =>
        intro yy lo hi W hM
        show wpList _ _ _ [_] _ _
        have e0 : yy 0 = .pointer (some ⟨w.heap.size, 4, none⟩) := hM.fact 0 (by simp) rfl (notR_all 0 rfl)
        have e1 : yy 1 = .slice (some ⟨g3, 0, none⟩) lE c3 := hM.fact 1 (by simp) rfl (notR_all 1 rfl)
        have e2 : yy 2 = .int .i64 (j + 1 : Int) := hM.fact 2 (by simp) rfl (notR_all 2 rfl)
        have e3 : yy 3 = .int .i64 (j : Int) := hM.fact 3 (by simp) rfl (notR_all 3 rfl)
        have e4 : yy 4 = .pointer (some ⟨g3, j * 3, none⟩) := hM.fact 4 (by simp) rfl (notR_all 4 rfl)
        have e5 : yy 5 = .agg #[.int .i64 x1, .int .i64 x2, .int .i64 x3] := hM.fact 5 (by simp) rfl (notR_all 5 rfl)
        have e6 : yy 6 = .pointer (some ⟨w.heap.size, 4, none⟩) := hM.fact 6 (by simp) rfl (notR_all 6 rfl)
        have e7 : yy 7 = .slice (some ⟨g3, 0, none⟩) lE c3 := hM.fact 7 (by simp) rfl (notR_all 7 rfl)
        have e8 : yy 8 = .int .i64 (j + 1 : Int) := hM.fact 8 (by simp) rfl (notR_all 8 rfl)
        have e9 : yy 9 = .pointer (some ⟨g3, (j + 1) * 3, none⟩) := hM.fact 9 (by simp) rfl (notR_all 9 rfl)
        have e10 : yy 10 = .agg #[.int .i64 y1, .int .i64 y2, .int .i64 y3] := hM.fact 10 (by simp) rfl (notR_all 10 rfl)
        obtain ⟨e11, b11, l11, _, _, _, _⟩ := hM.fact 11 (by simp) rfl (notR_all 11 rfl)
        obtain ⟨e12, b12, l12, v1, v2, v3, z12⟩ := hM.fact 12 (by simp) rfl (notR_all 12 rfl)
        have F13 : ∃ p, yy 11 = .pointer (some ⟨p, 0, none⟩) ∧ W.heap[p]? = some (.cells #[.int .i64 x1, .int .i64 x2, .int .i64 x3] 62 (0, 0)) := hM.fact 13 (by simp) rfl (notR_all 13 rfl)
        have ap := hM.apart 11 12 (by simp) (by simp) rfl rfl (by decide)
        have dd := hM.d
        simp only [fills, Act.put, List.take, List.length, List.setIfInBounds_toArray, List.set_cons_zero, List.set_cons_succ, e0, e1, e2, e3, e4, e5, e6, e7, e8, e9, e10, e11, e12]
        obtain ⟨p, ep, z11⟩ := F13
        rw [e11] at ep
        injection ep with ep
        injection ep with ep
        injection ep with ep
        have hne : lo 11 ≠ lo 12 := by omega
        subst ep
        generalize lo 12 = p5 at z12 b12 hne ⊢
        generalize lo 11 = p4 at z11 b11 hne ⊢
        clear hM hmo ap e11 e12 l11 l12 e0 e1 e2 e3 e4 e5 e6 e7 e8 e9 e10
        have k0 : W.cell? ⟨p5, 0, none⟩ = some v1 := cell_of z12 rfl
        have k1 : W.cell? ⟨p5, 1, none⟩ = some v2 := cell_of z12 rfl
        have k2 : W.cell? ⟨p5, 2, none⟩ = some v3 := cell_of z12 rfl
        have f0 : W.frozen? ⟨p5, 0, none⟩ = false := fz_of z12
        have f1 : W.frozen? ⟨p5, 1, none⟩ = false := fz_of z12
        have f2 : W.frozen? ⟨p5, 2, none⟩ = false := fz_of z12
        have O6 := hide (And.intro (set3 W p5 v1 v2 v3 (.int .i64 y1) (.int .i64 y2) (.int .i64 y3) 62 z12) (only3 W p5 0 1 2 (.int .i64 y1) (.int .i64 y2) (.int .i64 y3)))
        obtain ⟨W6, hW6⟩ : ∃ V, (((W.setCell ⟨p5, 0, none⟩ (.int .i64 y1)).setCell ⟨p5, 1, none⟩ (.int .i64 y2)).setCell ⟨p5, 2, none⟩ (.int .i64 y3)) = V := ⟨_, rfl⟩
        rw [hW6] at O6
        have z4 : W6.heap[p4]? = _ := (O6.out.2.block p4 (Array.getElem?_eq_some_iff.1 z11).1 (fun e => hne e)).trans z11
        have HD6 := hide (dd.trans (O6.out.2.toBelow dd.size (fun k hk => by omega)))
        go_upto_region 5 with fail
        try rw [hW6]
        clear k0 k1 k2 f0 f1 f2 z12 z11 b11 b12 dd
        have x0 : W6.cell? ⟨p4, 0, none⟩ = some (.int .i64 x1) := cell_of z4 rfl
        have xx1 : W6.cell? ⟨p4, 1, none⟩ = some (.int .i64 x2) := cell_of z4 rfl
        have yy0 : W6.cell? ⟨p5, 0, none⟩ = some (.int .i64 y1) := cell_of O6.out.1 rfl
        have yy1 : W6.cell? ⟨p5, 1, none⟩ = some (.int .i64 y2) := cell_of O6.out.1 rfl
        clear z4 hW6 O6 hne
        by_cases c1 : x1 = y1
        · by_cases c2 : x2 = y2
          · have HCL := hide (HCl.out (by rw [c1, c2]; exact ⟨rfl, rfl⟩))
            have g1 : (x1 == y1) = true := by simp [c1]
            have g2 : (x2 == y2) = true := by simp [c2]
            clear c1 c2
            go_wp2_with fail
            go_ret
            exact ⟨by rw [HCL.out]; rfl, HD.out.trans ((HR.out.1.trans (HD6.out.mono HR.out.1.size)).mono HD.out.size)⟩
          · have HNC := hide (HNc.out (fun e => c2 e.2.symm))
            have g1 : (x1 == y1) = true := by simp [c1]
            have g2 : (x2 == y2) = false := by simp [c2]
            clear c1 c2
            go_wp2_with fail
            go_roundw
            case rel => exact ⟨j + 1, by omega, by go_num, hide ⟨HR.out.1.trans (HD6.out.mono HR.out.1.size), HNC.out⟩⟩
            case measure => simp [intOf]; omega
        · have HNC := hide (HNc.out (fun e => c1 e.1.symm))
          have g1 : (x1 == y1) = false := by simp [c1]
          clear c1
          go_wp2_with fail
          go_roundw
          case rel => exact ⟨j + 1, by omega, by go_num, hide ⟨HR.out.1.trans (HD6.out.mono HR.out.1.size), HNC.out⟩⟩
          case measure => simp [intOf]; omega
    · have HF : Hid (owB Ed (lE - 1) = true) := hide (by
        obtain rfl : j = lE - 1 := by omega
        exact HR.out.2)
      have y2 : wr.cell? ⟨w.heap.size, 2, none⟩ = some (.slice a1 lS c1) := cell_of (blk_on HB0.out HR.out.1) rfl
      have p1 : ¬ (j : Int) + 1 < (lE : Int) := by omega
      go_wp2_with fail
      go_ret
      refine ⟨?_, HD.out.trans (HR.out.1.mono HD.out.size)⟩
      rw [HF.out, Bool.and_true]
      show Ending.returned (Value.bool (decide ((lS : Int) ≤ 1))) = _
      rw [show decide ((lS : Int) ≤ 1) = decide (lS ≤ 1) from by by_cases h : lS ≤ 1 <;> simp [h] <;> omega]
/-! ### Single -/
set_option maxRecDepth 100000 in
set_option maxHeartbeats 4000000 in
theorem single_bad (w : World) (n m : Int) (a1 a2 a3 : Option Addr) (c1 c2 c3 : Nat) (St Fi : List Int) (Ed : List EdT) (hA : Hid (RdA w a1 a2 a3 St Fi Ed)) (h1 : St.length ≤ 4194304) (h2 : Fi.length ≤ 4194304) (h3 : Ed.length ≤ 4194304) (em : mayA n m St Fi Ed = false) :
    Calls Tryz.prog 17 #[.agg #[.int .i64 n, .int .i64 m, .slice a1 St.length c1, .slice a2 Fi.length c2, .slice a3 Ed.length c3]] w fun e w' => e = .returned (.tuple #[.bool false, .int .i64 2]) ∧ Below w.heap.size w w' := by
  obtain ⟨W0, hW0⟩ : ∃ W0, w.alloc (.cells #[.int .i64 n, .int .i64 m, .slice a1 St.length c1, .slice a2 Fi.length c2, .slice a3 Ed.length c3] 25) = W0 := ⟨_, rfl⟩
  have d0 : Below w.heap.size w W0 := by rw [← hW0]; exact (Below.refl _ _).alloc (Nat.le_refl _) _
  have B0 : W0.heap[w.heap.size]? = some (.cells #[.int .i64 n, .int .i64 m, .slice a1 St.length c1, .slice a2 Fi.length c2, .slice a3 Ed.length c3] 25 (0, 0)) := by rw [← hW0]; exact World.alloc_heap_new _ _
  have HD := hide d0
  have y0 : W0.cell? ⟨w.heap.size, 0, none⟩ = some (.int .i64 n) := cell_of B0 rfl
  have y1 : W0.cell? ⟨w.heap.size, 1, none⟩ = some (.int .i64 m) := cell_of B0 rfl
  have y2 : W0.cell? ⟨w.heap.size, 2, none⟩ = some (.slice a1 St.length c1) := cell_of B0 rfl
  have y3 : W0.cell? ⟨w.heap.size, 3, none⟩ = some (.slice a2 Fi.length c2) := cell_of B0 rfl
  have y4 : W0.cell? ⟨w.heap.size, 4, none⟩ = some (.slice a3 Ed.length c3) := cell_of B0 rfl
  clear d0 B0
  have T1 := normal_bad W0 n m a1 a2 a3 c1 c2 c3 St Fi Ed (hide (hA.out.on HD.out)) h1 h2 h3 em
  go_enter Tryz.func17, Tryz.ntmps17
  go_wp2_with (go_at_call 45; refine T1.mono ?_; rintro e w1 ⟨rfl, d1⟩)
  refine bodyPost_ret (by simp [results, go_sem]; try rfl) rfl ?_
  exact ⟨rfl, HD.out.trans ((d1.alloc d1.size _).mono HD.out.size)⟩
set_option maxRecDepth 100000 in
set_option maxHeartbeats 4000000 in
theorem single_ok (w : World) (n m : Int) (a1 a2 a3 : Option Addr) (c1 c2 c3 : Nat) (St Fi : List Int) (Ed : List EdT) (hA : Hid (RdA w a1 a2 a3 St Fi Ed)) (h1 : St.length ≤ 4194304) (h2 : Fi.length ≤ 4194304) (h3 : Ed.length ≤ 4194304) (em : mayA n m St Fi Ed = true) :
    Calls Tryz.prog 17 #[.agg #[.int .i64 n, .int .i64 m, .slice a1 St.length c1, .slice a2 Fi.length c2, .slice a3 Ed.length c3]] w fun e w' => e = .returned (.tuple #[.bool (decide ((riseL St).length ≤ 1) && owB (riseE Ed) ((riseE Ed).length - 1)), .int .i64 0]) ∧ Below w.heap.size w w' := by
  obtain ⟨W0, hW0⟩ : ∃ W0, w.alloc (.cells #[.int .i64 n, .int .i64 m, .slice a1 St.length c1, .slice a2 Fi.length c2, .slice a3 Ed.length c3] 25) = W0 := ⟨_, rfl⟩
  have d0 : Below w.heap.size w W0 := by rw [← hW0]; exact (Below.refl _ _).alloc (Nat.le_refl _) _
  have B0 : W0.heap[w.heap.size]? = some (.cells #[.int .i64 n, .int .i64 m, .slice a1 St.length c1, .slice a2 Fi.length c2, .slice a3 Ed.length c3] 25 (0, 0)) := by rw [← hW0]; exact World.alloc_heap_new _ _
  have HD := hide d0
  have y0 : W0.cell? ⟨w.heap.size, 0, none⟩ = some (.int .i64 n) := cell_of B0 rfl
  have y1 : W0.cell? ⟨w.heap.size, 1, none⟩ = some (.int .i64 m) := cell_of B0 rfl
  have y2 : W0.cell? ⟨w.heap.size, 2, none⟩ = some (.slice a1 St.length c1) := cell_of B0 rfl
  have y3 : W0.cell? ⟨w.heap.size, 3, none⟩ = some (.slice a2 Fi.length c2) := cell_of B0 rfl
  have y4 : W0.cell? ⟨w.heap.size, 4, none⟩ = some (.slice a3 Ed.length c3) := cell_of B0 rfl
  clear d0 B0
  have T1 := normal_ok W0 n m a1 a2 a3 c1 c2 c3 St Fi Ed (hide (hA.out.on HD.out)) h1 h2 h3 em
  have HLn : Hid ((riseL St).length ≤ 4194304 ∧ (riseE Ed).length ≤ 4194304) := hide ⟨Nat.le_trans (riseL_len _) h1, Nat.le_trans (riseE_len _) h3⟩
  generalize riseL St = S1 at T1 HLn ⊢
  generalize riseL Fi = F1 at T1
  generalize riseE Ed = E1 at T1 HLn ⊢
  go_enter Tryz.func17, Tryz.ntmps17
  go_upto_region 2 with (go_at_call 45; refine T1.mono ?_; rintro e w1 ⟨g1, k1, g2, k2, g3, k3, rfl, hO, d1⟩; have H1 := hide (And.intro hO d1); clear hO d1 y0 y1 y2 y3 y4 T1; obtain ⟨p7, hp7⟩ : ∃ p, w1.heap.size = p := ⟨_, rfl⟩)
  obtain ⟨W2, hW2⟩ : ∃ W, w1.alloc (.cells #[.int .i64 n, .int .i64 m, .slice (some ⟨g1, 0, none⟩) S1.length k1, .slice (some ⟨g2, 0, none⟩) F1.length k2, .slice (some ⟨g3, 0, none⟩) E1.length k3] 25) = W := ⟨_, rfl⟩
  try rw [hp7]
  rw [hW2]
  have D2 := hide (show Below w1.heap.size w1 W2 by rw [← hW2]; exact (Below.refl _ _).alloc (Nat.le_refl _) _)
  have B7 : W2.heap[p7]? = some (.cells #[.int .i64 n, .int .i64 m, .slice (some ⟨g1, 0, none⟩) S1.length k1, .slice (some ⟨g2, 0, none⟩) F1.length k2, .slice (some ⟨g3, 0, none⟩) E1.length k3] 25 (0, 0)) := by rw [← hW2, ← hp7]; exact World.alloc_heap_new _ _
  clear hW2 hp7 hW0
  have z0 : W2.cell? ⟨p7, 0, none⟩ = some (.int .i64 n) := cell_of B7 rfl
  have z1 : W2.cell? ⟨p7, 1, none⟩ = some (.int .i64 m) := cell_of B7 rfl
  have z2 : W2.cell? ⟨p7, 2, none⟩ = some (.slice (some ⟨g1, 0, none⟩) S1.length k1) := cell_of B7 rfl
  have z3 : W2.cell? ⟨p7, 3, none⟩ = some (.slice (some ⟨g2, 0, none⟩) F1.length k2) := cell_of B7 rfl
  have z4 : W2.cell? ⟨p7, 4, none⟩ = some (.slice (some ⟨g3, 0, none⟩) E1.length k3) := cell_of B7 rfl
  clear B7
  have TO := oneWay_any W2 n m (some ⟨g1, 0, none⟩) (some ⟨g2, 0, none⟩) g3 S1.length F1.length E1.length k1 k2 k3 E1 ((H1.out.1.rd.on D2.out).e) rfl HLn.out.2 HLn.out.1
  obtain ⟨bb, hbb⟩ : ∃ b, (decide (S1.length ≤ 1) && owB E1 (E1.length - 1)) = b := ⟨_, rfl⟩
  rw [hbb] at TO
  go_wp2_with (go_at_call 61; refine TO.mono ?_; rintro e w3 ⟨rfl, d3⟩)
  refine bodyPost_ret (by simp [results, go_sem]; try rfl) rfl ?_
  exact ⟨by rw [hbb], HD.out.trans (((H1.out.2.trans (D2.out.mono H1.out.2.size)).trans (d3.mono (Nat.le_trans H1.out.2.size D2.out.size))).mono HD.out.size)⟩
/-! ### The reference: valid; in -/
set_option maxRecDepth 100000 in
set_option maxHeartbeats 4000000 in
theorem rwithin_yes (w : World) (ao : Option Addr) (cp : Nat) (n : Int) (L : List Int) (hA : Hid (RdN w ao L)) (hl : L.length ≤ 4194304) (hin : ∀ x ∈ L, 0 ≤ x ∧ x < n) :
    Calls Tryz.prog 55 #[.slice ao L.length cp, .int .i64 n] w fun e w' => e = .returned (.bool true) ∧ w' = w := by
  have HI := hide hin
  clear hin
  go_enter Tryz.func55, Tryz.ntmps55
  go_wp2
  go_loopw [5] (fun iv wr => ∃ i : Nat, i ≤ L.length ∧ iv = .int .i64 (i : Int) ∧ wr = w) (fun iv _ => L.length - (intOf iv).toNat)
  case atStart => exact ⟨0, Nat.zero_le _, rfl, rfl⟩
  case round =>
    obtain ⟨i, hi, rfl, rfl⟩ := hrel
    by_cases hlt : i < L.length
    · have l0 : (i : Int) < (L.length : Int) := by omega
      obtain ⟨g, o, hao, q⟩ := hA.out i hlt
      subst hao
      obtain ⟨i1, i2⟩ := HI.out _ (List.getElem_mem hlt)
      generalize L[i] = x at q i1 i2
      go_wp2_with fail
      go_roundw
      case rel => exact ⟨i + 1, by omega, by go_num, trivial⟩
      case measure => simp [intOf]; omega
    · have l0 : ¬ (i : Int) < (L.length : Int) := by omega
      go_wp2_with fail
      go_ret
      exact ⟨rfl, rfl⟩
set_option maxRecDepth 100000 in
set_option maxHeartbeats 4000000 in
theorem in_any (w : World) (ao : Option Addr) (n cp : Nat) (x : Int) (L : List Int) (hA : Hid (RdN w ao L)) (hn : L.length = n) (hl : n ≤ 4194304) :
    Calls Tryz.prog 11 #[.slice ao n cp, .int .i64 x] w fun e w' => e = .returned (.bool (decide (x ∈ L))) ∧ w' = w := by
  have HN := hide hn
  clear hn
  go_enter Tryz.func11, Tryz.ntmps11
  go_wp2
  go_loopw [8] (fun iv wr => ∃ i : Nat, i ≤ n ∧ iv = .int .i64 (i : Int) ∧ wr = w ∧ Hid (∀ j (h : j < L.length), j < i → L[j] ≠ x)) (fun iv _ => n - (intOf iv).toNat)
  case atStart => exact ⟨0, Nat.zero_le _, rfl, rfl, hide (fun j _ h => absurd h (Nat.not_lt_zero _))⟩
  case round =>
    obtain ⟨i, hi, rfl, rfl, HR⟩ := hrel
    by_cases hlt : i < n
    · have l0 : (i : Int) < (n : Int) := by omega
      have hlt2 : i < L.length := by rw [HN.out]; exact hlt
      obtain ⟨g, o, hao, q⟩ := hA.out i hlt2
      subst hao
      by_cases he : L[i] = x
      · have HT : Hid (decide (x ∈ L) = true) := hide (decide_eq_true (by rw [← he]; exact List.getElem_mem hlt2))
        rw [he] at q
        have hb : (x == x) = true := by simp
        clear he hlt2
        go_wp2_with fail
        go_ret
        exact ⟨by rw [HT.out]; rfl, rfl⟩
      · have HR2 : Hid (∀ j (h : j < L.length), j < i + 1 → L[j] ≠ x) := hide (fun j hj h => by
          rcases Nat.lt_or_eq_of_le (Nat.le_of_lt_succ h) with h | h
          · exact HR.out j hj h
          · subst h
            exact he)
        have hb : (L[i] == x) = false := by simpa using he
        generalize L[i] = z at q hb
        clear he hlt2
        go_wp2_with fail
        go_roundw
        case rel => exact ⟨i + 1, by omega, by go_num, trivial, HR2⟩
        case measure => simp [intOf]; omega
    · have l0 : ¬ (i : Int) < (n : Int) := by omega
      have HT : Hid (decide (x ∈ L) = false) := hide (decide_eq_false (fun h => by
        obtain ⟨j, hj, e⟩ := List.getElem_of_mem h
        exact HR.out j hj (by have := HN.out; omega) e))
      go_wp2_with fail
      go_ret
      exact ⟨by rw [HT.out]; rfl, rfl⟩
set_option maxRecDepth 100000 in
set_option maxHeartbeats 4000000 in
theorem rvalid_yes (w : World) (N M st : Nat) (aF aN : Option Addr) (lF cF lN cN : Nat) (Fi Nx : List Int) (hF : RdN w aF Fi) (hN : RdN w aN Nx) (hlF : Fi.length = lF) (hlN : Nx.length = lN) (bF : lF ≤ 4194304) (bN : lN ≤ 4194304) (hv : vd N M st Fi Nx = true) :
    Calls Tryz.prog 9 #[.agg #[.int .i64 (N : Int), .int .i64 (M : Int), .int .i64 (st : Int), .slice aF lF cF, .slice aN lN cN]] w fun e w' => e = .returned (.int .i64 0) ∧ Below w.heap.size w w' := by
  obtain ⟨W0, hW0⟩ : ∃ W0, w.alloc (.cells #[.int .i64 (N : Int), .int .i64 (M : Int), .int .i64 (st : Int), .slice aF lF cF, .slice aN lN cN] 27) = W0 := ⟨_, rfl⟩
  have d0 : Below w.heap.size w W0 := by rw [← hW0]; exact (Below.refl _ _).alloc (Nat.le_refl _) _
  have B0 : W0.heap[w.heap.size]? = some (.cells #[.int .i64 (N : Int), .int .i64 (M : Int), .int .i64 (st : Int), .slice aF lF cF, .slice aN lN cN] 27 (0, 0)) := by rw [← hW0]; exact World.alloc_heap_new _ _
  have HD := hide (And.intro d0 B0)
  have y0 : W0.cell? ⟨w.heap.size, 0, none⟩ = some (.int .i64 (N : Int)) := cell_of B0 rfl
  have y1 : W0.cell? ⟨w.heap.size, 1, none⟩ = some (.int .i64 (M : Int)) := cell_of B0 rfl
  have y2 : W0.cell? ⟨w.heap.size, 2, none⟩ = some (.int .i64 (st : Int)) := cell_of B0 rfl
  have y3 : W0.cell? ⟨w.heap.size, 3, none⟩ = some (.slice aF lF cF) := cell_of B0 rfl
  have y4 : W0.cell? ⟨w.heap.size, 4, none⟩ = some (.slice aN lN cN) := cell_of B0 rfl
  clear d0 B0
  obtain ⟨n0, m0, s0, en, em, es, n1, n2, m1, s1, e1, i1, i2⟩ := vd_nat hv
  obtain rfl : N = n0 := by omega
  obtain rfl : M = m0 := by omega
  obtain rfl : st = s0 := by omega
  have TF : Calls Tryz.prog 55 #[.slice aF lF cF, .int .i64 (N : Int)] W0 fun e w' => e = .returned (.bool true) ∧ w' = W0 := by subst hlF; exact rwithin_yes W0 aF cF N Fi (hide (hF.on HD.out.1)) bF i2
  have TN : Calls Tryz.prog 55 #[.slice aN lN cN, .int .i64 (N : Int)] W0 fun e w' => e = .returned (.bool true) ∧ w' = W0 := by subst hlN; exact rwithin_yes W0 aN cN N Nx (hide (hN.on HD.out.1)) bN i1
  have hm : ((N * M : Nat) : Int) = (N : Int) * (M : Int) := by simp
  have h2 : N * M ≤ 4096 * 128 := Nat.mul_le_mul n2 (by omega)
  have hw : IntKind.i64.wrap ((N : Int) * (M : Int)) = ((N * M : Nat) : Int) := by rw [← hm, IntKind.wrap_i64]; omega
  have hq : (lN : Int) = ((N * M : Nat) : Int) := by rw [← hlN, e1]
  have hb : ((lN : Int) != (N : Int) * (M : Int)) = false := by rw [hq]; simp
  have p5 : ¬ (M : Int) < 0 := by omega
  have p6 : ¬ (st : Int) < 0 := by omega
  have p7 : ¬ N ≤ st := by omega
  have p1 : ¬ (N : Int) < 1 := by omega
  have p2 : ¬ (4096 : Int) < (N : Int) := by omega
  have p3 : ¬ (128 : Int) < (M : Int) := by omega
  have p4 : (st : Int) < (N : Int) := by omega
  clear hv en em es e1 i1 i2 hm hq hF hN hlF hlN
  go_enter Tryz.func9, Tryz.ntmps9
  go_wp2_with (first | (go_at_call_of 55 lF; refine TF.mono ?_; rintro e w2 ⟨rfl, rfl⟩) | (go_at_call_of 55 lN; refine TN.mono ?_; rintro e w2 ⟨rfl, rfl⟩))
  go_ret
  exact ⟨rfl, HD.out.1⟩
end Go.Proofs.YtgnpdhgphkocoaaGreatDoor
