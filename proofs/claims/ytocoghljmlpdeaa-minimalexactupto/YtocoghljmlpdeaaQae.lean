import Derived.Test.YtocoghljmlpdeaaQad
namespace Go.Proofs.Ytocoghljmlpdeaa
open Go.RowKit Go.Maps Go.Shelf
attribute [local go_sem] Oper.semAt_some
/-! ### groups -/
/-- The flags that are left when those of P have been cleared. -/
def flC (M a : Nat) (fl : Nat → Bool) (P : List Nat) : Nat → Bool := fun p => fl p && !decide (p ∈ P.map (fun s => s * M + a))
def kyF (Nx : List Int) (M a : Nat) (cl : Nat → Nat) : Nat → Nat × Nat := fun s => (cl s, cl (dl Nx M s a))
theorem kin_len {ky : Nat → Nat × Nat} {P : List Nat} {Ky : List (Nat × Nat)} {GL : Nat → List Nat} (h : GrK ky P Ky GL) : Ky.length ≤ P.length := by
  have := sub_len Ky (P.map ky) h.nd (fun k hk => by
    obtain ⟨s, hs, e⟩ := h.ex k hk
    exact List.mem_map.2 ⟨s, hs, e⟩)
  rwa [List.length_map] at this
theorem row_two {W : World} {B k n sz : Nat} {t : TypeId} {v u : Value} {xs : List Value} {X : List Int} (h : W.ownsRow B t sz v n xs) (h' : OwI W B u X) (ne : (3 : TypeId) ≠ t) (hk : v.ownBlock = some k) (hk' : u.ownBlock = some k) : False := by
  obtain ⟨cs, fr, hx⟩ := own_ty h' hk'
  exact row_tag h hx ne hk
set_option maxRecDepth 100000 in
set_option maxHeartbeats 8000000 in
theorem groups_any (B : Nat) (Z : Nat → Prop) (w : World) (b N M gf : Nat) (aN : Option Addr) (lN cN gc gw gs gi : Nat) (V : Nat → Value) (L : Nat → List Nat) (cl : Nat → Nat) (fl : Nat → Bool) (Nx : List Int) (a : Nat) (h : PaR B Z w b N M gf aN lN cN gc gw gs gi V L cl fl) (hW : WtOk N M L fl) (hlN : lN = N * M) (bl : lN ≤ 4194304) (bN : N ≤ 4194304) (bM : M ≤ 4194304) (_hB : B ≤ w.heap.size) (hh : ∀ k, Z k → k < w.heap.size) (hNx : ∀ W, Only w W (Rz B Z) → RdN W aN Nx) (hl : Nx.length = N * M) (hin : ∀ x ∈ Nx, 0 ≤ x ∧ x < (N : Int)) (ha : a < M) (kl : ∀ s, s < N → cl s ≤ 4194306) :
    Calls Try.prog 71 #[.pointer (some ⟨b, 0, none⟩), .int .i64 (a : Int)] w fun e w' => ∃ bg n cg, e = .returned (.slice bg n cg) ∧ ∃ val GL Ky, Hid (PaR B (fun k => Z k ∨ (w.heap.size ≤ k ∧ k < w'.heap.size)) w' b N M gf aN lN cN gc gw gs gi (updF V (1 + a) (.slice none 0 0)) (updF L (1 + a) []) cl (fun p => fl p && !decide (p % M = a)) ∧ n = Ky.length ∧ GrS w.heap.size gc w' (.slice bg n cg) n val GL ∧ GrK (kyF Nx M a cl) (L (1 + a)) Ky GL ∧ Only w w' (Rz B Z)) := by
  obtain ⟨H, hH⟩ : ∃ H, w.heap.size = H := ⟨_, rfl⟩
  obtain ⟨WL, hWL⟩ : ∃ X, L (1 + a) = X := ⟨_, rfl⟩
  obtain ⟨Zp, hZp⟩ : ∃ Zp : Nat → Prop, (fun k => Z k ∨ H ≤ k) = Zp := ⟨_, rfl⟩
  have hWa := hW a ha
  rw [hWL] at hWa
  have hlen : WL.length ≤ N := nodup_le hWa.1 (fun q hq => ((hWa.2 q).1 hq).1)
  obtain ⟨nW, hnW⟩ : ∃ n, WL.length = n := ⟨_, rfl⟩
  have hO := h.fam.own (1 + a) (by omega)
  rw [hWL] at hO
  obtain ⟨t1, k1, hv⟩ := own_slice hO
  rw [natI_len, hnW] at hv
  have hp : PaR B Zp w b N M gf aN lN cN gc gw gs gi V L cl fl := h.zone (fun k hk z => by rw [← hZp] at z; exact z.elim id (fun q => by omega))
  obtain ⟨w1, hw1⟩ : ∃ w1, w.alloc (.map #[] 0) = w1 := ⟨_, rfl⟩
  have D1 : Below w.heap.size w w1 := by rw [← hw1]; exact (Below.refl _ _).alloc (Nat.le_refl _) _
  have s1 : w1.heap.size = H + 1 := by rw [← hw1, ← hH]; simp
  have M1 : w1.ownsMap Try.prog 69 (plainElem Try.prog 3) H 0 (.map [] : DataW Unit) := by rw [← hw1, ← hH]; exact World.ownsMap_made w _ _ _
  have y5 : w1.cell? ⟨b, 5, none⟩ = some (.slice (some ⟨gw, 0, none⟩) M M) := cell_of (hp.below D1).bx rfl
  have yW : w1.cell? ⟨gw, a, none⟩ = some (.slice t1 nW k1) := by have := (hp.below D1).wr.at a ha; rwa [hv] at this
  have a0 : (0 : Int) ≤ (a : Int) := by omega
  have a1 : (a : Int) < (M : Int) := by omega
  have J0 : Hid (PaR B Zp w1 b N M gf aN lN cN gc gw gs gi V L cl (flC M a fl (WL.take 0)) ∧ (∃ Dm : DataW Unit, w1.ownsMap Try.prog 69 (plainElem Try.prog 3) H ([] : List (Nat × Nat)).length Dm ∧ IsPl kPrs Dm ([] : List (Nat × Nat))) ∧ GrS H gc w1 (.slice none 0 0) ([] : List (Nat × Nat)).length (fun _ => .slice none 0 0) (fun _ => []) ∧ GrK (kyF Nx M a cl) (WL.take 0) ([] : List (Nat × Nat)) (fun _ => []) ∧ Only w w1 (fun k => Rz B Z k ∨ H ≤ k)) := hide ⟨(hp.below D1).alike (fun _ _ => rfl) (fun p _ => by simp [flC]), ⟨_, M1, isPl_nil kPrs⟩, ⟨World.ownsRow_nil _ _ _ _, ⟨fun i hi => by simp at hi, fun i j hi => by simp at hi, fun i hi => by simp at hi, fun i hi => by simp at hi⟩⟩, ⟨List.nodup_nil, fun j hj => by simp at hj, fun s hs => by simp at hs, fun k hk => by cases hk⟩, Only.ofBelow D1⟩
  have hWlN : nW ≤ 4194304 := by omega
  have HZ := hide (And.intro h (And.intro hW (And.intro hlN (And.intro hh (And.intro hNx (And.intro hl (And.intro hin kl)))))))
  have HX := hide (And.intro hH (And.intro hWL (And.intro hZp (And.intro hWa (And.intro hlen (And.intro hnW (And.intro hv s1)))))))
  have bNM : N * M ≤ 4194304 := by rw [← hlN]; exact bl
  have HNM := hide bNM
  clear h hW hlN hh hNx hl hin kl hH hWL hZp hWa hlen hnW hv s1 hO hp D1 M1 bNM
  have hmm := @run_makeMap Try.prog
  go_enter Try.func71, Try.ntmps71
  go_upto_region 3 with fail
  try rw [hw1]
  rw [HX.out.1]
  clear hmm
  have hw1' := hide hw1
  clear hw1
  go_wp2_with fail
  clear y5 yW
  go_loopw [5, 21] (fun v5 iv wr => ∃ i : Nat, i ≤ nW ∧ iv = .int .i64 (i : Int) ∧ ∃ (Ky : List (Nat × Nat)) (val : Nat → Value) (GL : Nat → List Nat), Hid (PaR B Zp wr b N M gf aN lN cN gc gw gs gi V L cl (flC M a fl (WL.take i)) ∧ (∃ Dm : DataW Unit, wr.ownsMap Try.prog 69 (plainElem Try.prog 3) H Ky.length Dm ∧ IsPl kPrs Dm Ky) ∧ GrS H gc wr v5 Ky.length val GL ∧ GrK (kyF Nx M a cl) (WL.take i) Ky GL ∧ Only w wr (fun k => Rz B Z k ∨ H ≤ k))) (fun _ iv _ => nW - (intOf iv).toNat)
  case atStart => exact ⟨0, Nat.zero_le _, rfl, [], _, _, J0⟩
  case round =>
    clear J0
    obtain ⟨i, hi, rfl, Ky, val, GL, HY⟩ := hrel
    by_cases hlt : i < nW
    · have i0 : (i : Int) < (nW : Int) := by omega
      have i1 : (0 : Int) ≤ (i : Int) := by omega
      have hil : i < WL.length := by have := HX.out.2.2.2.2.2.1; omega
      obtain ⟨s, hs⟩ : ∃ s, WL[i]'hil = s := ⟨_, rfl⟩
      have hsm := (HX.out.2.2.2.1.2 s).1 (by rw [← hs]; exact List.getElem_mem hil)
      have hsN := hsm.1
      have hO := HY.out.1.fam.own (1 + a) (by omega)
      rw [HX.out.2.1, HX.out.2.2.2.2.2.2.1] at hO
      obtain ⟨gx, ox, ex, cx1⟩ := natI_rd (owI_rd hO).2 i hil
      rw [hs] at cx1
      subst ex
      have HSI : Hid (WL[i]? = some s) := hide (by rw [List.getElem?_eq_getElem hil, hs])
      obtain ⟨sM, hsM⟩ : ∃ x, s * M = x := ⟨_, rfl⟩
      obtain ⟨p, hpp⟩ : ∃ x, sM + a = x := ⟨_, rfl⟩
      have HSP : Hid (s * M + a = p) := hide (by rw [hsM]; exact hpp)
      have hpl : p < lN := by rw [← HSP.out, HZ.out.2.2.1]; exact place_lt hsN ha
      have iw1 : IntKind.i64.wrap ((s : Int) * (M : Int)) = (sM : Int) := by
        have e : ((s * M : Nat) : Int) = (s : Int) * (M : Int) := by simp
        rw [← e, hsM, IntKind.wrap_i64]
        omega
      have iw2 : IntKind.i64.wrap ((sM : Int) + (a : Int)) = (p : Int) := by rw [IntKind.wrap_i64]; omega
      have l0 : (0 : Int) ≤ (p : Int) := by omega
      have l1 : (p : Int) < (lN : Int) := by omega
      have s0 : (0 : Int) ≤ (s : Int) := by omega
      have s1 : (s : Int) < (N : Int) := by omega
      obtain ⟨t, ht⟩ : ∃ t, dl Nx M s a = t := ⟨_, rfl⟩
      have htN : t < N := by rw [← ht]; exact (dl_spec HZ.out.2.2.2.2.2.1 HZ.out.2.2.2.2.2.2.1 hsN ha).2.2
      have t0 : (0 : Int) ≤ (t : Int) := by omega
      have t9 : (t : Int) < (N : Int) := by omega
      obtain ⟨c1, hc1'⟩ : ∃ c, cl s = c := ⟨_, rfl⟩
      obtain ⟨c2, hc2'⟩ : ∃ c, cl t = c := ⟨_, rfl⟩
      have hc1 : c1 ≤ 4194306 := by rw [← hc1']; exact HZ.out.2.2.2.2.2.2.2 s hsN
      have hc2 : c2 ≤ 4194306 := by rw [← hc2']; exact HZ.out.2.2.2.2.2.2.2 t htN
      have HC1 := hide hc1'
      have HC2 := hide hc2'
      have HTT := hide ht
      have HPI := hide HY.out.1
      have HOW : Hid (Only w wr (Rz B Z)) := hide (HY.out.2.2.2.2.mono (fun k hk e => by
        rcases e with e | e
        · exact e
        · have := HX.out.1; omega))
      clear hs hil hsm hO hsM hpp ht hc1' hc2'
      go_upto_region 6 with fail
      clear cx1
      have hmo : MonIL 0 [vI 0 (.pointer (some ⟨b, 0, none⟩)), vI 1 (.pointer (some ⟨b, 0, none⟩)), vI 2 (.pointer (some ⟨b, 6, none⟩)), vI 3 (.slice (some ⟨gs, 0, none⟩) lN lN), vI 4 (.int .i64 (s : Int)), vI 5 (.pointer (some ⟨b, 0, none⟩)), vI 6 (.pointer (some ⟨b, 0, none⟩)), vI 7 (.pointer (some ⟨b, 0, none⟩)), vI 8 (.pointer (some ⟨b, 0, none⟩)), vI 9 (.int .i64 (M : Int)), vI 10 (.int .i64 (sM : Int)), vI 11 (.int .i64 (a : Int)), vI 12 (.int .i64 (p : Int)), vI 13 (.pointer (some ⟨gs, p, none⟩))] := ⟨vI_mono _ _, vI_mono _ _, vI_mono _ _, vI_mono _ _, vI_mono _ _, vI_mono _ _, vI_mono _ _, vI_mono _ _, vI_mono _ _, vI_mono _ _, vI_mono _ _, vI_mono _ _, vI_mono _ _, vI_mono _ _, trivial⟩
      refine wp_region_sl [vI 0 (.pointer (some ⟨b, 0, none⟩)), vI 1 (.pointer (some ⟨b, 0, none⟩)), vI 2 (.pointer (some ⟨b, 6, none⟩)), vI 3 (.slice (some ⟨gs, 0, none⟩) lN lN), vI 4 (.int .i64 (s : Int)), vI 5 (.pointer (some ⟨b, 0, none⟩)), vI 6 (.pointer (some ⟨b, 0, none⟩)), vI 7 (.pointer (some ⟨b, 0, none⟩)), vI 8 (.pointer (some ⟨b, 0, none⟩)), vI 9 (.int .i64 (M : Int)), vI 10 (.int .i64 (sM : Int)), vI 11 (.int .i64 (a : Int)), vI 12 (.int .i64 (p : Int)), vI 13 (.pointer (some ⟨gs, p, none⟩))] (by kernel_rfl) (by kernel_rfl) (by kernel_rfl) (by kernel_rfl) hmo ⟨?o0, ?o1, ?o2, ?o3, ?o4, ?o5, ?o6, ?o7, ?o8, ?o9, ?o10, ?o11, ?o12, ?o13, trivial⟩ ?fin
      case o0 =>
        intro At yy W hy hb d hd K hK
        have s0 : At.tmps.getD 0 undef = .pointer (some ⟨b, 0, none⟩) := hb 0 rfl
        have s0' := s0
        rw [Array.getD_eq_getD_getElem?] at s0'
        clear hd hy hb
        go_simp
        exact hK.out _ W (stp_of hmo d (Below.refl _ _)) (if_pos rfl)
      case o1 =>
        intro At yy W hy hb d hd K hK
        have e0 : yy 0 = .pointer (some ⟨b, 0, none⟩) := by obtain ⟨_, _, _, _, e⟩ := hd ⟨0, .data⟩ (by simp) rfl rfl; exact e
        have s25 := (hy 0 _ 25 rfl rfl).trans e0
        have s25' := s25
        rw [Array.getD_eq_getD_getElem?] at s25'
        clear hd hy hb
        go_simp
        exact hK.out _ W (stp_of hmo d (Below.refl _ _)) (if_pos rfl)
      case o2 =>
        intro At yy W hy hb d hd K hK
        have e1 : yy 1 = .pointer (some ⟨b, 0, none⟩) := by obtain ⟨_, _, _, _, e⟩ := hd ⟨1, .data⟩ (by simp) rfl rfl; exact e
        have s26 := (hy 1 _ 26 rfl rfl).trans e1
        have s26' := s26
        rw [Array.getD_eq_getD_getElem?] at s26'
        clear hd hy hb
        go_simp
        exact hK.out _ W (stp_of hmo d (Below.refl _ _)) (if_pos rfl)
      case o3 =>
        intro At yy W hy hb d hd K hK
        have e2 : yy 2 = .pointer (some ⟨b, 6, none⟩) := by obtain ⟨_, _, _, _, e⟩ := hd ⟨2, .data⟩ (by simp) rfl rfl; exact e
        have s27 := (hy 2 _ 27 rfl rfl).trans e2
        have s27' := s27
        rw [Array.getD_eq_getD_getElem?] at s27'
        clear hd hy hb
        have y6 : W.cell? ⟨b, 6, none⟩ = some (.slice (some ⟨gs, 0, none⟩) lN lN) := cell_of (blk_on HPI.out.bx d) rfl
        go_simp
        exact hK.out _ W (stp_of hmo d (Below.refl _ _)) (if_pos rfl)
      case o4 =>
        intro At yy W hy hb d hd K hK
        have s8 : At.tmps.getD 8 undef = .int .i64 (s : Int) := hb 8 rfl
        have s8' := s8
        rw [Array.getD_eq_getD_getElem?] at s8'
        clear hd hy hb
        go_simp
        exact hK.out _ W (stp_of hmo d (Below.refl _ _)) (if_pos rfl)
      case o5 =>
        intro At yy W hy hb d hd K hK
        have s0 : At.tmps.getD 0 undef = .pointer (some ⟨b, 0, none⟩) := hb 0 rfl
        have s0' := s0
        rw [Array.getD_eq_getD_getElem?] at s0'
        clear hd hy hb
        go_simp
        exact hK.out _ W (stp_of hmo d (Below.refl _ _)) (if_pos rfl)
      case o6 =>
        intro At yy W hy hb d hd K hK
        have e5 : yy 5 = .pointer (some ⟨b, 0, none⟩) := by obtain ⟨_, _, _, _, e⟩ := hd ⟨5, .data⟩ (by simp) rfl rfl; exact e
        have s30 := (hy 5 _ 30 rfl rfl).trans e5
        have s30' := s30
        rw [Array.getD_eq_getD_getElem?] at s30'
        clear hd hy hb
        go_simp
        exact hK.out _ W (stp_of hmo d (Below.refl _ _)) (if_pos rfl)
      case o7 =>
        intro At yy W hy hb d hd K hK
        have e6 : yy 6 = .pointer (some ⟨b, 0, none⟩) := by obtain ⟨_, _, _, _, e⟩ := hd ⟨6, .data⟩ (by simp) rfl rfl; exact e
        have s31 := (hy 6 _ 31 rfl rfl).trans e6
        have s31' := s31
        rw [Array.getD_eq_getD_getElem?] at s31'
        clear hd hy hb
        go_simp
        exact hK.out _ W (stp_of hmo d (Below.refl _ _)) (if_pos rfl)
      case o8 =>
        intro At yy W hy hb d hd K hK
        have e7 : yy 7 = .pointer (some ⟨b, 0, none⟩) := by obtain ⟨_, _, _, _, e⟩ := hd ⟨7, .data⟩ (by simp) rfl rfl; exact e
        have s32 := (hy 7 _ 32 rfl rfl).trans e7
        have s32' := s32
        rw [Array.getD_eq_getD_getElem?] at s32'
        clear hd hy hb
        go_simp
        exact hK.out _ W (stp_of hmo d (Below.refl _ _)) (if_pos rfl)
      case o9 =>
        intro At yy W hy hb d hd K hK
        have e8 : yy 8 = .pointer (some ⟨b, 0, none⟩) := by obtain ⟨_, _, _, _, e⟩ := hd ⟨8, .data⟩ (by simp) rfl rfl; exact e
        have s33 := (hy 8 _ 33 rfl rfl).trans e8
        have s33' := s33
        rw [Array.getD_eq_getD_getElem?] at s33'
        clear hd hy hb
        have y0 : W.cell? ⟨b, 0, none⟩ = some (.int .i64 (M : Int)) := cell_of (blk_on HPI.out.bx d) rfl
        go_simp
        exact hK.out _ W (stp_of hmo d (Below.refl _ _)) (if_pos rfl)
      case o10 =>
        intro At yy W hy hb d hd K hK
        have e4 : yy 4 = .int .i64 (s : Int) := by obtain ⟨_, _, _, _, e⟩ := hd ⟨4, .data⟩ (by simp) rfl rfl; exact e
        have e9 : yy 9 = .int .i64 (M : Int) := by obtain ⟨_, _, _, _, e⟩ := hd ⟨9, .data⟩ (by simp) rfl rfl; exact e
        have s29 := (hy 4 _ 29 rfl rfl).trans e4
        have s29' := s29
        rw [Array.getD_eq_getD_getElem?] at s29'
        have s34 := (hy 9 _ 34 rfl rfl).trans e9
        have s34' := s34
        rw [Array.getD_eq_getD_getElem?] at s34'
        clear hd hy hb
        go_simp
        exact hK.out _ W (stp_of hmo d (Below.refl _ _)) (if_pos rfl)
      case o11 =>
        intro At yy W hy hb d hd K hK
        have s1 : At.tmps.getD 1 undef = .int .i64 (a : Int) := hb 1 rfl
        have s1' := s1
        rw [Array.getD_eq_getD_getElem?] at s1'
        clear hd hy hb
        go_simp
        exact hK.out _ W (stp_of hmo d (Below.refl _ _)) (if_pos rfl)
      case o12 =>
        intro At yy W hy hb d hd K hK
        have e10 : yy 10 = .int .i64 (sM : Int) := by obtain ⟨_, _, _, _, e⟩ := hd ⟨10, .data⟩ (by simp) rfl rfl; exact e
        have e11 : yy 11 = .int .i64 (a : Int) := by obtain ⟨_, _, _, _, e⟩ := hd ⟨11, .data⟩ (by simp) rfl rfl; exact e
        have s35 := (hy 10 _ 35 rfl rfl).trans e10
        have s35' := s35
        rw [Array.getD_eq_getD_getElem?] at s35'
        have s36 := (hy 11 _ 36 rfl rfl).trans e11
        have s36' := s36
        rw [Array.getD_eq_getD_getElem?] at s36'
        clear hd hy hb
        go_simp
        exact hK.out _ W (stp_of hmo d (Below.refl _ _)) (if_pos rfl)
      case o13 =>
        intro At yy W hy hb d hd K hK
        have e3 : yy 3 = .slice (some ⟨gs, 0, none⟩) lN lN := by obtain ⟨_, _, _, _, e⟩ := hd ⟨3, .data⟩ (by simp) rfl rfl; exact e
        have e12 : yy 12 = .int .i64 (p : Int) := by obtain ⟨_, _, _, _, e⟩ := hd ⟨12, .data⟩ (by simp) rfl rfl; exact e
        have s28 := (hy 3 _ 28 rfl rfl).trans e3
        have s28' := s28
        rw [Array.getD_eq_getD_getElem?] at s28'
        have s37 := (hy 12 _ 37 rfl rfl).trans e12
        have s37' := s37
        rw [Array.getD_eq_getD_getElem?] at s37'
        clear hd hy hb
        go_simp
        exact hK.out _ W (stp_of hmo d (Below.refl _ _)) (if_pos rfl)
      case fin =>
        intro yy lo hi W hM
        show wpList _ _ _ [_] _ _
        have e0 : yy 0 = .pointer (some ⟨b, 0, none⟩) := hM.fact 0 (by simp) rfl (notR_all 0 rfl)
        have e1 : yy 1 = .pointer (some ⟨b, 0, none⟩) := hM.fact 1 (by simp) rfl (notR_all 1 rfl)
        have e2 : yy 2 = .pointer (some ⟨b, 6, none⟩) := hM.fact 2 (by simp) rfl (notR_all 2 rfl)
        have e3 : yy 3 = .slice (some ⟨gs, 0, none⟩) lN lN := hM.fact 3 (by simp) rfl (notR_all 3 rfl)
        have e4 : yy 4 = .int .i64 (s : Int) := hM.fact 4 (by simp) rfl (notR_all 4 rfl)
        have e5 : yy 5 = .pointer (some ⟨b, 0, none⟩) := hM.fact 5 (by simp) rfl (notR_all 5 rfl)
        have e6 : yy 6 = .pointer (some ⟨b, 0, none⟩) := hM.fact 6 (by simp) rfl (notR_all 6 rfl)
        have e7 : yy 7 = .pointer (some ⟨b, 0, none⟩) := hM.fact 7 (by simp) rfl (notR_all 7 rfl)
        have e8 : yy 8 = .pointer (some ⟨b, 0, none⟩) := hM.fact 8 (by simp) rfl (notR_all 8 rfl)
        have e9 : yy 9 = .int .i64 (M : Int) := hM.fact 9 (by simp) rfl (notR_all 9 rfl)
        have e10 : yy 10 = .int .i64 (sM : Int) := hM.fact 10 (by simp) rfl (notR_all 10 rfl)
        have e11 : yy 11 = .int .i64 (a : Int) := hM.fact 11 (by simp) rfl (notR_all 11 rfl)
        have e12 : yy 12 = .int .i64 (p : Int) := hM.fact 12 (by simp) rfl (notR_all 12 rfl)
        have e13 : yy 13 = .pointer (some ⟨gs, p, none⟩) := hM.fact 13 (by simp) rfl (notR_all 13 rfl)
        have dd := hM.d
        simp only [fills, Act.put, List.take, List.length, List.setIfInBounds_toArray, List.set_cons_zero, List.set_cons_succ, e0, e1, e2, e3, e4, e5, e6, e7, e8, e9, e10, e11, e12, e13]
        clear hM hmo e0 e1 e2 e3 e4 e5 e6 e7 e8 e9 e10 e11 e12 e13
        obtain ⟨u8, c8⟩ := (HPI.out.below dd).sr.cell p hpl
        have f8 := (HPI.out.below dd).sr.fz p
        obtain ⟨w7, hw7⟩ : ∃ w7, W.setCell ⟨gs, p, none⟩ (.bool false) = w7 := ⟨_, rfl⟩
        have HF := hide ((HPI.out.below dd).flag p false)
        rw [hw7] at HF
        have O7 : Only wr w7 (fun k => k = gs) := (Only.ofBelow dd).trans HF.out.2
        have HO7 := hide O7
        clear dd O7
        go_upto_region 7 with fail
        try rw [hw7]
        clear c8 f8 hw7
        have HPI := hide HF.out.1
        have hgsZ := HZ.out.1.zo.2.2.2.1
        have HOW7 : Hid (Only w w7 (Rz B Z)) := hide (HOW.out.trans (HO7.out.mono (fun k _ e => by rw [e]; exact hgsZ)))
        have hH7 : H ≤ w7.heap.size := by have := HX.out.1; have := HOW7.out.size; omega
        have TF : Hid (∀ W, Below w7.heap.size w7 W → Calls Try.prog 35 #[.agg #[.int .i64 (M : Int), .slice (some ⟨gf, 0, none⟩) N N, .slice aN lN cN], .int .i64 (s : Int), .int .i64 (a : Int)] W fun e w' => e = .returned (.int .i64 (t : Int)) ∧ Below W.heap.size W w') := hide (fun W d => by
          have q := follow_rd W M N s a lN cN (some ⟨gf, 0, none⟩) N N aN Nx ((HZ.out.2.2.2.2.1 w7 HOW7.out).on d) HZ.out.2.2.2.2.2.1 HZ.out.2.2.2.2.2.2.1 HZ.out.2.2.1 hsN ha HNM.out bM bN
          rw [HTT.out] at q
          exact q)
        have hmo : MonIL 0 [vI 0 (.pointer (some ⟨b, 0, none⟩)), vI 1 (.pointer (some ⟨b, 0, none⟩)), vI 2 (.pointer (some ⟨b, 3, none⟩)), vI 3 (.slice (some ⟨gc, 0, none⟩) N N), vI 4 (.int .i64 (s : Int)), vI 5 (.pointer (some ⟨gc, s, none⟩)), vI 6 (.int .i64 (c1 : Int)), vI 7 (.pointer (some ⟨b, 0, none⟩)), vI 8 (.pointer (some ⟨b, 0, none⟩)), vI 9 (.pointer (some ⟨b, 3, none⟩)), vI 10 (.slice (some ⟨gc, 0, none⟩) N N), vI 11 (.pointer (some ⟨b, 0, none⟩)), vI 12 (.pointer (some ⟨b, 0, none⟩)), vI 13 (.pointer (some ⟨b, 0, none⟩)), vI 14 (.agg #[.int .i64 (M : Int), .slice (some ⟨gf, 0, none⟩) N N, .slice aN lN cN]), vI 15 (.int .i64 (s : Int)), vI 16 (.int .i64 (a : Int)), vI 17 (.int .i64 (t : Int)), vI 18 (.pointer (some ⟨gc, t, none⟩)), vI 19 (.int .i64 (c2 : Int)), vI 20 (.agg #[.int .i64 (c1 : Int), .int .i64 (c2 : Int)]), pI 21 (kbP w7.heap.size)] := ⟨vI_mono _ _, vI_mono _ _, vI_mono _ _, vI_mono _ _, vI_mono _ _, vI_mono _ _, vI_mono _ _, vI_mono _ _, vI_mono _ _, vI_mono _ _, vI_mono _ _, vI_mono _ _, vI_mono _ _, vI_mono _ _, vI_mono _ _, vI_mono _ _, vI_mono _ _, vI_mono _ _, vI_mono _ _, vI_mono _ _, vI_mono _ _, pI_mono kbP_mono, trivial⟩
        refine wp_region_sl [vI 0 (.pointer (some ⟨b, 0, none⟩)), vI 1 (.pointer (some ⟨b, 0, none⟩)), vI 2 (.pointer (some ⟨b, 3, none⟩)), vI 3 (.slice (some ⟨gc, 0, none⟩) N N), vI 4 (.int .i64 (s : Int)), vI 5 (.pointer (some ⟨gc, s, none⟩)), vI 6 (.int .i64 (c1 : Int)), vI 7 (.pointer (some ⟨b, 0, none⟩)), vI 8 (.pointer (some ⟨b, 0, none⟩)), vI 9 (.pointer (some ⟨b, 3, none⟩)), vI 10 (.slice (some ⟨gc, 0, none⟩) N N), vI 11 (.pointer (some ⟨b, 0, none⟩)), vI 12 (.pointer (some ⟨b, 0, none⟩)), vI 13 (.pointer (some ⟨b, 0, none⟩)), vI 14 (.agg #[.int .i64 (M : Int), .slice (some ⟨gf, 0, none⟩) N N, .slice aN lN cN]), vI 15 (.int .i64 (s : Int)), vI 16 (.int .i64 (a : Int)), vI 17 (.int .i64 (t : Int)), vI 18 (.pointer (some ⟨gc, t, none⟩)), vI 19 (.int .i64 (c2 : Int)), vI 20 (.agg #[.int .i64 (c1 : Int), .int .i64 (c2 : Int)]), pI 21 (kbP w7.heap.size)] (by kernel_rfl) (by kernel_rfl) (by kernel_rfl) (by kernel_rfl) hmo ⟨?o0, ?o1, ?o2, ?o3, ?o4, ?o5, ?o6, ?o7, ?o8, ?o9, ?o10, ?o11, ?o12, ?o13, ?o14, ?o15, ?o16, ?o17, ?o18, ?o19, ?o20, ?o21, trivial⟩ ?fin
        case o0 =>
          intro At yy W hy hb d hd K hK
          have s0 : At.tmps.getD 0 undef = .pointer (some ⟨b, 0, none⟩) := hb 0 rfl
          have s0' := s0
          rw [Array.getD_eq_getD_getElem?] at s0'
          clear hd hy hb
          go_simp
          exact hK.out _ W (stp_of hmo d (Below.refl _ _)) (if_pos rfl)
        case o1 =>
          intro At yy W hy hb d hd K hK
          have e0 : yy 0 = .pointer (some ⟨b, 0, none⟩) := by obtain ⟨_, _, _, _, e⟩ := hd ⟨0, .data⟩ (by simp) rfl rfl; exact e
          have s39 := (hy 0 _ 39 rfl rfl).trans e0
          have s39' := s39
          rw [Array.getD_eq_getD_getElem?] at s39'
          clear hd hy hb
          go_simp
          exact hK.out _ W (stp_of hmo d (Below.refl _ _)) (if_pos rfl)
        case o2 =>
          intro At yy W hy hb d hd K hK
          have e1 : yy 1 = .pointer (some ⟨b, 0, none⟩) := by obtain ⟨_, _, _, _, e⟩ := hd ⟨1, .data⟩ (by simp) rfl rfl; exact e
          have s40 := (hy 1 _ 40 rfl rfl).trans e1
          have s40' := s40
          rw [Array.getD_eq_getD_getElem?] at s40'
          clear hd hy hb
          go_simp
          exact hK.out _ W (stp_of hmo d (Below.refl _ _)) (if_pos rfl)
        case o3 =>
          intro At yy W hy hb d hd K hK
          have e2 : yy 2 = .pointer (some ⟨b, 3, none⟩) := by obtain ⟨_, _, _, _, e⟩ := hd ⟨2, .data⟩ (by simp) rfl rfl; exact e
          have s41 := (hy 2 _ 41 rfl rfl).trans e2
          have s41' := s41
          rw [Array.getD_eq_getD_getElem?] at s41'
          clear hd hy hb
          have y3 : W.cell? ⟨b, 3, none⟩ = some (.slice (some ⟨gc, 0, none⟩) N N) := cell_of (blk_on HPI.out.bx d) rfl
          go_simp
          exact hK.out _ W (stp_of hmo d (Below.refl _ _)) (if_pos rfl)
        case o4 =>
          intro At yy W hy hb d hd K hK
          have s8 : At.tmps.getD 8 undef = .int .i64 (s : Int) := hb 8 rfl
          have s8' := s8
          rw [Array.getD_eq_getD_getElem?] at s8'
          clear hd hy hb
          go_simp
          exact hK.out _ W (stp_of hmo d (Below.refl _ _)) (if_pos rfl)
        case o5 =>
          intro At yy W hy hb d hd K hK
          have e3 : yy 3 = .slice (some ⟨gc, 0, none⟩) N N := by obtain ⟨_, _, _, _, e⟩ := hd ⟨3, .data⟩ (by simp) rfl rfl; exact e
          have e4 : yy 4 = .int .i64 (s : Int) := by obtain ⟨_, _, _, _, e⟩ := hd ⟨4, .data⟩ (by simp) rfl rfl; exact e
          have s42 := (hy 3 _ 42 rfl rfl).trans e3
          have s42' := s42
          rw [Array.getD_eq_getD_getElem?] at s42'
          have s43 := (hy 4 _ 43 rfl rfl).trans e4
          have s43' := s43
          rw [Array.getD_eq_getD_getElem?] at s43'
          clear hd hy hb
          go_simp
          exact hK.out _ W (stp_of hmo d (Below.refl _ _)) (if_pos rfl)
        case o6 =>
          intro At yy W hy hb d hd K hK
          have e5 : yy 5 = .pointer (some ⟨gc, s, none⟩) := by obtain ⟨_, _, _, _, e⟩ := hd ⟨5, .data⟩ (by simp) rfl rfl; exact e
          have s44 := (hy 5 _ 44 rfl rfl).trans e5
          have s44' := s44
          rw [Array.getD_eq_getD_getElem?] at s44'
          clear hd hy hb
          have y : W.cell? ⟨gc, s, none⟩ = some (.int .i64 (c1 : Int)) := by have := (HPI.out.below d).cr.at s hsN; rwa [HC1.out] at this
          go_simp
          exact hK.out _ W (stp_of hmo d (Below.refl _ _)) (if_pos rfl)
        case o7 =>
          intro At yy W hy hb d hd K hK
          have s0 : At.tmps.getD 0 undef = .pointer (some ⟨b, 0, none⟩) := hb 0 rfl
          have s0' := s0
          rw [Array.getD_eq_getD_getElem?] at s0'
          clear hd hy hb
          go_simp
          exact hK.out _ W (stp_of hmo d (Below.refl _ _)) (if_pos rfl)
        case o8 =>
          intro At yy W hy hb d hd K hK
          have e7 : yy 7 = .pointer (some ⟨b, 0, none⟩) := by obtain ⟨_, _, _, _, e⟩ := hd ⟨7, .data⟩ (by simp) rfl rfl; exact e
          have s46 := (hy 7 _ 46 rfl rfl).trans e7
          have s46' := s46
          rw [Array.getD_eq_getD_getElem?] at s46'
          clear hd hy hb
          go_simp
          exact hK.out _ W (stp_of hmo d (Below.refl _ _)) (if_pos rfl)
        case o9 =>
          intro At yy W hy hb d hd K hK
          have e8 : yy 8 = .pointer (some ⟨b, 0, none⟩) := by obtain ⟨_, _, _, _, e⟩ := hd ⟨8, .data⟩ (by simp) rfl rfl; exact e
          have s47 := (hy 8 _ 47 rfl rfl).trans e8
          have s47' := s47
          rw [Array.getD_eq_getD_getElem?] at s47'
          clear hd hy hb
          go_simp
          exact hK.out _ W (stp_of hmo d (Below.refl _ _)) (if_pos rfl)
        case o10 =>
          intro At yy W hy hb d hd K hK
          have e9 : yy 9 = .pointer (some ⟨b, 3, none⟩) := by obtain ⟨_, _, _, _, e⟩ := hd ⟨9, .data⟩ (by simp) rfl rfl; exact e
          have s48 := (hy 9 _ 48 rfl rfl).trans e9
          have s48' := s48
          rw [Array.getD_eq_getD_getElem?] at s48'
          clear hd hy hb
          have y3 : W.cell? ⟨b, 3, none⟩ = some (.slice (some ⟨gc, 0, none⟩) N N) := cell_of (blk_on HPI.out.bx d) rfl
          go_simp
          exact hK.out _ W (stp_of hmo d (Below.refl _ _)) (if_pos rfl)
        case o11 =>
          intro At yy W hy hb d hd K hK
          have s0 : At.tmps.getD 0 undef = .pointer (some ⟨b, 0, none⟩) := hb 0 rfl
          have s0' := s0
          rw [Array.getD_eq_getD_getElem?] at s0'
          clear hd hy hb
          go_simp
          exact hK.out _ W (stp_of hmo d (Below.refl _ _)) (if_pos rfl)
        case o12 =>
          intro At yy W hy hb d hd K hK
          have e11 : yy 11 = .pointer (some ⟨b, 0, none⟩) := by obtain ⟨_, _, _, _, e⟩ := hd ⟨11, .data⟩ (by simp) rfl rfl; exact e
          have s50 := (hy 11 _ 50 rfl rfl).trans e11
          have s50' := s50
          rw [Array.getD_eq_getD_getElem?] at s50'
          clear hd hy hb
          go_simp
          exact hK.out _ W (stp_of hmo d (Below.refl _ _)) (if_pos rfl)
        case o13 =>
          intro At yy W hy hb d hd K hK
          have e12 : yy 12 = .pointer (some ⟨b, 0, none⟩) := by obtain ⟨_, _, _, _, e⟩ := hd ⟨12, .data⟩ (by simp) rfl rfl; exact e
          have s51 := (hy 12 _ 51 rfl rfl).trans e12
          have s51' := s51
          rw [Array.getD_eq_getD_getElem?] at s51'
          clear hd hy hb
          go_simp
          exact hK.out _ W (stp_of hmo d (Below.refl _ _)) (if_pos rfl)
        case o14 =>
          intro At yy W hy hb d hd K hK
          have e13 : yy 13 = .pointer (some ⟨b, 0, none⟩) := by obtain ⟨_, _, _, _, e⟩ := hd ⟨13, .data⟩ (by simp) rfl rfl; exact e
          have s52 := (hy 13 _ 52 rfl rfl).trans e13
          have s52' := s52
          rw [Array.getD_eq_getD_getElem?] at s52'
          clear hd hy hb
          have y0 : W.cell? ⟨b, 0, none⟩ = some (.int .i64 (M : Int)) := cell_of (blk_on HPI.out.bx d) rfl
          have y1 : W.cell? ⟨b, 1, none⟩ = some (.slice (some ⟨gf, 0, none⟩) N N) := cell_of (blk_on HPI.out.bx d) rfl
          have y2 : W.cell? ⟨b, 2, none⟩ = some (.slice aN lN cN) := cell_of (blk_on HPI.out.bx d) rfl
          go_simp
          exact hK.out _ W (stp_of hmo d (Below.refl _ _)) (if_pos rfl)
        case o15 =>
          intro At yy W hy hb d hd K hK
          have s8 : At.tmps.getD 8 undef = .int .i64 (s : Int) := hb 8 rfl
          have s8' := s8
          rw [Array.getD_eq_getD_getElem?] at s8'
          clear hd hy hb
          go_simp
          exact hK.out _ W (stp_of hmo d (Below.refl _ _)) (if_pos rfl)
        case o16 =>
          intro At yy W hy hb d hd K hK
          have s1 : At.tmps.getD 1 undef = .int .i64 (a : Int) := hb 1 rfl
          have s1' := s1
          rw [Array.getD_eq_getD_getElem?] at s1'
          clear hd hy hb
          go_simp
          exact hK.out _ W (stp_of hmo d (Below.refl _ _)) (if_pos rfl)
        case o17 =>
          intro At yy W hy hb d hd K hK
          have e14 : yy 14 = .agg #[.int .i64 (M : Int), .slice (some ⟨gf, 0, none⟩) N N, .slice aN lN cN] := by obtain ⟨_, _, _, _, e⟩ := hd ⟨14, .data⟩ (by simp) rfl rfl; exact e
          have e15 : yy 15 = .int .i64 (s : Int) := by obtain ⟨_, _, _, _, e⟩ := hd ⟨15, .data⟩ (by simp) rfl rfl; exact e
          have e16 : yy 16 = .int .i64 (a : Int) := by obtain ⟨_, _, _, _, e⟩ := hd ⟨16, .data⟩ (by simp) rfl rfl; exact e
          have s53 := (hy 14 _ 53 rfl rfl).trans e14
          have s53' := s53
          rw [Array.getD_eq_getD_getElem?] at s53'
          have s54 := (hy 15 _ 54 rfl rfl).trans e15
          have s54' := s54
          rw [Array.getD_eq_getD_getElem?] at s54'
          have s55 := (hy 16 _ 55 rfl rfl).trans e16
          have s55' := s55
          rw [Array.getD_eq_getD_getElem?] at s55'
          clear hd hy hb
          go_simp
          go_wp2_with (go_at_call 35; refine (TF.out _ d).mono ?_; rintro e wa ⟨rfl, da⟩)
          exact hK.out _ wa (stp_of hmo d da) (if_pos rfl)
        case o18 =>
          intro At yy W hy hb d hd K hK
          have e10 : yy 10 = .slice (some ⟨gc, 0, none⟩) N N := by obtain ⟨_, _, _, _, e⟩ := hd ⟨10, .data⟩ (by simp) rfl rfl; exact e
          have e17 : yy 17 = .int .i64 (t : Int) := by obtain ⟨_, _, _, _, e⟩ := hd ⟨17, .data⟩ (by simp) rfl rfl; exact e
          have s49 := (hy 10 _ 49 rfl rfl).trans e10
          have s49' := s49
          rw [Array.getD_eq_getD_getElem?] at s49'
          have s56 := (hy 17 _ 56 rfl rfl).trans e17
          have s56' := s56
          rw [Array.getD_eq_getD_getElem?] at s56'
          clear hd hy hb
          go_simp
          exact hK.out _ W (stp_of hmo d (Below.refl _ _)) (if_pos rfl)
        case o19 =>
          intro At yy W hy hb d hd K hK
          have e18 : yy 18 = .pointer (some ⟨gc, t, none⟩) := by obtain ⟨_, _, _, _, e⟩ := hd ⟨18, .data⟩ (by simp) rfl rfl; exact e
          have s57 := (hy 18 _ 57 rfl rfl).trans e18
          have s57' := s57
          rw [Array.getD_eq_getD_getElem?] at s57'
          clear hd hy hb
          have y : W.cell? ⟨gc, t, none⟩ = some (.int .i64 (c2 : Int)) := by have := (HPI.out.below d).cr.at t htN; rwa [HC2.out] at this
          go_simp
          exact hK.out _ W (stp_of hmo d (Below.refl _ _)) (if_pos rfl)
        case o20 =>
          intro At yy W hy hb d hd K hK
          have e6 : yy 6 = .int .i64 (c1 : Int) := by obtain ⟨_, _, _, _, e⟩ := hd ⟨6, .data⟩ (by simp) rfl rfl; exact e
          have e19 : yy 19 = .int .i64 (c2 : Int) := by obtain ⟨_, _, _, _, e⟩ := hd ⟨19, .data⟩ (by simp) rfl rfl; exact e
          have s45 := (hy 6 _ 45 rfl rfl).trans e6
          have s45' := s45
          rw [Array.getD_eq_getD_getElem?] at s45'
          have s58 := (hy 19 _ 58 rfl rfl).trans e19
          have s58' := s58
          rw [Array.getD_eq_getD_getElem?] at s58'
          clear hd hy hb
          go_simp
          exact hK.out _ W (stp_of hmo d (Below.refl _ _)) (if_pos rfl)
        case o21 =>
          intro At yy W hy hb d hd K hK
          clear hd hy hb
          go_simp
          exact hK.out _ _ (stp_of hmo d ((Below.refl _ _).alloc (Nat.le_refl _) _)) ⟨if_pos rfl, d.size, by simp, World.alloc_heap_new _ _⟩
        case fin =>
          intro yy lo hi W hM
          show wpList _ _ _ [_] _ _
          have e0 : yy 0 = .pointer (some ⟨b, 0, none⟩) := hM.fact 0 (by simp) rfl (notR_all 0 rfl)
          have e1 : yy 1 = .pointer (some ⟨b, 0, none⟩) := hM.fact 1 (by simp) rfl (notR_all 1 rfl)
          have e2 : yy 2 = .pointer (some ⟨b, 3, none⟩) := hM.fact 2 (by simp) rfl (notR_all 2 rfl)
          have e3 : yy 3 = .slice (some ⟨gc, 0, none⟩) N N := hM.fact 3 (by simp) rfl (notR_all 3 rfl)
          have e4 : yy 4 = .int .i64 (s : Int) := hM.fact 4 (by simp) rfl (notR_all 4 rfl)
          have e5 : yy 5 = .pointer (some ⟨gc, s, none⟩) := hM.fact 5 (by simp) rfl (notR_all 5 rfl)
          have e6 : yy 6 = .int .i64 (c1 : Int) := hM.fact 6 (by simp) rfl (notR_all 6 rfl)
          have e7 : yy 7 = .pointer (some ⟨b, 0, none⟩) := hM.fact 7 (by simp) rfl (notR_all 7 rfl)
          have e8 : yy 8 = .pointer (some ⟨b, 0, none⟩) := hM.fact 8 (by simp) rfl (notR_all 8 rfl)
          have e9 : yy 9 = .pointer (some ⟨b, 3, none⟩) := hM.fact 9 (by simp) rfl (notR_all 9 rfl)
          have e10 : yy 10 = .slice (some ⟨gc, 0, none⟩) N N := hM.fact 10 (by simp) rfl (notR_all 10 rfl)
          have e11 : yy 11 = .pointer (some ⟨b, 0, none⟩) := hM.fact 11 (by simp) rfl (notR_all 11 rfl)
          have e12 : yy 12 = .pointer (some ⟨b, 0, none⟩) := hM.fact 12 (by simp) rfl (notR_all 12 rfl)
          have e13 : yy 13 = .pointer (some ⟨b, 0, none⟩) := hM.fact 13 (by simp) rfl (notR_all 13 rfl)
          have e14 : yy 14 = .agg #[.int .i64 (M : Int), .slice (some ⟨gf, 0, none⟩) N N, .slice aN lN cN] := hM.fact 14 (by simp) rfl (notR_all 14 rfl)
          have e15 : yy 15 = .int .i64 (s : Int) := hM.fact 15 (by simp) rfl (notR_all 15 rfl)
          have e16 : yy 16 = .int .i64 (a : Int) := hM.fact 16 (by simp) rfl (notR_all 16 rfl)
          have e17 : yy 17 = .int .i64 (t : Int) := hM.fact 17 (by simp) rfl (notR_all 17 rfl)
          have e18 : yy 18 = .pointer (some ⟨gc, t, none⟩) := hM.fact 18 (by simp) rfl (notR_all 18 rfl)
          have e19 : yy 19 = .int .i64 (c2 : Int) := hM.fact 19 (by simp) rfl (notR_all 19 rfl)
          have e20 : yy 20 = .agg #[.int .i64 (c1 : Int), .int .i64 (c2 : Int)] := hM.fact 20 (by simp) rfl (notR_all 20 rfl)
          obtain ⟨e21, b21, l21, z21⟩ := hM.fact 21 (by simp) rfl (notR_all 21 rfl)
          have dd := hM.d
          simp only [fills, Act.put, List.take, List.length, List.setIfInBounds_toArray, List.set_cons_zero, List.set_cons_succ, e0, e1, e2, e3, e4, e5, e6, e7, e8, e9, e10, e11, e12, e13, e14, e15, e16, e17, e18, e19, e20, e21]
          generalize lo 21 = p9 at z21 b21 l21 ⊢
          clear hM hmo e0 e1 e2 e3 e4 e5 e6 e7 e8 e9 e10 e11 e12 e13 e14 e15 e16 e17 e18 e19 e20 e21
          have k0 : W.cell? ⟨p9, 0, none⟩ = some (.int .i64 0) := cell_of z21 rfl
          have k1 : W.cell? ⟨p9, 1, none⟩ = some (.int .i64 0) := cell_of z21 rfl
          have g0 : W.frozen? ⟨p9, 0, none⟩ = false := fz_of z21
          have g1 : W.frozen? ⟨p9, 1, none⟩ = false := fz_of z21
          obtain ⟨w8, hw8⟩ : ∃ w8, (W.setCell ⟨p9, 0, none⟩ (.int .i64 (c1 : Int))).setCell ⟨p9, 1, none⟩ (.int .i64 (c2 : Int)) = w8 := ⟨_, rfl⟩
          have h8 : w8.heap[p9]? = some (.cells #[.int .i64 (c1 : Int), .int .i64 (c2 : Int)] 69 (0, 0)) := by rw [← hw8]; exact set2 W p9 _ _ _ _ 69 z21
          have O8 : Only w7 w8 (fun k => k = p9 ∧ w7.heap.size ≤ k) := by
            have q := ((only_set W p9 0 (.int .i64 (c1 : Int))).trans (only_set (W.setCell ⟨p9, 0, none⟩ (.int .i64 (c1 : Int))) p9 1 (.int .i64 (c2 : Int))))
            rw [hw8] at q
            exact (Only.ofBelow dd).trans (q.mono (fun k _ e => ⟨e, by rw [e]; exact b21⟩))
          have HO8 := hide (And.intro h8 (And.intro O8 (And.intro b21 l21)))
          clear h8 O8 z21 dd b21 l21
          go_upto_region 8 with fail
          clear k0 k1 g0 g1
          have B8 : w8.heap[p9]? = _ := HO8.out.1
          have k0 : w8.cell? ⟨p9, 0, none⟩ = some (.int .i64 (c1 : Int)) := cell_of B8 rfl
          have k1 : w8.cell? ⟨p9, 1, none⟩ = some (.int .i64 (c2 : Int)) := cell_of B8 rfl
          clear B8
          try rw [hw8]
          clear hw8
          have hp9 : H ≤ p9 := Nat.le_trans hH7 HO8.out.2.2.1
          have HP8 := hide (HPI.out.on HO8.out.2.1 (fun k r e => r.2 (by have := HX.out.2.2.1; rw [← this]; exact Or.inr (by omega))))
          obtain ⟨Dm, hm7, hIs⟩ := HY.out.2.1
          have hHg : H ≠ gs := by have q := HZ.out.1.sr.lt; have := HX.out.1; omega
          have hm8 := map_only (map_only hm7 HO7.out hHg) HO8.out.2.1 (fun e => by have q := hm7.lt; have := HO7.out.size; omega)
          have hG8 := (HY.out.2.2.1.only HO7.out (fun k hk hk2 e => by have q := HZ.out.1.sr.lt; have := HX.out.1; omega)).only HO8.out.2.1 (fun k hk hk2 e => by omega)
          have HM8 := hide (And.intro hm8 hIs)
          have HG8 := hide hG8
          have HK8 := hide HY.out.2.2.2.1
          have HW8 : Hid (Only w w8 (fun k => Rz B Z k ∨ H ≤ k)) := hide ((HY.out.2.2.2.2.trans (HO7.out.mono (fun k _ e => by rw [e]; exact Or.inl hgsZ))).trans (HO8.out.2.1.mono (fun k _ e => Or.inr (by omega))))
          have hKl : Ky.length ≤ nW := by
            have q := kin_len HK8.out
            have e := HX.out.2.2.2.2.2.1
            rw [List.length_take] at q
            omega
          have hky : kyF Nx M a cl s = (c1, c2) := by unfold kyF; rw [HTT.out, HC1.out, HC2.out]
          have HKY := hide hky
          have HOK : Hid (∀ x ∈ Ky, okPr x) := hide (fun x hx => by
            obtain ⟨q, hq, e⟩ := HK8.out.ex x hx
            have hqW := List.mem_of_mem_take hq
            have hqN := ((HX.out.2.2.2.1.2 q).1 hqW).1
            have z1 := HZ.out.2.2.2.2.2.2.2 q hqN
            have z2 := HZ.out.2.2.2.2.2.2.2 _ (dl_spec HZ.out.2.2.2.2.2.1 HZ.out.2.2.2.2.2.2.1 hqN ha).2.2
            rw [← e]
            exact ⟨by show cl q ≤ _; omega, by show cl (dl Nx M q a) ≤ _; omega⟩)
          have hokk : okPr (c1, c2) := ⟨by have := hc1; show c1 ≤ _; omega, by have := hc2; show c2 ≤ _; omega⟩
          have hH8 : H ≤ w8.heap.size := by have := HO8.out.2.1.size; omega
          have dA : ∀ o : Obj, Below w8.heap.size w8 (w8.alloc o) := fun o => (Below.refl _ _).alloc (Nat.le_refl _) _
          have HFL : Hid (∀ q, flC M a fl (WL.take (i + 1)) q = updF (flC M a fl (WL.take i)) p false q) := hide (fun q => by
            unfold flC
            rw [List.take_add_one, HSI.out]
            by_cases e : q = p
            · subst e; rw [updF_same]; simp [HSP.out]
            · rw [updF_ne _ _ e]
              have : ¬ q = s * M + a := by rw [HSP.out]; exact e
              simp [this])
          have HTK : Hid (WL.take (i + 1) = WL.take i ++ [s]) := hide (by rw [List.take_add_one, HSI.out]; rfl)
          clear hm7 hIs hm8 hG8 hky HY HPI HF hgsZ
          by_cases hk : (c1, c2) ∈ Ky
          · obtain ⟨j0, hj0, hkj⟩ := List.getElem_of_mem hk
            have hlook := look_in_run kPrs w8 120 Try.underlying120 H Ky j0 hj0 Dm HM8.out.1 HM8.out.2 (by rw [hkj]; exact hokk)
            rw [hkj] at hlook
            have hlook' : (Instr.lookup 120 (.map (some H)) (.agg #[.int .i64 (c1 : Int), .int .i64 (c2 : Int)]) true).run Try.prog w8 = .ok (.tuple #[.int .i64 (j0 : Int), .bool true]) w8 := hlook
            obtain ⟨gg, cg, rfl⟩ := row_some HG8.out.row (by omega)
            have hO3 := HG8.out.fam.own j0 hj0
            obtain ⟨b3, k3, hv3⟩ := own_slice hO3
            obtain ⟨m3, hm3⟩ : ∃ m, (natI (GL j0)).length = m := ⟨_, rfl⟩
            rw [hm3] at hv3
            rw [hv3] at hO3
            have hval : ((List.range Ky.length).map val)[j0]? = some (.slice b3 m3 k3) := by rw [List.getElem?_map, List.getElem?_range hj0, Option.map_some, hv3]
            have HR := hide (And.intro hO3 (And.intro HG8.out.row hval))
            have q3 := (row_cell HR.out.2.1 hval).1
            have f3 := (row_cell HR.out.2.1 hval).2
            have hkq : Ky[j0]? = some (c1, c2) := by rw [List.getElem?_eq_getElem hj0, hkj]
            have HV3 := hide (And.intro hv3 (And.intro hj0 hkq))
            have hGl : (GL j0).length ≤ 4194304 := by
              rw [HK8.out.gl j0 hj0]
              have q := List.length_filter_le (fun s => decide (kyF Nx M a cl s = Ky[j0])) (WL.take i)
              rw [List.length_take] at q
              have := HX.out.2.2.2.2.1
              omega
            have HGl := hide hGl
            have j1 : (0 : Int) ≤ (j0 : Int) := by omega
            have j2 : (j0 : Int) < (Ky.length : Int) := by omega
            clear hO3 hv3 hval hlook hm3 hkj hkq hj0 hk
            go_wp2_with (at_builtin; refine wpList_appI rfl (.tmp 81) (.tmp 83) rfl H (.slice b3 m3 k3) (natI (GL j0)) rfl (own_below HR.out.1 (dA _)) w8.heap.size (s : Int) rfl (World.alloc_heap_new _ _) (by rw [natI_len]; omega) (by simp <;> omega) ?_; intro b4 m4 k4 w9 h1 h2 h3 h4; have O89 : Only w8 w9 (fun k => (Value.slice b3 m3 k3).ownBlock = some k) := (Only.ofBelow (dA _)).trans h3.out; have R9 := row_only HR.out.2.1 O89 (fun k hk e => row_two HR.out.2.1 HR.out.1 (by decide) hk e); have z1 := (row_cell R9 (u := .slice b3 m3 k3) (j := j0) HR.out.2.2).1; have z2 := (row_cell R9 (u := .slice b3 m3 k3) (j := j0) HR.out.2.2).2; have HN := hide (And.intro h1.out (And.intro h2.out (And.intro O89 h4.out))); clear h1 h2 h3 h4 O89 R9)
            go_roundw
            case rel =>
              have hj0 := HV3.out.2.1
              have GP := HG8.out.put (v := .slice b4 m4 k4) (X := GL j0 ++ [s]) hj0 (by rw [HV3.out.1]; exact HN.out.2.2.1) (by rw [natI_snoc]; exact HN.out.1) (fun k hk => by
                rw [HV3.out.1]
                rcases HN.out.2.2.2 with q | q
                · exact Or.inl (by rw [← q]; exact hk)
                · rw [q] at hk
                  cases hk
                  exact Or.inr (by simp)) (by have q := HZ.out.1.cr.lt; have := HX.out.1; omega)
              have hHk : ∀ k, ((val j0).ownBlock = some k ∨ k = gg) → H ≤ k := fun k e => e.elim (fun q => ((HG8.out.fam.own j0 hj0).lt k q).1) (fun q => by rw [q]; exact (HG8.out.row.lt gg rfl).1)
              refine ⟨i + 1, by omega, by go_num, Ky, _, _, hide ⟨(HP8.out.alike (fun _ _ => rfl) (fun q _ => HFL.out q)).on GP.2 (fun k r e => r.2 (by have := HX.out.2.2.1; rw [← this]; exact Or.inr (hHk k e))), ⟨Dm, map_only HM8.out.1 GP.2 (fun e => e.elim (fun q => row_nomap (HG8.out.fam.own j0 hj0) q HM8.out.1) (fun q => row_nomap HG8.out.row (k := gg) rfl (q ▸ HM8.out.1))), HM8.out.2⟩, GP.1, ?_, HW8.out.trans (GP.2.mono (fun k _ e => Or.inr (hHk k e)))⟩⟩
              rw [HTK.out]
              have hkj : Ky[j0]'hj0 = (c1, c2) := by have := HV3.out.2.2; rw [List.getElem?_eq_getElem hj0] at this; exact Option.some.inj this
              exact HK8.out.old hj0 (hkj.trans HKY.out.symm)
            case measure => simp [intOf]; omega
          · obtain ⟨cc, hlook⟩ := look_out_run kPrs w8 120 Try.underlying120 H Ky (c1, c2) hk Dm HM8.out.1 HM8.out.2 hokk
            have hlook' : (Instr.lookup 120 (.map (some H)) (.agg #[.int .i64 (c1 : Int), .int .i64 (c2 : Int)]) true).run Try.prog w8 = .ok (.tuple #[.int .i64 cc, .bool false]) w8 := hlook
            obtain ⟨bg, cg, rfl⟩ := own_slice HG8.out.row
            obtain ⟨nK, hnK⟩ : ∃ n, Ky.length = n := ⟨_, rfl⟩
            obtain ⟨w9', hrun9, hm9, hg9⟩ := World.ownsMap.update (w := w8) (t := 120) (e := 3) HM8.out.1 law69 Try.underlying120 (by unfold maxLen; omega) (val := .int .i64 (nK : Nat)) (keyPr (c1, c2) hokk) (plainElem_int Try.underlying3 (WalkArith.wf_i64 (by omega)))
            have hrun9' : (Instr.mapUpdate 120 (.map (some H)) (.agg #[.int .i64 (c1 : Int), .int .i64 (c2 : Int)]) (.int .i64 (nK : Int))).run Try.prog w8 = .ok () w9' := hrun9
            have hG9 := HG8.out.off (grown_only hg9) (fun k e z => by
              cases z
              rcases e with e | ⟨q, hq, e⟩
              · exact row_nomap HG8.out.row e HM8.out.1
              · exact row_nomap (HG8.out.fam.own q hq) e HM8.out.1)
            rw [hnK] at hG9 hm9 hKl ⊢
            have HG9 := hide hG9
            have HM9 := hide (And.intro hm9 (And.intro (grown_only hg9) hk))
            have HNK := hide hnK
            have hH9 : H ≤ w9'.heap.size := by have := hg9.size; omega
            have dB : ∀ o : Obj, Below w9'.heap.size w9' (w9'.alloc o) := fun o => (Below.refl _ _).alloc (Nat.le_refl _) _
            obtain ⟨i22, hi22, hz220, hz221, hz222⟩ := info_parts info22
            clear hlook hrun9 hm9 hg9 hG9 hk hnK
            go_upto_region 13 with (at_builtin; refine wpList_append_lies _ rfl (.tmp 73) (.tmp 74) 32 rfl H 22 i22 _ 1 24 Try.underlying32 hi22 hz220 hz221 hz222 rfl (by omega) (.slice bg nK cg) nK ((List.range nK).map val) rfl (own_below HG9.out.row (dB _)) ⟨w9'.heap.size, 0, none⟩ 1 1 [.slice none 0 0] rfl rfl (one_cells (World.alloc_heap_new _ _)) (by simp [Value.oneCell']) (by omega) (by unfold maxLen; omega) (by omega) (by simp <;> omega) _ rfl ?_; intro gg cap w10 h1 h2 h3 h4; have HN1 := hide (And.intro h1 h2); clear h1 h2 h3 h4)
            have O10 : Only w9' w10 (fun k => (Value.slice bg nK cg).ownBlock = some k) := (Only.ofBelow (dB _)).trans (grown_only HN1.out.2)
            have HG10 := hide (HG9.out.new O10 HN1.out.1)
            have hval : ((List.range nK).map val ++ [Value.slice none 0 0])[nK]? = some (.slice none 0 0) := by rw [List.getElem?_append_right (by simp)]; simp
            have HR := hide (And.intro (owI_nil w10 H) (And.intro HN1.out.1 hval))
            have q3 := (row_cell HR.out.2.1 hval).1
            have f3 := (row_cell HR.out.2.1 hval).2
            have hH10 : H ≤ w10.heap.size := by have := O10.size; omega
            have HO10 := hide O10
            have j1 : (0 : Int) ≤ (nK : Int) := by omega
            have j2 : (nK : Int) < ((nK + 1 : Nat) : Int) := by omega
            clear O10 hval hi22 hz220 hz221 hz222 dA dB
            have dA : ∀ o : Obj, Below w10.heap.size w10 (w10.alloc o) := fun o => (Below.refl _ _).alloc (Nat.le_refl _) _
            go_wp2_with (at_builtin; refine wpList_appI rfl (.tmp 81) (.tmp 83) rfl H (.slice none 0 0) (natI ([] : List Nat)) rfl (own_below HR.out.1 (dA _)) w10.heap.size (s : Int) rfl (World.alloc_heap_new _ _) (by simp [natI]) (by simp <;> omega) ?_; intro b4 m4 k4 w9 h1 h2 h3 h4; have O89 : Only w10 w9 (fun k => (Value.slice none 0 0).ownBlock = some k) := (Only.ofBelow (dA _)).trans h3.out; have R9 := row_only HR.out.2.1 O89 (fun k hk e => row_two HR.out.2.1 HR.out.1 (by decide) hk e); have z1 := (row_cell R9 (u := .slice none 0 0) (j := nK) HR.out.2.2).1; have z2 := (row_cell R9 (u := .slice none 0 0) (j := nK) HR.out.2.2).2; have HN := hide (And.intro h1.out (And.intro h2.out (And.intro O89 h4.out))); clear h1 h2 h3 h4 O89 R9)
            go_roundw
            case rel =>
              have GP := HG10.out.put (i := nK) (v := .slice b4 m4 k4) (X := [s]) (by omega) (by rw [updF_same]; exact HN.out.2.2.1) (by have := HN.out.1; simpa [natI] using this) (fun k hk => by
                rw [updF_same]
                rcases HN.out.2.2.2 with q | q
                · exact Or.inl (by rw [← q]; exact hk)
                · rw [q] at hk
                  cases hk
                  exact Or.inr (by simp)) (by have q := HZ.out.1.cr.lt; have := HX.out.1; omega)
              have hgg : H ≤ gg := (HG10.out.row.lt gg rfl).1
              have hHk : ∀ k, ((updF val nK (Value.slice none 0 0) nK).ownBlock = some k ∨ k = gg) → H ≤ k := fun k e => e.elim (fun q => by rw [updF_same] at q; cases q) (fun q => by rw [q]; exact hgg)
              have hHb : ∀ k, (Value.slice bg nK cg).ownBlock = some k → H ≤ k := fun k e => (HG9.out.row.lt k e).1
              have hZk : ∀ k, Rz B Zp k → ¬ H ≤ k := fun k r e => r.2 (by have := HX.out.2.2.1; rw [← this]; exact Or.inr e)
              have m10 := map_only HM9.out.1 HO10.out (fun e => row_nomap HG9.out.row e HM9.out.1)
              refine ⟨i + 1, by omega, by go_num, Ky ++ [(c1, c2)], updF (updF val nK (.slice none 0 0)) nK (.slice b4 m4 k4), updF (updF GL nK []) nK [s], hide ⟨(((HP8.out.alike (fun _ _ => rfl) (fun q _ => HFL.out q)).on HM9.out.2.1 (fun k r e => hZk k r (by cases e; exact Nat.le_refl _))).on HO10.out (fun k r e => hZk k r (hHb k e))).on GP.2 (fun k r e => hZk k r (hHk k e)), ⟨_, ?_, HM8.out.2.new HOK.out HM9.out.2.2 hokk⟩, ?_, ?_, ((HW8.out.trans (HM9.out.2.1.mono (fun k _ e => Or.inr (by cases e; exact Nat.le_refl _)))).trans (HO10.out.mono (fun k _ e => Or.inr (hHb k e)))).trans (GP.2.mono (fun k _ e => Or.inr (hHk k e)))⟩⟩
              · have q := map_only m10 GP.2 (fun e => e.elim (fun q => by rw [updF_same] at q; cases q) (fun q => row_nomap HG10.out.row (k := gg) rfl (q ▸ m10)))
                rw [List.length_append, List.length_singleton, HNK.out]
                exact q
              · rw [List.length_append, List.length_singleton, HNK.out]
                exact GP.1
              · rw [HTK.out, ← HKY.out, ← HNK.out]
                exact HK8.out.new (by rw [HKY.out]; exact HM9.out.2.2)
            case measure => simp [intOf]; omega
    · have i0 : ¬ (i : Int) < (nW : Int) := by omega
      obtain rfl : i = nW := by omega
      obtain ⟨bg, cg, rfl⟩ := own_slice HY.out.2.2.1.row
      obtain ⟨nK, hnK⟩ : ∃ n, Ky.length = n := ⟨_, rfl⟩
      have HNK := hide hnK
      rw [hnK] at HY ⊢
      have hp := HY.out.1.zone (Z' := fun k => Z k ∨ (w.heap.size ≤ k ∧ k < wr.heap.size)) (fun k _ z => by have := HX.out.2.2.1; rw [← this]; exact z.elim Or.inl (fun q => Or.inr (by rw [← HX.out.1]; exact q.1)))
      have HOW : Hid (Only w wr (Rz B Z)) := hide (HY.out.2.2.2.2.mono (fun k hk e => by
        rcases e with e | e
        · exact e
        · have := HX.out.1; omega))
      have PW := hp.wait (v := .slice none 0 0) (X := []) (w' := wr) ha (fun k z => z.elim (fun q => Nat.lt_of_lt_of_le (HZ.out.2.2.2.1 k q) HOW.out.size) (fun q => q.2)) (Only.ofBelow (Below.refl _ _)) (owI_nil _ _) (fun k hk => by cases hk)
      have y5 : wr.cell? ⟨b, 5, none⟩ = some (.slice (some ⟨gw, 0, none⟩) M M) := cell_of hp.bx rfl
      have yW : wr.cell? ⟨gw, a, none⟩ = some (.slice t1 i k1) := by have := hp.wr.at a ha; rwa [HX.out.2.2.2.2.2.2.1] at this
      have fW := hp.wr.fz a
      have HPW := hide PW
      have hgwH : gw < H := by have q := HZ.out.1.wr.lt; have := HX.out.1; omega
      clear hp PW hnK
      go_wp2_with fail
      go_ret
      have eW : WL.take i = WL := by rw [← HX.out.2.2.2.2.2.1, List.take_length]
      refine ⟨bg, nK, cg, rfl, val, GL, Ky, hide ⟨(HPW.out.1.zone (fun k _ z => z.imp id (fun q => ⟨q.1, by simpa [World.setCell] using q.2⟩))).alike (fun _ _ => rfl) (fun p hp => ?_), HNK.out.symm, ?_, ?_, HOW.out.trans (HPW.out.2.mono (fun k _ r => ⟨r.1, fun z => r.2 (Or.inl z)⟩))⟩⟩
      · unfold flC
        rw [eW]
        have hM : 0 < M := by omega
        have hpN : p / M < N := Nat.div_lt_of_lt_mul (by rw [Nat.mul_comm, ← HZ.out.2.2.1]; exact hp)
        by_cases e : p % M = a
        · cases hf : fl p with
          | false => simp
          | true =>
            have hm : p / M ∈ WL := (HX.out.2.2.2.1.2 _).2 ⟨hpN, by rw [← e, place_div]; exact hf⟩
            have hmm2 : p ∈ WL.map (fun s => s * M + a) := List.mem_map.2 ⟨p / M, hm, by rw [← e]; exact place_div⟩
            rw [decide_eq_true e, decide_eq_true hmm2]
        · have hmm2 : ¬ p ∈ WL.map (fun s => s * M + a) := fun z => by
            obtain ⟨q, _, z⟩ := List.mem_map.1 z
            exact e (by rw [← z]; exact mod_place ha)
          rw [decide_eq_false e, decide_eq_false hmm2]
      · rw [HX.out.1]
        exact HY.out.2.2.1.only (only_set wr gw a (.slice none 0 0)) (fun k hk _ e => by omega)
      · rw [HX.out.2.1]
        have q := HY.out.2.2.2.1
        rwa [eW] at q
/-! ### part -/
theorem own_some {W : World} {B : Nat} {v : Value} {X : List Int} (h : OwI W B v X) (hx : 0 < X.length) : ∃ g c, v = .slice (some ⟨g, 0, none⟩) X.length c := by
  rcases h.2 with ⟨_, e⟩ | ⟨g, cap, cur, e, _⟩
  · omega
  · exact ⟨g, cap, e⟩
theorem own_fz {W : World} {B g n c : Nat} {X : List Int} (h : OwI W B (.slice (some ⟨g, 0, none⟩) n c) X) (j : Nat) : W.frozen? ⟨g, j, none⟩ = false := by
  rcases h.2 with ⟨e, _⟩ | ⟨g', cap, cur, e, hb, hg, _⟩
  · cases e
  · cases e
    exact fz_of hg
set_option maxRecDepth 100000 in
set_option maxHeartbeats 4000000 in
theorem part_done (B : Nat) (Z : Nat → Prop) (w : World) (b N M gf : Nat) (aN : Option Addr) (lN cN gc gw gs gi : Nat) (V : Nat → Value) (L : Nat → List Nat) (cl : Nat → Nat) (fl : Nat → Bool) (Kn : Nat) (Nx : List Int) (h : PaR B Z w b N M gf aN lN cN gc gw gs gi V L cl fl) (_hW : WtOk N M L fl) (hS : SzOk N Kn cl (L 0)) (_hI : InOk N M Nx L) (kl : ∀ s, s < N → cl s < Kn) (_hlN : lN = N * M) (_bl : lN ≤ 4194304) (bN : N ≤ 4194304) (bK : Kn ≤ 4194306) (_hB : B ≤ w.heap.size) (_hh : ∀ k, Z k → k < w.heap.size) (G : List Nat) (n cg C : Nat) (ag : Option Addr) (hn : G.length = n) (hG : ∀ W, Only w W (Rz B Z) → RdN W ag (natI G)) (hGd : G.Nodup) (hGC : ∀ s ∈ G, s < N ∧ cl s = C) (hne : 0 < n) (hr : clN N cl C = n) :
    Calls Try.prog 72 #[.pointer (some ⟨b, 0, none⟩), .slice ag n cg] w fun e w' => e = .returned (.tuple #[]) ∧ Below w.heap.size w w' := by
  have hsl := hS.1
  have hCK : C < Kn := by
    have hm : G[0]'(by omega) ∈ G := List.getElem_mem _
    have q := hGC _ hm
    rw [← q.2]
    exact kl _ q.1
  have hGr := hG w (Only.ofBelow (Below.refl _ _))
  obtain ⟨g0, o0, eg, c0⟩ := natI_rd hGr 0 (by omega)
  subst eg
  obtain ⟨x0, hx0⟩ : ∃ x, G[0]'(by omega) = x := ⟨_, rfl⟩
  rw [hx0, Nat.add_zero] at c0
  have hx1 := hGC x0 (by rw [← hx0]; exact List.getElem_mem _)
  have y3 : w.cell? ⟨b, 3, none⟩ = some (.slice (some ⟨gc, 0, none⟩) N N) := cell_of h.bx rfl
  have y4 := cell_of h.bx (j := 4) (v := V 0) rfl
  have c1 : w.cell? ⟨gc, x0, none⟩ = some (.int .i64 (C : Int)) := by have := h.cr.at x0 hx1.1; rwa [hx1.2] at this
  have l0 : (0 : Int) ≤ (x0 : Int) := by omega
  have l1 : (x0 : Int) < (N : Int) := by omega
  have l2 : (0 : Int) < (n : Int) := by omega
  have l3 : (0 : Int) ≤ (C : Int) := by omega
  have l4 : (C : Int) < (Kn : Int) := by omega
  have hO := h.fam.own 0 (by omega)
  obtain ⟨gk, cS, hV0⟩ := own_some hO (by rw [natI_len]; omega)
  rw [natI_len, hsl] at hV0
  have hO' := hO
  rw [hV0] at hO' y4
  have hrd := (owI_rd hO').2
  obtain ⟨gk', ok', ek, c2⟩ := natI_rd hrd C (by omega)
  have hgk : gk' = gk ∧ ok' = 0 := by injection ek with e; injection e with e1 e2; exact ⟨e1.symm, e2.symm⟩
  obtain ⟨rfl, rfl⟩ := hgk
  obtain ⟨sc, hsc⟩ : ∃ x, (L 0)[C]'(by omega) = x := ⟨_, rfl⟩
  rw [hsc, Nat.zero_add] at c2
  have hscN : sc = clN N cl C := by
    have := hS.2 C hCK
    rw [List.getD_eq_getElem?_getD, List.getElem?_eq_getElem (by omega), hsc] at this
    exact this
  have hct := cN_oth hGd hGC
  have hsN := cN_le N cl C
  have e0 : (sc : Int) = (n : Int) := by omega
  have iw : IntKind.i64.wrap ((sc : Int) - (n : Int)) = 0 := by rw [IntKind.wrap_i64]; omega
  clear h _hW hS _hI kl hG hGd hGC hGr hx1 hO hO' hrd hscN hct hsN hsl hsc hx0 e0 hr
  go_enter Try.func72, Try.ntmps72
  go_upto_region 0 with fail
  go_quiet (fail)
  go_wp2_with fail
  refine bodyPost_ret (results_none rfl _ _ _) rfl ?_
  exact ⟨rfl, below_drewN2 (Below.refl _ _) _⟩
def clX (cl : Nat → Nat) (Kn : Nat) (T : List Nat) : Nat → Nat := fun s => if decide (s ∈ T) then Kn else cl s
def flX (Nx : List Int) (fl : Nat → Bool) (T : List Nat) : Nat → Bool := fun p => fl p || decide (nxt Nx p ∈ T)
set_option maxRecDepth 100000 in
set_option maxHeartbeats 8000000 in
theorem part_ok (B : Nat) (Z : Nat → Prop) (w : World) (b N M gf : Nat) (aN : Option Addr) (lN cN gc gw gs gi : Nat) (V : Nat → Value) (L : Nat → List Nat) (cl : Nat → Nat) (fl : Nat → Bool) (Kn : Nat) (Nx : List Int) (h : PaR B Z w b N M gf aN lN cN gc gw gs gi V L cl fl) (hW : WtOk N M L fl) (hS : SzOk N Kn cl (L 0)) (hI : InOk N M Nx L) (kl : ∀ s, s < N → cl s < Kn) (hlN : lN = N * M) (bl : lN ≤ 4194304) (bN : N ≤ 4194304) (bK : Kn ≤ 4194306) (hB : B ≤ w.heap.size) (hh : ∀ k, Z k → k < w.heap.size) (G : List Nat) (n cg C : Nat) (ag : Option Addr) (hn : G.length = n) (hG : ∀ W, Only w W (Rz B Z) → RdN W ag (natI G)) (hGd : G.Nodup) (hGC : ∀ s ∈ G, s < N ∧ cl s = C) (hne : 0 < n) (hr : n < clN N cl C) :
    Calls Try.prog 72 #[.pointer (some ⟨b, 0, none⟩), .slice ag n cg] w fun e w' => e = .returned (.tuple #[]) ∧ ∃ X V' L', Hid (X.Nodup ∧ (X = G ∨ X = othL N cl C G) ∧ PaR B Z w' b N M gf aN lN cN gc gw gs gi V' L' (clX cl Kn X) (flX Nx fl X) ∧ WtOk N M L' (flX Nx fl X) ∧ SzOk N (Kn + 1) (clX cl Kn X) (L' 0) ∧ InOk N M Nx L' ∧ Only w w' (Rz B Z)) := by
  have hsl := hS.1
  have hCK : C < Kn := by
    have hm : G[0]'(by omega) ∈ G := List.getElem_mem _
    have q := hGC _ hm
    rw [← q.2]
    exact kl _ q.1
  have hGr := hG w (Only.ofBelow (Below.refl _ _))
  obtain ⟨g0, o0, eg, c0⟩ := natI_rd hGr 0 (by omega)
  subst eg
  obtain ⟨x0, hx0⟩ : ∃ x, G[0]'(by omega) = x := ⟨_, rfl⟩
  rw [hx0, Nat.add_zero] at c0
  have hx1 := hGC x0 (by rw [← hx0]; exact List.getElem_mem _)
  have y3 : w.cell? ⟨b, 3, none⟩ = some (.slice (some ⟨gc, 0, none⟩) N N) := cell_of h.bx rfl
  have y4 := cell_of h.bx (j := 4) (v := V 0) rfl
  have c1 : w.cell? ⟨gc, x0, none⟩ = some (.int .i64 (C : Int)) := by have := h.cr.at x0 hx1.1; rwa [hx1.2] at this
  have l0 : (0 : Int) ≤ (x0 : Int) := by omega
  have l1 : (x0 : Int) < (N : Int) := by omega
  have l2 : (0 : Int) < (n : Int) := by omega
  have l3 : (0 : Int) ≤ (C : Int) := by omega
  have l4 : (C : Int) < (Kn : Int) := by omega
  have hO := h.fam.own 0 (by omega)
  obtain ⟨gk, cS, hV0⟩ := own_some hO (by rw [natI_len]; omega)
  rw [natI_len, hsl] at hV0
  have hO' := hO
  rw [hV0] at hO' y4
  have hrd := (owI_rd hO').2
  obtain ⟨gk', ok', ek, c2⟩ := natI_rd hrd C (by omega)
  have hgk : gk' = gk ∧ ok' = 0 := by injection ek with e; injection e with e1 e2; exact ⟨e1.symm, e2.symm⟩
  obtain ⟨rfl, rfl⟩ := hgk
  obtain ⟨sc, hsc⟩ : ∃ x, (L 0)[C]'(by omega) = x := ⟨_, rfl⟩
  rw [hsc, Nat.zero_add] at c2
  have hscN : sc = clN N cl C := by
    have := hS.2 C hCK
    rw [List.getD_eq_getElem?_getD, List.getElem?_eq_getElem (by omega), hsc] at this
    exact this
  have hct := cN_oth hGd hGC
  have hsN := cN_le N cl C
  obtain ⟨r, hrr⟩ : ∃ r, sc - n = r := ⟨_, rfl⟩
  have iw : IntKind.i64.wrap ((sc : Int) - (n : Int)) = (r : Int) := by rw [IntKind.wrap_i64]; omega
  have r0 : ¬ (r : Int) = 0 := by omega
  have hsn : n ≤ sc := by omega
  have hro : (othL N cl C G).length = r := by omega
  have hZ := hide (And.intro h (And.intro hW (And.intro hS (And.intro hI (And.intro kl (And.intro hh (And.intro hG (And.intro hGd (And.intro hGC (And.intro hn hCK))))))))))
  have HV := hide hV0
  have HSC := hide (And.intro hscN (And.intro hsn (And.intro hro (And.intro hrr hsl))))
  clear h hW hS hI kl hG hGd hGC hGr hx1 hO hO' hrd hscN hct hsN hsl hsc hx0 hr hrr hro hh
  have HLN := hide hlN
  clear hV0 ek hlN
  have hscl : sc ≤ N := by rw [HSC.out.1]; exact cN_le N cl C
  go_enter Try.func72, Try.ntmps72
  go_upto_region 0 with fail
  go_quiet (fail)
  obtain ⟨wd, hwd⟩ : ∃ W, w.drewN nq = W := ⟨_, rfl⟩
  have D0 : Below w.heap.size w wd := by rw [← hwd]; exact below_drewN2 (Below.refl _ _) _
  have HD0 := hide D0
  have y4' := (D0.cell (World.block_lt_of_cell? w _ y4)).trans y4
  have c2' := (D0.cell (World.block_lt_of_cell? w _ c2)).trans c2
  rw [hwd]
  clear y4 c2 c0 c1 y3 D0 hwd
  go_upto_block 0 with fail
  clear y4' c2'
  go_cut [1] from 29 to 41 (fun v1 W => ∃ ax nx cx X Z', v1 = .slice ax nx cx ∧ 0 < nx ∧ nx ≤ sc ∧ Hid (X.length = nx ∧ X.Nodup ∧ (∀ s ∈ X, s < N ∧ cl s = C) ∧ (X = G ∨ X = othL N cl C G) ∧ (∀ W', Only W W' (Rz B Z') → RdN W' ax (natI X)) ∧ (∀ k, Z k → Z' k) ∧ (∀ k, Z' k → k < W.heap.size) ∧ PaR B Z' W b N M gf aN lN cN gc gw gs gi V L cl fl ∧ Only w W (Rz B Z)))
  case first =>
    by_cases hlt : r < n
    · have l5 : (r : Int) < (n : Int) := by omega
      have TO := others_any B Z wd b N M gf aN lN cN gc gw gs gi V L cl fl (hZ.out.1.below HD0.out) C n cg (some ⟨g0, o0, none⟩) G (hZ.out.2.2.2.2.2.2.1 wd (Only.ofBelow HD0.out)) hZ.out.2.2.2.2.2.2.2.2.2.1 (fun s hs => (hZ.out.2.2.2.2.2.2.2.2.1 s hs).1) (by omega) bN
      go_wp2_with (go_at_call 77; refine TO.mono ?_; rintro e w2 ⟨b9, m9, c9, rfl, HO, D2⟩; have HD2 := hide D2; clear D2)
      go_meet
      obtain ⟨em, hrd⟩ := owI_rd HO.out
      rw [natI_len, HSC.out.2.2.1] at em
      refine ⟨b9, m9, c9, othL N cl C G, (fun k => Z k ∨ (wd.heap.size ≤ k ∧ k < w2.heap.size)), rfl, by omega, by omega, hide ⟨by rw [em]; exact HSC.out.2.2.1, nodup_filter_range _ _, fun s hs => ?_, Or.inr rfl, fun W' o => ?_, fun k z => Or.inl z, fun k z => ?_, ?_, ?_⟩⟩
      · have := List.mem_filter.1 hs
        simp at this
        exact ⟨this.1, this.2.1⟩
      · exact (owI_rd (row_only HO.out o (fun k hk q => q.2 (Or.inr (HO.out.lt k hk))))).2
      · rcases z with z | z
        · have := hZ.out.2.2.2.2.2.1 k z
          have := HD0.out.size
          have := HD2.out.size
          omega
        · exact z.2
      · exact ((hZ.out.1.below HD0.out).zone (fun k hk z => z.elim id (fun q => by omega))).below HD2.out
      · exact Only.ofBelow (HD0.out.trans (HD2.out.mono HD0.out.size))
    · have l5 : ¬ (r : Int) < (n : Int) := by omega
      go_wp2_with fail
      go_meet
      refine ⟨some ⟨g0, o0, none⟩, n, cg, G, Z, rfl, hne, hsn, hide ⟨hZ.out.2.2.2.2.2.2.2.2.2.1, hZ.out.2.2.2.2.2.2.2.1, hZ.out.2.2.2.2.2.2.2.2.1, Or.inl rfl, fun W' o => ?_, fun k z => z, fun k z => ?_, hZ.out.1.below HD0.out, Only.ofBelow HD0.out⟩⟩
      · exact hZ.out.2.2.2.2.2.2.1 W' ((Only.ofBelow HD0.out).trans o)
      · have := hZ.out.2.2.2.2.2.1 k z
        have := HD0.out.size
        omega
  case rest =>
    obtain ⟨ax, nx, cx, X, Z', rfl, hnx, hnxs, HC⟩ := hcut
    rename World => wz
    obtain ⟨y, hy⟩ : ∃ y, sc - nx = y := ⟨_, rfl⟩
    have iw2 : IntKind.i64.wrap ((sc : Int) - (nx : Int)) = (y : Int) := by rw [IntKind.wrap_i64]; omega
    have HP := hide HC.out.2.2.2.2.2.2.2.1
    have hV0 := HV.out
    have hO := HP.out.fam.own 0 (by omega)
    rw [hV0] at hO
    have hrd := (owI_rd hO).2
    obtain ⟨gq, ok', ek, c2⟩ := natI_rd hrd C (by have := HSC.out.2.2.2.2; have := hZ.out.2.2.2.2.2.2.2.2.2.2; omega)
    have hgk : gk' = gq ∧ ok' = 0 := by injection ek with e; injection e with e1 e2; exact ⟨e1, e2.symm⟩
    obtain ⟨rfl, rfl⟩ := hgk
    have hlC : C < (L 0).length := by have := HSC.out.2.2.2.2; omega
    have hscc : (L 0)[C]'hlC = sc := by
      have q := hZ.out.2.2.1.2 C hCK
      rw [List.getD_eq_getElem?_getD, List.getElem?_eq_getElem hlC] at q
      exact q.trans HSC.out.1.symm
    rw [hscc, Nat.zero_add] at c2
    have fz0 : wz.frozen? ⟨gk', C, none⟩ = false := own_fz hO C
    have y4 : wz.cell? ⟨b, 4, none⟩ = some (.slice (some ⟨gk', 0, none⟩) Kn cS) := by have := cell_of HP.out.bx (j := 4) (v := V 0) rfl; rwa [hV0] at this
    obtain ⟨w5, hw5⟩ : ∃ w5, wz.setCell ⟨gk', C, none⟩ (.int .i64 (y : Int)) = w5 := ⟨_, rfl⟩
    have P5 := HP.out.size hV0 C y
    rw [hw5] at P5
    obtain ⟨S1, hS1⟩ : ∃ S, (L 0).set C y = S := ⟨_, rfl⟩
    rw [hS1] at P5
    have hS1l : S1.length = Kn := by rw [← hS1, List.length_set]; exact HSC.out.2.2.2.2
    have HSS := hide (And.intro hS1 hy)
    have z4 : w5.cell? ⟨b, 4, none⟩ = some (.slice (some ⟨gk', 0, none⟩) Kn cS) := by have := cell_of P5.1.bx (j := 4) (v := V 0) rfl; rwa [hV0] at this
    have H5 := hide P5
    have hB5 : B ≤ w5.heap.size := by
      have q1 := H5.out.2.1.size
      have q2 := HC.out.2.2.2.2.2.2.2.2.size
      omega
    have HH := hide (And.intro hlC (And.intro hV0 hS1l))
    clear hscc hlC
    clear hrd hO ek hS1 hS1l hV0 P5 hy
    go_upto_region 6 with fail
    clear c2 fz0 y4
    try rw [hw5]
    clear hw5
    have dA : ∀ o : Obj, Below w5.heap.size w5 (w5.alloc o) := fun o => (Below.refl _ _).alloc (Nat.le_refl _) _
    have ho5 : OwI w5 B (.slice (some ⟨gk', 0, none⟩) Kn cS) (natI S1) := by
      have q := H5.out.1.fam.own 0 (by omega)
      rw [updF_same, HH.out.2.1] at q
      exact q
    have HO5 := hide ho5
    clear ho5
    go_upto_region 7 with (at_builtin; refine wpList_appI rfl (.tmp 56) (.tmp 59) rfl B (.slice (some ⟨gk', 0, none⟩) Kn cS) (natI S1) rfl (own_below HO5.out (dA _)) w5.heap.size (nx : Int) rfl (World.alloc_heap_new _ _) (by rw [natI_len, HH.out.2.2]; omega) (by simp <;> omega) ?_; intro b6 m6 k6 w6 h1 h2 h3 h4; have O56 : Only w5 w6 (fun k => (Value.slice (some ⟨gk', 0, none⟩) Kn cS).ownBlock = some k) := (Only.ofBelow (dA _)).trans h3.out; have bb6 : w6.heap[b]? = _ := (O56.block b (Array.getElem?_eq_some_iff.1 H5.out.1.bx).1 (fun e => row_tag HO5.out H5.out.1.bx (by decide) e)).trans H5.out.1.bx; have e6 : w6.cell? ⟨b, 4, none⟩ = some (.slice (some ⟨gk', 0, none⟩) Kn cS) := (cell_of bb6 rfl).trans (congrArg some HH.out.2.1); have z6 : w6.frozen? ⟨b, 4, none⟩ = false := fz_of bb6; have HN := hide (And.intro h1.out (And.intro h2.out (And.intro O56 h4.out))); clear h1 h2 h3 h4 O56 bb6)
    clear z4
    have em : m6 = Kn + 1 := by rw [HN.out.2.1, natI_len, HH.out.2.2]
    obtain ⟨w7, hw7⟩ : ∃ w7, w6.setCell ⟨b, 4, none⟩ (.slice b6 m6 k6) = w7 := ⟨_, rfl⟩
    have P7 := H5.out.1.grow (v := .slice b6 m6 k6) (X := S1 ++ [nx]) (w' := w6) (fun k z => Nat.lt_of_lt_of_le (HC.out.2.2.2.2.2.2.1 k z) H5.out.2.1.size) (by rw [HH.out.2.1]; exact HN.out.2.2.1) (by rw [natI_snoc]; exact HN.out.1) (fun k hk => by
      rw [HH.out.2.1]
      rcases HN.out.2.2.2 with q | q
      · exact Or.inl (by rw [← q]; exact hk)
      · rw [q] at hk
        cases hk
        exact Or.inr (by simp))
    rw [hw7] at P7
    obtain ⟨V1, hV1⟩ : ∃ V1, updF V 0 (.slice b6 m6 k6) = V1 := ⟨_, rfl⟩
    obtain ⟨L1, hL1⟩ : ∃ L1, updF (updF L 0 S1) 0 (S1 ++ [nx]) = L1 := ⟨_, rfl⟩
    rw [hV1, hL1] at P7
    have HV1 : Hid (V1 0 = .slice b6 m6 k6 ∧ L1 0 = S1 ++ [nx] ∧ (∀ i, i ≠ 0 → V1 i = V i ∧ L1 i = L i)) := hide ⟨by rw [← hV1]; exact updF_same _ _ _, by rw [← hL1]; exact updF_same _ _ _, fun i hi => ⟨by rw [← hV1]; exact updF_ne _ _ hi, by rw [← hL1]; rw [updF_ne _ _ hi, updF_ne _ _ hi]⟩⟩
    have HP7 : Hid (PaR B Z' w7 b N M gf aN lN cN gc gw gs gi V1 L1 cl fl ∧ Only wz w7 (Rz B Z')) := hide ⟨P7.1, (H5.out.2.1.mono (fun k _ e => by rw [e]; exact H5.out.2.2)).trans P7.2⟩
    have HEM := hide em
    clear P7 hV1 hL1 em
    try rw [hw7]
    clear hw7 e6 z6
    have J0 : Hid (PaR B Z' w7 b N M gf aN lN cN gc gw gs gi V1 L1 (clX cl Kn (X.take 0)) (flX Nx fl (X.take 0)) ∧ WtOk N M L1 (flX Nx fl (X.take 0)) ∧ (V1 0 = .slice b6 m6 k6 ∧ L1 0 = S1 ++ [nx]) ∧ (∀ q, L1 (1 + M + q) = L (1 + M + q)) ∧ Only wz w7 (Rz B Z')) := hide ⟨HP7.out.1.alike (fun c _ => by simp [clX]) (fun p _ => by simp [flX]), hZ.out.2.1.alike (fun a _ => (HV1.out.2.2 (1 + a) (by omega)).2) (fun p _ => by simp [flX]), ⟨HV1.out.1, HV1.out.2.1⟩, fun q => (HV1.out.2.2 (1 + M + q) (by omega)).2, HP7.out.2⟩
    clear HP7 HV1
    go_wp2_with fail
    go_loopw [65] (fun iv wr => ∃ i : Nat, i ≤ nx ∧ iv = .int .i64 (i : Int) ∧ ∃ V' L', Hid (PaR B Z' wr b N M gf aN lN cN gc gw gs gi V' L' (clX cl Kn (X.take i)) (flX Nx fl (X.take i)) ∧ WtOk N M L' (flX Nx fl (X.take i)) ∧ (V' 0 = .slice b6 m6 k6 ∧ L' 0 = S1 ++ [nx]) ∧ (∀ q, L' (1 + M + q) = L (1 + M + q)) ∧ Only wz wr (Rz B Z'))) (fun iv _ => nx - (intOf iv).toNat)
    case atStart => exact ⟨0, Nat.zero_le _, rfl, V1, L1, J0⟩
    case round =>
      clear J0
      obtain ⟨i, hi, rfl, V', L', HY⟩ := hrel
      by_cases hlt : i < nx
      · have i0 : (i : Int) < (nx : Int) := by omega
        have i1 : (0 : Int) ≤ (i : Int) := by omega
        have hil : i < X.length := by have := HC.out.1; omega
        obtain ⟨s, hs⟩ : ∃ s, X[i]'hil = s := ⟨_, rfl⟩
        have hsN : s < N := by rw [← hs]; exact (HC.out.2.2.1 _ (List.getElem_mem hil)).1
        obtain ⟨gx, ox, ex, cx1⟩ := natI_rd (HC.out.2.2.2.2.1 wr HY.out.2.2.2.2) i hil
        rw [hs] at cx1
        subst ex
        have HXs : Hid (X[i]? = some s) := hide (by rw [List.getElem?_eq_getElem hil, hs])
        have s0 : (0 : Int) ≤ (s : Int) := by omega
        have s1 : (s : Int) < (N : Int) := by omega
        obtain ⟨u9, c9⟩ := HY.out.1.cr.cell s hsN
        have f9 := HY.out.1.cr.fz s
        have HPI := hide HY.out.1
        have ib : IntKind.i64.wrap ((m6 : Int) - 1) = (Kn : Int) := by have := HEM.out; rw [IntKind.wrap_i64]; omega
        have HV0 := hide HY.out.2.2.1.1
        have z4 : wr.cell? ⟨b, 4, none⟩ = some (.slice b6 m6 k6) := by have := cell_of HY.out.1.bx (j := 4) (v := V' 0) rfl; rwa [HY.out.2.2.1.1] at this
        have HZ4 := hide z4
        clear hs hil z4
        go_upto_region 10 with fail
        clear cx1
        go_cut [69] from 69 to 81 (fun v69 W => Hid (PaR B Z' W b N M gf aN lN cN gc gw gs gi V' L' (updF (clX cl Kn (X.take i)) s Kn) (flX Nx fl (X.take i)) ∧ Only wr W (Rz B Z')))
        case first =>
          have hmo : MonIL 0 [vI 0 (.pointer (some ⟨b, 0, none⟩)), vI 1 (.pointer (some ⟨b, 0, none⟩)), vI 2 (.pointer (some ⟨b, 3, none⟩)), vI 3 (.slice (some ⟨gc, 0, none⟩) N N), vI 4 (.int .i64 (s : Int)), vI 5 (.pointer (some ⟨b, 0, none⟩)), vI 6 (.pointer (some ⟨b, 0, none⟩)), vI 7 (.pointer (some ⟨b, 4, none⟩)), vI 8 (.slice b6 m6 k6), vI 9 (.int .i64 (m6 : Int)), vI 10 (.int .i64 (Kn : Int)), vI 11 (.pointer (some ⟨gc, s, none⟩))] := ⟨vI_mono _ _, vI_mono _ _, vI_mono _ _, vI_mono _ _, vI_mono _ _, vI_mono _ _, vI_mono _ _, vI_mono _ _, vI_mono _ _, vI_mono _ _, vI_mono _ _, vI_mono _ _, trivial⟩
          refine wp_region_sl [vI 0 (.pointer (some ⟨b, 0, none⟩)), vI 1 (.pointer (some ⟨b, 0, none⟩)), vI 2 (.pointer (some ⟨b, 3, none⟩)), vI 3 (.slice (some ⟨gc, 0, none⟩) N N), vI 4 (.int .i64 (s : Int)), vI 5 (.pointer (some ⟨b, 0, none⟩)), vI 6 (.pointer (some ⟨b, 0, none⟩)), vI 7 (.pointer (some ⟨b, 4, none⟩)), vI 8 (.slice b6 m6 k6), vI 9 (.int .i64 (m6 : Int)), vI 10 (.int .i64 (Kn : Int)), vI 11 (.pointer (some ⟨gc, s, none⟩))] (by kernel_rfl) (by kernel_rfl) (by kernel_rfl) (by kernel_rfl) hmo ⟨?o0, ?o1, ?o2, ?o3, ?o4, ?o5, ?o6, ?o7, ?o8, ?o9, ?o10, ?o11, trivial⟩ ?fin
          case o0 =>
            intro At yy W hy hb d hd K hK
            have s0 : At.tmps.getD 0 undef = .pointer (some ⟨b, 0, none⟩) := hb 0 rfl
            have s0' := s0
            rw [Array.getD_eq_getD_getElem?] at s0'
            clear hd hy hb
            go_simp
            exact hK.out _ W (stp_of hmo d (Below.refl _ _)) (if_pos rfl)
          case o1 =>
            intro At yy W hy hb d hd K hK
            have e0 : yy 0 = .pointer (some ⟨b, 0, none⟩) := by obtain ⟨_, _, _, _, e⟩ := hd ⟨0, .data⟩ (by simp) rfl rfl; exact e
            have s69 := (hy 0 _ 69 rfl rfl).trans e0
            have s69' := s69
            rw [Array.getD_eq_getD_getElem?] at s69'
            clear hd hy hb
            go_simp
            exact hK.out _ W (stp_of hmo d (Below.refl _ _)) (if_pos rfl)
          case o2 =>
            intro At yy W hy hb d hd K hK
            have e1 : yy 1 = .pointer (some ⟨b, 0, none⟩) := by obtain ⟨_, _, _, _, e⟩ := hd ⟨1, .data⟩ (by simp) rfl rfl; exact e
            have s70 := (hy 1 _ 70 rfl rfl).trans e1
            have s70' := s70
            rw [Array.getD_eq_getD_getElem?] at s70'
            clear hd hy hb
            go_simp
            exact hK.out _ W (stp_of hmo d (Below.refl _ _)) (if_pos rfl)
          case o3 =>
            intro At yy W hy hb d hd K hK
            have e2 : yy 2 = .pointer (some ⟨b, 3, none⟩) := by obtain ⟨_, _, _, _, e⟩ := hd ⟨2, .data⟩ (by simp) rfl rfl; exact e
            have s71 := (hy 2 _ 71 rfl rfl).trans e2
            have s71' := s71
            rw [Array.getD_eq_getD_getElem?] at s71'
            clear hd hy hb
            have y3 : W.cell? ⟨b, 3, none⟩ = some (.slice (some ⟨gc, 0, none⟩) N N) := cell_of (blk_on HPI.out.bx d) rfl
            go_simp
            exact hK.out _ W (stp_of hmo d (Below.refl _ _)) (if_pos rfl)
          case o4 =>
            intro At yy W hy hb d hd K hK
            have s7 : At.tmps.getD 7 undef = .int .i64 (s : Int) := hb 7 rfl
            have s7' := s7
            rw [Array.getD_eq_getD_getElem?] at s7'
            clear hd hy hb
            go_simp
            exact hK.out _ W (stp_of hmo d (Below.refl _ _)) (if_pos rfl)
          case o5 =>
            intro At yy W hy hb d hd K hK
            have s0 : At.tmps.getD 0 undef = .pointer (some ⟨b, 0, none⟩) := hb 0 rfl
            have s0' := s0
            rw [Array.getD_eq_getD_getElem?] at s0'
            clear hd hy hb
            go_simp
            exact hK.out _ W (stp_of hmo d (Below.refl _ _)) (if_pos rfl)
          case o6 =>
            intro At yy W hy hb d hd K hK
            have e5 : yy 5 = .pointer (some ⟨b, 0, none⟩) := by obtain ⟨_, _, _, _, e⟩ := hd ⟨5, .data⟩ (by simp) rfl rfl; exact e
            have s74 := (hy 5 _ 74 rfl rfl).trans e5
            have s74' := s74
            rw [Array.getD_eq_getD_getElem?] at s74'
            clear hd hy hb
            go_simp
            exact hK.out _ W (stp_of hmo d (Below.refl _ _)) (if_pos rfl)
          case o7 =>
            intro At yy W hy hb d hd K hK
            have e6 : yy 6 = .pointer (some ⟨b, 0, none⟩) := by obtain ⟨_, _, _, _, e⟩ := hd ⟨6, .data⟩ (by simp) rfl rfl; exact e
            have s75 := (hy 6 _ 75 rfl rfl).trans e6
            have s75' := s75
            rw [Array.getD_eq_getD_getElem?] at s75'
            clear hd hy hb
            go_simp
            exact hK.out _ W (stp_of hmo d (Below.refl _ _)) (if_pos rfl)
          case o8 =>
            intro At yy W hy hb d hd K hK
            have e7 : yy 7 = .pointer (some ⟨b, 4, none⟩) := by obtain ⟨_, _, _, _, e⟩ := hd ⟨7, .data⟩ (by simp) rfl rfl; exact e
            have s76 := (hy 7 _ 76 rfl rfl).trans e7
            have s76' := s76
            rw [Array.getD_eq_getD_getElem?] at s76'
            clear hd hy hb
            have y4 : W.cell? ⟨b, 4, none⟩ = some (.slice b6 m6 k6) := (d.cell (World.block_lt_of_cell? wr _ HZ4.out)).trans HZ4.out
            go_simp
            exact hK.out _ W (stp_of hmo d (Below.refl _ _)) (if_pos rfl)
          case o9 =>
            intro At yy W hy hb d hd K hK
            have e8 : yy 8 = .slice b6 m6 k6 := by obtain ⟨_, _, _, _, e⟩ := hd ⟨8, .data⟩ (by simp) rfl rfl; exact e
            have s77 := (hy 8 _ 77 rfl rfl).trans e8
            have s77' := s77
            rw [Array.getD_eq_getD_getElem?] at s77'
            clear hd hy hb
            go_simp
            exact hK.out _ W (stp_of hmo d (Below.refl _ _)) (if_pos rfl)
          case o10 =>
            intro At yy W hy hb d hd K hK
            have e9 : yy 9 = .int .i64 (m6 : Int) := by obtain ⟨_, _, _, _, e⟩ := hd ⟨9, .data⟩ (by simp) rfl rfl; exact e
            have s78 := (hy 9 _ 78 rfl rfl).trans e9
            have s78' := s78
            rw [Array.getD_eq_getD_getElem?] at s78'
            clear hd hy hb
            go_simp
            exact hK.out _ W (stp_of hmo d (Below.refl _ _)) (if_pos rfl)
          case o11 =>
            intro At yy W hy hb d hd K hK
            have e3 : yy 3 = .slice (some ⟨gc, 0, none⟩) N N := by obtain ⟨_, _, _, _, e⟩ := hd ⟨3, .data⟩ (by simp) rfl rfl; exact e
            have e4 : yy 4 = .int .i64 (s : Int) := by obtain ⟨_, _, _, _, e⟩ := hd ⟨4, .data⟩ (by simp) rfl rfl; exact e
            have s72 := (hy 3 _ 72 rfl rfl).trans e3
            have s72' := s72
            rw [Array.getD_eq_getD_getElem?] at s72'
            have s73 := (hy 4 _ 73 rfl rfl).trans e4
            have s73' := s73
            rw [Array.getD_eq_getD_getElem?] at s73'
            clear hd hy hb
            go_simp
            exact hK.out _ W (stp_of hmo d (Below.refl _ _)) (if_pos rfl)
          case fin =>
            intro yy lo hi W hM
            show wpList _ _ _ [_] _ _
            have e0 : yy 0 = .pointer (some ⟨b, 0, none⟩) := hM.fact 0 (by simp) rfl (notR_all 0 rfl)
            have e1 : yy 1 = .pointer (some ⟨b, 0, none⟩) := hM.fact 1 (by simp) rfl (notR_all 1 rfl)
            have e2 : yy 2 = .pointer (some ⟨b, 3, none⟩) := hM.fact 2 (by simp) rfl (notR_all 2 rfl)
            have e3 : yy 3 = .slice (some ⟨gc, 0, none⟩) N N := hM.fact 3 (by simp) rfl (notR_all 3 rfl)
            have e4 : yy 4 = .int .i64 (s : Int) := hM.fact 4 (by simp) rfl (notR_all 4 rfl)
            have e5 : yy 5 = .pointer (some ⟨b, 0, none⟩) := hM.fact 5 (by simp) rfl (notR_all 5 rfl)
            have e6 : yy 6 = .pointer (some ⟨b, 0, none⟩) := hM.fact 6 (by simp) rfl (notR_all 6 rfl)
            have e7 : yy 7 = .pointer (some ⟨b, 4, none⟩) := hM.fact 7 (by simp) rfl (notR_all 7 rfl)
            have e8 : yy 8 = .slice b6 m6 k6 := hM.fact 8 (by simp) rfl (notR_all 8 rfl)
            have e9 : yy 9 = .int .i64 (m6 : Int) := hM.fact 9 (by simp) rfl (notR_all 9 rfl)
            have e10 : yy 10 = .int .i64 (Kn : Int) := hM.fact 10 (by simp) rfl (notR_all 10 rfl)
            have e11 : yy 11 = .pointer (some ⟨gc, s, none⟩) := hM.fact 11 (by simp) rfl (notR_all 11 rfl)
            have dd := hM.d
            simp only [fills, Act.put, List.take, List.length, List.setIfInBounds_toArray, List.set_cons_zero, List.set_cons_succ, e0, e1, e2, e3, e4, e5, e6, e7, e8, e9, e10, e11]
            clear hM hmo e0 e1 e2 e3 e4 e5 e6 e7 e8 e9 e10 e11
            have HF := hide ((HPI.out.below dd).move s Kn)
            obtain ⟨u8, c8⟩ := (HPI.out.below dd).cr.cell s hsN
            have f8 := (HPI.out.below dd).cr.fz s
            have HFO : Hid (Only wr (W.setCell ⟨gc, s, none⟩ (.int .i64 (Kn : Int))) (Rz B Z')) := hide ((Only.ofBelow dd).trans (HF.out.2.mono (fun k _ e => by rw [e]; exact HPI.out.zo.2.1)))
            clear dd
            go_wp2_with fail
            go_meet
            exact hide ⟨HF.out.1, HFO.out⟩
        case rest =>
          rename World => wx
          have HCX := hide hcut.out
          clear hcut
          obtain ⟨I, hIe⟩ : ∃ I, L' (1 + M + s) = I := ⟨_, rfl⟩
          have HPX : Hid (PaR B Z' wx b N M gf aN lN cN gc gw gs gi V' L' (clX cl Kn (X.take (i + 1))) (flX Nx fl (X.take i))) := hide (HCX.out.1.alike (fun c _ => by
            unfold clX
            rw [List.take_add_one, HXs.out]
            by_cases e : c = s
            · subst e; rw [updF_same]; simp
            · rw [updF_ne _ _ e]; simp [e]) (fun p _ => rfl))
          have hO := HPX.out.fam.own (1 + M + s) (by omega)
          rw [hIe] at hO
          obtain ⟨bI, cI, eI⟩ := own_slice hO
          obtain ⟨lI, hlI⟩ : ∃ l, I.length = l := ⟨_, rfl⟩
          rw [natI_len, hlI] at eI
          have hIn : Hid (I.Nodup ∧ ∀ p, p ∈ I ↔ p < N * M ∧ nxt Nx p = s) := hide (by rw [← hIe, HY.out.2.2.2.1 s]; exact hZ.out.2.2.2.1 s hsN)
          have hlIl : lI ≤ 4194304 := by
            rw [← hlI]
            have := nodup_le hIn.out.1 (N := N * M) (fun q hq => ((hIn.out.2 q).1 hq).1)
            have := HLN.out
            omega
          have y7 : wx.cell? ⟨b, 7, none⟩ = some (.slice (some ⟨gi, 0, none⟩) N N) := cell_of HPX.out.bx rfl
          have yI : wx.cell? ⟨gi, s, none⟩ = some (.slice bI lI cI) := by have := HPX.out.ir.at s hsN; rwa [eI] at this
          have HE := hide (And.intro hIe (And.intro eI hlI))
          have J1 : Hid (PaR B Z' wx b N M gf aN lN cN gc gw gs gi V' L' (clX cl Kn (X.take (i + 1))) (fun p => flX Nx fl (X.take i) p || decide (p ∈ I.take 0)) ∧ WtOk N M L' (fun p => flX Nx fl (X.take i) p || decide (p ∈ I.take 0)) ∧ (V' 0 = .slice b6 m6 k6 ∧ L' 0 = S1 ++ [nx]) ∧ (∀ q, L' (1 + M + q) = L (1 + M + q)) ∧ Only wz wx (Rz B Z')) := hide ⟨HPX.out.alike (fun _ _ => rfl) (fun p _ => by simp), HY.out.2.1.alike (fun _ _ => rfl) (fun p _ => by simp), HY.out.2.2.1, HY.out.2.2.2.1, HY.out.2.2.2.2.trans HCX.out.2⟩
          have HWI := hide HY.out.2.2.2.1
          clear hO hIe eI hlI HY HPI HPX
          rename World => wo
          go_wp2_with fail
          clear y7 yI
          go_loopw [89] (fun iv wr => ∃ j : Nat, j ≤ lI ∧ iv = .int .i64 (j : Int) ∧ ∃ V2 L2, Hid (PaR B Z' wr b N M gf aN lN cN gc gw gs gi V2 L2 (clX cl Kn (X.take (i + 1))) (fun p => flX Nx fl (X.take i) p || decide (p ∈ I.take j)) ∧ WtOk N M L2 (fun p => flX Nx fl (X.take i) p || decide (p ∈ I.take j)) ∧ (V2 0 = .slice b6 m6 k6 ∧ L2 0 = S1 ++ [nx]) ∧ (∀ q, L2 (1 + M + q) = L (1 + M + q)) ∧ Only wz wr (Rz B Z') ∧ (∀ q, V2 (1 + M + q) = V' (1 + M + q) ∧ L2 (1 + M + q) = L' (1 + M + q)))) (fun iv _ => lI - (intOf iv).toNat)
          case atStart => exact ⟨0, Nat.zero_le _, rfl, V', L', hide ⟨J1.out.1, J1.out.2.1, J1.out.2.2.1, J1.out.2.2.2.1, J1.out.2.2.2.2, fun _ => ⟨rfl, rfl⟩⟩⟩
          case round =>
            clear J1
            obtain ⟨j, hj, rfl, V2, L2, HQ⟩ := hrel
            by_cases hjl : j < lI
            · have j0 : (j : Int) < (lI : Int) := by omega
              have j1 : (0 : Int) ≤ (j : Int) := by omega
              have hjI : j < I.length := by have := HE.out.2.2; omega
              obtain ⟨p, hp⟩ : ∃ p, I[j]'hjI = p := ⟨_, rfl⟩
              have hpm := (hIn.out.2 p).1 (by rw [← hp]; exact List.getElem_mem hjI)
              have hO := HQ.out.1.fam.own (1 + M + s) (by omega)
              rw [(HQ.out.2.2.2.2.2 s).1, (HQ.out.2.2.2.2.2 s).2, HE.out.1, HE.out.2.1] at hO
              obtain ⟨gI, oI, eI, cI2⟩ := natI_rd (owI_rd hO).2 j hjI
              rw [hp] at cI2
              have HPj : Hid (I[j]? = some p) := hide (by rw [List.getElem?_eq_getElem hjI, hp])
              have T70 := wait_any B Z' wr b N M gf aN lN cN gc gw gs gi V2 L2 _ _ HQ.out.1 HQ.out.2.1 p (by rw [HLN.out]; exact hpm.1) HLN.out bl (by omega) (by have q1 := HQ.out.2.2.2.2.1.size; have q2 := HC.out.2.2.2.2.2.2.2.2.size; omega) (fun k z => Nat.lt_of_lt_of_le (HC.out.2.2.2.2.2.2.1 k z) HQ.out.2.2.2.2.1.size)
              subst eI
              have HPM := hide hpm
              clear hO hp hjI hpm
              go_wp2_with (go_at_call 70; refine T70.mono ?_; rintro e wt ⟨rfl, V3, L3, H3⟩)
              go_roundw
              case rel =>
                have key : ∀ q, (flX Nx fl (X.take i) q || decide (q ∈ I.take (j + 1))) = updF (fun p => flX Nx fl (X.take i) p || decide (p ∈ I.take j)) p true q := fun q => by
                  rw [List.take_add_one, HPj.out]
                  by_cases e : q = p
                  · subst e; rw [updF_same]; simp
                  · rw [updF_ne _ _ e]; simp [e]
                exact ⟨j + 1, by omega, by go_num, V3, L3, hide ⟨H3.out.1.alike (fun _ _ => rfl) (fun q _ => key q), H3.out.2.1.alike (fun _ _ => rfl) (fun q _ => key q), ⟨H3.out.2.2.1.1.trans HQ.out.2.2.1.1, H3.out.2.2.1.2.trans HQ.out.2.2.1.2⟩, fun q => (H3.out.2.2.2.1 q).2.trans (HQ.out.2.2.2.1 q), HQ.out.2.2.2.2.1.trans H3.out.2.2.2.2, fun q => ⟨(H3.out.2.2.2.1 q).1.trans (HQ.out.2.2.2.2.2 q).1, (H3.out.2.2.2.1 q).2.trans (HQ.out.2.2.2.2.2 q).2⟩⟩⟩
              case measure => simp [intOf]; omega
            · have j0 : ¬ (j : Int) < (lI : Int) := by omega
              obtain rfl : j = lI := by omega
              go_wp2_with fail
              go_roundw
              case rel =>
                have key : ∀ q, q < N * M → flX Nx fl (X.take (i + 1)) q = (flX Nx fl (X.take i) q || decide (q ∈ I.take j)) := fun q hq => by
                  have e9 : I.take j = I := by rw [← HE.out.2.2, List.take_length]
                  rw [e9]
                  unfold flX
                  rw [List.take_add_one, HXs.out]
                  have := hIn.out.2 q
                  by_cases e : nxt Nx q = s
                  · rw [decide_eq_true (this.2 ⟨hq, e⟩)]
                    simp [e]
                  · rw [decide_eq_false (fun z => e (this.1 z).2)]
                    simp [e]
                exact ⟨i + 1, by omega, by go_num, V2, L2, hide ⟨HQ.out.1.alike (fun _ _ => rfl) (fun q hq => key q (by rw [← HLN.out]; exact hq)), HQ.out.2.1.alike (fun _ _ => rfl) key, HQ.out.2.2.1, HQ.out.2.2.2.1, HQ.out.2.2.2.2.1⟩⟩
              case measure => simp [intOf]; omega
      · have i0 : ¬ (i : Int) < (nx : Int) := by omega
        obtain rfl : i = nx := by omega
        go_wp2_with fail
        go_end0
        have eX : X.take i = X := by rw [← HC.out.1, List.take_length]
        have q := HY.out
        rw [eX] at q
        refine ⟨rfl, X, V', L', hide ⟨HC.out.2.1, HC.out.2.2.2.1, q.1.zone (fun k _ z => HC.out.2.2.2.2.2.1 k z), q.2.1, ?_, ?_, HC.out.2.2.2.2.2.2.2.2.trans (q.2.2.2.2.mono (fun k _ r => ⟨r.1, fun z => r.2 (HC.out.2.2.2.2.2.1 k z)⟩))⟩⟩
        · have z := hZ.out.2.2.1.split hCK hZ.out.2.2.2.2.1 HC.out.2.1 HC.out.2.2.1
          rw [q.2.2.1.2, ← HSS.out.1, ← HSS.out.2]
          have e1 : (L 0).getD C 0 = sc := (hZ.out.2.2.1.2 C hCK).trans HSC.out.1.symm
          rw [e1, HC.out.1] at z
          exact z
        · intro s hs
          rw [q.2.2.2.1 s]
          exact hZ.out.2.2.2.1 s hs
/-! ### settle, towards -/
/-- All that is known of the parting. -/
structure Pk (Nx : List Int) (fin : Nat → Bool) (B : Nat) (Z : Nat → Prop) (w : World) (b N M gf : Nat) (aN : Option Addr) (lN cN gc gw gs gi : Nat) (V : Nat → Value) (L : Nat → List Nat) (cl : Nat → Nat) (fl : Nat → Bool) (Kn pa : Nat) (pend : Nat → Nat) : Prop where
  r : PaR B Z w b N M gf aN lN cN gc gw gs gi V L cl fl
  w : WtOk N M L fl
  s : SzOk N Kn cl (L 0)
  i : InOk N M Nx L
  p : PInv Nx fin N M cl Kn fl pa pend
  k : 2 ≤ Kn
theorem mem_oth {N C s : Nat} {cl : Nat → Nat} {G : List Nat} : s ∈ othL N cl C G ↔ s < N ∧ cl s = C ∧ s ∉ G := by
  unfold othL
  simp [List.mem_filter]
theorem part_any (Nx : List Int) (fin : Nat → Bool) (B : Nat) (Z : Nat → Prop) (w : World) (b N M gf : Nat) (aN : Option Addr) (lN cN gc gw gs gi : Nat) (V : Nat → Value) (L : Nat → List Nat) (cl : Nat → Nat) (fl : Nat → Bool) (Kn pa : Nat) (pend : Nat → Nat) (h : Pk Nx fin B Z w b N M gf aN lN cN gc gw gs gi V L cl fl Kn pa pend) (hd : ∀ s a, s < N → a < M → dl Nx M s a < N) (hlN : lN = N * M) (bl : lN ≤ 4194304) (bN : N ≤ 4194304) (hB : B ≤ w.heap.size) (hh : ∀ k, Z k → k < w.heap.size) (G : List Nat) (n cg j : Nat) (ag : Option Addr) (hn : G.length = n) (hG : ∀ W, Only w W (Rz B Z) → RdN W ag (natI G)) (hGd : G.Nodup) (hGm : ∀ s, s ∈ G ↔ s < N ∧ pend s = j) (hj : j ≠ 0) (hne : 0 < n) :
    Calls Try.prog 72 #[.pointer (some ⟨b, 0, none⟩), .slice ag n cg] w fun e w' => e = .returned (.tuple #[]) ∧ ∃ V' L' cl' fl' K', Hid (Pk Nx fin B Z w' b N M gf aN lN cN gc gw gs gi V' L' cl' fl' K' pa (fun s => if pend s = j then 0 else pend s) ∧ Kn ≤ K' ∧ (K' = Kn → L' = L) ∧ Only w w' (Rz B Z)) := by
  have hm0 : G[0]'(by omega) ∈ G := List.getElem_mem _
  obtain ⟨C, hC⟩ : ∃ C, cl (G[0]'(by omega)) = C := ⟨_, rfl⟩
  have hg0 := (hGm _).1 hm0
  have hcls : ∀ s, s < N → pend s = j → cl s = C := fun s hs e => by
    rw [← hC]
    exact h.p.gw s _ hs hg0.1 (e.trans hg0.2.symm) (by rw [e]; exact hj)
  have hGC : ∀ s ∈ G, s < N ∧ cl s = C := fun s hs => ⟨((hGm s).1 hs).1, hcls s ((hGm s).1 hs).1 ((hGm s).1 hs).2⟩
  have few := h.p.few
  have hct := cN_oth hGd hGC
  by_cases hr : clN N cl C = n
  · refine (part_done B Z w b N M gf aN lN cN gc gw gs gi V L cl fl Kn Nx h.r h.w h.s h.i h.p.kl hlN bl bN (by omega) hB hh G n cg C ag hn hG hGd hGC hne hr).mono ?_
    rintro e w' ⟨rfl, d⟩
    have h0 : (othL N cl C G).length = 0 := by omega
    have hall : ∀ t, t < N → cl t = C → pend t = j := fun t ht hc => Classical.byContradiction fun hp => by
      have hm : t ∈ othL N cl C G := mem_oth.2 ⟨ht, hc, fun z => hp ((hGm t).1 z).2⟩
      rw [List.eq_nil_of_length_eq_zero h0] at hm
      cases hm
    refine ⟨rfl, V, L, cl, fl, Kn, hide ⟨⟨h.r.below d, h.w, h.s, h.i, h.p.done (fun s t hs ht hp hc => hall t ht (hc.trans (hcls s hs hp))), h.k⟩, Nat.le_refl _, fun _ => rfl, Only.ofBelow d⟩⟩
  · refine (part_ok B Z w b N M gf aN lN cN gc gw gs gi V L cl fl Kn Nx h.r h.w h.s h.i h.p.kl hlN bl bN (by omega) hB hh G n cg C ag hn hG hGd hGC hne (by omega)).mono ?_
    rintro e w' ⟨rfl, X, V', L', H⟩
    obtain ⟨hXd, hXX, r', w'', s', i', o'⟩ := H.out
    have hoth : 0 < (othL N cl C G).length := by omega
    have hx1 : ∀ s, s < N → decide (s ∈ X) = true → cl s = C := fun s hs q => by
      have q := of_decide_eq_true q
      rcases hXX with e | e
      · rw [e] at q; exact (hGC s q).2
      · rw [e] at q; exact (mem_oth.1 q).2.1
    have hx2 : (∀ s, s < N → cl s = C → (decide (s ∈ X) = true ↔ pend s = j)) ∨ (∀ s, s < N → cl s = C → (decide (s ∈ X) = true ↔ ¬ pend s = j)) := by
      rcases hXX with e | e
      · refine Or.inl fun s hs _ => ?_
        rw [decide_eq_true_eq, e, hGm s]
        exact ⟨fun z => z.2, fun z => ⟨hs, z⟩⟩
      · refine Or.inr fun s hs hc => ?_
        rw [decide_eq_true_eq, e, mem_oth]
        exact ⟨fun z q => z.2.2 ((hGm s).2 ⟨hs, q⟩), fun z => ⟨hs, hc, fun q => z ((hGm s).1 q).2⟩⟩
    have hoe : ∃ t, t ∈ othL N cl C G := ⟨_, List.getElem_mem hoth⟩
    obtain ⟨t0, ht0⟩ := hoe
    have ht := mem_oth.1 ht0
    have hy1 : ∃ s, s < N ∧ decide (s ∈ X) = true := by
      rcases hXX with e | e
      · exact ⟨_, hg0.1, by rw [e]; exact decide_eq_true hm0⟩
      · exact ⟨t0, ht.1, by rw [e]; exact decide_eq_true ht0⟩
    have hy2 : ∃ s, s < N ∧ cl s = C ∧ decide (s ∈ X) = false := by
      rcases hXX with e | e
      · exact ⟨t0, ht.1, ht.2.1, by rw [e]; exact decide_eq_false ht.2.2⟩
      · exact ⟨_, hg0.1, (hGC _ hm0).2, by rw [e]; exact decide_eq_false (fun z => (mem_oth.1 z).2.2 hm0)⟩
    have pp := h.p.split h.k hd hj (X := fun s => decide (s ∈ X)) hcls hx1 hx2 hy1 hy2
    refine ⟨rfl, V', L', _, _, Kn + 1, hide ⟨⟨r', w'', s', i', pp, by have := h.k; omega⟩, by omega, fun e => by omega, o'⟩⟩
/-- The length of a slice that lies in a cell. -/
def lenC (w : World) (g o : Nat) : Nat := match w.cell? ⟨g, o, none⟩ with
  | some (.slice _ n _) => n
  | _ => 0
theorem lenC_of {w : World} {g o n c : Nat} {a : Option Addr} (h : w.cell? ⟨g, o, none⟩ = some (.slice a n c)) : lenC w g o = n := by
  unfold lenC
  rw [h]
theorem PaR.lenS {B : Nat} {Z : Nat → Prop} {w : World} {b N M gf : Nat} {aN : Option Addr} {lN cN gc gw gs gi : Nat} {V : Nat → Value} {L : Nat → List Nat} {cl : Nat → Nat} {fl : Nat → Bool} (h : PaR B Z w b N M gf aN lN cN gc gw gs gi V L cl fl) : lenC w b 4 = (L 0).length := by
  obtain ⟨t, c, e⟩ := own_slice (h.fam.own 0 (by omega))
  have := cell_of h.bx (j := 4) (v := V 0) rfl
  rw [e] at this
  rw [lenC_of this, natI_len]
theorem PaR.lenW {B : Nat} {Z : Nat → Prop} {w : World} {b N M gf : Nat} {aN : Option Addr} {lN cN gc gw gs gi : Nat} {V : Nat → Value} {L : Nat → List Nat} {cl : Nat → Nat} {fl : Nat → Bool} (h : PaR B Z w b N M gf aN lN cN gc gw gs gi V L cl fl) {a : Nat} (ha : a < M) : lenC w gw a = (L (1 + a)).length := by
  obtain ⟨t, c, e⟩ := own_slice (h.fam.own (1 + a) (by omega))
  have := h.wr.at a ha
  rw [e] at this
  rw [lenC_of this, natI_len]
open Classical in
noncomputable def stW (gw M : Nat) (v : Value) (w : World) : Nat := if v = .bool true then (if ∃ a, a < M ∧ lenC w gw a ≠ 0 then 2 else 1) else 0
theorem stW_le (gw M : Nat) (v : Value) (w : World) : stW gw M v w ≤ 2 := by
  unfold stW
  split
  · split <;> omega
  · omega
theorem stW_ge (gw M : Nat) (w : World) : 1 ≤ stW gw M (.bool true) w := by
  unfold stW
  rw [if_pos rfl]
  split <;> omega
theorem stW_some {gw M : Nat} {w : World} (h : ∃ a, a < M ∧ lenC w gw a ≠ 0) : stW gw M (.bool true) w = 2 := by
  unfold stW
  rw [if_pos rfl, if_pos h]
theorem stW_none {gw M : Nat} {v : Value} {w : World} (h : ¬ ∃ a, a < M ∧ lenC w gw a ≠ 0) : stW gw M v w ≤ 1 := by
  unfold stW
  rw [if_neg h]
  split <;> omega
theorem stW_false {gw M : Nat} {w : World} : stW gw M (.bool false) w = 0 := by
  unfold stW
  rw [if_neg (by simp)]
/-- What falls from round to round. -/
noncomputable def stM (b gw N M : Nat) (v : Value) (w : World) : Nat := 3 * (N + 3 - lenC w b 4) + stW gw M v w
theorem WtOk.clear {N M a : Nat} {L : Nat → List Nat} {fl : Nat → Bool} (h : WtOk N M L fl) : WtOk N M (updF L (1 + a) []) (fun p => fl p && !decide (p % M = a)) := fun a' ha' => by
  obtain ⟨h1, h2⟩ := h a' ha'
  by_cases e : a' = a
  · subst e
    rw [updF_same]
    refine ⟨List.nodup_nil, fun s => ?_⟩
    have hm : (s * M + a') % M = a' := mod_place ha'
    simp [hm]
  · rw [updF_ne _ _ (by omega)]
    refine ⟨h1, fun s => ?_⟩
    have hm : (s * M + a') % M = a' := mod_place ha'
    rw [h2 s]
    show _ ↔ s < N ∧ (fl (s * M + a') && !decide ((s * M + a') % M = a)) = true
    rw [hm]
    simp [e]
/-! ### settle -/
theorem PInv.zero {Nx : List Int} {fin : Nat → Bool} {N M Kn pa : Nat} {cl : Nat → Nat} {fl : Nat → Bool} (pb : Nat) (h : PInv Nx fin N M cl Kn fl pa (fun _ => 0)) : PInv Nx fin N M cl Kn fl pb (fun _ => 0) :=
  ⟨h.kl, h.ne, h.co, h.fi, fun s t a hs ht ha he f1 f2 _ => h.st s t a hs ht ha he f1 f2 (fun _ => rfl), h.wa, h.gw, h.ap⟩
def pnd0 (Nx : List Int) (M a : Nat) (cl : Nat → Nat) (WL : List Nat) (Ky : List (Nat × Nat)) : Nat → Nat := fun s => if s ∈ WL then Ky.idxOf (kyF Nx M a cl s) + 1 else 0
def pndJ (p : Nat → Nat) (j : Nat) : Nat → Nat := fun s => if p s ≤ j then 0 else p s
theorem pndJ_next (p : Nat → Nat) (j : Nat) : (fun s => if pndJ p j s = j + 1 then 0 else pndJ p j s) = pndJ p (j + 1) := funext fun s => by
  unfold pndJ
  by_cases h1 : p s ≤ j
  · have e : (if p s ≤ j then 0 else p s) = 0 := if_pos h1
    rw [e, if_pos (show p s ≤ j + 1 by omega)]
    split <;> rfl
  · have e : (if p s ≤ j then 0 else p s) = p s := if_neg h1
    rw [e]
    by_cases h2 : p s = j + 1
    · rw [if_pos h2, if_pos (show p s ≤ j + 1 by omega)]
    · rw [if_neg h2, if_neg (show ¬ p s ≤ j + 1 by omega)]
theorem pndJ_zero (p : Nat → Nat) : pndJ p 0 = p := funext fun s => by
  unfold pndJ
  split <;> omega
theorem pnd0_le {Nx : List Int} {M a : Nat} {cl : Nat → Nat} {WL : List Nat} {Ky : List (Nat × Nat)} {GL : Nat → List Nat} (h : GrK (kyF Nx M a cl) WL Ky GL) (s : Nat) : pnd0 Nx M a cl WL Ky s ≤ Ky.length := by
  unfold pnd0
  split
  · rename_i hm
    have := List.idxOf_lt_length_iff.2 (h.kin s hm)
    omega
  · omega
theorem gl_mem {Nx : List Int} {M a : Nat} {cl : Nat → Nat} {WL : List Nat} {Ky : List (Nat × Nat)} {GL : Nat → List Nat} (h : GrK (kyF Nx M a cl) WL Ky GL) {j : Nat} (hj : j < Ky.length) (s : Nat) : s ∈ GL j ↔ pndJ (pnd0 Nx M a cl WL Ky) j s = j + 1 := by
  rw [h.gl j hj, List.mem_filter, decide_eq_true_eq]
  unfold pndJ pnd0
  constructor
  · rintro ⟨hm, e⟩
    have hi : Ky.idxOf (kyF Nx M a cl s) = j := by
      have q := List.idxOf_lt_length_iff.2 (h.kin s hm)
      exact nodup_inj h.nd q hj (by rw [List.getElem_idxOf q]; exact e)
    rw [if_pos hm, hi, if_neg (by omega)]
  · intro e
    by_cases hm : s ∈ WL
    · rw [if_pos hm] at e
      split at e
      · omega
      · have hi : Ky.idxOf (kyF Nx M a cl s) = j := by omega
        refine ⟨hm, ?_⟩
        have q := List.idxOf_lt_length_iff.2 (h.kin s hm)
        have g := List.getElem_idxOf q
        simp only [hi] at g
        exact g.symm
    · rw [if_neg hm] at e
      simp at e
theorem gl_ne {ky : Nat → Nat × Nat} {WL : List Nat} {Ky : List (Nat × Nat)} {GL : Nat → List Nat} (h : GrK ky WL Ky GL) {j : Nat} (hj : j < Ky.length) : 0 < (GL j).length := by
  obtain ⟨s, hs, e⟩ := h.ex Ky[j] (List.getElem_mem hj)
  refine List.length_pos_of_mem (a := s) ?_
  rw [h.gl j hj, List.mem_filter, decide_eq_true_eq]
  exact ⟨hs, e⟩
set_option maxRecDepth 100000 in
set_option maxHeartbeats 8000000 in
theorem settle_any (Nx : List Int) (fin : Nat → Bool) (B : Nat) (Z : Nat → Prop) (w : World) (b N M gf : Nat) (aN : Option Addr) (lN cN gc gw gs gi : Nat) (V : Nat → Value) (L : Nat → List Nat) (cl : Nat → Nat) (fl : Nat → Bool) (Kn : Nat) (h : Pk Nx fin B Z w b N M gf aN lN cN gc gw gs gi V L cl fl Kn 0 (fun _ => 0)) (hlN : lN = N * M) (bl : lN ≤ 4194304) (bN : N ≤ 2097152) (bM : M ≤ 4194304) (hB : B ≤ w.heap.size) (hh : ∀ k, Z k → k < w.heap.size) (hNx : ∀ W, Only w W (Rz B Z) → RdN W aN Nx) (hl : Nx.length = N * M) (hin : ∀ x ∈ Nx, 0 ≤ x ∧ x < (N : Int)) :
    Calls Try.prog 61 #[.pointer (some ⟨b, 0, none⟩)] w fun e w' => e = .returned (.tuple #[]) ∧ ∃ V' L' cl' fl' K', Hid (Pk Nx fin B Z w' b N M gf aN lN cN gc gw gs gi V' L' cl' fl' K' 0 (fun _ => 0) ∧ (∀ q, q < M → L' (1 + q) = []) ∧ Only w w' (Rz B Z)) := by
  have HZ := hide (And.intro hlN (And.intro hh (And.intro hNx (And.intro hl hin))))
  have hd : Hid (∀ s a, s < N → a < M → dl Nx M s a < N) := hide (fun s a hs ha => (dl_spec hl hin hs ha).2.2)
  have J0 : Hid (Pk Nx fin B Z w b N M gf aN lN cN gc gw gs gi V L cl fl Kn 0 (fun _ => 0) ∧ (true = false → ∀ q, q < M → L (1 + q) = []) ∧ Only w w (Rz B Z)) := hide ⟨h, (fun e => by cases e), Only.ofBelow (Below.refl _ _)⟩
  clear h hlN hh hNx hl hin
  go_enter Try.func61, Try.ntmps61
  go_wp2_with fail
  go_loopw [2] (fun v2 wr => ∃ ag : Bool, v2 = .bool ag ∧ ∃ V L cl fl Kn, Hid (Pk Nx fin B Z wr b N M gf aN lN cN gc gw gs gi V L cl fl Kn 0 (fun _ => 0) ∧ (ag = false → ∀ q, q < M → L (1 + q) = []) ∧ Only w wr (Rz B Z))) (fun v2 wr => stM b gw N M v2 wr)
  case atStart => exact ⟨true, rfl, V, L, cl, fl, Kn, J0⟩
  case round =>
    clear J0
    clear V L cl fl Kn
    obtain ⟨ag, rfl, V, L, cl, fl, Kn, HY⟩ := hrel
    cases ag with
    | false =>
      go_wp2_with fail
      go_end0
      exact ⟨rfl, V, L, cl, fl, Kn, hide ⟨HY.out.1, HY.out.2.1 (by simp), HY.out.2.2⟩⟩
    | true =>
      have y0 : wr.cell? ⟨b, 0, none⟩ = some (.int .i64 (M : Int)) := cell_of HY.out.1.r.bx rfl
      rename World => w0
      obtain ⟨K0, hK0⟩ : ∃ K, Kn = K := ⟨_, rfl⟩
      obtain ⟨L0, hL0⟩ : ∃ X, L = X := ⟨_, rfl⟩
      have J1 := hide (And.intro HY.out.1 (And.intro HY.out.2.2 (And.intro hK0 hL0)))
      have HM0 : Hid (lenC w0 b 4 = K0 ∧ ∀ q, q < M → lenC w0 gw q = (L0 (1 + q)).length) := hide ⟨by rw [HY.out.1.r.lenS, HY.out.1.s.1, hK0], fun q hq => by rw [HY.out.1.r.lenW hq, hL0]⟩
      clear HY hK0 hL0
      go_wp2_with fail
      clear y0
      go_loopw [2, 12] (fun v2 iv wr => ∃ a : Nat, a ≤ M ∧ iv = .int .i64 (a : Int) ∧ ∃ ag : Bool, v2 = .bool ag ∧ ∃ V L cl fl Kn, Hid (Pk Nx fin B Z wr b N M gf aN lN cN gc gw gs gi V L cl fl Kn 0 (fun _ => 0) ∧ K0 ≤ Kn ∧ (Kn = K0 → (∀ q, q < a → L (1 + q) = []) ∧ ((∀ q, q < M → L0 (1 + q) = []) → (∀ q, q < M → L (1 + q) = []) ∧ ag = false)) ∧ (ag = false → Kn = K0 ∧ ∀ q, q < a → L (1 + q) = []) ∧ Only w wr (Rz B Z))) (fun _ iv _ => M - (intOf iv).toNat)
      case atStart => exact ⟨0, Nat.zero_le _, rfl, false, rfl, V, L, cl, fl, Kn, hide ⟨J1.out.1, by rw [J1.out.2.2.1]; exact Nat.le_refl _, fun _ => ⟨fun q hq => by omega, fun z => ⟨fun q hq => by rw [J1.out.2.2.2]; exact z q hq, rfl⟩⟩, fun _ => ⟨J1.out.2.2.1, fun q hq => by omega⟩, J1.out.2.1⟩⟩
      case round =>
        clear J1
        clear V L cl fl Kn
        obtain ⟨a, haM, rfl, ag, rfl, V, L, cl, fl, Kn, HI⟩ := hrel
        by_cases hlt : a < M
        · have l0 : (a : Int) < (M : Int) := by omega
          have l1 : (0 : Int) ≤ (a : Int) := by omega
          have hO := HI.out.1.r.fam.own (1 + a) (by omega)
          obtain ⟨WL, hWL⟩ : ∃ X, L (1 + a) = X := ⟨_, rfl⟩
          rw [hWL] at hO
          obtain ⟨t1, k1, hv⟩ := own_slice hO
          obtain ⟨nW, hnW⟩ : ∃ n, WL.length = n := ⟨_, rfl⟩
          rw [natI_len, hnW] at hv
          have y5 : wr.cell? ⟨b, 5, none⟩ = some (.slice (some ⟨gw, 0, none⟩) M M) := cell_of HI.out.1.r.bx rfl
          have yW : wr.cell? ⟨gw, a, none⟩ = some (.slice t1 nW k1) := by have := HI.out.1.r.wr.at a hlt; rwa [hv] at this
          have HWL := hide (And.intro hWL hnW)
          have T71 := groups_any B Z wr b N M gf aN lN cN gc gw gs gi V L cl fl Nx a HI.out.1.r HI.out.1.w HZ.out.1 bl (by omega) bM (by have := HI.out.2.2.2.2.size; omega) (fun k z => Nat.lt_of_lt_of_le (HZ.out.2.1 k z) HI.out.2.2.2.2.size) (fun W o => HZ.out.2.2.1 W (HI.out.2.2.2.2.trans o)) HZ.out.2.2.2.1 HZ.out.2.2.2.2 hlt (fun s hs => by have := HI.out.1.p.kl s hs; have := HI.out.1.p.few; omega)
          rename World => wa
          clear hO hWL hnW hv
          go_upto_region 6 with fail
          go_cut [2] from 15 to 27 (fun v2 W => v2 = .bool (ag || decide (0 < nW)) ∧ W = wa)
          case first =>
            cases ag with
            | true =>
              go_wp2_with fail
              go_meet
              exact ⟨rfl, rfl⟩
            | false =>
              by_cases hw : 0 < nW
              · have l5 : (nW : Int) > 0 := by omega
                have l6 : (0 : Int) < (nW : Int) := by omega
                have HE9 := hide hw
                clear hw
                go_wp2_with fail
                go_meet
                exact ⟨by have := HE9.out; simp [this], rfl⟩
              · have l5 : ¬ (nW : Int) > 0 := by omega
                have l6 : ¬ (0 : Int) < (nW : Int) := by omega
                have HE9 := hide hw
                clear hw
                go_wp2_with fail
                go_meet
                exact ⟨by have := HE9.out; simp [this], rfl⟩
          case rest =>
            obtain ⟨rfl, hW9⟩ := hcut
            rename World => wq
            obtain rfl := hW9.symm
            clear y5 yW
            rename World => wb
            go_upto_region 7 with fail
            go_wp2_with (go_at_call 71; refine T71.mono ?_; rintro e w1 ⟨bg, n, cg, rfl, val, GL, Ky, HG⟩)
            clear T71
            obtain ⟨Zq, hZq⟩ : ∃ Zq : Nat → Prop, (fun k => Z k ∨ (wb.heap.size ≤ k ∧ k < w1.heap.size)) = Zq := ⟨_, rfl⟩
            have hPA := HG.out.1
            rw [hZq] at hPA
            have hWm : ∀ s, s ∈ WL ↔ s < N ∧ fl (s * M + a) = true := fun s => by have := (HI.out.1.w a hlt).2 s; rwa [HWL.out.1] at this
            have hWd : WL.Nodup := by have := (HI.out.1.w a hlt).1; rwa [HWL.out.1] at this
            have hGK := HG.out.2.2.2.1
            rw [HWL.out.1] at hGK
            have hP1 : Pk Nx fin B Zq w1 b N M gf aN lN cN gc gw gs gi (updF V (1 + a) (.slice none 0 0)) (updF L (1 + a) []) cl (fun p => fl p && !decide (p % M = a)) Kn a (pndJ (pnd0 Nx M a cl WL Ky) 0) := ⟨hPA, HI.out.1.w.clear, by rw [updF_ne _ _ (by omega)]; exact HI.out.1.s, fun s hs => by rw [updF_ne _ _ (by omega)]; exact HI.out.1.i s hs, by rw [pndJ_zero]; exact HI.out.1.p.group hd.out hlt hWm hGK.kin, HI.out.1.k⟩
            have HGS := hide (And.intro HG.out.2.2.1 (And.intro hGK (And.intro hWm (And.intro hWd (And.intro HG.out.2.1 hZq)))))
            have HOB := hide HG.out.2.2.2.2
            have J2 := hide hP1
            clear hPA hWm hWd hGK hP1 HG hZq
            have hZk : Hid (∀ k, Zq k ↔ Z k ∨ (wb.heap.size ≤ k ∧ k < w1.heap.size)) := hide (fun k => by rw [← HGS.out.2.2.2.2.2])
            have hnN : n ≤ N := by
              have q := kin_len HGS.out.2.1
              have q2 := nodup_le HGS.out.2.2.2.1 (N := N) (fun s hs => ((HGS.out.2.2.1 s).1 hs).1)
              have := HGS.out.2.2.2.2.1
              omega
            go_wp2_with fail
            go_loopw [31] (fun iv wr => ∃ j : Nat, j ≤ n ∧ iv = .int .i64 (j : Int) ∧ ∃ V2 L2 cl2 fl2 K2, Hid (Pk Nx fin B Zq wr b N M gf aN lN cN gc gw gs gi V2 L2 cl2 fl2 K2 a (pndJ (pnd0 Nx M a cl WL Ky) (j)) ∧ Kn ≤ K2 ∧ (K2 = Kn → ∀ q, q < M → L2 (1 + q) = updF L (1 + a) [] (1 + q)) ∧ (j = 0 → K2 = Kn) ∧ Only w1 wr (Rz B Zq))) (fun iv _ => n - (intOf iv).toNat)
            case atStart => exact ⟨0, Nat.zero_le _, rfl, _, _, cl, _, Kn, hide ⟨J2.out, Nat.le_refl _, fun _ q _ => rfl, fun _ => rfl, Only.ofBelow (Below.refl _ _)⟩⟩
            case round =>
              clear J2
              obtain ⟨j, hj, rfl, V2, L2, cl2, fl2, K2, HQ⟩ := hrel
              by_cases hjl : j < n
              · have j0 : (j : Int) < (n : Int) := by omega
                have j1 : (0 : Int) ≤ (j : Int) := by omega
                have hjK : j < Ky.length := by have := HGS.out.2.2.2.2.1; omega
                have hGa : Hid (∀ W, Only w1 W (Rz B Zq) → GrS wb.heap.size gc W (.slice bg n cg) n val GL) := hide (fun W o => HGS.out.1.only o (fun k h1 h2 r => r.2 ((hZk.out k).2 (Or.inr ⟨h1, h2⟩))))
                have hGn := hGa.out wr HQ.out.2.2.2.2
                obtain ⟨gg, cg', eg⟩ := row_some hGn.row (by omega)
                injection eg with e1 e2 e3
                subst e1
                have hO := hGn.fam.own j hjl
                obtain ⟨ag', kk, hvj⟩ := own_slice hO
                obtain ⟨m, hm⟩ : ∃ m, (GL j).length = m := ⟨_, rfl⟩
                rw [natI_len, hm] at hvj
                have hval : ((List.range n).map val)[j]? = some (.slice ag' m kk) := by rw [List.getElem?_map, List.getElem?_range hjl, Option.map_some, hvj]
                have c1 := (row_cell hGn.row hval).1
                have T72 := part_any Nx fin B Zq wr b N M gf aN lN cN gc gw gs gi V2 L2 cl2 fl2 K2 a (pndJ (pnd0 Nx M a cl WL Ky) j) HQ.out.1 hd.out HZ.out.1 bl (by omega) (by have q1 := HQ.out.2.2.2.2.size; have q2 := HOB.out.size; have q3 := HI.out.2.2.2.2.size; omega) (fun k z => by
                  have q1 := HQ.out.2.2.2.2.size
                  have q2 := HOB.out.size
                  have q3 := HI.out.2.2.2.2.size
                  rcases (hZk.out k).1 z with z | z
                  · have := HZ.out.2.1 k z; omega
                  · omega) (GL j) m kk (j + 1) ag' hm (fun W o => by
                  have q := (hGa.out W (HQ.out.2.2.2.2.trans o)).fam.own j hjl
                  rw [hvj] at q
                  exact (owI_rd q).2) (by rw [HGS.out.2.1.gl j hjK]; exact List.Nodup.sublist List.filter_sublist HGS.out.2.2.2.1) (fun s => by
                  rw [gl_mem HGS.out.2.1 hjK s]
                  constructor
                  · intro e
                    refine ⟨?_, e⟩
                    have q := (gl_mem HGS.out.2.1 hjK s).2 e
                    rw [HGS.out.2.1.gl j hjK] at q
                    exact ((HGS.out.2.2.1 s).1 (List.mem_filter.1 q).1).1
                  · exact fun e => e.2) (by omega) (by rw [← hm]; exact gl_ne HGS.out.2.1 hjK)
                clear hO hvj hm hval hGn e2 e3
                go_wp2_with (go_at_call 72; refine T72.mono ?_; rintro e w9 ⟨rfl, V3, L3, cl3, fl3, K3, H3⟩)
                go_roundw
                case rel =>
                  refine ⟨j + 1, by omega, by go_num, V3, L3, cl3, fl3, K3, hide ⟨?_, ?_, ?_, ?_, HQ.out.2.2.2.2.trans H3.out.2.2.2⟩⟩
                  · rw [← pndJ_next]; exact H3.out.1
                  · exact Nat.le_trans HQ.out.2.1 H3.out.2.1
                  · intro e q hq
                    have e1 := HQ.out.2.1
                    have e2 := H3.out.2.1
                    rw [H3.out.2.2.1 (by omega)]
                    exact HQ.out.2.2.1 (by omega) q hq
                  · intro e; omega
                case measure => simp [intOf]; omega
              · have j0 : ¬ (j : Int) < (n : Int) := by omega
                have hjn : j = n := by omega
                have HJN := hide hjn
                clear hjn
                go_wp2_with fail
                go_roundw
                case rel =>
                  have hjn := HJN.out
                  have hP := HQ.out.1
                  have hK2 := HQ.out.2.1
                  have hpd : ∀ s, s < N → 0 = pndJ (pnd0 Nx M a cl WL Ky) j s := fun s _ => by
                    unfold pndJ
                    have q := pnd0_le HGS.out.2.1 s
                    have := HGS.out.2.2.2.2.1
                    rw [if_pos (by omega)]
                  refine ⟨a + 1, by omega, by go_num, (ag || decide (0 < nW)), rfl, V2, L2, cl2, fl2, K2, hide ⟨⟨hP.r.zone (fun k _ z => (hZk.out k).2 (Or.inl z)), hP.w, hP.s, hP.i, (hP.p.congr hd.out (fun _ _ => rfl) hpd (fun _ _ => rfl)).zero 0, hP.k⟩, Nat.le_trans HI.out.2.1 hK2, ?_, ?_, (HI.out.2.2.2.2.trans HOB.out).trans (HQ.out.2.2.2.2.mono (fun k _ r => ⟨r.1, fun z => r.2 ((hZk.out k).2 (Or.inl z))⟩))⟩⟩
                  · intro e
                    have e1 : Kn = K0 := by have := HI.out.2.1; omega
                    have hL2 := HQ.out.2.2.1 (by omega)
                    have q0 := HI.out.2.2.1 e1
                    refine ⟨fun q hq => ?_, fun z => ?_⟩
                    · rw [hL2 q (by omega)]
                      by_cases eq : q = a
                      · subst eq; exact updF_same _ _ _
                      · rw [updF_ne _ _ (by omega)]; exact q0.1 q (by omega)
                    · have z2 := q0.2 z
                      have hw0 : nW = 0 := by rw [← HWL.out.2, ← HWL.out.1, z2.1 a hlt]; rfl
                      refine ⟨fun q hq => ?_, by rw [z2.2, hw0]; rfl⟩
                      rw [hL2 q hq]
                      by_cases eq : q = a
                      · subst eq; exact updF_same _ _ _
                      · rw [updF_ne _ _ (by omega)]; exact z2.1 q hq
                  · intro e
                    have ea : ag = false ∧ ¬ 0 < nW := by simpa using e
                    have q0 := HI.out.2.2.2.1 ea.1
                    have hWL0 : WL = [] := List.eq_nil_of_length_eq_zero (by have := HWL.out.2; omega)
                    have hn0 : n = 0 := by
                      have q := kin_len HGS.out.2.1
                      have := HGS.out.2.2.2.2.1
                      have := HWL.out.2
                      omega
                    have e2 := HQ.out.2.2.2.1 (by omega)
                    refine ⟨by omega, fun q hq => ?_⟩
                    rw [HQ.out.2.2.1 e2 q (by omega)]
                    by_cases eq : q = a
                    · subst eq; exact updF_same _ _ _
                    · rw [updF_ne _ _ (by omega)]; exact q0.2 q (by omega)
                case measure => simp [intOf]; omega
        · have l0 : ¬ (a : Int) < (M : Int) := by omega
          obtain rfl : a = M := by omega
          go_wp2_with fail
          go_roundw
          case rel => exact ⟨ag, rfl, V, L, cl, fl, Kn, hide ⟨HI.out.1, fun e q hq => (HI.out.2.2.2.1 e).2 q hq, HI.out.2.2.2.2⟩⟩
          case measure =>
            have few := HI.out.1.p.few
            have hle := HI.out.2.1
            have m1 : lenC wr b 4 = Kn := by rw [HI.out.1.r.lenS, HI.out.1.s.1]
            show stM b gw N a (.bool ag) wr < stM b gw N a (.bool true) w0
            unfold stM
            rw [m1, HM0.out.1]
            by_cases eK : Kn = K0
            · obtain ⟨p1, p2⟩ := HI.out.2.2.1 eK
              have no : ¬ ∃ q, q < a ∧ lenC wr gw q ≠ 0 := fun ⟨q, hq, z⟩ => z (by rw [HI.out.1.r.lenW hq, p1 q hq]; rfl)
              rw [eK]
              have n1 := stW_none (v := .bool ag) no
              by_cases hx : ∃ q, q < a ∧ lenC w0 gw q ≠ 0
              · rw [stW_some hx]
                omega
              · have z := p2 (fun q hq => List.eq_nil_of_length_eq_zero (Classical.byContradiction fun y => hx ⟨q, hq, by rw [HM0.out.2 q hq]; exact y⟩))
                have n2 := stW_ge gw a w0
                rw [z.2, stW_false]
                omega
            · have h1 := stW_le gw a (.bool ag) wr
              have h2 := stW_ge gw a w0
              omega
end Go.Proofs.Ytocoghljmlpdeaa
