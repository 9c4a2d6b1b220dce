import Derived.Test.YtchoopnjckcohaaGreatDoorBm
set_option maxRecDepth 100000
set_option maxHeartbeats 40000000
namespace Go.Proofs.YtchoopnjckcohaaGreatDoor
open Go.RowKit Go.Maps Go.Shelf
attribute [local go_sem] Oper.semAt_some
structure BhI (W0 W : World) (p B0 : Nat) (n m : Int) (vS vF : Value) (z5 : Option Addr) (d5 : Nat) (SL FL : List Int) (EE : List EdT) : Prop where
 bx : W.heap[p]? = some (.cells #[.int .i64 n, .int .i64 m, vS, vF, .slice z5 EE.length d5] 25 (0, 0))
 rs : W.ownsRow B0 3 1 vS SL.length (SL.map (Value.int .i64))
 rf : W.ownsRow B0 3 1 vF FL.length (FL.map (Value.int .i64))
 re : W.ownsRow B0 61 3 (.slice z5 EE.length d5) EE.length (EE.flatMap encE)
 ne : ∀ g, vS.ownBlock = some g → vF.ownBlock ≠ some g
 be : Below W0.heap.size W0 W
 ge : W0.heap.size ≤ p
theorem BhI.on {W0 W W' : World} {p B0 d5 : Nat} {n m : Int} {vS vF : Value} {z5 : Option Addr} {SL FL : List Int} {EE : List EdT} (h : BhI W0 W p B0 n m vS vF z5 d5 SL FL EE) (d : Below W.heap.size W W') : BhI W0 W' p B0 n m vS vF z5 d5 SL FL EE :=
 ⟨blk_on h.bx d, own_below h.rs d, own_below h.rf d, own_below h.re d, h.ne, h.be.trans (d.mono h.be.size), h.ge⟩
theorem BhI.setS {W0 W : World} {p B0 C d5 : Nat} {n m : Int} {vS vF v : Value} {z5 : Option Addr} {SL FL L : List Int} {EE : List EdT} (h : BhI W0 W p B0 n m vS vF z5 d5 SL FL EE) (hv : W.ownsRow C 3 1 v L.length (L.map (Value.int .i64))) (hC : B0 ≤ C) (hF : ∀ g, vF.ownBlock = some g → g < C) : BhI W0 (W.setCell ⟨p, 2, none⟩ v) p B0 n m v vF z5 d5 L FL EE := by
 have o := only_set W p 2 v
 exact ⟨heap_setCell_same _ _ 2 _ 25 _ h.bx, own_keep (owns_down hv hC) h.bx (by decide) o, own_keep h.rf h.bx (by decide) o, own_keep h.re h.bx (by decide) o, fun g hg hh => by have := (hv.lt g hg).1; have := hF g hh; omega, h.be.trans (o.toBelow h.be.size (fun k hk => by rw [hk]; exact h.ge)), h.ge⟩
theorem BhI.setF {W0 W : World} {p B0 C d5 : Nat} {n m : Int} {vS vF v : Value} {z5 : Option Addr} {SL FL L : List Int} {EE : List EdT} (h : BhI W0 W p B0 n m vS vF z5 d5 SL FL EE) (hv : W.ownsRow C 3 1 v L.length (L.map (Value.int .i64))) (hC : B0 ≤ C) (hF : ∀ g, vS.ownBlock = some g → g < C) : BhI W0 (W.setCell ⟨p, 3, none⟩ v) p B0 n m vS v z5 d5 SL L EE := by
 have o := only_set W p 3 v
 exact ⟨heap_setCell_same _ _ 3 _ 25 _ h.bx, own_keep h.rs h.bx (by decide) o, own_keep (owns_down hv hC) h.bx (by decide) o, own_keep h.re h.bx (by decide) o, fun g hg hh => by have := (hv.lt g hh).1; have := hF g hg; omega, h.be.trans (o.toBelow h.be.size (fun k hk => by rw [hk]; exact h.ge)), h.ge⟩
theorem behind_ok (w : World) (N m n1 n2 n3 l1 l2 l3 : Nat) (n' m' : Int) (a1 a2 a3 b1 b2 b3 : Option Addr) (c1 c2 c3 d1 d2 d3 : Nat) (Sa Fa Sb Fb : List Int) (Ea Eb : List EdT) (en : Hid (Sa.length = n1 ∧ Fa.length = n2 ∧ Ea.length = n3 ∧ Sb.length = l1 ∧ Fb.length = l2 ∧ Eb.length = l3)) (hA : Hid (RdA w a1 a2 a3 Sa Fa Ea)) (hB : Hid (RdA w b1 b2 b3 Sb Fb Eb)) (zB : b1 = none → d1 = 0) (hN : N ≤ 4096) (hm : m ≤ 128) (h1 : n1 ≤ 2000000) (h2 : n2 ≤ 2000000) (h3 : n3 ≤ 2000000) (h4 : l1 ≤ 2000000) (h5 : l2 ≤ 2000000) (h6 : l3 ≤ 2000000) (hS : Hid (SsE Ea)) (hF : Hid (∀ e ∈ Ea, (0 ≤ e.1 ∧ e.1 < (N : Int)) ∧ (0 ≤ e.2.1 ∧ e.2.1 < (m : Int)) ∧ (0 ≤ e.2.2 ∧ e.2.2 < (N : Int)))) (hG : Hid (∀ x ∈ Fa, ∃ q : Nat, q < N ∧ x = (q : Int))) (zB3 : b3 = none → d3 = 0) (hle : (brL Ea Fa Sb m N).length ≤ 65536) (hsm : (brL Ea Fa Sb m N).length + l3 ≤ 65536) (hSa : Hid (∀ x ∈ Sa, ∃ q : Nat, q < N ∧ x = (q : Int))) (M : Nat) (eM : Hid (n' = (M : Int))) (hM : M ≤ 8192) (hSb : Hid (∀ x ∈ Sb, ∃ q : Nat, q < M ∧ x = (q : Int))) (hFb : Hid (∀ x ∈ Fb, ∃ q : Nat, q < M ∧ x = (q : Int))) (B0 : Nat) (hB0 : B0 ≤ w.heap.size) (oA : Hid (w.ownsRow B0 3 1 (.slice a1 n1 c1) Sa.length (Sa.map (Value.int .i64)))) (oB : Hid (w.ownsRow B0 3 1 (.slice b2 l2 d2) Fb.length (Fb.map (Value.int .i64)))) (hap : Hid (∀ g, (Value.slice a1 n1 c1).ownBlock = some g → (Value.slice b2 l2 d2).ownBlock ≠ some g)) (zA : a1 = none → c1 = 0) (zA2 : a2 = none → c2 = 0) (zB2 : b2 = none → d2 = 0) (SL FL : List Int) (hSL : Hid (SL = if emptB Sa Fa then Sa ++ Sb else Sa)) (hFL : Hid (FL = if emptB Sb Fb then Fa ++ Fb else Fb)) :
 Calls Tryz.prog 56 #[.agg #[.int .i64 (N : Int), .int .i64 (m : Int), .slice a1 n1 c1, .slice a2 n2 c2, .slice a3 n3 c3], .agg #[.int .i64 n', .int .i64 m', .slice b1 l1 d1, .slice b2 l2 d2, .slice b3 l3 d3]] w fun e w' => ∃ s1 k1 f1 k2 z5 d5, e = .returned (.tuple #[.agg #[.int .i64 n', .int .i64 (m : Int), .slice s1 SL.length k1, .slice f1 FL.length k2, .slice z5 (brL Ea Fa Sb m N ++ Eb).length d5], .int .i64 0]) ∧ Hid (OwnO B0 w' (.slice s1 SL.length k1) (.slice f1 FL.length k2) (.slice z5 (brL Ea Fa Sb m N ++ Eb).length d5) SL FL (brL Ea Fa Sb m N ++ Eb) ∧ Below w.heap.size w w') := by
 obtain ⟨W0, hW0⟩ : ∃ W0, ((w.alloc (.cells #[.int .i64 (N : Int), .int .i64 (m : Int), .slice a1 n1 c1, .slice a2 n2 c2, .slice a3 n3 c3] 25)).alloc (.cells #[.int .i64 n', .int .i64 m', .slice b1 l1 d1, .slice b2 l2 d2, .slice b3 l3 d3] 25)).alloc (.cells #[.int .i64 0, .int .i64 0, .slice none 0 0, .slice none 0 0, .slice none 0 0] 25) = W0 := ⟨_, rfl⟩
 have HD := hide (box3b w #[.int .i64 (N : Int), .int .i64 (m : Int), .slice a1 n1 c1, .slice a2 n2 c2, .slice a3 n3 c3] #[.int .i64 n', .int .i64 m', .slice b1 l1 d1, .slice b2 l2 d2, .slice b3 l3 d3] #[.int .i64 0, .int .i64 0, .slice none 0 0, .slice none 0 0, .slice none 0 0] 25)
 rw [hW0] at HD
 have TB := bridged_any W0 N m n1 n2 n3 a1 a2 a3 b1 c1 c2 c3 l1 d1 Ea Fa Sb en.out.2.1 en.out.2.2.1 en.out.2.2.2.1 zB hN hm (hide (hA.out.e.on HD.out.1)) (hide (hA.out.f.on HD.out.1)) (hide (hB.out.s.on HD.out.1)) h2 h3 h4 hS hF hG
 obtain ⟨y0, y1, y2, y3, y4⟩ := zd5 HD.out.2.1 rfl rfl rfl rfl rfl
 obtain ⟨x0, x1, x2, x3, x4⟩ := zd5 HD.out.2.2.1 rfl rfl rfl rfl rfl
 unfold BrP at TB
 simp only [if_neg (show ¬ 65536 < (brL Ea Fa Sb m N).length by omega)] at TB
 obtain ⟨E, hE⟩ : ∃ E, brL Ea Fa Sb m N = E := ⟨_, rfl⟩
 rw [hE] at TB hle hsm ⊢
 clear hE
 have jb : ¬ (65536 : Int) < (E.length : Int) + (l3 : Int) := by omega
 have jw : IntKind.i64.wrap ((E.length : Int) + (l3 : Int)) = (E.length : Int) + (l3 : Int) := by rw [IntKind.wrap_i64]; omega
 go_enter Tryz.func56, Tryz.ntmps56
 go_upto_region 4 with (go_at_call 82; refine TB.mono ?_; rintro e w1 ⟨v1, rfl, O1, D1⟩; obtain ⟨ae, cf, rfl⟩ := own_slice O1; have HF1 := hide (And.intro O1 D1); have x4 : w1.cell? ⟨w.heap.size + 1, 4, none⟩ = some (.slice b3 l3 d3) := cell_of (blk_on HD.out.2.2.1 D1) rfl; clear D1 O1)
 clear TB y0 y1 y2 y3 y4 x0 x1 x2 x3 x4
 have HA1 := hide (blk_on HD.out.2.1 HF1.out.2)
 have HB1 := hide (blk_on HD.out.2.2.1 HF1.out.2)
 have OW : Hid (∀ W, Below w1.heap.size w1 W → W.ownsRow W0.heap.size 61 3 (.slice ae E.length cf) E.length (E.flatMap encE)) := hide (fun W d => own_below HF1.out.1 d)
 have RX : Hid (∀ W, Below w1.heap.size w1 W → RdE W b3 Eb) := hide (fun W d => (hB.out.e.on (HD.out.1.trans (HF1.out.2.mono HD.out.1.size))).on d)
 have hs0 : W0.heap.size ≤ w1.heap.size := HF1.out.2.size
 have hbk : Hid (∀ k, (Value.slice ae E.length cf).ownBlock = some k → W0.heap.size ≤ k) := hide (fun k hk => (HF1.out.1.lt k hk).1)
 have hbl : Hid (∀ k, (Value.slice ae E.length cf).ownBlock = some k → k < w1.heap.size) := hide (fun k hk => (HF1.out.1.lt k hk).2)
 have hkA : w.heap.size < W0.heap.size := by have := HD.out.2.2.2.2; omega
 have hkB : w.heap.size + 1 < W0.heap.size := by have := HD.out.2.2.2.2; omega
 have hlen : E.length + Eb.length ≤ 4194304 := by have := en.out.2.2.2.2.2; omega
 obtain ⟨EE, hEE⟩ : ∃ EE, E ++ Eb = EE := ⟨_, rfl⟩
 have HE := hide hEE
 have HP0 := hide hEE
 clear hEE
 go_cut [8] from 8 to 40 (fun v8 W => ∃ p8 z5 d5, v8 = .pointer (some ⟨p8, 0, none⟩) ∧ Hid (W.heap[p8]? = some (.cells #[.int .i64 n', .int .i64 (m : Int), .slice a1 n1 c1, .slice b2 l2 d2, .slice z5 EE.length d5] 25 (0, 0)) ∧ W.ownsRow W0.heap.size 61 3 (.slice z5 EE.length d5) EE.length (EE.flatMap encE) ∧ W0.heap.size ≤ p8 ∧ Below W0.heap.size W0 W))
 case first =>
  have hmo : MonIL 0 [vI 0 (.pointer (some ⟨w.heap.size + 1, 0, none⟩)), vI 1 (.int .i64 n'), vI 2 (.pointer (some ⟨w.heap.size, 1, none⟩)), vI 3 (.int .i64 (m : Int)), vI 4 (.pointer (some ⟨w.heap.size, 2, none⟩)), vI 5 (.slice a1 n1 c1), vI 6 (.pointer (some ⟨w.heap.size + 1, 3, none⟩)), vI 7 (.slice b2 l2 d2), vI 8 (.slice ae E.length cf), vI 9 (.pointer (some ⟨w.heap.size + 1, 4, none⟩)), vI 10 (.slice b3 l3 d3), pI 11 (appM W0.heap.size EE), ⟨[11], [], fun y _ _ _ => y 12 = .agg #[.int .i64 n', .int .i64 (m : Int), .slice a1 n1 c1, .slice b2 l2 d2, y 11]⟩, pI 13 (boxM w1.heap.size)] := ⟨vI_mono _ _, vI_mono _ _, vI_mono _ _, vI_mono _ _, vI_mono _ _, vI_mono _ _, vI_mono _ _, vI_mono _ _, vI_mono _ _, vI_mono _ _, vI_mono _ _, pI_mono appM_mono, (fun _ _ _ _ _ _ _ _ hy h => by dsimp only at hy h ⊢; rw [hy 12 (Or.inl rfl), hy 11 (Or.inr (by simp))]; exact h), pI_mono boxM_mono, trivial⟩
  refine wp_region_sj (JB W0.heap.size w1) 11 _ (by kernel_rfl) (JB_first ⟨rfl, rfl, rfl, Nat.le_refl _, fun _ _ => rfl⟩) (by kernel_rfl) (by kernel_rfl) (by kernel_rfl) (by kernel_rfl) hmo ⟨?o0, ?o1, ?o2, ?o3, ?o4, ?o5, ?o6, ?o7, ?o8, ?o9, ?o10, ?o11, ?o12, ?o13, trivial⟩ ?fin
  case o0 =>
   intro At yy W bb hy hb hbb d hz hd K hK
   obtain ⟨s3, s3'⟩ := zsb (hb 3 rfl : _ = .pointer (some ⟨w.heap.size + 1, 0, none⟩))
   clear hd hy hb
   go_simp
   exact hK.out _ W (stpj_of hmo d (Below.refl _ _)) (if_pos rfl)
  case o1 =>
   intro At yy W bb hy hb hbb d hz hd K hK
   obtain ⟨s28, s28'⟩ := zsg 0 28 .data hy hd rfl
   clear hd hy hb
   have dl := JB_low hs0 d
   have bxA := (dl.block _ hkA).trans HA1.out
   have bxB := (dl.block _ hkB).trans HB1.out
   have y1 : W.cell? ⟨w.heap.size, 1, none⟩ = some (.int .i64 (m : Int)) := cell_of bxA rfl
   have y2 : W.cell? ⟨w.heap.size, 2, none⟩ = some (.slice a1 n1 c1) := cell_of bxA rfl
   have x0 : W.cell? ⟨w.heap.size + 1, 0, none⟩ = some (.int .i64 n') := cell_of bxB rfl
   have x3 : W.cell? ⟨w.heap.size + 1, 3, none⟩ = some (.slice b2 l2 d2) := cell_of bxB rfl
   have x4 : W.cell? ⟨w.heap.size + 1, 4, none⟩ = some (.slice b3 l3 d3) := cell_of bxB rfl
   clear dl bxA bxB
   go_simp
   exact hK.out _ W (stpj_of hmo d (Below.refl _ _)) (if_pos rfl)
  case o2 =>
   intro At yy W bb hy hb hbb d hz hd K hK
   obtain ⟨s2, s2'⟩ := zsb (hb 2 rfl : _ = .pointer (some ⟨w.heap.size, 0, none⟩))
   clear hd hy hb
   go_simp
   exact hK.out _ W (stpj_of hmo d (Below.refl _ _)) (if_pos rfl)
  case o3 =>
   intro At yy W bb hy hb hbb d hz hd K hK
   obtain ⟨s30, s30'⟩ := zsg 2 30 .data hy hd rfl
   clear hd hy hb
   have dl := JB_low hs0 d
   have bxA := (dl.block _ hkA).trans HA1.out
   have bxB := (dl.block _ hkB).trans HB1.out
   have y1 : W.cell? ⟨w.heap.size, 1, none⟩ = some (.int .i64 (m : Int)) := cell_of bxA rfl
   have y2 : W.cell? ⟨w.heap.size, 2, none⟩ = some (.slice a1 n1 c1) := cell_of bxA rfl
   have x0 : W.cell? ⟨w.heap.size + 1, 0, none⟩ = some (.int .i64 n') := cell_of bxB rfl
   have x3 : W.cell? ⟨w.heap.size + 1, 3, none⟩ = some (.slice b2 l2 d2) := cell_of bxB rfl
   have x4 : W.cell? ⟨w.heap.size + 1, 4, none⟩ = some (.slice b3 l3 d3) := cell_of bxB rfl
   clear dl bxA bxB
   go_simp
   exact hK.out _ W (stpj_of hmo d (Below.refl _ _)) (if_pos rfl)
  case o4 =>
   intro At yy W bb hy hb hbb d hz hd K hK
   obtain ⟨s2, s2'⟩ := zsb (hb 2 rfl : _ = .pointer (some ⟨w.heap.size, 0, none⟩))
   clear hd hy hb
   go_simp
   exact hK.out _ W (stpj_of hmo d (Below.refl _ _)) (if_pos rfl)
  case o5 =>
   intro At yy W bb hy hb hbb d hz hd K hK
   obtain ⟨s32, s32'⟩ := zsg 4 32 .data hy hd rfl
   clear hd hy hb
   have dl := JB_low hs0 d
   have bxA := (dl.block _ hkA).trans HA1.out
   have bxB := (dl.block _ hkB).trans HB1.out
   have y1 : W.cell? ⟨w.heap.size, 1, none⟩ = some (.int .i64 (m : Int)) := cell_of bxA rfl
   have y2 : W.cell? ⟨w.heap.size, 2, none⟩ = some (.slice a1 n1 c1) := cell_of bxA rfl
   have x0 : W.cell? ⟨w.heap.size + 1, 0, none⟩ = some (.int .i64 n') := cell_of bxB rfl
   have x3 : W.cell? ⟨w.heap.size + 1, 3, none⟩ = some (.slice b2 l2 d2) := cell_of bxB rfl
   have x4 : W.cell? ⟨w.heap.size + 1, 4, none⟩ = some (.slice b3 l3 d3) := cell_of bxB rfl
   clear dl bxA bxB
   go_simp
   exact hK.out _ W (stpj_of hmo d (Below.refl _ _)) (if_pos rfl)
  case o6 =>
   intro At yy W bb hy hb hbb d hz hd K hK
   obtain ⟨s3, s3'⟩ := zsb (hb 3 rfl : _ = .pointer (some ⟨w.heap.size + 1, 0, none⟩))
   clear hd hy hb
   go_simp
   exact hK.out _ W (stpj_of hmo d (Below.refl _ _)) (if_pos rfl)
  case o7 =>
   intro At yy W bb hy hb hbb d hz hd K hK
   obtain ⟨s34, s34'⟩ := zsg 6 34 .data hy hd rfl
   clear hd hy hb
   have dl := JB_low hs0 d
   have bxA := (dl.block _ hkA).trans HA1.out
   have bxB := (dl.block _ hkB).trans HB1.out
   have y1 : W.cell? ⟨w.heap.size, 1, none⟩ = some (.int .i64 (m : Int)) := cell_of bxA rfl
   have y2 : W.cell? ⟨w.heap.size, 2, none⟩ = some (.slice a1 n1 c1) := cell_of bxA rfl
   have x0 : W.cell? ⟨w.heap.size + 1, 0, none⟩ = some (.int .i64 n') := cell_of bxB rfl
   have x3 : W.cell? ⟨w.heap.size + 1, 3, none⟩ = some (.slice b2 l2 d2) := cell_of bxB rfl
   have x4 : W.cell? ⟨w.heap.size + 1, 4, none⟩ = some (.slice b3 l3 d3) := cell_of bxB rfl
   clear dl bxA bxB
   go_simp
   exact hK.out _ W (stpj_of hmo d (Below.refl _ _)) (if_pos rfl)
  case o8 =>
   intro At yy W bb hy hb hbb d hz hd K hK
   obtain ⟨s6, s6'⟩ := zsb (hb 6 rfl : _ = .slice ae E.length cf)
   clear hd hy hb
   go_simp
   exact hK.out _ W (stpj_of hmo d (Below.refl _ _)) (if_pos rfl)
  case o9 =>
   intro At yy W bb hy hb hbb d hz hd K hK
   obtain ⟨s3, s3'⟩ := zsb (hb 3 rfl : _ = .pointer (some ⟨w.heap.size + 1, 0, none⟩))
   clear hd hy hb
   go_simp
   exact hK.out _ W (stpj_of hmo d (Below.refl _ _)) (if_pos rfl)
  case o10 =>
   intro At yy W bb hy hb hbb d hz hd K hK
   obtain ⟨s37, s37'⟩ := zsg 9 37 .data hy hd rfl
   clear hd hy hb
   have dl := JB_low hs0 d
   have bxA := (dl.block _ hkA).trans HA1.out
   have bxB := (dl.block _ hkB).trans HB1.out
   have y1 : W.cell? ⟨w.heap.size, 1, none⟩ = some (.int .i64 (m : Int)) := cell_of bxA rfl
   have y2 : W.cell? ⟨w.heap.size, 2, none⟩ = some (.slice a1 n1 c1) := cell_of bxA rfl
   have x0 : W.cell? ⟨w.heap.size + 1, 0, none⟩ = some (.int .i64 n') := cell_of bxB rfl
   have x3 : W.cell? ⟨w.heap.size + 1, 3, none⟩ = some (.slice b2 l2 d2) := cell_of bxB rfl
   have x4 : W.cell? ⟨w.heap.size + 1, 4, none⟩ = some (.slice b3 l3 d3) := cell_of bxB rfl
   clear dl bxA bxB
   go_simp
   exact hK.out _ W (stpj_of hmo d (Below.refl _ _)) (if_pos rfl)
  case o11 =>
   intro At yy W bb hy hb hbb d hz hd K hK
   obtain ⟨s36, s36'⟩ := zsg 8 36 .data hy hd rfl
   obtain ⟨s38, s38'⟩ := zsg 10 38 .data hy hd rfl
   clear hd hb
   have hb0 := hbb rfl
   subst hb0
   refine step_appM rfl _ _ rfl W0.heap.size (.slice ae E.length cf) E s36 (OW.out _ d) b3 l3 d3 Eb en.out.2.2.2.2.2 zB3 s38 (RX.out _ d) hlen (Nat.le_trans hs0 hz) ?_
   intro z5 d5 w4 HO4 HG4
   exact hK.out _ w4 (stpj_keeps [] rfl (JB_put hs0 d HG4.out hbk.out) HG4.out.size ⟨.inr (fun _ _ _ h => h), .inr (fun _ _ _ h => h), .inr (fun _ _ _ h => h), .inr (fun _ _ _ h => h), .inr (fun _ _ _ h => h), .inr (fun _ _ _ h => h), .inr (fun _ _ _ h => h), .inr (fun _ _ _ h => h), .inr (fun _ _ _ h => h), .inr (fun _ _ _ h => h), .inr (fun _ _ _ h => h), .inl (by simp), .inr (fun _ _ _ h => h), .inr (fun _ _ hh h => boxM_keep hh h HG4.out hbl.out), trivial⟩) (appM_of (lo := 0) (hi := 0) HE.out (if_pos rfl) HO4.out)
  case o12 =>
   intro At yy W bb hy hb hbb d hz hd K hK
   have f11 := hd ⟨11, .data⟩ (by simp) rfl rfl
   obtain ⟨_, _, _, _, z5, d5, e11, _⟩ := f11
   obtain ⟨s29, s29'⟩ := zsg 1 29 .data hy hd rfl
   obtain ⟨s31, s31'⟩ := zsg 3 31 .data hy hd rfl
   obtain ⟨s33, s33'⟩ := zsg 5 33 .data hy hd rfl
   obtain ⟨s35, s35'⟩ := zsg 7 35 .data hy hd rfl
   obtain ⟨s39, s39'⟩ := zsb ((hy 11 _ 39 rfl rfl).trans e11)
   clear hd hy hb
   go_simp
   exact hK.out _ W (stpj_of hmo d (Below.refl _ _)) (by show updV yy 12 _ 12 = .agg #[_, _, _, _, updV yy 12 _ 11]; rw [show ∀ x, updV yy 12 x 12 = x from fun x => if_pos rfl, show ∀ x, updV yy 12 x 11 = yy 11 from fun x => if_neg (by decide), e11])
  case o13 =>
   intro At yy W bb hy hb hbb d hz hd K hK
   clear hd hy hb
   go_simp
   exact hK.out _ _ (stpj_of hmo (JB_on hs0 d ((Below.refl _ _).alloc (Nat.le_refl _) _)) ((Below.refl _ _).alloc (Nat.le_refl _) _)) ⟨if_pos rfl, hz, by simp, World.alloc_heap_new _ _⟩
  case fin =>
   intro yy lo hi W hM
   show wpList _ _ _ [_] _ _
   have e0 := hM.v 0 (by simp) rfl rfl rfl
   have e1 := hM.v 1 (by simp) rfl rfl rfl
   have e2 := hM.v 2 (by simp) rfl rfl rfl
   have e3 := hM.v 3 (by simp) rfl rfl rfl
   have e4 := hM.v 4 (by simp) rfl rfl rfl
   have e5 := hM.v 5 (by simp) rfl rfl rfl
   have e6 := hM.v 6 (by simp) rfl rfl rfl
   have e7 := hM.v 7 (by simp) rfl rfl rfl
   have e8 := hM.v 8 (by simp) rfl rfl rfl
   have e9 := hM.v 9 (by simp) rfl rfl rfl
   have e10 := hM.v 10 (by simp) rfl rfl rfl
   obtain ⟨z5, d5, e11, O11⟩ := hM.fact 11 (by simp) rfl (notR_all 11 rfl)
   have e12 := hM.fact 12 (by simp) rfl (notR_all 12 rfl)
   replace e12 : yy 12 = .agg #[.int .i64 n', .int .i64 (m : Int), .slice a1 n1 c1, .slice b2 l2 d2, yy 11] := e12
   rw [e11] at e12
   obtain ⟨e13, l13, _, z13⟩ := hM.fact 13 (by simp) rfl (notR_all 13 rfl)
   have dd : Below W0.heap.size w1 W := hM.d
   simp only [fills, Act.put, List.take, List.length, List.setIfInBounds_toArray, List.set_cons_zero, List.set_cons_succ, e0, e1, e2, e3, e4, e5, e6, e7, e8, e9, e10, e11, e12, e13]
   generalize lo 13 = p8 at z13 l13 ⊢
   clear hM hmo e0 e1 e2 e3 e4 e5 e6 e7 e8 e9 e10 e11 e12 e13
   have HF := hide (behM (u0 := .int .i64 n') (u1 := .int .i64 (m : Int)) (u2 := .slice a1 n1 c1) (u3 := .slice b2 l2 d2) (u4 := .slice z5 EE.length d5) z13 O11 dd HF1.out.2 (Nat.le_trans hs0 l13))
   obtain ⟨o0, o1, o2, o3, o4⟩ := zd5 z13 rfl rfl rfl rfl rfl
   have g0 : W.frozen? ⟨p8, 0, none⟩ = false := fz_of z13
   have g1 : W.frozen? ⟨p8, 1, none⟩ = false := fz_of z13
   have g2 : W.frozen? ⟨p8, 2, none⟩ = false := fz_of z13
   have g3 : W.frozen? ⟨p8, 3, none⟩ = false := fz_of z13
   have g4 : W.frozen? ⟨p8, 4, none⟩ = false := fz_of z13
   clear z13 O11 dd
   go_wp2_with fail
   go_meet
   exact ⟨p8, z5, d5, rfl, HF⟩
 case rest =>
  obtain ⟨p8, z5, d5, rfl, HC⟩ := hcut
  rename World => wz
  clear OW RX hbk hbl HA1 HB1 hlen
  have DZ : Hid (Below w.heap.size w wz) := hide (HD.out.1.trans (HC.out.2.2.2.mono HD.out.1.size))
  have HI : Hid (BhI W0 wz p8 B0 n' (m : Int) (.slice a1 n1 c1) (.slice b2 l2 d2) z5 d5 Sa Fb EE) := hide ⟨HC.out.1, own_below oA.out DZ.out, own_below oB.out DZ.out, owns_down HC.out.2.1 (Nat.le_trans hB0 HD.out.1.size), hap.out, HC.out.2.2.2, HC.out.2.2.1⟩
  have TA := takesEmpty_any wz N (m : Int) a1 a2 a3 c1 c2 c3 n3 Sa Fa (hide (hA.out.s.on DZ.out)) (hide (hA.out.f.on DZ.out)) hSa hG (by have := en.out.1; omega) (by have := en.out.2.1; omega) (by omega)
  rw [en.out.1, en.out.2.1] at TA
  obtain ⟨eA, heA⟩ : ∃ b, emptB Sa Fa = b := ⟨_, rfl⟩
  obtain ⟨eB, heB⟩ : ∃ b, emptB Sb Fb = b := ⟨_, rfl⟩
  rw [heA] at TA hSL
  rw [heB] at hFL
  have HEB := hide heB
  clear heA heB
  have HA2 := hide (blk_on HD.out.2.1 HC.out.2.2.2)
  obtain ⟨y0, y1, y2, y3, y4⟩ := zd5 HA2.out rfl rfl rfl rfl rfl
  go_upto_if 42 with (go_at_call 88; refine TA.mono ?_; rintro e w5 ⟨rfl, D5⟩; have H5 := hide (HI.out.on D5); clear D5)
  clear TA HI HC DZ HA2 y0 y1 y2 y3 y4
  go_cut [8] from 43 to 49 (fun v8 W => ∃ vX : Value, v8 = .pointer (some ⟨p8, 0, none⟩) ∧ Hid (BhI W0 W p8 B0 n' (m : Int) (vX) (.slice b2 l2 d2) z5 d5 SL Fb EE))
  case first =>
   cases eA
   · go_wp2_with fail
     go_meet
     exact ⟨_, rfl, hide (by rw [hSL.out]; exact H5.out)⟩
   · obtain ⟨W6, hW6⟩ : ∃ X, w5.alloc (.cells #[.slice a1 n1 c1, .slice b1 l1 d1] 22) = X := ⟨_, rfl⟩
     have K6 : Hid (W6.heap[w5.heap.size]? = some (.cells #[.slice a1 n1 c1, .slice b1 l1 d1] 22 (0, 0)) ∧ Below w5.heap.size w5 W6) := hide (by rw [← hW6]; exact ⟨World.alloc_heap_new _ _, (Below.refl _ _).alloc (Nat.le_refl _) _⟩)
     have DW : Hid (Below w.heap.size w W6) := hide (by
      have q := H5.out.be.trans (K6.out.2.mono H5.out.be.size)
      exact HD.out.1.trans (q.mono HD.out.1.size))
     have TC := concat_any W6 w5.heap.size a1 b1 n1 l1 c1 d1 Sa Sb en.out.1 en.out.2.2.2.1 (by omega) (by omega) zA zB (hide (hA.out.s.on DW.out)) (hide (hB.out.s.on DW.out)) K6.out.1
     obtain ⟨LX, hLX⟩ : ∃ L, Sa ++ Sb = L := ⟨_, rfl⟩
     rw [hLX] at TC
     have HLX : Hid (SL = LX) := hide (by rw [hSL.out, ← hLX]; rfl)
     clear hLX
     have yA : w5.cell? ⟨w.heap.size, 2, none⟩ = some (.slice a1 n1 c1) := cell_of (blk_on HD.out.2.1 H5.out.be) rfl
     have yB : w5.cell? ⟨w.heap.size + 1, 2, none⟩ = some (.slice b1 l1 d1) := cell_of (blk_on HD.out.2.2.1 H5.out.be) rfl
     go_wp2_with (go_at_call 83; refine TC.mono ?_; rintro e w7 ⟨v7, rfl, HR7⟩; obtain ⟨s7, k7, e7⟩ := own_slice HR7.out.1; subst e7; have H7 := hide ((H5.out.on K6.out.2).on HR7.out.2); have cX : w7.cell? ⟨p8, 2, none⟩ = some (.slice a1 n1 c1) := cell_of H7.out.bx rfl; have fX : w7.frozen? ⟨p8, 2, none⟩ = false := fz_of H7.out.bx)
     go_meet
     exact ⟨_, rfl, hide (by rw [HLX.out]; exact H7.out.setS HR7.out.1 (Nat.le_trans hB0 DW.out.size) (fun g hg => ((H5.out.on K6.out.2).rf.lt g hg).2))⟩
  obtain ⟨vS, rfl, HJ⟩ := hcut
  rename World => wy
  clear H5
  have DY : Hid (Below w.heap.size w wy) := hide (HD.out.1.trans (HJ.out.be.mono HD.out.1.size))
  have TB := takesEmpty_any wy M m' b1 b2 b3 d1 d2 d3 l3 Sb Fb (hide (hB.out.s.on DY.out)) (hide (hB.out.f.on DY.out)) hSb hFb (by have := en.out.2.2.2.1; omega) (by have := en.out.2.2.2.2.1; omega) (by omega)
  rw [en.out.2.2.2.1, en.out.2.2.2.2.1, ← eM.out, HEB.out] at TB
  obtain ⟨x0, x1, x2, x3, x4⟩ := zd5 (blk_on HD.out.2.2.1 HJ.out.be) rfl rfl rfl rfl rfl
  go_upto_if 51 with (go_at_call 88; refine TB.mono ?_; rintro e w5 ⟨rfl, D5⟩; have H5 := hide (HJ.out.on D5); clear D5)
  clear TB HJ DY x0 x1 x2 x3 x4
  go_cut [8] from 52 to 58 (fun v8 W => ∃ vX : Value, v8 = .pointer (some ⟨p8, 0, none⟩) ∧ Hid (BhI W0 W p8 B0 n' (m : Int) (vS) (vX) z5 d5 SL FL EE))
  case first =>
   cases eB
   · go_wp2_with fail
     go_meet
     exact ⟨_, rfl, hide (by rw [hFL.out]; exact H5.out)⟩
   · obtain ⟨W6, hW6⟩ : ∃ X, w5.alloc (.cells #[.slice a2 n2 c2, .slice b2 l2 d2] 22) = X := ⟨_, rfl⟩
     have K6 : Hid (W6.heap[w5.heap.size]? = some (.cells #[.slice a2 n2 c2, .slice b2 l2 d2] 22 (0, 0)) ∧ Below w5.heap.size w5 W6) := hide (by rw [← hW6]; exact ⟨World.alloc_heap_new _ _, (Below.refl _ _).alloc (Nat.le_refl _) _⟩)
     have DW : Hid (Below w.heap.size w W6) := hide (by
      have q := H5.out.be.trans (K6.out.2.mono H5.out.be.size)
      exact HD.out.1.trans (q.mono HD.out.1.size))
     have TC := concat_any W6 w5.heap.size a2 b2 n2 l2 c2 d2 Fa Fb en.out.2.1 en.out.2.2.2.2.1 (by omega) (by omega) zA2 zB2 (hide (hA.out.f.on DW.out)) (hide (hB.out.f.on DW.out)) K6.out.1
     obtain ⟨LX, hLX⟩ : ∃ L, Fa ++ Fb = L := ⟨_, rfl⟩
     rw [hLX] at TC
     have HLX : Hid (FL = LX) := hide (by rw [hFL.out, ← hLX]; rfl)
     clear hLX
     have yA : w5.cell? ⟨w.heap.size, 3, none⟩ = some (.slice a2 n2 c2) := cell_of (blk_on HD.out.2.1 H5.out.be) rfl
     have yB : w5.cell? ⟨w.heap.size + 1, 3, none⟩ = some (.slice b2 l2 d2) := cell_of (blk_on HD.out.2.2.1 H5.out.be) rfl
     go_wp2_with (go_at_call 83; refine TC.mono ?_; rintro e w7 ⟨v7, rfl, HR7⟩; obtain ⟨s7, k7, e7⟩ := own_slice HR7.out.1; subst e7; have H7 := hide ((H5.out.on K6.out.2).on HR7.out.2); have cX : w7.cell? ⟨p8, 3, none⟩ = some (.slice b2 l2 d2) := cell_of H7.out.bx rfl; have fX : w7.frozen? ⟨p8, 3, none⟩ = false := fz_of H7.out.bx)
     go_meet
     exact ⟨_, rfl, hide (by rw [HLX.out]; exact H7.out.setF HR7.out.1 (Nat.le_trans hB0 DW.out.size) (fun g hg => ((H5.out.on K6.out.2).rs.lt g hg).2))⟩
  obtain ⟨vF, rfl, HK⟩ := hcut
  rename World => wx
  clear H5
  obtain ⟨s1, k1, rfl⟩ := own_slice HK.out.rs
  obtain ⟨f1, k2, rfl⟩ := own_slice HK.out.rf
  have F8 := HK.out.bx
  have F4 := blk_on HD.out.2.2.2.1 HK.out.be
  obtain ⟨o0, o1, o2, o3, o4⟩ := zd5 F8 rfl rfl rfl rfl rfl
  obtain ⟨q0, q1, q2, q3, q4⟩ := zd5 F4 rfl rfl rfl rfl rfl
  have g0 : wx.frozen? ⟨w.heap.size + 1 + 1, 0, none⟩ = false := fz_of F4
  have g1 : wx.frozen? ⟨w.heap.size + 1 + 1, 1, none⟩ = false := fz_of F4
  have g2 : wx.frozen? ⟨w.heap.size + 1 + 1, 2, none⟩ = false := fz_of F4
  have g3 : wx.frozen? ⟨w.heap.size + 1 + 1, 3, none⟩ = false := fz_of F4
  have g4 : wx.frozen? ⟨w.heap.size + 1 + 1, 4, none⟩ = false := fz_of F4
  have O6 := hide (And.intro (set5 wx (w.heap.size + 1 + 1) _ _ _ _ _ (.int .i64 n') (.int .i64 (m : Int)) (.slice s1 SL.length k1) (.slice f1 FL.length k2) (.slice z5 EE.length d5) 25 F4) (only5 wx (w.heap.size + 1 + 1) (.int .i64 n') (.int .i64 (m : Int)) (.slice s1 SL.length k1) (.slice f1 FL.length k2) (.slice z5 EE.length d5)))
  have HO : Hid (OwnO B0 _ (.slice s1 SL.length k1) (.slice f1 FL.length k2) (.slice z5 EE.length d5) SL FL EE) := hide ((OwnO.mk HK.out.rs HK.out.rf HK.out.re HK.out.ne).keep F4 O6.out.2)
  clear F8 F4
  go_wp2_with fail
  refine bodyPost_ret (results_c1 (p := 4) (q := 5) (ty := 25) rfl _ _ (w.heap.size + 1 + 1) 25 _ (0, 0) _ _ rfl rfl O6.out.1 Tryz.underlying25 rfl (by kernel_rfl)) rfl ?_
  have s1' := HD.out.2.2.2.2
  have s2' := HK.out.be.size
  have d6 := HD.out.1.trans (HK.out.be.mono HD.out.1.size)
  exact ⟨s1, k1, f1, k2, z5, d5, by rw [HP0.out]; rfl, hide (by rw [HP0.out]; exact ⟨HO.out, d6.trans (O6.out.2.toBelow (by omega) (fun k hk => by omega))⟩)⟩
end Go.Proofs.YtchoopnjckcohaaGreatDoor
