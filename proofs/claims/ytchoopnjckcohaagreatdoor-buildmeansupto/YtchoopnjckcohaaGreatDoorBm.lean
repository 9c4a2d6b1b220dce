import Derived.Test.YtchoopnjckcohaaGreatDoorQav
set_option maxRecDepth 100000
set_option maxHeartbeats 40000000
namespace Go.Proofs.YtchoopnjckcohaaGreatDoor
open Go.RowKit Go.Maps Go.Shelf
attribute [local go_sem] Oper.semAt_some
def JB (B : Nat) (w : World) : Bool → World → Prop := fun b W => Below (if b then B else w.heap.size) w W
theorem JB_first {B : Nat} {w W : World} (d : Below w.heap.size w W) : JB B w false W := d
theorem JB_low {B : Nat} {w W : World} {b : Bool} (h : B ≤ w.heap.size) (d : JB B w b W) : Below B w W := by
 cases b with
 | false => exact Below.mono (show Below w.heap.size w W from d) h
 | true => exact d
theorem JB_on {B : Nat} {w W W' : World} {b : Bool} (h : B ≤ w.heap.size) (d : JB B w b W) (d1 : Below W.heap.size W W') : JB B w b W' := by
 cases b with
 | false => exact Below.trans (show Below w.heap.size w W from d) (d1.mono (Below.size d))
 | true => exact Below.trans (show Below B w W from d) (d1.mono (Nat.le_trans h (Below.size d)))
theorem JB_put {B : Nat} {w W W' : World} {R : Nat → Prop} (h : B ≤ w.heap.size) (d : JB B w false W) (o : Only W W' R) (hR : ∀ k, R k → B ≤ k) : JB B w true W' :=
 (Below.mono (show Below w.heap.size w W from d) h).trans (o.toBelow (Nat.le_trans h (Below.size d)) hR)
def appM (B : Nat) (X : List EdT) : MkP := fun x _ _ W => ∃ z5 d5, x = .slice z5 X.length d5 ∧ W.ownsRow B 61 3 (.slice z5 X.length d5) X.length (X.flatMap encE)
theorem appM_mono {B : Nat} {X : List EdT} : MonoP (appM B X) := fun _ _ _ _ _ _ d ⟨z5, d5, e, h⟩ => ⟨z5, d5, e, own_below h d⟩
theorem appM_of {B lo hi : Nat} {x : Value} {X Y : List EdT} {z5 : Option Addr} {d5 : Nat} {W : World} (h : X = Y) (e : x = .slice z5 X.length d5) (o : W.ownsRow B 61 3 (.slice z5 X.length d5) X.length (X.flatMap encE)) : appM B Y x lo hi W := by
 subst h
 exact ⟨z5, d5, e, o⟩
def boxM (B : Nat) : MkP := fun x lo hi W => x = .pointer (some ⟨lo, 0, none⟩) ∧ B ≤ lo ∧ lo < hi ∧ W.heap[lo]? = some (.cells #[.int .i64 0, .int .i64 0, .slice none 0 0, .slice none 0 0, .slice none 0 0] 25 (0, 0))
theorem boxM_mono {B : Nat} : MonoP (boxM B) := fun _ _ _ _ _ hs d ⟨e, l, l2, z⟩ => ⟨e, l, l2, (d.block _ (by omega)).trans z⟩
theorem boxM_keep {B lo hi : Nat} {x : Value} {W W' : World} {R : Nat → Prop} (hh : hi ≤ W.heap.size) (h : boxM B x lo hi W) (o : Only W W' R) (hR : ∀ k, R k → k < B) : boxM B x lo hi W' :=
 ⟨h.1, h.2.1, h.2.2.1, (o.block lo (by have := h.2.2.1; omega) (fun q => by have := hR _ q; have := h.2.1; omega)).trans h.2.2.2⟩
theorem behM {W0 w1 W : World} {p n : Nat} {v u0 u1 u2 u3 u4 : Value} {xs : List Value} (z : W.heap[p]? = some (.cells #[.int .i64 0, .int .i64 0, .slice none 0 0, .slice none 0 0, .slice none 0 0] 25 (0, 0))) (ow : W.ownsRow W0.heap.size 61 3 v n xs) (dd : Below W0.heap.size w1 W) (d1 : Below W0.heap.size W0 w1) (hp : W0.heap.size ≤ p) :
 ((((((W.setCell ⟨p, 0, none⟩ (u0)).setCell ⟨p, 1, none⟩ (u1)).setCell ⟨p, 2, none⟩ (u2)).setCell ⟨p, 3, none⟩ (u3)).setCell ⟨p, 4, none⟩ (u4))).heap[p]? = some (.cells #[u0, u1, u2, u3, u4] 25 (0, 0)) ∧ ((((((W.setCell ⟨p, 0, none⟩ (u0)).setCell ⟨p, 1, none⟩ (u1)).setCell ⟨p, 2, none⟩ (u2)).setCell ⟨p, 3, none⟩ (u3)).setCell ⟨p, 4, none⟩ (u4))).ownsRow W0.heap.size 61 3 v n xs ∧ W0.heap.size ≤ p ∧ Below W0.heap.size W0 ((((((W.setCell ⟨p, 0, none⟩ (u0)).setCell ⟨p, 1, none⟩ (u1)).setCell ⟨p, 2, none⟩ (u2)).setCell ⟨p, 3, none⟩ (u3)).setCell ⟨p, 4, none⟩ (u4))) := by
 have o := only5 W p u0 u1 u2 u3 u4
 exact ⟨set5 W p _ _ _ _ _ _ _ _ _ _ 25 z, row_only ow o (fun k hk e => by subst e; exact row_tag ow z (by decide) hk), hp, (d1.trans dd).trans (o.toBelow (d1.trans dd).size (fun k hk => by rw [hk]; exact hp))⟩
theorem behind_no (w : World) (N m n1 n2 n3 l1 l2 l3 : Nat) (n' m' : Int) (a1 a2 a3 b1 b2 b3 : Option Addr) (c1 c2 c3 d1 d2 d3 : Nat) (Sa Fa Sb Fb : List Int) (Ea Eb : List EdT) (en : Hid (Sa.length = n1 ∧ Fa.length = n2 ∧ Ea.length = n3 ∧ Sb.length = l1 ∧ Fb.length = l2 ∧ Eb.length = l3)) (hA : Hid (RdA w a1 a2 a3 Sa Fa Ea)) (hB : Hid (RdA w b1 b2 b3 Sb Fb Eb)) (zB : b1 = none → d1 = 0) (hN : N ≤ 4096) (hm : m ≤ 128) (h1 : n1 ≤ 2000000) (h2 : n2 ≤ 2000000) (h3 : n3 ≤ 2000000) (h4 : l1 ≤ 2000000) (h5 : l2 ≤ 2000000) (h6 : l3 ≤ 2000000) (hS : Hid (SsE Ea)) (hF : Hid (∀ e ∈ Ea, (0 ≤ e.1 ∧ e.1 < (N : Int)) ∧ (0 ≤ e.2.1 ∧ e.2.1 < (m : Int)) ∧ (0 ≤ e.2.2 ∧ e.2.2 < (N : Int)))) (hG : Hid (∀ x ∈ Fa, ∃ q : Nat, q < N ∧ x = (q : Int))) (zB3 : b3 = none → d3 = 0) (hle : (brL Ea Fa Sb m N).length ≤ 65536) (hsm : (brL Ea Fa Sb m N).length + l3 ≤ 65536) (hSa : Hid (∀ x ∈ Sa, ∃ q : Nat, q < N ∧ x = (q : Int))) (M : Nat) (eM : Hid (n' = (M : Int))) (hM : M ≤ 8192) (hSb : Hid (∀ x ∈ Sb, ∃ q : Nat, q < M ∧ x = (q : Int))) (hFb : Hid (∀ x ∈ Fb, ∃ q : Nat, q < M ∧ x = (q : Int))) (emA : Hid (emptB Sa Fa = false)) (emB : Hid (emptB Sb Fb = false)) :
 Calls Tryz.prog 56 #[.agg #[.int .i64 (N : Int), .int .i64 (m : Int), .slice a1 n1 c1, .slice a2 n2 c2, .slice a3 n3 c3], .agg #[.int .i64 n', .int .i64 m', .slice b1 l1 d1, .slice b2 l2 d2, .slice b3 l3 d3]] w fun e w' => ∃ z5 d5, e = .returned (.tuple #[.agg #[.int .i64 n', .int .i64 (m : Int), .slice a1 n1 c1, .slice b2 l2 d2, .slice z5 (brL Ea Fa Sb m N ++ Eb).length d5], .int .i64 0]) ∧ Hid (w'.ownsRow w.heap.size 61 3 (.slice z5 (brL Ea Fa Sb m N ++ Eb).length d5) (brL Ea Fa Sb m N ++ Eb).length ((brL Ea Fa Sb m N ++ Eb).flatMap encE) ∧ Below w.heap.size w w') := by
 obtain ⟨W0, hW0⟩ : ∃ W0, ((w.alloc (.cells #[.int .i64 (N : Int), .int .i64 (m : Int), .slice a1 n1 c1, .slice a2 n2 c2, .slice a3 n3 c3] 25)).alloc (.cells #[.int .i64 n', .int .i64 m', .slice b1 l1 d1, .slice b2 l2 d2, .slice b3 l3 d3] 25)).alloc (.cells #[.int .i64 0, .int .i64 0, .slice none 0 0, .slice none 0 0, .slice none 0 0] 25) = W0 := ⟨_, rfl⟩
 have HD := hide (box3b w #[.int .i64 (N : Int), .int .i64 (m : Int), .slice a1 n1 c1, .slice a2 n2 c2, .slice a3 n3 c3] #[.int .i64 n', .int .i64 m', .slice b1 l1 d1, .slice b2 l2 d2, .slice b3 l3 d3] #[.int .i64 0, .int .i64 0, .slice none 0 0, .slice none 0 0, .slice none 0 0] 25)
 rw [hW0] at HD
 have TB := bridged_any W0 N m n1 n2 n3 a1 a2 a3 b1 c1 c2 c3 l1 d1 Ea Fa Sb en.out.2.1 en.out.2.2.1 en.out.2.2.2.1 zB hN hm (hide (hA.out.e.on HD.out.1)) (hide (hA.out.f.on HD.out.1)) (hide (hB.out.s.on HD.out.1)) h2 h3 h4 hS hF hG
 obtain ⟨y0, y1, y2, y3, y4⟩ := zd5 HD.out.2.1 rfl rfl rfl rfl rfl
 obtain ⟨x0, x1, x2, x3, x4⟩ := zd5 HD.out.2.2.1 rfl rfl rfl rfl rfl
 unfold BrP at TB
 simp only [if_neg (show ¬ 65536 < (brL Ea Fa Sb m N).length by omega)] at TB
 obtain ⟨E, hE⟩ : ∃ E, brL Ea Fa Sb m N = E := ⟨_, rfl⟩
 rw [hE] at TB hle hsm ⊢
 clear hE
 have jb : ¬ (65536 : Int) < (E.length : Int) + (l3 : Int) := by omega
 have jw : IntKind.i64.wrap ((E.length : Int) + (l3 : Int)) = (E.length : Int) + (l3 : Int) := by rw [IntKind.wrap_i64]; omega
 go_enter Tryz.func56, Tryz.ntmps56
 go_upto_region 4 with (go_at_call 82; refine TB.mono ?_; rintro e w1 ⟨v1, rfl, O1, D1⟩; obtain ⟨ae, cf, rfl⟩ := own_slice O1; have HF1 := hide (And.intro O1 D1); have x4 : w1.cell? ⟨w.heap.size + 1, 4, none⟩ = some (.slice b3 l3 d3) := cell_of (blk_on HD.out.2.2.1 D1) rfl; clear D1 O1)
 clear TB y0 y1 y2 y3 y4 x0 x1 x2 x3 x4
 have HA1 := hide (blk_on HD.out.2.1 HF1.out.2)
 have HB1 := hide (blk_on HD.out.2.2.1 HF1.out.2)
 have OW : Hid (∀ W, Below w1.heap.size w1 W → W.ownsRow W0.heap.size 61 3 (.slice ae E.length cf) E.length (E.flatMap encE)) := hide (fun W d => own_below HF1.out.1 d)
 have RX : Hid (∀ W, Below w1.heap.size w1 W → RdE W b3 Eb) := hide (fun W d => (hB.out.e.on (HD.out.1.trans (HF1.out.2.mono HD.out.1.size))).on d)
 have hs0 : W0.heap.size ≤ w1.heap.size := HF1.out.2.size
 have hbk : Hid (∀ k, (Value.slice ae E.length cf).ownBlock = some k → W0.heap.size ≤ k) := hide (fun k hk => (HF1.out.1.lt k hk).1)
 have hbl : Hid (∀ k, (Value.slice ae E.length cf).ownBlock = some k → k < w1.heap.size) := hide (fun k hk => (HF1.out.1.lt k hk).2)
 have hkA : w.heap.size < W0.heap.size := by have := HD.out.2.2.2.2; omega
 have hkB : w.heap.size + 1 < W0.heap.size := by have := HD.out.2.2.2.2; omega
 have hlen : E.length + Eb.length ≤ 4194304 := by have := en.out.2.2.2.2.2; omega
 obtain ⟨EE, hEE⟩ : ∃ EE, E ++ Eb = EE := ⟨_, rfl⟩
 have HE := hide hEE
 have HP0 := hide hEE
 clear hEE
 go_cut [8] from 8 to 40 (fun v8 W => ∃ p8 z5 d5, v8 = .pointer (some ⟨p8, 0, none⟩) ∧ Hid (W.heap[p8]? = some (.cells #[.int .i64 n', .int .i64 (m : Int), .slice a1 n1 c1, .slice b2 l2 d2, .slice z5 EE.length d5] 25 (0, 0)) ∧ W.ownsRow W0.heap.size 61 3 (.slice z5 EE.length d5) EE.length (EE.flatMap encE) ∧ W0.heap.size ≤ p8 ∧ Below W0.heap.size W0 W))
 case first =>
  have hmo : MonIL 0 [vI 0 (.pointer (some ⟨w.heap.size + 1, 0, none⟩)), vI 1 (.int .i64 n'), vI 2 (.pointer (some ⟨w.heap.size, 1, none⟩)), vI 3 (.int .i64 (m : Int)), vI 4 (.pointer (some ⟨w.heap.size, 2, none⟩)), vI 5 (.slice a1 n1 c1), vI 6 (.pointer (some ⟨w.heap.size + 1, 3, none⟩)), vI 7 (.slice b2 l2 d2), vI 8 (.slice ae E.length cf), vI 9 (.pointer (some ⟨w.heap.size + 1, 4, none⟩)), vI 10 (.slice b3 l3 d3), pI 11 (appM W0.heap.size EE), ⟨[11], [], fun y _ _ _ => y 12 = .agg #[.int .i64 n', .int .i64 (m : Int), .slice a1 n1 c1, .slice b2 l2 d2, y 11]⟩, pI 13 (boxM w1.heap.size)] := ⟨vI_mono _ _, vI_mono _ _, vI_mono _ _, vI_mono _ _, vI_mono _ _, vI_mono _ _, vI_mono _ _, vI_mono _ _, vI_mono _ _, vI_mono _ _, vI_mono _ _, pI_mono appM_mono, (fun _ _ _ _ _ _ _ _ hy h => by dsimp only at hy h ⊢; rw [hy 12 (Or.inl rfl), hy 11 (Or.inr (by simp))]; exact h), pI_mono boxM_mono, trivial⟩
  refine wp_region_sj (JB W0.heap.size w1) 11 _ (by kernel_rfl) (JB_first ⟨rfl, rfl, rfl, Nat.le_refl _, fun _ _ => rfl⟩) (by kernel_rfl) (by kernel_rfl) (by kernel_rfl) (by kernel_rfl) hmo ⟨?o0, ?o1, ?o2, ?o3, ?o4, ?o5, ?o6, ?o7, ?o8, ?o9, ?o10, ?o11, ?o12, ?o13, trivial⟩ ?fin
  case o0 =>
   intro At yy W bb hy hb hbb d hz hd K hK
   obtain ⟨s3, s3'⟩ := zsb (hb 3 rfl : _ = .pointer (some ⟨w.heap.size + 1, 0, none⟩))
   clear hd hy hb
   go_simp
   exact hK.out _ W (stpj_of hmo d (Below.refl _ _)) (if_pos rfl)
  case o1 =>
   intro At yy W bb hy hb hbb d hz hd K hK
   obtain ⟨s28, s28'⟩ := zsg 0 28 .data hy hd rfl
   clear hd hy hb
   have dl := JB_low hs0 d
   have bxA := (dl.block _ hkA).trans HA1.out
   have bxB := (dl.block _ hkB).trans HB1.out
   have y1 : W.cell? ⟨w.heap.size, 1, none⟩ = some (.int .i64 (m : Int)) := cell_of bxA rfl
   have y2 : W.cell? ⟨w.heap.size, 2, none⟩ = some (.slice a1 n1 c1) := cell_of bxA rfl
   have x0 : W.cell? ⟨w.heap.size + 1, 0, none⟩ = some (.int .i64 n') := cell_of bxB rfl
   have x3 : W.cell? ⟨w.heap.size + 1, 3, none⟩ = some (.slice b2 l2 d2) := cell_of bxB rfl
   have x4 : W.cell? ⟨w.heap.size + 1, 4, none⟩ = some (.slice b3 l3 d3) := cell_of bxB rfl
   clear dl bxA bxB
   go_simp
   exact hK.out _ W (stpj_of hmo d (Below.refl _ _)) (if_pos rfl)
  case o2 =>
   intro At yy W bb hy hb hbb d hz hd K hK
   obtain ⟨s2, s2'⟩ := zsb (hb 2 rfl : _ = .pointer (some ⟨w.heap.size, 0, none⟩))
   clear hd hy hb
   go_simp
   exact hK.out _ W (stpj_of hmo d (Below.refl _ _)) (if_pos rfl)
  case o3 =>
   intro At yy W bb hy hb hbb d hz hd K hK
   obtain ⟨s30, s30'⟩ := zsg 2 30 .data hy hd rfl
   clear hd hy hb
   have dl := JB_low hs0 d
   have bxA := (dl.block _ hkA).trans HA1.out
   have bxB := (dl.block _ hkB).trans HB1.out
   have y1 : W.cell? ⟨w.heap.size, 1, none⟩ = some (.int .i64 (m : Int)) := cell_of bxA rfl
   have y2 : W.cell? ⟨w.heap.size, 2, none⟩ = some (.slice a1 n1 c1) := cell_of bxA rfl
   have x0 : W.cell? ⟨w.heap.size + 1, 0, none⟩ = some (.int .i64 n') := cell_of bxB rfl
   have x3 : W.cell? ⟨w.heap.size + 1, 3, none⟩ = some (.slice b2 l2 d2) := cell_of bxB rfl
   have x4 : W.cell? ⟨w.heap.size + 1, 4, none⟩ = some (.slice b3 l3 d3) := cell_of bxB rfl
   clear dl bxA bxB
   go_simp
   exact hK.out _ W (stpj_of hmo d (Below.refl _ _)) (if_pos rfl)
  case o4 =>
   intro At yy W bb hy hb hbb d hz hd K hK
   obtain ⟨s2, s2'⟩ := zsb (hb 2 rfl : _ = .pointer (some ⟨w.heap.size, 0, none⟩))
   clear hd hy hb
   go_simp
   exact hK.out _ W (stpj_of hmo d (Below.refl _ _)) (if_pos rfl)
  case o5 =>
   intro At yy W bb hy hb hbb d hz hd K hK
   obtain ⟨s32, s32'⟩ := zsg 4 32 .data hy hd rfl
   clear hd hy hb
   have dl := JB_low hs0 d
   have bxA := (dl.block _ hkA).trans HA1.out
   have bxB := (dl.block _ hkB).trans HB1.out
   have y1 : W.cell? ⟨w.heap.size, 1, none⟩ = some (.int .i64 (m : Int)) := cell_of bxA rfl
   have y2 : W.cell? ⟨w.heap.size, 2, none⟩ = some (.slice a1 n1 c1) := cell_of bxA rfl
   have x0 : W.cell? ⟨w.heap.size + 1, 0, none⟩ = some (.int .i64 n') := cell_of bxB rfl
   have x3 : W.cell? ⟨w.heap.size + 1, 3, none⟩ = some (.slice b2 l2 d2) := cell_of bxB rfl
   have x4 : W.cell? ⟨w.heap.size + 1, 4, none⟩ = some (.slice b3 l3 d3) := cell_of bxB rfl
   clear dl bxA bxB
   go_simp
   exact hK.out _ W (stpj_of hmo d (Below.refl _ _)) (if_pos rfl)
  case o6 =>
   intro At yy W bb hy hb hbb d hz hd K hK
   obtain ⟨s3, s3'⟩ := zsb (hb 3 rfl : _ = .pointer (some ⟨w.heap.size + 1, 0, none⟩))
   clear hd hy hb
   go_simp
   exact hK.out _ W (stpj_of hmo d (Below.refl _ _)) (if_pos rfl)
  case o7 =>
   intro At yy W bb hy hb hbb d hz hd K hK
   obtain ⟨s34, s34'⟩ := zsg 6 34 .data hy hd rfl
   clear hd hy hb
   have dl := JB_low hs0 d
   have bxA := (dl.block _ hkA).trans HA1.out
   have bxB := (dl.block _ hkB).trans HB1.out
   have y1 : W.cell? ⟨w.heap.size, 1, none⟩ = some (.int .i64 (m : Int)) := cell_of bxA rfl
   have y2 : W.cell? ⟨w.heap.size, 2, none⟩ = some (.slice a1 n1 c1) := cell_of bxA rfl
   have x0 : W.cell? ⟨w.heap.size + 1, 0, none⟩ = some (.int .i64 n') := cell_of bxB rfl
   have x3 : W.cell? ⟨w.heap.size + 1, 3, none⟩ = some (.slice b2 l2 d2) := cell_of bxB rfl
   have x4 : W.cell? ⟨w.heap.size + 1, 4, none⟩ = some (.slice b3 l3 d3) := cell_of bxB rfl
   clear dl bxA bxB
   go_simp
   exact hK.out _ W (stpj_of hmo d (Below.refl _ _)) (if_pos rfl)
  case o8 =>
   intro At yy W bb hy hb hbb d hz hd K hK
   obtain ⟨s6, s6'⟩ := zsb (hb 6 rfl : _ = .slice ae E.length cf)
   clear hd hy hb
   go_simp
   exact hK.out _ W (stpj_of hmo d (Below.refl _ _)) (if_pos rfl)
  case o9 =>
   intro At yy W bb hy hb hbb d hz hd K hK
   obtain ⟨s3, s3'⟩ := zsb (hb 3 rfl : _ = .pointer (some ⟨w.heap.size + 1, 0, none⟩))
   clear hd hy hb
   go_simp
   exact hK.out _ W (stpj_of hmo d (Below.refl _ _)) (if_pos rfl)
  case o10 =>
   intro At yy W bb hy hb hbb d hz hd K hK
   obtain ⟨s37, s37'⟩ := zsg 9 37 .data hy hd rfl
   clear hd hy hb
   have dl := JB_low hs0 d
   have bxA := (dl.block _ hkA).trans HA1.out
   have bxB := (dl.block _ hkB).trans HB1.out
   have y1 : W.cell? ⟨w.heap.size, 1, none⟩ = some (.int .i64 (m : Int)) := cell_of bxA rfl
   have y2 : W.cell? ⟨w.heap.size, 2, none⟩ = some (.slice a1 n1 c1) := cell_of bxA rfl
   have x0 : W.cell? ⟨w.heap.size + 1, 0, none⟩ = some (.int .i64 n') := cell_of bxB rfl
   have x3 : W.cell? ⟨w.heap.size + 1, 3, none⟩ = some (.slice b2 l2 d2) := cell_of bxB rfl
   have x4 : W.cell? ⟨w.heap.size + 1, 4, none⟩ = some (.slice b3 l3 d3) := cell_of bxB rfl
   clear dl bxA bxB
   go_simp
   exact hK.out _ W (stpj_of hmo d (Below.refl _ _)) (if_pos rfl)
  case o11 =>
   intro At yy W bb hy hb hbb d hz hd K hK
   obtain ⟨s36, s36'⟩ := zsg 8 36 .data hy hd rfl
   obtain ⟨s38, s38'⟩ := zsg 10 38 .data hy hd rfl
   clear hd hb
   have hb0 := hbb rfl
   subst hb0
   refine step_appM rfl _ _ rfl W0.heap.size (.slice ae E.length cf) E s36 (OW.out _ d) b3 l3 d3 Eb en.out.2.2.2.2.2 zB3 s38 (RX.out _ d) hlen (Nat.le_trans hs0 hz) ?_
   intro z5 d5 w4 HO4 HG4
   exact hK.out _ w4 (stpj_keeps [] rfl (JB_put hs0 d HG4.out hbk.out) HG4.out.size ⟨.inr (fun _ _ _ h => h), .inr (fun _ _ _ h => h), .inr (fun _ _ _ h => h), .inr (fun _ _ _ h => h), .inr (fun _ _ _ h => h), .inr (fun _ _ _ h => h), .inr (fun _ _ _ h => h), .inr (fun _ _ _ h => h), .inr (fun _ _ _ h => h), .inr (fun _ _ _ h => h), .inr (fun _ _ _ h => h), .inl (by simp), .inr (fun _ _ _ h => h), .inr (fun _ _ hh h => boxM_keep hh h HG4.out hbl.out), trivial⟩) (appM_of (lo := 0) (hi := 0) HE.out (if_pos rfl) HO4.out)
  case o12 =>
   intro At yy W bb hy hb hbb d hz hd K hK
   have f11 := hd ⟨11, .data⟩ (by simp) rfl rfl
   obtain ⟨_, _, _, _, z5, d5, e11, _⟩ := f11
   obtain ⟨s29, s29'⟩ := zsg 1 29 .data hy hd rfl
   obtain ⟨s31, s31'⟩ := zsg 3 31 .data hy hd rfl
   obtain ⟨s33, s33'⟩ := zsg 5 33 .data hy hd rfl
   obtain ⟨s35, s35'⟩ := zsg 7 35 .data hy hd rfl
   obtain ⟨s39, s39'⟩ := zsb ((hy 11 _ 39 rfl rfl).trans e11)
   clear hd hy hb
   go_simp
   exact hK.out _ W (stpj_of hmo d (Below.refl _ _)) (by show updV yy 12 _ 12 = .agg #[_, _, _, _, updV yy 12 _ 11]; rw [show ∀ x, updV yy 12 x 12 = x from fun x => if_pos rfl, show ∀ x, updV yy 12 x 11 = yy 11 from fun x => if_neg (by decide), e11])
  case o13 =>
   intro At yy W bb hy hb hbb d hz hd K hK
   clear hd hy hb
   go_simp
   exact hK.out _ _ (stpj_of hmo (JB_on hs0 d ((Below.refl _ _).alloc (Nat.le_refl _) _)) ((Below.refl _ _).alloc (Nat.le_refl _) _)) ⟨if_pos rfl, hz, by simp, World.alloc_heap_new _ _⟩
  case fin =>
   intro yy lo hi W hM
   show wpList _ _ _ [_] _ _
   have e0 := hM.v 0 (by simp) rfl rfl rfl
   have e1 := hM.v 1 (by simp) rfl rfl rfl
   have e2 := hM.v 2 (by simp) rfl rfl rfl
   have e3 := hM.v 3 (by simp) rfl rfl rfl
   have e4 := hM.v 4 (by simp) rfl rfl rfl
   have e5 := hM.v 5 (by simp) rfl rfl rfl
   have e6 := hM.v 6 (by simp) rfl rfl rfl
   have e7 := hM.v 7 (by simp) rfl rfl rfl
   have e8 := hM.v 8 (by simp) rfl rfl rfl
   have e9 := hM.v 9 (by simp) rfl rfl rfl
   have e10 := hM.v 10 (by simp) rfl rfl rfl
   obtain ⟨z5, d5, e11, O11⟩ := hM.fact 11 (by simp) rfl (notR_all 11 rfl)
   have e12 := hM.fact 12 (by simp) rfl (notR_all 12 rfl)
   replace e12 : yy 12 = .agg #[.int .i64 n', .int .i64 (m : Int), .slice a1 n1 c1, .slice b2 l2 d2, yy 11] := e12
   rw [e11] at e12
   obtain ⟨e13, l13, _, z13⟩ := hM.fact 13 (by simp) rfl (notR_all 13 rfl)
   have dd : Below W0.heap.size w1 W := hM.d
   simp only [fills, Act.put, List.take, List.length, List.setIfInBounds_toArray, List.set_cons_zero, List.set_cons_succ, e0, e1, e2, e3, e4, e5, e6, e7, e8, e9, e10, e11, e12, e13]
   generalize lo 13 = p8 at z13 l13 ⊢
   clear hM hmo e0 e1 e2 e3 e4 e5 e6 e7 e8 e9 e10 e11 e12 e13
   have HF := hide (behM (u0 := .int .i64 n') (u1 := .int .i64 (m : Int)) (u2 := .slice a1 n1 c1) (u3 := .slice b2 l2 d2) (u4 := .slice z5 EE.length d5) z13 O11 dd HF1.out.2 (Nat.le_trans hs0 l13))
   obtain ⟨o0, o1, o2, o3, o4⟩ := zd5 z13 rfl rfl rfl rfl rfl
   have g0 : W.frozen? ⟨p8, 0, none⟩ = false := fz_of z13
   have g1 : W.frozen? ⟨p8, 1, none⟩ = false := fz_of z13
   have g2 : W.frozen? ⟨p8, 2, none⟩ = false := fz_of z13
   have g3 : W.frozen? ⟨p8, 3, none⟩ = false := fz_of z13
   have g4 : W.frozen? ⟨p8, 4, none⟩ = false := fz_of z13
   clear z13 O11 dd
   go_wp2_with fail
   go_meet
   exact ⟨p8, z5, d5, rfl, HF⟩
 case rest =>
  obtain ⟨p8, z5, d5, rfl, HC⟩ := hcut
  rename World => wz
  clear OW RX hbk hbl HA1 HB1 hlen
  have DZ : Hid (Below w.heap.size w wz) := hide (HD.out.1.trans (HC.out.2.2.2.mono HD.out.1.size))
  have HA2 := hide (blk_on HD.out.2.1 HC.out.2.2.2)
  have HB2 := hide (blk_on HD.out.2.2.1 HC.out.2.2.2)
  have TA := takesEmpty_any wz N (m : Int) a1 a2 a3 c1 c2 c3 n3 Sa Fa (hide (hA.out.s.on DZ.out)) (hide (hA.out.f.on DZ.out)) hSa hG (by have := en.out.1; omega) (by have := en.out.2.1; omega) (by omega)
  rw [emA.out, en.out.1, en.out.2.1] at TA
  obtain ⟨y0, y1, y2, y3, y4⟩ := zd5 HA2.out rfl rfl rfl rfl rfl
  go_upto_region 7 with (go_at_call 88; refine TA.mono ?_; rintro e w5 ⟨rfl, D5⟩; have H5 := hide D5; clear D5)
  clear TA y0 y1 y2 y3 y4
  have DZ5 : Hid (Below w.heap.size w w5) := hide (DZ.out.trans (H5.out.mono DZ.out.size))
  have TB := takesEmpty_any w5 M m' b1 b2 b3 d1 d2 d3 l3 Sb Fb (hide (hB.out.s.on DZ5.out)) (hide (hB.out.f.on DZ5.out)) hSb hFb (by have := en.out.2.2.2.1; omega) (by have := en.out.2.2.2.2.1; omega) (by omega)
  rw [emB.out, en.out.2.2.2.1, en.out.2.2.2.2.1, ← eM.out] at TB
  have HB5 := hide (blk_on HB2.out H5.out)
  obtain ⟨x0, x1, x2, x3, x4⟩ := zd5 HB5.out rfl rfl rfl rfl rfl
  go_upto_region 9 with (go_at_call 88; refine TB.mono ?_; rintro e w6 ⟨rfl, D6⟩; have H6 := hide D6; clear D6)
  clear TB x0 x1 x2 x3 x4
  have F8 := blk_on (blk_on HC.out.1 H5.out) H6.out
  have F4 := blk_on (blk_on (blk_on HD.out.2.2.2.1 HC.out.2.2.2) H5.out) H6.out
  obtain ⟨o0, o1, o2, o3, o4⟩ := zd5 F8 rfl rfl rfl rfl rfl
  obtain ⟨q0, q1, q2, q3, q4⟩ := zd5 F4 rfl rfl rfl rfl rfl
  have g0 : w6.frozen? ⟨w.heap.size + 1 + 1, 0, none⟩ = false := fz_of F4
  have g1 : w6.frozen? ⟨w.heap.size + 1 + 1, 1, none⟩ = false := fz_of F4
  have g2 : w6.frozen? ⟨w.heap.size + 1 + 1, 2, none⟩ = false := fz_of F4
  have g3 : w6.frozen? ⟨w.heap.size + 1 + 1, 3, none⟩ = false := fz_of F4
  have g4 : w6.frozen? ⟨w.heap.size + 1 + 1, 4, none⟩ = false := fz_of F4
  have O6 := hide (And.intro (set5 w6 (w.heap.size + 1 + 1) _ _ _ _ _ (.int .i64 n') (.int .i64 (m : Int)) (.slice a1 n1 c1) (.slice b2 l2 d2) (.slice z5 EE.length d5) 25 F4) (only5 w6 (w.heap.size + 1 + 1) (.int .i64 n') (.int .i64 (m : Int)) (.slice a1 n1 c1) (.slice b2 l2 d2) (.slice z5 EE.length d5)))
  have HO := hide (row_only (own_below (own_below HC.out.2.1 H5.out) H6.out) O6.out.2 (fun k hk e => by subst e; exact row_tag (own_below (own_below HC.out.2.1 H5.out) H6.out) F4 (by decide) hk))
  clear F8 F4
  go_wp2_with fail
  refine bodyPost_ret (results_c1 (p := 4) (q := 5) (ty := 25) rfl _ _ (w.heap.size + 1 + 1) 25 _ (0, 0) _ _ rfl rfl O6.out.1 Tryz.underlying25 rfl (by kernel_rfl)) rfl ?_
  have s1 := HD.out.2.2.2.2
  have s2 := DZ5.out.size
  have s3 := H6.out.size
  have d6 := DZ5.out.trans (H6.out.mono DZ5.out.size)
  exact ⟨z5, d5, by rw [HP0.out]; rfl, hide (by rw [HP0.out]; exact ⟨owns_down HO.out (by omega), d6.trans (O6.out.2.toBelow (by omega) (fun k hk => by omega))⟩)⟩
end Go.Proofs.YtchoopnjckcohaaGreatDoor
