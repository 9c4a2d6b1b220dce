import Derived.Test.YtchoopnjckcohaaGreatDoorQaq
import Derived.Test.YtchoopnjckcohaaGreatDoorQar
namespace Go.Proofs.YtchoopnjckcohaaGreatDoor
open Go.RowKit Go.Maps Go.Shelf
attribute [local go_sem] Oper.semAt_some

/-! ### behind, where neither takes the empty word -/
/-- What all worlds keep: all that was there; once the operation has come up, what lies below B. -/
def JB (B : Nat) (w : World) : Bool → World → Prop := fun b W => Below (if b then B else w.heap.size) w W
theorem JB_first {B : Nat} {w W : World} (d : Below w.heap.size w W) : JB B w false W := d
theorem JB_low {B : Nat} {w W : World} {b : Bool} (h : B ≤ w.heap.size) (d : JB B w b W) : Below B w W := by
  cases b with
  | false => exact Below.mono (show Below w.heap.size w W from d) h
  | true => exact d
theorem JB_on {B : Nat} {w W W' : World} {b : Bool} (h : B ≤ w.heap.size) (d : JB B w b W) (d1 : Below W.heap.size W W') : JB B w b W' := by
  cases b with
  | false => exact Below.trans (show Below w.heap.size w W from d) (d1.mono (Below.size d))
  | true => exact Below.trans (show Below B w W from d) (d1.mono (Nat.le_trans h (Below.size d)))
theorem JB_put {B : Nat} {w W W' : World} {R : Nat → Prop} (h : B ≤ w.heap.size) (d : JB B w false W) (o : Only W W' R) (hR : ∀ k, R k → B ≤ k) : JB B w true W' :=
  (Below.mono (show Below w.heap.size w W from d) h).trans (o.toBelow (Nat.le_trans h (Below.size d)) hR)
/-- A row of edges. -/
def appM (B : Nat) (X : List EdT) : MkP := fun x _ _ W => ∃ z5 d5, x = .slice z5 X.length d5 ∧ W.ownsRow B 61 3 (.slice z5 X.length d5) X.length (X.flatMap encE)
theorem appM_mono {B : Nat} {X : List EdT} : MonoP (appM B X) := fun _ _ _ _ _ _ d ⟨z5, d5, e, h⟩ => ⟨z5, d5, e, own_below h d⟩
theorem appM_of {B lo hi : Nat} {x : Value} {X Y : List EdT} {z5 : Option Addr} {d5 : Nat} {W : World} (h : X = Y) (e : x = .slice z5 X.length d5) (o : W.ownsRow B 61 3 (.slice z5 X.length d5) X.length (X.flatMap encE)) : appM B Y x lo hi W := by
  subst h
  exact ⟨z5, d5, e, o⟩
/-- A box. -/
def boxM (B : Nat) : MkP := fun x lo hi W => x = .pointer (some ⟨lo, 0, none⟩) ∧ B ≤ lo ∧ lo < hi ∧ W.heap[lo]? = some (.cells #[.int .i64 0, .int .i64 0, .slice none 0 0, .slice none 0 0, .slice none 0 0] 25 (0, 0))
theorem boxM_mono {B : Nat} : MonoP (boxM B) := fun _ _ _ _ _ hs d ⟨e, l, l2, z⟩ => ⟨e, l, l2, (d.block _ (by omega)).trans z⟩
theorem boxM_keep {B lo hi : Nat} {x : Value} {W W' : World} {R : Nat → Prop} (hh : hi ≤ W.heap.size) (h : boxM B x lo hi W) (o : Only W W' R) (hR : ∀ k, R k → k < B) : boxM B x lo hi W' :=
  ⟨h.1, h.2.1, h.2.2.1, (o.block lo (by have := h.2.2.1; omega) (fun q => by have := hR _ q; have := h.2.1; omega)).trans h.2.2.2⟩
theorem behM {W0 w1 W : World} {p n : Nat} {v u0 u1 u2 u3 u4 : Value} {xs : List Value} (z : W.heap[p]? = some (.cells #[.int .i64 0, .int .i64 0, .slice none 0 0, .slice none 0 0, .slice none 0 0] 25 (0, 0))) (ow : W.ownsRow W0.heap.size 61 3 v n xs) (dd : Below W0.heap.size w1 W) (d1 : Below W0.heap.size W0 w1) (hp : W0.heap.size ≤ p) :
    ((((((W.setCell ⟨p, 0, none⟩ (u0)).setCell ⟨p, 1, none⟩ (u1)).setCell ⟨p, 2, none⟩ (u2)).setCell ⟨p, 3, none⟩ (u3)).setCell ⟨p, 4, none⟩ (u4))).heap[p]? = some (.cells #[u0, u1, u2, u3, u4] 25 (0, 0)) ∧ ((((((W.setCell ⟨p, 0, none⟩ (u0)).setCell ⟨p, 1, none⟩ (u1)).setCell ⟨p, 2, none⟩ (u2)).setCell ⟨p, 3, none⟩ (u3)).setCell ⟨p, 4, none⟩ (u4))).ownsRow W0.heap.size 61 3 v n xs ∧ W0.heap.size ≤ p ∧ Below W0.heap.size W0 ((((((W.setCell ⟨p, 0, none⟩ (u0)).setCell ⟨p, 1, none⟩ (u1)).setCell ⟨p, 2, none⟩ (u2)).setCell ⟨p, 3, none⟩ (u3)).setCell ⟨p, 4, none⟩ (u4))) := by
  have o := only5 W p u0 u1 u2 u3 u4
  exact ⟨set5 W p _ _ _ _ _ _ _ _ _ _ 25 z, row_only ow o (fun k hk e => by subst e; exact row_tag ow z (by decide) hk), hp, (d1.trans dd).trans (o.toBelow (d1.trans dd).size (fun k hk => by rw [hk]; exact hp))⟩
set_option maxRecDepth 100000 in
set_option maxHeartbeats 4000000 in
theorem behind_no (w : World) (N m n1 n2 n3 l1 l2 l3 : Nat) (n' m' : Int) (a1 a2 a3 b1 b2 b3 : Option Addr) (c1 c2 c3 d1 d2 d3 : Nat) (Sa Fa Sb Fb : List Int) (Ea Eb : List EdT) (en : Hid (Sa.length = n1 ∧ Fa.length = n2 ∧ Ea.length = n3 ∧ Sb.length = l1 ∧ Fb.length = l2 ∧ Eb.length = l3)) (hA : Hid (RdA w a1 a2 a3 Sa Fa Ea)) (hB : Hid (RdA w b1 b2 b3 Sb Fb Eb)) (zB : b1 = none → d1 = 0) (hN : N ≤ 4096) (hm : m ≤ 128) (h1 : n1 ≤ 2000000) (h2 : n2 ≤ 2000000) (h3 : n3 ≤ 2000000) (h4 : l1 ≤ 2000000) (h5 : l2 ≤ 2000000) (h6 : l3 ≤ 2000000) (hS : Hid (SsE Ea)) (hF : Hid (∀ e ∈ Ea, (0 ≤ e.1 ∧ e.1 < (N : Int)) ∧ (0 ≤ e.2.1 ∧ e.2.1 < (m : Int)) ∧ (0 ≤ e.2.2 ∧ e.2.2 < (N : Int)))) (hG : Hid (∀ x ∈ Fa, ∃ q : Nat, q < N ∧ x = (q : Int))) (zB3 : b3 = none → d3 = 0) (hle : (brL Ea Fa Sb m N).length ≤ 65536) (hsm : (brL Ea Fa Sb m N).length + l3 ≤ 65536) (hSa : Hid (∀ x ∈ Sa, ∃ q : Nat, q < N ∧ x = (q : Int))) (M : Nat) (eM : Hid (n' = (M : Int))) (hM : M ≤ 8192) (hSb : Hid (∀ x ∈ Sb, ∃ q : Nat, q < M ∧ x = (q : Int))) (hFb : Hid (∀ x ∈ Fb, ∃ q : Nat, q < M ∧ x = (q : Int))) (emA : Hid (emptB Sa Fa = false)) (emB : Hid (emptB Sb Fb = false)) :
    Calls Tryz.prog 56 #[.agg #[.int .i64 (N : Int), .int .i64 (m : Int), .slice a1 n1 c1, .slice a2 n2 c2, .slice a3 n3 c3], .agg #[.int .i64 n', .int .i64 m', .slice b1 l1 d1, .slice b2 l2 d2, .slice b3 l3 d3]] w fun e w' => ∃ z5 d5, e = .returned (.tuple #[.agg #[.int .i64 n', .int .i64 (m : Int), .slice a1 n1 c1, .slice b2 l2 d2, .slice z5 (brL Ea Fa Sb m N ++ Eb).length d5], .int .i64 0]) ∧ Hid (w'.ownsRow w.heap.size 61 3 (.slice z5 (brL Ea Fa Sb m N ++ Eb).length d5) (brL Ea Fa Sb m N ++ Eb).length ((brL Ea Fa Sb m N ++ Eb).flatMap encE) ∧ Below w.heap.size w w') := by
  obtain ⟨W0, hW0⟩ : ∃ W0, ((w.alloc (.cells #[.int .i64 (N : Int), .int .i64 (m : Int), .slice a1 n1 c1, .slice a2 n2 c2, .slice a3 n3 c3] 25)).alloc (.cells #[.int .i64 n', .int .i64 m', .slice b1 l1 d1, .slice b2 l2 d2, .slice b3 l3 d3] 25)).alloc (.cells #[.int .i64 0, .int .i64 0, .slice none 0 0, .slice none 0 0, .slice none 0 0] 25) = W0 := ⟨_, rfl⟩
  have HD := hide (box3b w #[.int .i64 (N : Int), .int .i64 (m : Int), .slice a1 n1 c1, .slice a2 n2 c2, .slice a3 n3 c3] #[.int .i64 n', .int .i64 m', .slice b1 l1 d1, .slice b2 l2 d2, .slice b3 l3 d3] #[.int .i64 0, .int .i64 0, .slice none 0 0, .slice none 0 0, .slice none 0 0] 25)
  rw [hW0] at HD
  have TB := bridged_any W0 N m n1 n2 n3 a1 a2 a3 b1 c1 c2 c3 l1 d1 Ea Fa Sb en.out.2.1 en.out.2.2.1 en.out.2.2.2.1 zB hN hm (hide (hA.out.e.on HD.out.1)) (hide (hA.out.f.on HD.out.1)) (hide (hB.out.s.on HD.out.1)) h2 h3 h4 hS hF hG
  have y0 : W0.cell? ⟨w.heap.size, 0, none⟩ = some (.int .i64 (N : Int)) := cell_of HD.out.2.1 rfl
  have y1 : W0.cell? ⟨w.heap.size, 1, none⟩ = some (.int .i64 (m : Int)) := cell_of HD.out.2.1 rfl
  have y2 : W0.cell? ⟨w.heap.size, 2, none⟩ = some (.slice a1 n1 c1) := cell_of HD.out.2.1 rfl
  have y3 : W0.cell? ⟨w.heap.size, 3, none⟩ = some (.slice a2 n2 c2) := cell_of HD.out.2.1 rfl
  have y4 : W0.cell? ⟨w.heap.size, 4, none⟩ = some (.slice a3 n3 c3) := cell_of HD.out.2.1 rfl
  have x0 : W0.cell? ⟨w.heap.size + 1, 0, none⟩ = some (.int .i64 n') := cell_of HD.out.2.2.1 rfl
  have x1 : W0.cell? ⟨w.heap.size + 1, 1, none⟩ = some (.int .i64 m') := cell_of HD.out.2.2.1 rfl
  have x2 : W0.cell? ⟨w.heap.size + 1, 2, none⟩ = some (.slice b1 l1 d1) := cell_of HD.out.2.2.1 rfl
  have x3 : W0.cell? ⟨w.heap.size + 1, 3, none⟩ = some (.slice b2 l2 d2) := cell_of HD.out.2.2.1 rfl
  have x4 : W0.cell? ⟨w.heap.size + 1, 4, none⟩ = some (.slice b3 l3 d3) := cell_of HD.out.2.2.1 rfl
  unfold BrP at TB
  simp only [if_neg (show ¬ 65536 < (brL Ea Fa Sb m N).length by omega)] at TB
  obtain ⟨E, hE⟩ : ∃ E, brL Ea Fa Sb m N = E := ⟨_, rfl⟩
  rw [hE] at TB hle hsm ⊢
  clear hE
  have jb : ¬ (65536 : Int) < (E.length : Int) + (l3 : Int) := by omega
  have jw : IntKind.i64.wrap ((E.length : Int) + (l3 : Int)) = (E.length : Int) + (l3 : Int) := by rw [IntKind.wrap_i64]; omega
  go_enter Tryz.func56, Tryz.ntmps56
  go_upto_region 4 with (go_at_call 82; refine TB.mono ?_; rintro e w1 ⟨v1, rfl, O1, D1⟩; obtain ⟨ae, cf, rfl⟩ := own_slice O1; have HF1 := hide (And.intro O1 D1); have x4 : w1.cell? ⟨w.heap.size + 1, 4, none⟩ = some (.slice b3 l3 d3) := cell_of (blk_on HD.out.2.2.1 D1) rfl; clear D1 O1)
  clear TB y0 y1 y2 y3 y4 x0 x1 x2 x3 x4
  have HA1 := hide (blk_on HD.out.2.1 HF1.out.2)
  have HB1 := hide (blk_on HD.out.2.2.1 HF1.out.2)
  have OW : Hid (∀ W, Below w1.heap.size w1 W → W.ownsRow W0.heap.size 61 3 (.slice ae E.length cf) E.length (E.flatMap encE)) := hide (fun W d => own_below HF1.out.1 d)
  have RX : Hid (∀ W, Below w1.heap.size w1 W → RdE W b3 Eb) := hide (fun W d => (hB.out.e.on (HD.out.1.trans (HF1.out.2.mono HD.out.1.size))).on d)
  have hs0 : W0.heap.size ≤ w1.heap.size := HF1.out.2.size
  have hbk : Hid (∀ k, (Value.slice ae E.length cf).ownBlock = some k → W0.heap.size ≤ k) := hide (fun k hk => (HF1.out.1.lt k hk).1)
  have hbl : Hid (∀ k, (Value.slice ae E.length cf).ownBlock = some k → k < w1.heap.size) := hide (fun k hk => (HF1.out.1.lt k hk).2)
  have hkA : w.heap.size < W0.heap.size := by have := HD.out.2.2.2.2; omega
  have hkB : w.heap.size + 1 < W0.heap.size := by have := HD.out.2.2.2.2; omega
  have hlen : E.length + Eb.length ≤ 4194304 := by have := en.out.2.2.2.2.2; omega
  obtain ⟨EE, hEE⟩ : ∃ EE, E ++ Eb = EE := ⟨_, rfl⟩
  have HE := hide hEE
  have HP0 := hide hEE
  clear hEE
  go_cut [8] from 8 to 40 (fun v8 W => ∃ p8 z5 d5, v8 = .pointer (some ⟨p8, 0, none⟩) ∧ Hid (W.heap[p8]? = some (.cells #[.int .i64 n', .int .i64 (m : Int), .slice a1 n1 c1, .slice b2 l2 d2, .slice z5 EE.length d5] 25 (0, 0)) ∧ W.ownsRow W0.heap.size 61 3 (.slice z5 EE.length d5) EE.length (EE.flatMap encE) ∧ W0.heap.size ≤ p8 ∧ Below W0.heap.size W0 W))
  case first =>
    have hmo : MonIL 0 [vI 0 (.pointer (some ⟨w.heap.size + 1, 0, none⟩)), vI 1 (.int .i64 n'), vI 2 (.pointer (some ⟨w.heap.size, 1, none⟩)), vI 3 (.int .i64 (m : Int)), vI 4 (.pointer (some ⟨w.heap.size, 2, none⟩)), vI 5 (.slice a1 n1 c1), vI 6 (.pointer (some ⟨w.heap.size + 1, 3, none⟩)), vI 7 (.slice b2 l2 d2), vI 8 (.slice ae E.length cf), vI 9 (.pointer (some ⟨w.heap.size + 1, 4, none⟩)), vI 10 (.slice b3 l3 d3), pI 11 (appM W0.heap.size EE), ⟨[11], [], fun y _ _ _ => y 12 = .agg #[.int .i64 n', .int .i64 (m : Int), .slice a1 n1 c1, .slice b2 l2 d2, y 11]⟩, pI 13 (boxM w1.heap.size)] := ⟨vI_mono _ _, vI_mono _ _, vI_mono _ _, vI_mono _ _, vI_mono _ _, vI_mono _ _, vI_mono _ _, vI_mono _ _, vI_mono _ _, vI_mono _ _, vI_mono _ _, pI_mono appM_mono, (fun _ _ _ _ _ _ _ _ hy h => by dsimp only at hy h ⊢; rw [hy 12 (Or.inl rfl), hy 11 (Or.inr (by simp))]; exact h), pI_mono boxM_mono, trivial⟩
    refine wp_region_sj (JB W0.heap.size w1) 11 [vI 0 (.pointer (some ⟨w.heap.size + 1, 0, none⟩)), vI 1 (.int .i64 n'), vI 2 (.pointer (some ⟨w.heap.size, 1, none⟩)), vI 3 (.int .i64 (m : Int)), vI 4 (.pointer (some ⟨w.heap.size, 2, none⟩)), vI 5 (.slice a1 n1 c1), vI 6 (.pointer (some ⟨w.heap.size + 1, 3, none⟩)), vI 7 (.slice b2 l2 d2), vI 8 (.slice ae E.length cf), vI 9 (.pointer (some ⟨w.heap.size + 1, 4, none⟩)), vI 10 (.slice b3 l3 d3), pI 11 (appM W0.heap.size EE), ⟨[11], [], fun y _ _ _ => y 12 = .agg #[.int .i64 n', .int .i64 (m : Int), .slice a1 n1 c1, .slice b2 l2 d2, y 11]⟩, pI 13 (boxM w1.heap.size)] (by kernel_rfl) (JB_first ⟨rfl, rfl, rfl, Nat.le_refl _, fun _ _ => rfl⟩) (by kernel_rfl) (by kernel_rfl) (by kernel_rfl) (by kernel_rfl) hmo ⟨?o0, ?o1, ?o2, ?o3, ?o4, ?o5, ?o6, ?o7, ?o8, ?o9, ?o10, ?o11, ?o12, ?o13, trivial⟩ ?fin
    case o0 =>
      intro At yy W bb hy hb hbb d hz hd K hK
      have s3 : At.tmps.getD 3 undef = .pointer (some ⟨w.heap.size + 1, 0, none⟩) := hb 3 rfl
      have s3' := s3
      rw [Array.getD_eq_getD_getElem?] at s3'
      clear hd hy hb
      go_simp
      exact hK.out _ W (stpj_of hmo d (Below.refl _ _)) (if_pos rfl)
    case o1 =>
      intro At yy W bb hy hb hbb d hz hd K hK
      have e0 : yy 0 = .pointer (some ⟨w.heap.size + 1, 0, none⟩) := by obtain ⟨_, _, _, _, e⟩ := hd ⟨0, .data⟩ (by simp) rfl rfl; exact e
      have s28 := (hy 0 _ 28 rfl rfl).trans e0
      have s28' := s28
      rw [Array.getD_eq_getD_getElem?] at s28'
      clear hd hy hb
      have dl := JB_low hs0 d
      have bxA := (dl.block _ hkA).trans HA1.out
      have bxB := (dl.block _ hkB).trans HB1.out
      have y1 : W.cell? ⟨w.heap.size, 1, none⟩ = some (.int .i64 (m : Int)) := cell_of bxA rfl
      have y2 : W.cell? ⟨w.heap.size, 2, none⟩ = some (.slice a1 n1 c1) := cell_of bxA rfl
      have x0 : W.cell? ⟨w.heap.size + 1, 0, none⟩ = some (.int .i64 n') := cell_of bxB rfl
      have x3 : W.cell? ⟨w.heap.size + 1, 3, none⟩ = some (.slice b2 l2 d2) := cell_of bxB rfl
      have x4 : W.cell? ⟨w.heap.size + 1, 4, none⟩ = some (.slice b3 l3 d3) := cell_of bxB rfl
      clear dl bxA bxB
      go_simp
      exact hK.out _ W (stpj_of hmo d (Below.refl _ _)) (if_pos rfl)
    case o2 =>
      intro At yy W bb hy hb hbb d hz hd K hK
      have s2 : At.tmps.getD 2 undef = .pointer (some ⟨w.heap.size, 0, none⟩) := hb 2 rfl
      have s2' := s2
      rw [Array.getD_eq_getD_getElem?] at s2'
      clear hd hy hb
      go_simp
      exact hK.out _ W (stpj_of hmo d (Below.refl _ _)) (if_pos rfl)
    case o3 =>
      intro At yy W bb hy hb hbb d hz hd K hK
      have e2 : yy 2 = .pointer (some ⟨w.heap.size, 1, none⟩) := by obtain ⟨_, _, _, _, e⟩ := hd ⟨2, .data⟩ (by simp) rfl rfl; exact e
      have s30 := (hy 2 _ 30 rfl rfl).trans e2
      have s30' := s30
      rw [Array.getD_eq_getD_getElem?] at s30'
      clear hd hy hb
      have dl := JB_low hs0 d
      have bxA := (dl.block _ hkA).trans HA1.out
      have bxB := (dl.block _ hkB).trans HB1.out
      have y1 : W.cell? ⟨w.heap.size, 1, none⟩ = some (.int .i64 (m : Int)) := cell_of bxA rfl
      have y2 : W.cell? ⟨w.heap.size, 2, none⟩ = some (.slice a1 n1 c1) := cell_of bxA rfl
      have x0 : W.cell? ⟨w.heap.size + 1, 0, none⟩ = some (.int .i64 n') := cell_of bxB rfl
      have x3 : W.cell? ⟨w.heap.size + 1, 3, none⟩ = some (.slice b2 l2 d2) := cell_of bxB rfl
      have x4 : W.cell? ⟨w.heap.size + 1, 4, none⟩ = some (.slice b3 l3 d3) := cell_of bxB rfl
      clear dl bxA bxB
      go_simp
      exact hK.out _ W (stpj_of hmo d (Below.refl _ _)) (if_pos rfl)
    case o4 =>
      intro At yy W bb hy hb hbb d hz hd K hK
      have s2 : At.tmps.getD 2 undef = .pointer (some ⟨w.heap.size, 0, none⟩) := hb 2 rfl
      have s2' := s2
      rw [Array.getD_eq_getD_getElem?] at s2'
      clear hd hy hb
      go_simp
      exact hK.out _ W (stpj_of hmo d (Below.refl _ _)) (if_pos rfl)
    case o5 =>
      intro At yy W bb hy hb hbb d hz hd K hK
      have e4 : yy 4 = .pointer (some ⟨w.heap.size, 2, none⟩) := by obtain ⟨_, _, _, _, e⟩ := hd ⟨4, .data⟩ (by simp) rfl rfl; exact e
      have s32 := (hy 4 _ 32 rfl rfl).trans e4
      have s32' := s32
      rw [Array.getD_eq_getD_getElem?] at s32'
      clear hd hy hb
      have dl := JB_low hs0 d
      have bxA := (dl.block _ hkA).trans HA1.out
      have bxB := (dl.block _ hkB).trans HB1.out
      have y1 : W.cell? ⟨w.heap.size, 1, none⟩ = some (.int .i64 (m : Int)) := cell_of bxA rfl
      have y2 : W.cell? ⟨w.heap.size, 2, none⟩ = some (.slice a1 n1 c1) := cell_of bxA rfl
      have x0 : W.cell? ⟨w.heap.size + 1, 0, none⟩ = some (.int .i64 n') := cell_of bxB rfl
      have x3 : W.cell? ⟨w.heap.size + 1, 3, none⟩ = some (.slice b2 l2 d2) := cell_of bxB rfl
      have x4 : W.cell? ⟨w.heap.size + 1, 4, none⟩ = some (.slice b3 l3 d3) := cell_of bxB rfl
      clear dl bxA bxB
      go_simp
      exact hK.out _ W (stpj_of hmo d (Below.refl _ _)) (if_pos rfl)
    case o6 =>
      intro At yy W bb hy hb hbb d hz hd K hK
      have s3 : At.tmps.getD 3 undef = .pointer (some ⟨w.heap.size + 1, 0, none⟩) := hb 3 rfl
      have s3' := s3
      rw [Array.getD_eq_getD_getElem?] at s3'
      clear hd hy hb
      go_simp
      exact hK.out _ W (stpj_of hmo d (Below.refl _ _)) (if_pos rfl)
    case o7 =>
      intro At yy W bb hy hb hbb d hz hd K hK
      have e6 : yy 6 = .pointer (some ⟨w.heap.size + 1, 3, none⟩) := by obtain ⟨_, _, _, _, e⟩ := hd ⟨6, .data⟩ (by simp) rfl rfl; exact e
      have s34 := (hy 6 _ 34 rfl rfl).trans e6
      have s34' := s34
      rw [Array.getD_eq_getD_getElem?] at s34'
      clear hd hy hb
      have dl := JB_low hs0 d
      have bxA := (dl.block _ hkA).trans HA1.out
      have bxB := (dl.block _ hkB).trans HB1.out
      have y1 : W.cell? ⟨w.heap.size, 1, none⟩ = some (.int .i64 (m : Int)) := cell_of bxA rfl
      have y2 : W.cell? ⟨w.heap.size, 2, none⟩ = some (.slice a1 n1 c1) := cell_of bxA rfl
      have x0 : W.cell? ⟨w.heap.size + 1, 0, none⟩ = some (.int .i64 n') := cell_of bxB rfl
      have x3 : W.cell? ⟨w.heap.size + 1, 3, none⟩ = some (.slice b2 l2 d2) := cell_of bxB rfl
      have x4 : W.cell? ⟨w.heap.size + 1, 4, none⟩ = some (.slice b3 l3 d3) := cell_of bxB rfl
      clear dl bxA bxB
      go_simp
      exact hK.out _ W (stpj_of hmo d (Below.refl _ _)) (if_pos rfl)
    case o8 =>
      intro At yy W bb hy hb hbb d hz hd K hK
      have s6 : At.tmps.getD 6 undef = .slice ae E.length cf := hb 6 rfl
      have s6' := s6
      rw [Array.getD_eq_getD_getElem?] at s6'
      clear hd hy hb
      go_simp
      exact hK.out _ W (stpj_of hmo d (Below.refl _ _)) (if_pos rfl)
    case o9 =>
      intro At yy W bb hy hb hbb d hz hd K hK
      have s3 : At.tmps.getD 3 undef = .pointer (some ⟨w.heap.size + 1, 0, none⟩) := hb 3 rfl
      have s3' := s3
      rw [Array.getD_eq_getD_getElem?] at s3'
      clear hd hy hb
      go_simp
      exact hK.out _ W (stpj_of hmo d (Below.refl _ _)) (if_pos rfl)
    case o10 =>
      intro At yy W bb hy hb hbb d hz hd K hK
      have e9 : yy 9 = .pointer (some ⟨w.heap.size + 1, 4, none⟩) := by obtain ⟨_, _, _, _, e⟩ := hd ⟨9, .data⟩ (by simp) rfl rfl; exact e
      have s37 := (hy 9 _ 37 rfl rfl).trans e9
      have s37' := s37
      rw [Array.getD_eq_getD_getElem?] at s37'
      clear hd hy hb
      have dl := JB_low hs0 d
      have bxA := (dl.block _ hkA).trans HA1.out
      have bxB := (dl.block _ hkB).trans HB1.out
      have y1 : W.cell? ⟨w.heap.size, 1, none⟩ = some (.int .i64 (m : Int)) := cell_of bxA rfl
      have y2 : W.cell? ⟨w.heap.size, 2, none⟩ = some (.slice a1 n1 c1) := cell_of bxA rfl
      have x0 : W.cell? ⟨w.heap.size + 1, 0, none⟩ = some (.int .i64 n') := cell_of bxB rfl
      have x3 : W.cell? ⟨w.heap.size + 1, 3, none⟩ = some (.slice b2 l2 d2) := cell_of bxB rfl
      have x4 : W.cell? ⟨w.heap.size + 1, 4, none⟩ = some (.slice b3 l3 d3) := cell_of bxB rfl
      clear dl bxA bxB
      go_simp
      exact hK.out _ W (stpj_of hmo d (Below.refl _ _)) (if_pos rfl)
    case o11 =>
      intro At yy W bb hy hb hbb d hz hd K hK
      have e8 : yy 8 = .slice ae E.length cf := by obtain ⟨_, _, _, _, e⟩ := hd ⟨8, .data⟩ (by simp) rfl rfl; exact e
      have e10 : yy 10 = .slice b3 l3 d3 := by obtain ⟨_, _, _, _, e⟩ := hd ⟨10, .data⟩ (by simp) rfl rfl; exact e
      have s36 := (hy 8 _ 36 rfl rfl).trans e8
      have s36' := s36
      rw [Array.getD_eq_getD_getElem?] at s36'
      have s38 := (hy 10 _ 38 rfl rfl).trans e10
      have s38' := s38
      rw [Array.getD_eq_getD_getElem?] at s38'
      clear hd hb
      have hb0 := hbb rfl
      subst hb0
      refine step_appM rfl _ _ rfl W0.heap.size (.slice ae E.length cf) E s36 (OW.out _ d) b3 l3 d3 Eb en.out.2.2.2.2.2 zB3 s38 (RX.out _ d) hlen (Nat.le_trans hs0 hz) ?_
      intro z5 d5 w4 HO4 HG4
      exact hK.out _ w4 (stpj_keeps [] rfl (JB_put hs0 d HG4.out hbk.out) HG4.out.size ⟨.inr (fun _ _ _ h => h), .inr (fun _ _ _ h => h), .inr (fun _ _ _ h => h), .inr (fun _ _ _ h => h), .inr (fun _ _ _ h => h), .inr (fun _ _ _ h => h), .inr (fun _ _ _ h => h), .inr (fun _ _ _ h => h), .inr (fun _ _ _ h => h), .inr (fun _ _ _ h => h), .inr (fun _ _ _ h => h), .inl (by simp), .inr (fun _ _ _ h => h), .inr (fun _ _ hh h => boxM_keep hh h HG4.out hbl.out), trivial⟩) (appM_of (lo := 0) (hi := 0) HE.out (if_pos rfl) HO4.out)
    case o12 =>
      intro At yy W bb hy hb hbb d hz hd K hK
      have e1 : yy 1 = .int .i64 n' := by obtain ⟨_, _, _, _, e⟩ := hd ⟨1, .data⟩ (by simp) rfl rfl; exact e
      have e3 : yy 3 = .int .i64 (m : Int) := by obtain ⟨_, _, _, _, e⟩ := hd ⟨3, .data⟩ (by simp) rfl rfl; exact e
      have e5 : yy 5 = .slice a1 n1 c1 := by obtain ⟨_, _, _, _, e⟩ := hd ⟨5, .data⟩ (by simp) rfl rfl; exact e
      have e7 : yy 7 = .slice b2 l2 d2 := by obtain ⟨_, _, _, _, e⟩ := hd ⟨7, .data⟩ (by simp) rfl rfl; exact e
      have f11 := hd ⟨11, .data⟩ (by simp) rfl rfl
      obtain ⟨_, _, _, _, z5, d5, e11, _⟩ := f11
      have s29 := (hy 1 _ 29 rfl rfl).trans e1
      have s29' := s29
      rw [Array.getD_eq_getD_getElem?] at s29'
      have s31 := (hy 3 _ 31 rfl rfl).trans e3
      have s31' := s31
      rw [Array.getD_eq_getD_getElem?] at s31'
      have s33 := (hy 5 _ 33 rfl rfl).trans e5
      have s33' := s33
      rw [Array.getD_eq_getD_getElem?] at s33'
      have s35 := (hy 7 _ 35 rfl rfl).trans e7
      have s35' := s35
      rw [Array.getD_eq_getD_getElem?] at s35'
      have s39 := (hy 11 _ 39 rfl rfl).trans e11
      have s39' := s39
      rw [Array.getD_eq_getD_getElem?] at s39'
      clear hd hy hb
      go_simp
      exact hK.out _ W (stpj_of hmo d (Below.refl _ _)) (by show updV yy 12 _ 12 = .agg #[_, _, _, _, updV yy 12 _ 11]; rw [show ∀ x, updV yy 12 x 12 = x from fun x => if_pos rfl, show ∀ x, updV yy 12 x 11 = yy 11 from fun x => if_neg (by decide), e11])
    case o13 =>
      intro At yy W bb hy hb hbb d hz hd K hK
      clear hd hy hb
      go_simp
      exact hK.out _ _ (stpj_of hmo (JB_on hs0 d ((Below.refl _ _).alloc (Nat.le_refl _) _)) ((Below.refl _ _).alloc (Nat.le_refl _) _)) ⟨if_pos rfl, hz, by simp, World.alloc_heap_new _ _⟩
    case fin =>
      intro yy lo hi W hM
      show wpList _ _ _ [_] _ _
      have e0 : yy 0 = .pointer (some ⟨w.heap.size + 1, 0, none⟩) := hM.fact 0 (by simp) rfl (notR_all 0 rfl)
      have e1 : yy 1 = .int .i64 n' := hM.fact 1 (by simp) rfl (notR_all 1 rfl)
      have e2 : yy 2 = .pointer (some ⟨w.heap.size, 1, none⟩) := hM.fact 2 (by simp) rfl (notR_all 2 rfl)
      have e3 : yy 3 = .int .i64 (m : Int) := hM.fact 3 (by simp) rfl (notR_all 3 rfl)
      have e4 : yy 4 = .pointer (some ⟨w.heap.size, 2, none⟩) := hM.fact 4 (by simp) rfl (notR_all 4 rfl)
      have e5 : yy 5 = .slice a1 n1 c1 := hM.fact 5 (by simp) rfl (notR_all 5 rfl)
      have e6 : yy 6 = .pointer (some ⟨w.heap.size + 1, 3, none⟩) := hM.fact 6 (by simp) rfl (notR_all 6 rfl)
      have e7 : yy 7 = .slice b2 l2 d2 := hM.fact 7 (by simp) rfl (notR_all 7 rfl)
      have e8 : yy 8 = .slice ae E.length cf := hM.fact 8 (by simp) rfl (notR_all 8 rfl)
      have e9 : yy 9 = .pointer (some ⟨w.heap.size + 1, 4, none⟩) := hM.fact 9 (by simp) rfl (notR_all 9 rfl)
      have e10 : yy 10 = .slice b3 l3 d3 := hM.fact 10 (by simp) rfl (notR_all 10 rfl)
      obtain ⟨z5, d5, e11, O11⟩ := hM.fact 11 (by simp) rfl (notR_all 11 rfl)
      have e12 := hM.fact 12 (by simp) rfl (notR_all 12 rfl)
      replace e12 : yy 12 = .agg #[.int .i64 n', .int .i64 (m : Int), .slice a1 n1 c1, .slice b2 l2 d2, yy 11] := e12
      rw [e11] at e12
      obtain ⟨e13, l13, _, z13⟩ := hM.fact 13 (by simp) rfl (notR_all 13 rfl)
      have dd : Below W0.heap.size w1 W := hM.d
      simp only [fills, Act.put, List.take, List.length, List.setIfInBounds_toArray, List.set_cons_zero, List.set_cons_succ, e0, e1, e2, e3, e4, e5, e6, e7, e8, e9, e10, e11, e12, e13]
      generalize lo 13 = p8 at z13 l13 ⊢
      clear hM hmo e0 e1 e2 e3 e4 e5 e6 e7 e8 e9 e10 e11 e12 e13
      have HF := hide (behM (u0 := .int .i64 n') (u1 := .int .i64 (m : Int)) (u2 := .slice a1 n1 c1) (u3 := .slice b2 l2 d2) (u4 := .slice z5 EE.length d5) z13 O11 dd HF1.out.2 (Nat.le_trans hs0 l13))
      have o0 : W.cell? ⟨p8, 0, none⟩ = some (.int .i64 0) := cell_of z13 rfl
      have o1 : W.cell? ⟨p8, 1, none⟩ = some (.int .i64 0) := cell_of z13 rfl
      have o2 : W.cell? ⟨p8, 2, none⟩ = some (.slice none 0 0) := cell_of z13 rfl
      have o3 : W.cell? ⟨p8, 3, none⟩ = some (.slice none 0 0) := cell_of z13 rfl
      have o4 : W.cell? ⟨p8, 4, none⟩ = some (.slice none 0 0) := cell_of z13 rfl
      have g0 : W.frozen? ⟨p8, 0, none⟩ = false := fz_of z13
      have g1 : W.frozen? ⟨p8, 1, none⟩ = false := fz_of z13
      have g2 : W.frozen? ⟨p8, 2, none⟩ = false := fz_of z13
      have g3 : W.frozen? ⟨p8, 3, none⟩ = false := fz_of z13
      have g4 : W.frozen? ⟨p8, 4, none⟩ = false := fz_of z13
      clear z13 O11 dd
      go_wp2_with fail
      go_meet
      exact ⟨p8, z5, d5, rfl, HF⟩
  case rest =>
    obtain ⟨p8, z5, d5, rfl, HC⟩ := hcut
    rename World => wz
    clear OW RX hbk hbl HA1 HB1 hlen
    have DZ : Hid (Below w.heap.size w wz) := hide (HD.out.1.trans (HC.out.2.2.2.mono HD.out.1.size))
    have HA2 := hide (blk_on HD.out.2.1 HC.out.2.2.2)
    have HB2 := hide (blk_on HD.out.2.2.1 HC.out.2.2.2)
    have TA := takesEmpty_any wz N (m : Int) a1 a2 a3 c1 c2 c3 n3 Sa Fa (hide (hA.out.s.on DZ.out)) (hide (hA.out.f.on DZ.out)) hSa hG (by have := en.out.1; omega) (by have := en.out.2.1; omega) (by omega)
    rw [emA.out, en.out.1, en.out.2.1] at TA
    have y0 : wz.cell? ⟨w.heap.size, 0, none⟩ = some (.int .i64 (N : Int)) := cell_of HA2.out rfl
    have y1 : wz.cell? ⟨w.heap.size, 1, none⟩ = some (.int .i64 (m : Int)) := cell_of HA2.out rfl
    have y2 : wz.cell? ⟨w.heap.size, 2, none⟩ = some (.slice a1 n1 c1) := cell_of HA2.out rfl
    have y3 : wz.cell? ⟨w.heap.size, 3, none⟩ = some (.slice a2 n2 c2) := cell_of HA2.out rfl
    have y4 : wz.cell? ⟨w.heap.size, 4, none⟩ = some (.slice a3 n3 c3) := cell_of HA2.out rfl
    go_upto_region 7 with (go_at_call 88; refine TA.mono ?_; rintro e w5 ⟨rfl, D5⟩; have H5 := hide D5; clear D5)
    clear TA y0 y1 y2 y3 y4
    have DZ5 : Hid (Below w.heap.size w w5) := hide (DZ.out.trans (H5.out.mono DZ.out.size))
    have TB := takesEmpty_any w5 M m' b1 b2 b3 d1 d2 d3 l3 Sb Fb (hide (hB.out.s.on DZ5.out)) (hide (hB.out.f.on DZ5.out)) hSb hFb (by have := en.out.2.2.2.1; omega) (by have := en.out.2.2.2.2.1; omega) (by omega)
    rw [emB.out, en.out.2.2.2.1, en.out.2.2.2.2.1, ← eM.out] at TB
    have HB5 := hide (blk_on HB2.out H5.out)
    have x0 : w5.cell? ⟨w.heap.size + 1, 0, none⟩ = some (.int .i64 n') := cell_of HB5.out rfl
    have x1 : w5.cell? ⟨w.heap.size + 1, 1, none⟩ = some (.int .i64 m') := cell_of HB5.out rfl
    have x2 : w5.cell? ⟨w.heap.size + 1, 2, none⟩ = some (.slice b1 l1 d1) := cell_of HB5.out rfl
    have x3 : w5.cell? ⟨w.heap.size + 1, 3, none⟩ = some (.slice b2 l2 d2) := cell_of HB5.out rfl
    have x4 : w5.cell? ⟨w.heap.size + 1, 4, none⟩ = some (.slice b3 l3 d3) := cell_of HB5.out rfl
    go_upto_region 9 with (go_at_call 88; refine TB.mono ?_; rintro e w6 ⟨rfl, D6⟩; have H6 := hide D6; clear D6)
    clear TB x0 x1 x2 x3 x4
    have F8 := blk_on (blk_on HC.out.1 H5.out) H6.out
    have F4 := blk_on (blk_on (blk_on HD.out.2.2.2.1 HC.out.2.2.2) H5.out) H6.out
    have o0 : w6.cell? ⟨p8, 0, none⟩ = some (.int .i64 n') := cell_of F8 rfl
    have o1 : w6.cell? ⟨p8, 1, none⟩ = some (.int .i64 (m : Int)) := cell_of F8 rfl
    have o2 : w6.cell? ⟨p8, 2, none⟩ = some (.slice a1 n1 c1) := cell_of F8 rfl
    have o3 : w6.cell? ⟨p8, 3, none⟩ = some (.slice b2 l2 d2) := cell_of F8 rfl
    have o4 : w6.cell? ⟨p8, 4, none⟩ = some (.slice z5 EE.length d5) := cell_of F8 rfl
    have q0 : w6.cell? ⟨w.heap.size + 1 + 1, 0, none⟩ = some (.int .i64 0) := cell_of F4 rfl
    have g0 : w6.frozen? ⟨w.heap.size + 1 + 1, 0, none⟩ = false := fz_of F4
    have q1 : w6.cell? ⟨w.heap.size + 1 + 1, 1, none⟩ = some (.int .i64 0) := cell_of F4 rfl
    have g1 : w6.frozen? ⟨w.heap.size + 1 + 1, 1, none⟩ = false := fz_of F4
    have q2 : w6.cell? ⟨w.heap.size + 1 + 1, 2, none⟩ = some (.slice none 0 0) := cell_of F4 rfl
    have g2 : w6.frozen? ⟨w.heap.size + 1 + 1, 2, none⟩ = false := fz_of F4
    have q3 : w6.cell? ⟨w.heap.size + 1 + 1, 3, none⟩ = some (.slice none 0 0) := cell_of F4 rfl
    have g3 : w6.frozen? ⟨w.heap.size + 1 + 1, 3, none⟩ = false := fz_of F4
    have q4 : w6.cell? ⟨w.heap.size + 1 + 1, 4, none⟩ = some (.slice none 0 0) := cell_of F4 rfl
    have g4 : w6.frozen? ⟨w.heap.size + 1 + 1, 4, none⟩ = false := fz_of F4
    have O6 := hide (And.intro (set5 w6 (w.heap.size + 1 + 1) _ _ _ _ _ (.int .i64 n') (.int .i64 (m : Int)) (.slice a1 n1 c1) (.slice b2 l2 d2) (.slice z5 EE.length d5) 25 F4) (only5 w6 (w.heap.size + 1 + 1) (.int .i64 n') (.int .i64 (m : Int)) (.slice a1 n1 c1) (.slice b2 l2 d2) (.slice z5 EE.length d5)))
    have HO := hide (row_only (own_below (own_below HC.out.2.1 H5.out) H6.out) O6.out.2 (fun k hk e => by subst e; exact row_tag (own_below (own_below HC.out.2.1 H5.out) H6.out) F4 (by decide) hk))
    clear F8 F4
    go_wp2_with fail
    refine bodyPost_ret (results_c1 (p := 4) (q := 5) (ty := 25) rfl _ _ (w.heap.size + 1 + 1) 25 _ (0, 0) _ _ rfl rfl O6.out.1 Tryz.underlying25 rfl (by kernel_rfl)) rfl ?_
    have s1 := HD.out.2.2.2.2
    have s2 := DZ5.out.size
    have s3 := H6.out.size
    have d6 := DZ5.out.trans (H6.out.mono DZ5.out.size)
    exact ⟨z5, d5, by rw [HP0.out]; rfl, hide (by rw [HP0.out]; exact ⟨owns_down HO.out (by omega), d6.trans (O6.out.2.toBelow (by omega) (fun k hk => by omega))⟩)⟩
end Go.Proofs.YtchoopnjckcohaaGreatDoor
