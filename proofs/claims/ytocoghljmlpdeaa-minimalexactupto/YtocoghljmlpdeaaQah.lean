import Derived.Test.YtocoghljmlpdeaaRows
import Derived.Test.YtocoghljmlpdeaaQag
import Derived.ProofKit
import Derived.OpenShut
import Derived.ShutString
import Derived.Deep.DeepHandedRow
import Derived.Lib.LaidTab
import Derived.Lib.SmallJoins
import Derived.ChangeOld
import Derived.Lay
import Derived.Deep.Slices
namespace Go.Proofs.Ytocoghljmlpdeaa
open Go.RowKit Go.Maps
attribute [local go_sem] Oper.semAt_some
/-! ### Two tables side by side -/
set_option maxRecDepth 100000 in
set_option maxHeartbeats 4000000 in
theorem side_any (w : World) (N1 N2 M : Nat) (st1 M2 st2 : Int) (a1 a2 b1 b2 : Option Addr) (l1 c1 m1 k1 l2 c2 m2 k2 : Nat) (F1 X1 F2 X2 : List Int) (hF1 : RdN w a1 F1) (hX1 : RdN w b1 X1) (hF2 : RdN w a2 F2) (hX2 : RdN w b2 X2)
    (e1 : F1.length = l1) (e2 : X1.length = m1) (e3 : F2.length = l2) (e4 : X2.length = m2) (h1 : ∀ x ∈ F1, 0 ≤ x ∧ x < (N1 : Int)) (h2 : ∀ x ∈ F2, 0 ≤ x ∧ x < (N2 : Int)) (h3 : ∀ x ∈ X2, 0 ≤ x ∧ x < (N2 : Int)) (bl1 : l1 ≤ 4194304) (bl2 : l2 ≤ 4194304) (bm1 : m1 ≤ 2097152) (bm2 : m2 ≤ 2097152) (bN1 : N1 ≤ 4096) (bN2 : N2 ≤ 4096) :
    Calls Try.prog 44 #[.agg #[.int .i64 (N1 : Int), .int .i64 (M : Int), .int .i64 st1, .slice a1 l1 c1, .slice b1 m1 k1], .agg #[.int .i64 (N2 : Int), .int .i64 M2, .int .i64 st2, .slice a2 l2 c2, .slice b2 m2 k2]] w fun e w' => ∃ gf bn n k, e = .returned (.agg #[.int .i64 (M : Int), .slice (some ⟨gf, 0, none⟩) (N1 + N2) (N1 + N2), .slice bn n k]) ∧ Hid (w.heap.size ≤ gf ∧ Mrw w' gf 4 (N1 + N2) (fun q => .bool (decide ((q : Int) ∈ F1) || decide ((q : Int) - N1 ∈ F2))) (N1 + N2) ∧ OwI w' w.heap.size (.slice bn n k) (X1 ++ X2.map (fun x => (N1 : Int) + x))) ∧ Below w.heap.size w w' := by
  obtain ⟨i9, hi9, hz90, hz91, hz92⟩ := info_parts info4
  obtain ⟨N, hNN⟩ : ∃ N, N1 + N2 = N := ⟨_, rfl⟩
  have hw : IntKind.i64.wrap ((N1 : Int) + (N2 : Int)) = (N : Int) := by rw [IntKind.wrap_i64]; omega
  rw [hNN]
  obtain ⟨C, hC⟩ : ∃ C, C = madeCells (Value.bool false).cells (N * 1) := ⟨_, rfl⟩
  have hmk : ∀ W : World, (Instr.makeSlice 58 (.int .i64 (N : Int)) (.int .i64 (N : Int))).run Try.prog W = .ok (.slice (some ⟨W.heap.size, 0, none⟩) N N) (W.alloc (.cells C 4)) := fun W => by
    have h := run_make (P := Try.prog) W 58 4 i9 (.bool false) Try.underlying58 hi9 hz90 .i64 .i64 (N : Int) (N : Int) (by omega) (by omega) (by rw [hz92]; omega) (by omega)
    rw [hz91, Int.toNat_natCast, ← hC] at h
    exact h
  have HM := hide hC
  clear hC hi9 hz90 hz91 hz92
  obtain ⟨W0, hW0⟩ : ∃ W0, ((w.alloc (.cells #[.int .i64 (N1 : Int), .int .i64 (M : Int), .int .i64 st1, .slice a1 l1 c1, .slice b1 m1 k1] 24)).alloc (.cells #[.int .i64 (N2 : Int), .int .i64 M2, .int .i64 st2, .slice a2 l2 c2, .slice b2 m2 k2] 24)).alloc (.cells #[.int .i64 0, .slice none 0 0, .slice none 0 0] 60) = W0 := ⟨_, rfl⟩
  have HD := hide (three_al w #[.int .i64 (N1 : Int), .int .i64 (M : Int), .int .i64 st1, .slice a1 l1 c1, .slice b1 m1 k1] #[.int .i64 (N2 : Int), .int .i64 M2, .int .i64 st2, .slice a2 l2 c2, .slice b2 m2 k2] #[.int .i64 0, .slice none 0 0, .slice none 0 0] 24 24 60)
  rw [hW0] at HD
  have z0 : Hid (W0.heap.size = w.heap.size + 3) := hide (by rw [← hW0]; simp)
  have p0 : W0.cell? ⟨w.heap.size, 0, none⟩ = some (.int .i64 (N1 : Int)) := cell_of HD.out.2.1 rfl
  have p1 : W0.cell? ⟨w.heap.size, 1, none⟩ = some (.int .i64 (M : Int)) := cell_of HD.out.2.1 rfl
  have p2 : W0.cell? ⟨w.heap.size + 1, 0, none⟩ = some (.int .i64 (N2 : Int)) := cell_of HD.out.2.2.1 rfl
  have HR := hide (And.intro hF1 (And.intro hX1 (And.intro hF2 (And.intro hX2 (And.intro e1 (And.intro e2 (And.intro e3 (And.intro e4 (And.intro h1 (And.intro h2 h3))))))))))
  have HN := hide hNN
  clear hF1 hX1 hF2 hX2 e1 e2 e3 e4 h1 h2 h3 hNN
  go_enter Try.func44, Try.ntmps44
  go_upto_region 1 with fail
  go_cut [5] from 5 to 16 (fun p5 W => ∃ b g, p5 = .pointer (some ⟨b, 0, none⟩) ∧ Hid (W.heap[b]? = some (.cells #[.int .i64 (M : Int), .slice (some ⟨g, 0, none⟩) N N, .slice none 0 0] 60 (0, 0)) ∧ W.heap[g]? = some (.cells C 4 (0, 0)) ∧ b ≠ g ∧ W0.heap.size ≤ b ∧ W0.heap.size ≤ g ∧ Below W0.heap.size W0 W))
  case first =>
    go_region_held3 (fun W2 => W2.cell? ⟨w.heap.size, 0, none⟩ = some (.int .i64 (N1 : Int)) ∧ W2.cell? ⟨w.heap.size, 1, none⟩ = some (.int .i64 (M : Int)) ∧ W2.cell? ⟨w.heap.size + 1, 0, none⟩ = some (.int .i64 (N2 : Int)))
      (first | go_keep | assumption)
      (fail)
    · go_wp2_with fail
      go_meet
      refine ⟨W0.heap.size + 1, W0.heap.size, rfl, hide ?_⟩
      have q := two_al W0 C #[.int .i64 (M : Int), .slice (some ⟨W0.heap.size, 0, none⟩) N N, .slice none 0 0] 4 60
      exact ⟨q.2.2.1, q.2.1, by omega, by omega, by omega, q.1.drew⟩
    · go_wp2_with fail
      go_meet
      refine ⟨W0.heap.size, W0.heap.size + 1, rfl, hide ?_⟩
      have q := two_al W0 #[.int .i64 (M : Int), .slice (some ⟨W0.heap.size + 1, 0, none⟩) N N, .slice none 0 0] C 60 4
      exact ⟨q.2.1, q.2.2.1, by omega, by omega, by omega, q.1.drew⟩
  case rest =>
    obtain ⟨b, g, rfl, HX⟩ := hcut
    rename World => wx
    clear hmk p0 p1 p2 hw
    have hN8 : N ≤ 8192 := by have := HN.out; omega
    have m0 : Mrw wx g 4 N (fun _ => .bool false) N := mrw_make rfl (by rw [← HM.out]; exact HX.out.2.1)
    have Dx := HD.out.1.trans (HX.out.2.2.2.2.2.mono HD.out.1.size)
    have TE := end_any wx M N g l1 c1 0 0 0 none a1 (fun _ => false) F1 m0 (HR.out.1.on Dx) HR.out.2.2.2.2.1 (fun x hx => by have := HR.out.2.2.2.2.2.2.2.2.1 x hx; have := HN.out; omega) bl1 (by omega)
    have x0 : wx.cell? ⟨b, 0, none⟩ = some (.int .i64 (M : Int)) := cell_of HX.out.1 rfl
    have x1 : wx.cell? ⟨b, 1, none⟩ = some (.slice (some ⟨g, 0, none⟩) N N) := cell_of HX.out.1 rfl
    have x2 : wx.cell? ⟨b, 2, none⟩ = some (.slice none 0 0) := cell_of HX.out.1 rfl
    have B1 := blk_on HD.out.2.1 HX.out.2.2.2.2.2
    have x3 : wx.cell? ⟨w.heap.size, 3, none⟩ = some (.slice a1 l1 c1) := cell_of B1 rfl
    clear B1
    have HDx := hide Dx
    clear Dx m0
    go_upto_region 3 with (go_at_call 57; refine TE.mono ?_; rintro e w2 ⟨rfl, HE⟩)
    have H2 : Hid (w2.heap[b]? = some (.cells #[.int .i64 (M : Int), .slice (some ⟨g, 0, none⟩) N N, .slice none 0 0] 60 (0, 0)) ∧ w2.heap[w.heap.size]? = some (.cells #[.int .i64 (N1 : Int), .int .i64 (M : Int), .int .i64 st1, .slice a1 l1 c1, .slice b1 m1 k1] 24 (0, 0)) ∧ w2.heap[w.heap.size + 1]? = some (.cells #[.int .i64 (N2 : Int), .int .i64 M2, .int .i64 st2, .slice a2 l2 c2, .slice b2 m2 k2] 24 (0, 0)) ∧ w2.heap[w.heap.size + 2]? = some (.cells #[.int .i64 0, .slice none 0 0, .slice none 0 0] 60 (0, 0)) ∧ Below w.heap.size w w2) := hide (by
      have z := z0.out
      have k1 := HX.out.2.2.2.1
      have k2 := HX.out.2.2.2.2.1
      have a0 := HX.out.2.2.1
      have q1 := blk_on HD.out.2.1 HX.out.2.2.2.2.2
      have q2 := blk_on HD.out.2.2.1 HX.out.2.2.2.2.2
      have q3 := blk_on HD.out.2.2.2 HX.out.2.2.2.2.2
      exact ⟨(HE.out.2.block b (Array.getElem?_eq_some_iff.1 HX.out.1).1 a0).trans HX.out.1, (HE.out.2.block _ (Array.getElem?_eq_some_iff.1 q1).1 (by omega)).trans q1, (HE.out.2.block _ (Array.getElem?_eq_some_iff.1 q2).1 (by omega)).trans q2, (HE.out.2.block _ (Array.getElem?_eq_some_iff.1 q3).1 (by omega)).trans q3, HDx.out.trans (HE.out.2.toBelow HDx.out.size (fun k hk => by omega))⟩)
    clear x0 x1 x2 x3 TE
    have TE := end_any w2 M N g l2 c2 0 0 N1 none a2 _ F2 HE.out.1 (HR.out.2.2.1.on H2.out.2.2.2.2) HR.out.2.2.2.2.2.2.1 (fun x hx => by have := HR.out.2.2.2.2.2.2.2.2.2.1 x hx; have := HN.out; omega) bl2 (by omega)
    have x0 : w2.cell? ⟨b, 0, none⟩ = some (.int .i64 (M : Int)) := cell_of H2.out.1 rfl
    have x1 : w2.cell? ⟨b, 1, none⟩ = some (.slice (some ⟨g, 0, none⟩) N N) := cell_of H2.out.1 rfl
    have x2 : w2.cell? ⟨b, 2, none⟩ = some (.slice none 0 0) := cell_of H2.out.1 rfl
    have x3 : w2.cell? ⟨w.heap.size + 1, 3, none⟩ = some (.slice a2 l2 c2) := cell_of H2.out.2.2.1 rfl
    have x4 : w2.cell? ⟨w.heap.size, 0, none⟩ = some (.int .i64 (N1 : Int)) := cell_of H2.out.2.1 rfl
    go_upto_region 4 with (go_at_call 57; refine TE.mono ?_; rintro e w3 ⟨rfl, HE3⟩)
    have H3 : Hid (w3.heap[b]? = some (.cells #[.int .i64 (M : Int), .slice (some ⟨g, 0, none⟩) N N, .slice none 0 0] 60 (0, 0)) ∧ w3.heap[w.heap.size]? = some (.cells #[.int .i64 (N1 : Int), .int .i64 (M : Int), .int .i64 st1, .slice a1 l1 c1, .slice b1 m1 k1] 24 (0, 0)) ∧ w3.heap[w.heap.size + 1]? = some (.cells #[.int .i64 (N2 : Int), .int .i64 M2, .int .i64 st2, .slice a2 l2 c2, .slice b2 m2 k2] 24 (0, 0)) ∧ w3.heap[w.heap.size + 2]? = some (.cells #[.int .i64 0, .slice none 0 0, .slice none 0 0] 60 (0, 0)) ∧ Below w.heap.size w w3 ∧ w.heap.size + 3 ≤ g ∧ w.heap.size + 3 ≤ b ∧ b ≠ g) := hide (by
      have z := z0.out
      have k1 := HX.out.2.2.2.1
      have k2 := HX.out.2.2.2.2.1
      have a0 := HX.out.2.2.1
      exact ⟨(HE3.out.2.block b (Array.getElem?_eq_some_iff.1 H2.out.1).1 a0).trans H2.out.1, (HE3.out.2.block _ (Array.getElem?_eq_some_iff.1 H2.out.2.1).1 (by omega)).trans H2.out.2.1, (HE3.out.2.block _ (Array.getElem?_eq_some_iff.1 H2.out.2.2.1).1 (by omega)).trans H2.out.2.2.1, (HE3.out.2.block _ (Array.getElem?_eq_some_iff.1 H2.out.2.2.2.1).1 (by omega)).trans H2.out.2.2.2.1, H2.out.2.2.2.2.trans (HE3.out.2.toBelow H2.out.2.2.2.2.size (fun k hk => by omega)), by omega, by omega, a0⟩)
    have HM3 : Hid (Mrw w3 g 4 N (fun q => .bool (decide ((q : Int) ∈ F1) || decide ((q : Int) - N1 ∈ F2))) N) := hide (HE3.out.1.congr (fun c _ => by simp))
    clear x0 x1 x2 x3 x4 TE HE HE3 H2 HX HDx
    have x2 : w3.cell? ⟨b, 2, none⟩ = some (.slice none 0 0) := cell_of H3.out.1 rfl
    have x4 : w3.cell? ⟨w.heap.size, 4, none⟩ = some (.slice b1 m1 k1) := cell_of H3.out.2.1 rfl
    have ST : Hid (∀ (W : World) (bn : Option Addr) (n k : Nat) (Y : List Int) (u : Value), W.heap[b]? = some (.cells #[.int .i64 (M : Int), .slice (some ⟨g, 0, none⟩) N N, u] 60 (0, 0)) → OwI W w.heap.size (.slice bn n k) Y → Mrw W g 4 N (fun q => .bool (decide ((q : Int) ∈ F1) || decide ((q : Int) - N1 ∈ F2))) N → W.heap[w.heap.size]? = some (.cells #[.int .i64 (N1 : Int), .int .i64 (M : Int), .int .i64 st1, .slice a1 l1 c1, .slice b1 m1 k1] 24 (0, 0)) → W.heap[w.heap.size + 1]? = some (.cells #[.int .i64 (N2 : Int), .int .i64 M2, .int .i64 st2, .slice a2 l2 c2, .slice b2 m2 k2] 24 (0, 0)) → W.heap[w.heap.size + 2]? = some (.cells #[.int .i64 0, .slice none 0 0, .slice none 0 0] 60 (0, 0)) → Below w.heap.size w W → ((W.setCell ⟨b, 2, none⟩ (.slice bn n k)).heap[b]? = some (.cells #[.int .i64 (M : Int), .slice (some ⟨g, 0, none⟩) N N, .slice bn n k] 60 (0, 0)) ∧ OwI (W.setCell ⟨b, 2, none⟩ (.slice bn n k)) w.heap.size (.slice bn n k) (Y) ∧ Mrw (W.setCell ⟨b, 2, none⟩ (.slice bn n k)) g 4 N (fun q => .bool (decide ((q : Int) ∈ F1) || decide ((q : Int) - N1 ∈ F2))) N ∧ (W.setCell ⟨b, 2, none⟩ (.slice bn n k)).heap[w.heap.size]? = some (.cells #[.int .i64 (N1 : Int), .int .i64 (M : Int), .int .i64 st1, .slice a1 l1 c1, .slice b1 m1 k1] 24 (0, 0)) ∧ (W.setCell ⟨b, 2, none⟩ (.slice bn n k)).heap[w.heap.size + 1]? = some (.cells #[.int .i64 (N2 : Int), .int .i64 M2, .int .i64 st2, .slice a2 l2 c2, .slice b2 m2 k2] 24 (0, 0)) ∧ (W.setCell ⟨b, 2, none⟩ (.slice bn n k)).heap[w.heap.size + 2]? = some (.cells #[.int .i64 0, .slice none 0 0, .slice none 0 0] 60 (0, 0)) ∧ Below w.heap.size w (W.setCell ⟨b, 2, none⟩ (.slice bn n k)))) := hide (fun W bn n k Y u q1 q2 q3 q4 q5 q6 q7 => by
      have O := only_set W b 2 (.slice bn n k)
      obtain ⟨-, -, -, -, -, k1, k2, k3⟩ := H3.out
      exact ⟨heap_setCell_same _ _ 2 _ 60 _ q1, own_keep q2 q1 (by decide) O, q3.only O (fun e => k3 e.symm), (O.block _ (Array.getElem?_eq_some_iff.1 q4).1 (by omega)).trans q4, (O.block _ (Array.getElem?_eq_some_iff.1 q5).1 (by omega)).trans q5, (O.block _ (Array.getElem?_eq_some_iff.1 q6).1 (by omega)).trans q6, q7.trans (O.toBelow q7.size (fun k hk => by omega))⟩)
    go_cut [32] from 27 to 32 (fun _ W => ∃ bn n k, Hid (W.heap[b]? = some (.cells #[.int .i64 (M : Int), .slice (some ⟨g, 0, none⟩) N N, .slice bn n k] 60 (0, 0)) ∧ OwI W w.heap.size (.slice bn n k) (X1) ∧ Mrw W g 4 N (fun q => .bool (decide ((q : Int) ∈ F1) || decide ((q : Int) - N1 ∈ F2))) N ∧ W.heap[w.heap.size]? = some (.cells #[.int .i64 (N1 : Int), .int .i64 (M : Int), .int .i64 st1, .slice a1 l1 c1, .slice b1 m1 k1] 24 (0, 0)) ∧ W.heap[w.heap.size + 1]? = some (.cells #[.int .i64 (N2 : Int), .int .i64 M2, .int .i64 st2, .slice a2 l2 c2, .slice b2 m2 k2] 24 (0, 0)) ∧ W.heap[w.heap.size + 2]? = some (.cells #[.int .i64 0, .slice none 0 0, .slice none 0 0] 60 (0, 0)) ∧ Below w.heap.size w W))
    case first =>
      obtain ⟨i3, hi3, hz30, hz31, hz32⟩ := info_parts info3
      have hr := hide (HR.out.2.1.on H3.out.2.2.2.2.1)
      have hm1 := hide HR.out.2.2.2.2.2.1
      cases b1 with
      | some ad =>
        go_wp2_with (at_builtin; refine wpList_append_own_at _ rfl _ _ _ rfl w.heap.size 3 i3 _ 1 8 Try.underlying22 hi3 hz30 hz31 hz32 rfl (by omega) (.slice none 0 0) 0 [] rfl (World.ownsRow_nil _ _ _ _) ad m1 k1 (X1.map (Value.int .i64)) rfl (by rw [List.length_map, hm1.out, Nat.mul_one]) (rd_news hr.out) (ints_one X1) (by unfold maxLen; omega) (by omega) (by have := H3.out.2.2.2.2.1.size; omega) ?_; intro v1 w4 ho hgr hnil hloc; have D1 : Below w3.heap.size w3 w4 := (Below.refl _ _).grown hgr (Nat.le_refl _) (fun k hk => by cases hk); have ho1 : Hid (OwI w4 w.heap.size v1 X1) := hide (by unfold OwI; rw [hm1.out]; simpa using ho); obtain ⟨bn, kn, hv1⟩ := own_slice ho1.out; subst hv1; have Q4 := hide (ST.out w4 bn X1.length kn X1 _ (blk_on H3.out.1 D1) ho1.out (HM3.out.below D1 HM3.out.lt) (blk_on H3.out.2.1 D1) (blk_on H3.out.2.2.1 D1) (blk_on H3.out.2.2.2.1 D1) (H3.out.2.2.2.2.1.trans (D1.mono H3.out.2.2.2.2.1.size))); have y2 : w4.cell? ⟨b, 2, none⟩ = some (.slice none 0 0) := cell_of (blk_on H3.out.1 D1) rfl; have f2 : w4.frozen? ⟨b, 2, none⟩ = false := fz_of (blk_on H3.out.1 D1); clear ho hgr hnil hloc D1)
        go_meet
        exact ⟨bn, X1.length, kn, Q4⟩
      | none =>
        have hL : X1 = [] := by
          cases X1 with
          | nil => rfl
          | cons x l => obtain ⟨g, o, e, _⟩ := hr.out 0 (by simp); cases e
        subst hL
        obtain rfl : m1 = 0 := hm1.out.symm
        have f2 : w3.frozen? ⟨b, 2, none⟩ = false := fz_of H3.out.1
        have Q4 := hide (ST.out w3 none 0 0 [] _ H3.out.1 (owI_nil _ _) HM3.out H3.out.2.1 H3.out.2.2.1 H3.out.2.2.2.1 H3.out.2.2.2.2.1)
        go_wp2_with fail
        go_meet
        exact ⟨none, 0, 0, Q4⟩
    case rest =>
      obtain ⟨bn, n, k, HC⟩ := hcut
      rename World => w4
      clear x2 x4
      have x5 : w4.cell? ⟨w.heap.size + 1, 4, none⟩ = some (.slice b2 m2 k2) := cell_of HC.out.2.2.2.2.1 rfl
      go_wp2_with fail
      clear x5
      go_loopw [36] (fun iv wr => ∃ i : Nat, i ≤ m2 ∧ iv = .int .i64 (i : Int) ∧ ∃ bn n k, Hid (wr.heap[b]? = some (.cells #[.int .i64 (M : Int), .slice (some ⟨g, 0, none⟩) N N, .slice bn n k] 60 (0, 0)) ∧ OwI wr w.heap.size (.slice bn n k) (X1 ++ (X2.take i).map (fun x => (N1 : Int) + x)) ∧ Mrw wr g 4 N (fun q => .bool (decide ((q : Int) ∈ F1) || decide ((q : Int) - N1 ∈ F2))) N ∧ wr.heap[w.heap.size]? = some (.cells #[.int .i64 (N1 : Int), .int .i64 (M : Int), .int .i64 st1, .slice a1 l1 c1, .slice b1 m1 k1] 24 (0, 0)) ∧ wr.heap[w.heap.size + 1]? = some (.cells #[.int .i64 (N2 : Int), .int .i64 M2, .int .i64 st2, .slice a2 l2 c2, .slice b2 m2 k2] 24 (0, 0)) ∧ wr.heap[w.heap.size + 2]? = some (.cells #[.int .i64 0, .slice none 0 0, .slice none 0 0] 60 (0, 0)) ∧ Below w.heap.size w wr)) (fun iv _ => m2 - (intOf iv).toNat)
      case atStart => exact ⟨0, Nat.zero_le _, rfl, bn, n, k, by simpa using HC⟩
      case round =>
        clear HC
        obtain ⟨i, hi, rfl, bn, n, k, HY⟩ := hrel
        have hD := HY.out.2.2.2.2.2.2.size
        by_cases hlt : i < m2
        · have l0 : (i : Int) < (m2 : Int) := by omega
          have l1 : (0 : Int) ≤ (i : Int) := by omega
          have hiL : i < X2.length := by rw [HR.out.2.2.2.2.2.2.2.1]; exact hlt
          obtain ⟨g2, o2, eb, c⟩ := (HR.out.2.2.2.1.on HY.out.2.2.2.2.2.2) i hiL
          subst eb
          have hx := HR.out.2.2.2.2.2.2.2.2.2.2 _ (List.getElem_mem hiL)
          have hta : X1 ++ (X2.take (i + 1)).map (fun x => (N1 : Int) + x) = (X1 ++ (X2.take i).map (fun x => (N1 : Int) + x)) ++ [(N1 : Int) + X2[i]] := by rw [List.take_add_one, List.getElem?_eq_getElem hiL, List.map_append, List.append_assoc]; rfl
          have hln : (X1 ++ (X2.take i).map (fun x => (N1 : Int) + x)).length ≤ 4194304 := by
            have := HR.out.2.2.2.2.2.1
            simp
            omega
          obtain ⟨x, ex⟩ : ∃ x, X2[i] = x := ⟨_, rfl⟩
          rw [ex] at c hx hta
          have ww : IntKind.i64.wrap ((N1 : Int) + x) = (N1 : Int) + x := by rw [IntKind.wrap_i64]; omega
          have HT := hide hta
          clear ex hta
          obtain ⟨X, hX⟩ : ∃ X, X1 ++ (X2.take i).map (fun x => (N1 : Int) + x) = X := ⟨_, rfl⟩
          rw [hX] at HY HT hln
          have dA : ∀ o : Obj, Below wr.heap.size wr (wr.alloc o) := fun o => (Below.refl _ _).alloc (Nat.le_refl _) _
          have y2 : wr.cell? ⟨b, 2, none⟩ = some (.slice bn n k) := cell_of HY.out.1 rfl
          have y0 : wr.cell? ⟨w.heap.size, 0, none⟩ = some (.int .i64 (N1 : Int)) := cell_of HY.out.2.2.2.1 rfl
          clear hX
          go_wp2_with (at_builtin; refine wpList_appI rfl (.tmp 41) (.tmp 46) rfl w.heap.size (.slice bn n k) X rfl (own_below HY.out.2.1 (dA _)) wr.heap.size ((N1 : Int) + x) rfl (World.alloc_heap_new _ _) (by omega) (by simp <;> omega) ?_; intro b3 n3 k3 w5 h1 h2 h3 h4; have kp : ∀ {q : Nat} {cs : Array Value} {t : TypeId}, wr.heap[q]? = some (.cells cs t (0, 0)) → t ≠ 3 → w5.heap[q]? = some (.cells cs t (0, 0)) := (fun {q cs t} hq ht => by (have e4 := blk_on hq (dA (.cells #[.int .i64 ((N1 : Int) + x)] 3)); exact (h3.out.block q (Array.getElem?_eq_some_iff.1 e4).1 (fun e => row_tag HY.out.2.1 hq ht e)).trans e4)); have HM5 : Mrw w5 g 4 N (fun q => .bool (decide ((q : Int) ∈ F1) || decide ((q : Int) - N1 ∈ F2))) N := (by (obtain ⟨cur, m1', m2', m3'⟩ := HY.out.2.2.1; exact ⟨cur, kp m1' (by decide), m2', m3'⟩)); have D5 : Below w.heap.size w w5 := (HY.out.2.2.2.2.2.2.trans ((dA (.cells #[.int .i64 ((N1 : Int) + x)] 3)).mono hD)).trans (h3.out.toBelow (by simp <;> omega) (fun q hq => (HY.out.2.1.lt q hq).1)); have Q5 := hide (ST.out w5 b3 n3 k3 _ _ (kp HY.out.1 (by decide)) h1.out HM5 (kp HY.out.2.2.2.1 (by decide)) (kp HY.out.2.2.2.2.1 (by decide)) (kp HY.out.2.2.2.2.2.1 (by decide)) D5); have y2' : w5.cell? ⟨b, 2, none⟩ = some (.slice bn n k) := cell_of (kp HY.out.1 (by decide)) rfl; have f2' : w5.frozen? ⟨b, 2, none⟩ = false := fz_of (kp HY.out.1 (by decide)); clear h1 h2 h3 h4 kp HM5 D5)
          go_roundw
          case rel => exact ⟨i + 1, by omega, by go_num, b3, n3, k3, by rw [HT.out]; exact Q5⟩
          case measure => simp [intOf]; omega
        · have l0 : ¬ (i : Int) < (m2 : Int) := by omega
          obtain rfl : i = m2 := by omega
          have y0 : wr.cell? ⟨b, 0, none⟩ = some (.int .i64 (M : Int)) := cell_of HY.out.1 rfl
          have y1 : wr.cell? ⟨b, 1, none⟩ = some (.slice (some ⟨g, 0, none⟩) N N) := cell_of HY.out.1 rfl
          have y2 : wr.cell? ⟨b, 2, none⟩ = some (.slice bn n k) := cell_of HY.out.1 rfl
          have o0 : wr.cell? ⟨w.heap.size + 2, 0, none⟩ = some (.int .i64 0) := cell_of HY.out.2.2.2.2.2.1 rfl
          have o1 : wr.cell? ⟨w.heap.size + 2, 1, none⟩ = some (.slice none 0 0) := cell_of HY.out.2.2.2.2.2.1 rfl
          have o2 : wr.cell? ⟨w.heap.size + 2, 2, none⟩ = some (.slice none 0 0) := cell_of HY.out.2.2.2.2.2.1 rfl
          have f0 : wr.frozen? ⟨w.heap.size + 2, 0, none⟩ = false := fz_of HY.out.2.2.2.2.2.1
          have f1 : wr.frozen? ⟨w.heap.size + 2, 1, none⟩ = false := fz_of HY.out.2.2.2.2.2.1
          have f2 : wr.frozen? ⟨w.heap.size + 2, 2, none⟩ = false := fz_of HY.out.2.2.2.2.2.1
          have O6 := hide (And.intro (set3 wr (w.heap.size + 2) _ _ _ (.int .i64 (M : Int)) (.slice (some ⟨g, 0, none⟩) N N) (.slice bn n k) 60 HY.out.2.2.2.2.2.1) (only3 wr (w.heap.size + 2) 0 1 2 (.int .i64 (M : Int)) (.slice (some ⟨g, 0, none⟩) N N) (.slice bn n k)))
          go_wp2_with fail
          refine bodyPost_ret (results_cell_row (p := 4) (ty := 60) rfl _ _ (w.heap.size + 2) 60 _ (0, 0) _ rfl O6.out.1 Try.underlying60 rfl (by kernel_rfl)) rfl ?_
          have k1 := H3.out.2.2.2.2.2.1
          have eL := HR.out.2.2.2.2.2.2.2.1
          have hO := HY.out.2.1
          rw [List.take_of_length_le (by omega)] at hO
          exact ⟨g, bn, n, k, rfl, hide ⟨by omega, HY.out.2.2.1.only O6.out.2 (by omega), own_keep hO HY.out.2.2.2.2.2.1 (by decide) O6.out.2⟩, HY.out.2.2.2.2.2.2.trans (O6.out.2.toBelow HY.out.2.2.2.2.2.2.size (fun k hk => by omega))⟩
/-! ### Equal -/
/-- Two tables side by side. -/
def jnX (N1 : Nat) (X1 X2 : List Int) : List Int := X1 ++ X2.map (fun x => (N1 : Int) + x)
def fnE (N1 : Nat) (F1 F2 : List Int) (q : Nat) : Bool := decide ((q : Int) ∈ F1) || decide ((q : Int) - N1 ∈ F2)
theorem jnX_len {N1 N2 M : Nat} {X1 X2 : List Int} (h1 : X1.length = N1 * M) (h2 : X2.length = N2 * M) : (jnX N1 X1 X2).length = (N1 + N2) * M := by
  unfold jnX
  rw [List.length_append, List.length_map, h1, h2, Nat.add_mul]
theorem jnX_in {N1 N2 : Nat} {X1 X2 : List Int} (h1 : ∀ x ∈ X1, 0 ≤ x ∧ x < (N1 : Int)) (h2 : ∀ x ∈ X2, 0 ≤ x ∧ x < (N2 : Int)) : ∀ x ∈ jnX N1 X1 X2, 0 ≤ x ∧ x < ((N1 + N2 : Nat) : Int) := by
  intro x hx
  rcases List.mem_append.1 hx with h | h
  · have := h1 x h; omega
  · obtain ⟨y, hy, rfl⟩ := List.mem_map.1 h
    have := h2 y hy; omega
theorem dl_left {N1 M : Nat} {X1 X2 : List Int} (h1 : X1.length = N1 * M) {p a : Nat} (hp : p < N1) (ha : a < M) : dl (jnX N1 X1 X2) M p a = dl X1 M p a := by
  have hl := place_lt hp ha
  unfold dl jnX
  rw [List.getD_eq_getElem?_getD, List.getElem?_append_left (by omega), ← List.getD_eq_getElem?_getD]
theorem dl_right {N1 N2 M : Nat} {X1 X2 : List Int} (h1 : X1.length = N1 * M) (h2 : X2.length = N2 * M) (hi : ∀ x ∈ X2, 0 ≤ x ∧ x < (N2 : Int)) {q a : Nat} (hq : q < N2) (ha : a < M) : dl (jnX N1 X1 X2) M (N1 + q) a = N1 + dl X2 M q a := by
  obtain ⟨h, e, _⟩ := dl_spec h2 hi hq ha
  unfold dl jnX
  rw [List.getD_eq_getElem?_getD, List.getElem?_append_right (by rw [h1, Nat.add_mul]; omega), List.getElem?_map]
  have ei : (N1 + q) * M + a - X1.length = q * M + a := by rw [h1, Nat.add_mul]; omega
  rw [ei, List.getElem?_eq_getElem h, Option.map_some, Option.getD_some, e]
  unfold dl
  omega
theorem dls_left {N1 M : Nat} {X1 X2 : List Int} (h1 : X1.length = N1 * M) (hi : ∀ x ∈ X1, 0 ≤ x ∧ x < (N1 : Int)) : ∀ (u : List Nat) (p : Nat), p < N1 → (∀ a ∈ u, a < M) → dls (jnX N1 X1 X2) M p u = dls X1 M p u
  | [], _, _, _ => rfl
  | a :: u, p, hp, h => by
    show dls _ M (dl _ M p a) u = dls _ M (dl _ M p a) u
    rw [dl_left h1 hp (h a (by simp))]
    exact dls_left h1 hi u _ (dl_spec h1 hi hp (h a (by simp))).2.2 (fun b hb => h b (by simp [hb]))
theorem dls_right {N1 N2 M : Nat} {X1 X2 : List Int} (h1 : X1.length = N1 * M) (h2 : X2.length = N2 * M) (hi : ∀ x ∈ X2, 0 ≤ x ∧ x < (N2 : Int)) : ∀ (u : List Nat) (q : Nat), q < N2 → (∀ a ∈ u, a < M) → dls (jnX N1 X1 X2) M (N1 + q) u = N1 + dls X2 M q u
  | [], _, _, _ => rfl
  | a :: u, q, hq, h => by
    show dls _ M (dl _ M (N1 + q) a) u = N1 + dls _ M (dl _ M q a) u
    rw [dl_right h1 h2 hi hq (h a (by simp))]
    exact dls_right h1 h2 hi u _ (dl_spec h2 hi hq (h a (by simp))).2.2 (fun b hb => h b (by simp [hb]))
theorem fnE_left {N1 : Nat} {F1 F2 : List Int} (h2 : ∀ x ∈ F2, 0 ≤ x) {p : Nat} (hp : p < N1) : fnE N1 F1 F2 p = inF F1 p := by
  unfold fnE inF
  have : ¬ ((p : Int) - N1 ∈ F2) := fun h => by have := h2 _ h; omega
  rw [decide_eq_false this, Bool.or_false]
theorem fnE_right {N1 : Nat} {F1 F2 : List Int} (h1 : ∀ x ∈ F1, x < (N1 : Int)) (q : Nat) : fnE N1 F1 F2 (N1 + q) = inF F2 q := by
  unfold fnE inF
  have : ¬ (((N1 + q : Nat) : Int) ∈ F1) := fun h => by have := h1 _ h; omega
  rw [decide_eq_false this, Bool.false_or]
  have : ((N1 + q : Nat) : Int) - N1 = (q : Int) := by omega
  rw [this]
/-- The same words. -/
def Eqv (F1 X1 F2 X2 : List Int) (M s1 s2 : Nat) : Prop := ∀ u : List Nat, (∀ a ∈ u, a < M) → inF F1 (dls X1 M s1 u) = inF F2 (dls X2 M s2 u)
/-- The least word that just one has. -/
def TlE (F1 X1 F2 X2 : List Int) (N M s1 s2 : Nat) (u : List Nat) : Prop := (∀ a ∈ u, a < M) ∧ inF F1 (dls X1 M s1 u) ≠ inF F2 (dls X2 M s2 u) ∧ u.length + 2 ≤ N ∧ ∀ v : List Nat, (∀ a ∈ v, a < M) → inF F1 (dls X1 M s1 v) ≠ inF F2 (dls X2 M s2 v) → rk M u ≤ rk M v
section
variable {N1 N2 M s1 s2 : Nat} {F1 X1 F2 X2 : List Int} (h1 : X1.length = N1 * M) (h2 : X2.length = N2 * M) (i1 : ∀ x ∈ X1, 0 ≤ x ∧ x < (N1 : Int)) (i2 : ∀ x ∈ X2, 0 ≤ x ∧ x < (N2 : Int)) (f1 : ∀ x ∈ F1, 0 ≤ x ∧ x < (N1 : Int)) (f2 : ∀ x ∈ F2, 0 ≤ x ∧ x < (N2 : Int)) (hs1 : s1 < N1) (hs2 : s2 < N2)
include h1 h2 i1 i2 f1 f2 hs1 hs2
theorem side_left {u : List Nat} (hu : ∀ a ∈ u, a < M) : fnE N1 F1 F2 (dls (jnX N1 X1 X2) M s1 u) = inF F1 (dls X1 M s1 u) := by
  have _ := And.intro h2 (And.intro i2 (And.intro f1 hs2))
  rw [dls_left h1 i1 u s1 hs1 hu]
  exact fnE_left (fun x hx => (f2 x hx).1) (dls_lt h1 i1 u s1 hs1 hu)
theorem side_right {u : List Nat} (hu : ∀ a ∈ u, a < M) : fnE N1 F1 F2 (dls (jnX N1 X1 X2) M (N1 + s2) u) = inF F2 (dls X2 M s2 u) := by
  have _ := And.intro i1 (And.intro f2 hs1)
  rw [dls_right h1 h2 i2 u s2 hs2 hu]
  exact fnE_right (fun x hx => (f1 x hx).2) _
theorem side_ali (h : Ali (jnX N1 X1 X2) (fnE N1 F1 F2) M s1 (N1 + s2)) : Eqv F1 X1 F2 X2 M s1 s2 := fun u hu => by
  have := h u hu
  rwa [side_left h1 h2 i1 i2 f1 f2 hs1 hs2 hu, side_right h1 h2 i1 i2 f1 f2 hs1 hs2 hu] at this
theorem side_tl {u : List Nat} (h : TlW (jnX N1 X1 X2) (fnE N1 F1 F2) (N1 + N2) M s1 (N1 + s2) u) : TlE F1 X1 F2 X2 (N1 + N2) M s1 s2 u := by
  obtain ⟨a1, a2, a3, a4⟩ := h
  rw [side_left h1 h2 i1 i2 f1 f2 hs1 hs2 a1, side_right h1 h2 i1 i2 f1 f2 hs1 hs2 a1] at a2
  refine ⟨a1, a2, a3, fun v hv hne => a4 v hv ?_⟩
  rwa [side_left h1 h2 i1 i2 f1 f2 hs1 hs2 hv, side_right h1 h2 i1 i2 f1 f2 hs1 hs2 hv]
end
set_option maxRecDepth 100000 in
set_option maxHeartbeats 2000000 in
theorem equal_bad1 (w : World) (N1 M1 st1 N2 M2 st2 : Int) (aF1 aN1 aF2 aN2 : Option Addr) (lF1 cF1 lN1 cN1 lF2 cF2 lN2 cN2 : Nat) (F1 X1 F2 X2 : List Int) (hF1 : RdN w aF1 F1) (hX1 : RdN w aN1 X1) (_hF2 : RdN w aF2 F2) (_hX2 : RdN w aN2 X2) (e1 : F1.length = lF1) (e2 : X1.length = lN1) (_e3 : F2.length = lF2) (_e4 : X2.length = lN2) (b1 : lF1 ≤ 4194304) (b2 : lN1 ≤ 2097152) (_b3 : lF2 ≤ 4194304) (_b4 : lN2 ≤ 2097152) (hv1 : vd N1 M1 st1 F1 X1 = false) :
    Calls Try.prog 18 #[.agg #[.int .i64 N1, .int .i64 M1, .int .i64 st1, .slice aF1 lF1 cF1, .slice aN1 lN1 cN1], .agg #[.int .i64 N2, .int .i64 M2, .int .i64 st2, .slice aF2 lF2 cF2, .slice aN2 lN2 cN2]] w fun e w' => e = .returned (.tuple #[.bool false, .slice none 0 0, .int .i64 3]) ∧ Below w.heap.size w w' := by
  obtain ⟨W0, hW0⟩ : ∃ W0, (w.alloc (.cells #[.int .i64 N1, .int .i64 M1, .int .i64 st1, .slice aF1 lF1 cF1, .slice aN1 lN1 cN1] 24)).alloc (.cells #[.int .i64 N2, .int .i64 M2, .int .i64 st2, .slice aF2 lF2 cF2, .slice aN2 lN2 cN2] 24) = W0 := ⟨_, rfl⟩
  have H2 := hide (two_al w #[.int .i64 N1, .int .i64 M1, .int .i64 st1, .slice aF1 lF1 cF1, .slice aN1 lN1 cN1] #[.int .i64 N2, .int .i64 M2, .int .i64 st2, .slice aF2 lF2 cF2, .slice aN2 lN2 cN2] 24 24)
  rw [hW0] at H2
  have x0 : W0.cell? ⟨w.heap.size, 0, none⟩ = some (.int .i64 N1) := cell_of H2.out.2.1 rfl
  have x1 : W0.cell? ⟨w.heap.size, 1, none⟩ = some (.int .i64 M1) := cell_of H2.out.2.1 rfl
  have x2 : W0.cell? ⟨w.heap.size, 2, none⟩ = some (.int .i64 st1) := cell_of H2.out.2.1 rfl
  have x3 : W0.cell? ⟨w.heap.size, 3, none⟩ = some (.slice aF1 lF1 cF1) := cell_of H2.out.2.1 rfl
  have x4 : W0.cell? ⟨w.heap.size, 4, none⟩ = some (.slice aN1 lN1 cN1) := cell_of H2.out.2.1 rfl
  have y0 : W0.cell? ⟨w.heap.size + 1, 0, none⟩ = some (.int .i64 N2) := cell_of H2.out.2.2.1 rfl
  have y1 : W0.cell? ⟨w.heap.size + 1, 1, none⟩ = some (.int .i64 M2) := cell_of H2.out.2.2.1 rfl
  have y2 : W0.cell? ⟨w.heap.size + 1, 2, none⟩ = some (.int .i64 st2) := cell_of H2.out.2.2.1 rfl
  have y3 : W0.cell? ⟨w.heap.size + 1, 3, none⟩ = some (.slice aF2 lF2 cF2) := cell_of H2.out.2.2.1 rfl
  have y4 : W0.cell? ⟨w.heap.size + 1, 4, none⟩ = some (.slice aN2 lN2 cN2) := cell_of H2.out.2.2.1 rfl
  have T1 : Hid (Calls Try.prog 31 #[.agg #[.int .i64 N1, .int .i64 M1, .int .i64 st1, .slice aF1 lF1 cF1, .slice aN1 lN1 cN1]] W0 fun e w' => e = .returned (.int .i64 3) ∧ Below W0.heap.size W0 w') := hide (by
    have := valid_any W0 N1 M1 st1 aF1 aN1 lF1 cF1 lN1 cN1 F1 X1 (hF1.on H2.out.1) (hX1.on H2.out.1) e1 e2 b1 (by omega)
    rw [hv1] at this
    exact this)
  clear hF1 hX1 _hF2 _hX2 e1 e2 _e3 _e4 b1 b2 _b3 _b4 hv1
  go_enter Try.func18, Try.ntmps18
  go_wp2_with (go_at_call 31; refine T1.out.mono ?_; rintro e w2 ⟨rfl, hb⟩)
  go_ret3
  exact ⟨rfl, H2.out.1.trans (hb.mono H2.out.1.size)⟩
set_option maxRecDepth 100000 in
set_option maxHeartbeats 2000000 in
theorem equal_bad2 (w : World) (N1 M1 st1 N2 M2 st2 : Int) (aF1 aN1 aF2 aN2 : Option Addr) (lF1 cF1 lN1 cN1 lF2 cF2 lN2 cN2 : Nat) (F1 X1 F2 X2 : List Int) (hF1 : RdN w aF1 F1) (hX1 : RdN w aN1 X1) (hF2 : RdN w aF2 F2) (hX2 : RdN w aN2 X2) (e1 : F1.length = lF1) (e2 : X1.length = lN1) (e3 : F2.length = lF2) (e4 : X2.length = lN2) (b1 : lF1 ≤ 4194304) (b2 : lN1 ≤ 2097152) (b3 : lF2 ≤ 4194304) (b4 : lN2 ≤ 2097152) (hv1 : vd N1 M1 st1 F1 X1 = true) (hv2 : vd N2 M2 st2 F2 X2 = false) :
    Calls Try.prog 18 #[.agg #[.int .i64 N1, .int .i64 M1, .int .i64 st1, .slice aF1 lF1 cF1, .slice aN1 lN1 cN1], .agg #[.int .i64 N2, .int .i64 M2, .int .i64 st2, .slice aF2 lF2 cF2, .slice aN2 lN2 cN2]] w fun e w' => e = .returned (.tuple #[.bool false, .slice none 0 0, .int .i64 3]) ∧ Below w.heap.size w w' := by
  obtain ⟨W0, hW0⟩ : ∃ W0, (w.alloc (.cells #[.int .i64 N1, .int .i64 M1, .int .i64 st1, .slice aF1 lF1 cF1, .slice aN1 lN1 cN1] 24)).alloc (.cells #[.int .i64 N2, .int .i64 M2, .int .i64 st2, .slice aF2 lF2 cF2, .slice aN2 lN2 cN2] 24) = W0 := ⟨_, rfl⟩
  have H2 := hide (two_al w #[.int .i64 N1, .int .i64 M1, .int .i64 st1, .slice aF1 lF1 cF1, .slice aN1 lN1 cN1] #[.int .i64 N2, .int .i64 M2, .int .i64 st2, .slice aF2 lF2 cF2, .slice aN2 lN2 cN2] 24 24)
  rw [hW0] at H2
  have x0 : W0.cell? ⟨w.heap.size, 0, none⟩ = some (.int .i64 N1) := cell_of H2.out.2.1 rfl
  have x1 : W0.cell? ⟨w.heap.size, 1, none⟩ = some (.int .i64 M1) := cell_of H2.out.2.1 rfl
  have x2 : W0.cell? ⟨w.heap.size, 2, none⟩ = some (.int .i64 st1) := cell_of H2.out.2.1 rfl
  have x3 : W0.cell? ⟨w.heap.size, 3, none⟩ = some (.slice aF1 lF1 cF1) := cell_of H2.out.2.1 rfl
  have x4 : W0.cell? ⟨w.heap.size, 4, none⟩ = some (.slice aN1 lN1 cN1) := cell_of H2.out.2.1 rfl
  have y0 : W0.cell? ⟨w.heap.size + 1, 0, none⟩ = some (.int .i64 N2) := cell_of H2.out.2.2.1 rfl
  have y1 : W0.cell? ⟨w.heap.size + 1, 1, none⟩ = some (.int .i64 M2) := cell_of H2.out.2.2.1 rfl
  have y2 : W0.cell? ⟨w.heap.size + 1, 2, none⟩ = some (.int .i64 st2) := cell_of H2.out.2.2.1 rfl
  have y3 : W0.cell? ⟨w.heap.size + 1, 3, none⟩ = some (.slice aF2 lF2 cF2) := cell_of H2.out.2.2.1 rfl
  have y4 : W0.cell? ⟨w.heap.size + 1, 4, none⟩ = some (.slice aN2 lN2 cN2) := cell_of H2.out.2.2.1 rfl
  have T1 : Hid (Calls Try.prog 31 #[.agg #[.int .i64 N1, .int .i64 M1, .int .i64 st1, .slice aF1 lF1 cF1, .slice aN1 lN1 cN1]] W0 fun e w' => e = .returned (.int .i64 0) ∧ Below W0.heap.size W0 w') := hide (by
    have := valid_any W0 N1 M1 st1 aF1 aN1 lF1 cF1 lN1 cN1 F1 X1 (hF1.on H2.out.1) (hX1.on H2.out.1) e1 e2 b1 (by omega)
    rw [hv1] at this
    exact this)
  have T2 : Hid (∀ W, Below W0.heap.size W0 W → Calls Try.prog 31 #[.agg #[.int .i64 N2, .int .i64 M2, .int .i64 st2, .slice aF2 lF2 cF2, .slice aN2 lN2 cN2]] W fun e w' => e = .returned (.int .i64 3) ∧ Below W.heap.size W w') := hide (fun W d => by
    have := valid_any W N2 M2 st2 aF2 aN2 lF2 cF2 lN2 cN2 F2 X2 ((hF2.on H2.out.1).on d) ((hX2.on H2.out.1).on d) e3 e4 b3 (by omega)
    rw [hv2] at this
    exact this)
  clear hF1 hX1 hF2 hX2 e1 e2 e3 e4 b1 b2 b3 b4 hv1 hv2
  go_enter Try.func18, Try.ntmps18
  go_wp2_with fail
  go_at_call 31
  refine T1.out.mono ?_
  rintro e w2 ⟨rfl, d2⟩
  have HD2 := hide d2
  have Z1 := blk_on H2.out.2.1 d2
  have Z2 := blk_on H2.out.2.2.1 d2
  clear x0 y0 x1 y1 x2 y2 x3 y3 x4 y4 d2
  have x0 : w2.cell? ⟨w.heap.size, 0, none⟩ = some (.int .i64 N1) := cell_of Z1 rfl
  have x1 : w2.cell? ⟨w.heap.size, 1, none⟩ = some (.int .i64 M1) := cell_of Z1 rfl
  have x2 : w2.cell? ⟨w.heap.size, 2, none⟩ = some (.int .i64 st1) := cell_of Z1 rfl
  have x3 : w2.cell? ⟨w.heap.size, 3, none⟩ = some (.slice aF1 lF1 cF1) := cell_of Z1 rfl
  have x4 : w2.cell? ⟨w.heap.size, 4, none⟩ = some (.slice aN1 lN1 cN1) := cell_of Z1 rfl
  have y0 : w2.cell? ⟨w.heap.size + 1, 0, none⟩ = some (.int .i64 N2) := cell_of Z2 rfl
  have y1 : w2.cell? ⟨w.heap.size + 1, 1, none⟩ = some (.int .i64 M2) := cell_of Z2 rfl
  have y2 : w2.cell? ⟨w.heap.size + 1, 2, none⟩ = some (.int .i64 st2) := cell_of Z2 rfl
  have y3 : w2.cell? ⟨w.heap.size + 1, 3, none⟩ = some (.slice aF2 lF2 cF2) := cell_of Z2 rfl
  have y4 : w2.cell? ⟨w.heap.size + 1, 4, none⟩ = some (.slice aN2 lN2 cN2) := cell_of Z2 rfl
  clear Z1 Z2
  go_wp2_with fail
  go_at_call 31
  refine (T2.out w2 HD2.out).mono ?_
  rintro e w3 ⟨rfl, d3⟩
  have HD3 := hide (HD2.out.trans (d3.mono HD2.out.size))
  have Z1 := blk_on H2.out.2.1 HD3.out
  have Z2 := blk_on H2.out.2.2.1 HD3.out
  clear x0 y0 x1 y1 x2 y2 x3 y3 x4 y4 d3
  have x0 : w3.cell? ⟨w.heap.size, 0, none⟩ = some (.int .i64 N1) := cell_of Z1 rfl
  have x1 : w3.cell? ⟨w.heap.size, 1, none⟩ = some (.int .i64 M1) := cell_of Z1 rfl
  have x2 : w3.cell? ⟨w.heap.size, 2, none⟩ = some (.int .i64 st1) := cell_of Z1 rfl
  have x3 : w3.cell? ⟨w.heap.size, 3, none⟩ = some (.slice aF1 lF1 cF1) := cell_of Z1 rfl
  have x4 : w3.cell? ⟨w.heap.size, 4, none⟩ = some (.slice aN1 lN1 cN1) := cell_of Z1 rfl
  have y0 : w3.cell? ⟨w.heap.size + 1, 0, none⟩ = some (.int .i64 N2) := cell_of Z2 rfl
  have y1 : w3.cell? ⟨w.heap.size + 1, 1, none⟩ = some (.int .i64 M2) := cell_of Z2 rfl
  have y2 : w3.cell? ⟨w.heap.size + 1, 2, none⟩ = some (.int .i64 st2) := cell_of Z2 rfl
  have y3 : w3.cell? ⟨w.heap.size + 1, 3, none⟩ = some (.slice aF2 lF2 cF2) := cell_of Z2 rfl
  have y4 : w3.cell? ⟨w.heap.size + 1, 4, none⟩ = some (.slice aN2 lN2 cN2) := cell_of Z2 rfl
  clear Z1 Z2 T1 T2
  go_wp2_with fail
  go_ret3
  exact ⟨rfl, H2.out.1.trans (HD3.out.mono H2.out.1.size)⟩
set_option maxRecDepth 100000 in
set_option maxHeartbeats 2000000 in
theorem equal_sym (w : World) (N1 M1 st1 N2 M2 st2 : Int) (aF1 aN1 aF2 aN2 : Option Addr) (lF1 cF1 lN1 cN1 lF2 cF2 lN2 cN2 : Nat) (F1 X1 F2 X2 : List Int) (hF1 : RdN w aF1 F1) (hX1 : RdN w aN1 X1) (hF2 : RdN w aF2 F2) (hX2 : RdN w aN2 X2) (e1 : F1.length = lF1) (e2 : X1.length = lN1) (e3 : F2.length = lF2) (e4 : X2.length = lN2) (b1 : lF1 ≤ 4194304) (b2 : lN1 ≤ 2097152) (b3 : lF2 ≤ 4194304) (b4 : lN2 ≤ 2097152) (hv1 : vd N1 M1 st1 F1 X1 = true) (hv2 : vd N2 M2 st2 F2 X2 = true) (hM : ¬ M1 = M2) :
    Calls Try.prog 18 #[.agg #[.int .i64 N1, .int .i64 M1, .int .i64 st1, .slice aF1 lF1 cF1, .slice aN1 lN1 cN1], .agg #[.int .i64 N2, .int .i64 M2, .int .i64 st2, .slice aF2 lF2 cF2, .slice aN2 lN2 cN2]] w fun e w' => e = .returned (.tuple #[.bool false, .slice none 0 0, .int .i64 6]) ∧ Below w.heap.size w w' := by
  obtain ⟨W0, hW0⟩ : ∃ W0, (w.alloc (.cells #[.int .i64 N1, .int .i64 M1, .int .i64 st1, .slice aF1 lF1 cF1, .slice aN1 lN1 cN1] 24)).alloc (.cells #[.int .i64 N2, .int .i64 M2, .int .i64 st2, .slice aF2 lF2 cF2, .slice aN2 lN2 cN2] 24) = W0 := ⟨_, rfl⟩
  have H2 := hide (two_al w #[.int .i64 N1, .int .i64 M1, .int .i64 st1, .slice aF1 lF1 cF1, .slice aN1 lN1 cN1] #[.int .i64 N2, .int .i64 M2, .int .i64 st2, .slice aF2 lF2 cF2, .slice aN2 lN2 cN2] 24 24)
  rw [hW0] at H2
  have x0 : W0.cell? ⟨w.heap.size, 0, none⟩ = some (.int .i64 N1) := cell_of H2.out.2.1 rfl
  have x1 : W0.cell? ⟨w.heap.size, 1, none⟩ = some (.int .i64 M1) := cell_of H2.out.2.1 rfl
  have x2 : W0.cell? ⟨w.heap.size, 2, none⟩ = some (.int .i64 st1) := cell_of H2.out.2.1 rfl
  have x3 : W0.cell? ⟨w.heap.size, 3, none⟩ = some (.slice aF1 lF1 cF1) := cell_of H2.out.2.1 rfl
  have x4 : W0.cell? ⟨w.heap.size, 4, none⟩ = some (.slice aN1 lN1 cN1) := cell_of H2.out.2.1 rfl
  have y0 : W0.cell? ⟨w.heap.size + 1, 0, none⟩ = some (.int .i64 N2) := cell_of H2.out.2.2.1 rfl
  have y1 : W0.cell? ⟨w.heap.size + 1, 1, none⟩ = some (.int .i64 M2) := cell_of H2.out.2.2.1 rfl
  have y2 : W0.cell? ⟨w.heap.size + 1, 2, none⟩ = some (.int .i64 st2) := cell_of H2.out.2.2.1 rfl
  have y3 : W0.cell? ⟨w.heap.size + 1, 3, none⟩ = some (.slice aF2 lF2 cF2) := cell_of H2.out.2.2.1 rfl
  have y4 : W0.cell? ⟨w.heap.size + 1, 4, none⟩ = some (.slice aN2 lN2 cN2) := cell_of H2.out.2.2.1 rfl
  have T1 : Hid (Calls Try.prog 31 #[.agg #[.int .i64 N1, .int .i64 M1, .int .i64 st1, .slice aF1 lF1 cF1, .slice aN1 lN1 cN1]] W0 fun e w' => e = .returned (.int .i64 0) ∧ Below W0.heap.size W0 w') := hide (by
    have := valid_any W0 N1 M1 st1 aF1 aN1 lF1 cF1 lN1 cN1 F1 X1 (hF1.on H2.out.1) (hX1.on H2.out.1) e1 e2 b1 (by omega)
    rw [hv1] at this
    exact this)
  have T2 : Hid (∀ W, Below W0.heap.size W0 W → Calls Try.prog 31 #[.agg #[.int .i64 N2, .int .i64 M2, .int .i64 st2, .slice aF2 lF2 cF2, .slice aN2 lN2 cN2]] W fun e w' => e = .returned (.int .i64 0) ∧ Below W.heap.size W w') := hide (fun W d => by
    have := valid_any W N2 M2 st2 aF2 aN2 lF2 cF2 lN2 cN2 F2 X2 ((hF2.on H2.out.1).on d) ((hX2.on H2.out.1).on d) e3 e4 b3 (by omega)
    rw [hv2] at this
    exact this)
  clear hF1 hX1 hF2 hX2 e1 e2 e3 e4 b1 b2 b3 b4 hv1 hv2
  go_enter Try.func18, Try.ntmps18
  go_wp2_with fail
  go_at_call 31
  refine T1.out.mono ?_
  rintro e w2 ⟨rfl, d2⟩
  have HD2 := hide d2
  have Z1 := blk_on H2.out.2.1 d2
  have Z2 := blk_on H2.out.2.2.1 d2
  clear x0 y0 x1 y1 x2 y2 x3 y3 x4 y4 d2
  have x0 : w2.cell? ⟨w.heap.size, 0, none⟩ = some (.int .i64 N1) := cell_of Z1 rfl
  have x1 : w2.cell? ⟨w.heap.size, 1, none⟩ = some (.int .i64 M1) := cell_of Z1 rfl
  have x2 : w2.cell? ⟨w.heap.size, 2, none⟩ = some (.int .i64 st1) := cell_of Z1 rfl
  have x3 : w2.cell? ⟨w.heap.size, 3, none⟩ = some (.slice aF1 lF1 cF1) := cell_of Z1 rfl
  have x4 : w2.cell? ⟨w.heap.size, 4, none⟩ = some (.slice aN1 lN1 cN1) := cell_of Z1 rfl
  have y0 : w2.cell? ⟨w.heap.size + 1, 0, none⟩ = some (.int .i64 N2) := cell_of Z2 rfl
  have y1 : w2.cell? ⟨w.heap.size + 1, 1, none⟩ = some (.int .i64 M2) := cell_of Z2 rfl
  have y2 : w2.cell? ⟨w.heap.size + 1, 2, none⟩ = some (.int .i64 st2) := cell_of Z2 rfl
  have y3 : w2.cell? ⟨w.heap.size + 1, 3, none⟩ = some (.slice aF2 lF2 cF2) := cell_of Z2 rfl
  have y4 : w2.cell? ⟨w.heap.size + 1, 4, none⟩ = some (.slice aN2 lN2 cN2) := cell_of Z2 rfl
  clear Z1 Z2
  go_wp2_with fail
  go_at_call 31
  refine (T2.out w2 HD2.out).mono ?_
  rintro e w3 ⟨rfl, d3⟩
  have HD3 := hide (HD2.out.trans (d3.mono HD2.out.size))
  have Z1 := blk_on H2.out.2.1 HD3.out
  have Z2 := blk_on H2.out.2.2.1 HD3.out
  clear x0 y0 x1 y1 x2 y2 x3 y3 x4 y4 d3
  have x0 : w3.cell? ⟨w.heap.size, 0, none⟩ = some (.int .i64 N1) := cell_of Z1 rfl
  have x1 : w3.cell? ⟨w.heap.size, 1, none⟩ = some (.int .i64 M1) := cell_of Z1 rfl
  have x2 : w3.cell? ⟨w.heap.size, 2, none⟩ = some (.int .i64 st1) := cell_of Z1 rfl
  have x3 : w3.cell? ⟨w.heap.size, 3, none⟩ = some (.slice aF1 lF1 cF1) := cell_of Z1 rfl
  have x4 : w3.cell? ⟨w.heap.size, 4, none⟩ = some (.slice aN1 lN1 cN1) := cell_of Z1 rfl
  have y0 : w3.cell? ⟨w.heap.size + 1, 0, none⟩ = some (.int .i64 N2) := cell_of Z2 rfl
  have y1 : w3.cell? ⟨w.heap.size + 1, 1, none⟩ = some (.int .i64 M2) := cell_of Z2 rfl
  have y2 : w3.cell? ⟨w.heap.size + 1, 2, none⟩ = some (.int .i64 st2) := cell_of Z2 rfl
  have y3 : w3.cell? ⟨w.heap.size + 1, 3, none⟩ = some (.slice aF2 lF2 cF2) := cell_of Z2 rfl
  have y4 : w3.cell? ⟨w.heap.size + 1, 4, none⟩ = some (.slice aN2 lN2 cN2) := cell_of Z2 rfl
  clear Z1 Z2 T1 T2
  go_wp2_with fail
  go_ret3
  exact ⟨rfl, H2.out.1.trans (HD3.out.mono H2.out.1.size)⟩
def EqA (w : World) (F1 X1 F2 X2 : List Int) (N M s1 s2 : Nat) : Ending → World → Prop := fun e w' => ∃ b n c same, e = .returned (.tuple #[.bool same, .slice b n c, .int .i64 0]) ∧ Hid (Below w.heap.size w w' ∧ (same = true → b = none ∧ n = 0 ∧ c = 0 ∧ Eqv F1 X1 F2 X2 M s1 s2) ∧ (same = false → ∃ u, OwI w' w.heap.size (.slice b n c) (natI u) ∧ TlE F1 X1 F2 X2 N M s1 s2 u))
set_option maxRecDepth 100000 in
set_option maxHeartbeats 2000000 in
theorem equal_ok (w : World) (N1 M1 st1 N2 st2 : Nat) (aF1 aN1 aF2 aN2 : Option Addr) (lF1 cF1 lN1 cN1 lF2 cF2 lN2 cN2 : Nat) (F1 X1 F2 X2 : List Int) (hF1 : RdN w aF1 F1) (hX1 : RdN w aN1 X1) (hF2 : RdN w aF2 F2) (hX2 : RdN w aN2 X2) (e1 : F1.length = lF1) (e2 : X1.length = lN1) (e3 : F2.length = lF2) (e4 : X2.length = lN2) (b1 : lF1 ≤ 4194304) (b2 : lN1 ≤ 2097152) (b3 : lF2 ≤ 4194304) (b4 : lN2 ≤ 2097152) (hv1 : vd N1 M1 st1 F1 X1 = true) (hv2 : vd N2 M1 st2 F2 X2 = true) :
    Calls Try.prog 18 #[.agg #[.int .i64 (N1 : Int), .int .i64 (M1 : Int), .int .i64 (st1 : Int), .slice aF1 lF1 cF1, .slice aN1 lN1 cN1], .agg #[.int .i64 (N2 : Int), .int .i64 (M1 : Int), .int .i64 (st2 : Int), .slice aF2 lF2 cF2, .slice aN2 lN2 cN2]] w (EqA w F1 X1 F2 X2 (N1 + N2) M1 st1 st2) := by
  obtain ⟨n, m, s0, en, em, es, n1, n2, m1, s1, g1, i1, f1⟩ := vd_nat hv1
  obtain rfl : N1 = n := by omega
  obtain rfl : M1 = m := by omega
  obtain rfl : st1 = s0 := by omega
  obtain ⟨n', m', s0', en', em', es', n1', n2', m1', s1', g2, i2, f2⟩ := vd_nat hv2
  obtain rfl : N2 = n' := by omega
  obtain rfl : M1 = m' := by omega
  obtain rfl : st2 = s0' := by omega
  clear en em es en' em' es'
  have HF := hide (And.intro g1 (And.intro g2 (And.intro i1 (And.intro i2 (And.intro f1 f2)))))
  obtain ⟨W0, hW0⟩ : ∃ W0, (w.alloc (.cells #[.int .i64 (N1 : Int), .int .i64 (M1 : Int), .int .i64 (st1 : Int), .slice aF1 lF1 cF1, .slice aN1 lN1 cN1] 24)).alloc (.cells #[.int .i64 (N2 : Int), .int .i64 (M1 : Int), .int .i64 (st2 : Int), .slice aF2 lF2 cF2, .slice aN2 lN2 cN2] 24) = W0 := ⟨_, rfl⟩
  have H2 := hide (two_al w #[.int .i64 (N1 : Int), .int .i64 (M1 : Int), .int .i64 (st1 : Int), .slice aF1 lF1 cF1, .slice aN1 lN1 cN1] #[.int .i64 (N2 : Int), .int .i64 (M1 : Int), .int .i64 (st2 : Int), .slice aF2 lF2 cF2, .slice aN2 lN2 cN2] 24 24)
  rw [hW0] at H2
  have x0 : W0.cell? ⟨w.heap.size, 0, none⟩ = some (.int .i64 (N1 : Int)) := cell_of H2.out.2.1 rfl
  have x1 : W0.cell? ⟨w.heap.size, 1, none⟩ = some (.int .i64 (M1 : Int)) := cell_of H2.out.2.1 rfl
  have x2 : W0.cell? ⟨w.heap.size, 2, none⟩ = some (.int .i64 (st1 : Int)) := cell_of H2.out.2.1 rfl
  have x3 : W0.cell? ⟨w.heap.size, 3, none⟩ = some (.slice aF1 lF1 cF1) := cell_of H2.out.2.1 rfl
  have x4 : W0.cell? ⟨w.heap.size, 4, none⟩ = some (.slice aN1 lN1 cN1) := cell_of H2.out.2.1 rfl
  have y0 : W0.cell? ⟨w.heap.size + 1, 0, none⟩ = some (.int .i64 (N2 : Int)) := cell_of H2.out.2.2.1 rfl
  have y1 : W0.cell? ⟨w.heap.size + 1, 1, none⟩ = some (.int .i64 (M1 : Int)) := cell_of H2.out.2.2.1 rfl
  have y2 : W0.cell? ⟨w.heap.size + 1, 2, none⟩ = some (.int .i64 (st2 : Int)) := cell_of H2.out.2.2.1 rfl
  have y3 : W0.cell? ⟨w.heap.size + 1, 3, none⟩ = some (.slice aF2 lF2 cF2) := cell_of H2.out.2.2.1 rfl
  have y4 : W0.cell? ⟨w.heap.size + 1, 4, none⟩ = some (.slice aN2 lN2 cN2) := cell_of H2.out.2.2.1 rfl
  have T1 : Hid (Calls Try.prog 31 #[.agg #[.int .i64 (N1 : Int), .int .i64 (M1 : Int), .int .i64 (st1 : Int), .slice aF1 lF1 cF1, .slice aN1 lN1 cN1]] W0 fun e w' => e = .returned (.int .i64 0) ∧ Below W0.heap.size W0 w') := hide (by
    have := valid_any W0 N1 M1 st1 aF1 aN1 lF1 cF1 lN1 cN1 F1 X1 (hF1.on H2.out.1) (hX1.on H2.out.1) e1 e2 b1 (by omega)
    rw [hv1] at this
    exact this)
  have T2 : Hid (∀ W, Below W0.heap.size W0 W → Calls Try.prog 31 #[.agg #[.int .i64 (N2 : Int), .int .i64 (M1 : Int), .int .i64 (st2 : Int), .slice aF2 lF2 cF2, .slice aN2 lN2 cN2]] W fun e w' => e = .returned (.int .i64 0) ∧ Below W.heap.size W w') := hide (fun W d => by
    have := valid_any W N2 M1 st2 aF2 aN2 lF2 cF2 lN2 cN2 F2 X2 ((hF2.on H2.out.1).on d) ((hX2.on H2.out.1).on d) e3 e4 b3 (by omega)
    rw [hv2] at this
    exact this)
  have TS : Hid (∀ W, Below W0.heap.size W0 W → Calls Try.prog 44 #[.agg #[.int .i64 (N1 : Int), .int .i64 (M1 : Int), .int .i64 (st1 : Int), .slice aF1 lF1 cF1, .slice aN1 lN1 cN1], .agg #[.int .i64 (N2 : Int), .int .i64 (M1 : Int), .int .i64 (st2 : Int), .slice aF2 lF2 cF2, .slice aN2 lN2 cN2]] W fun e w' => ∃ gf bn n k, e = .returned (.agg #[.int .i64 (M1 : Int), .slice (some ⟨gf, 0, none⟩) (N1 + N2) (N1 + N2), .slice bn n k]) ∧ Hid (TbR w' M1 (N1 + N2) gf bn (fnE N1 F1 F2) (jnX N1 X1 X2) ∧ n = (N1 + N2) * M1) ∧ Below W.heap.size W w') := hide (fun W d => (side_any W N1 N2 M1 st1 M1 st2 aF1 aF2 aN1 aN2 lF1 cF1 lN1 cN1 lF2 cF2 lN2 cN2 F1 X1 F2 X2 ((hF1.on H2.out.1).on d) ((hX1.on H2.out.1).on d) ((hF2.on H2.out.1).on d) ((hX2.on H2.out.1).on d) e1 e2 e3 e4 f1 f2 i2 b1 b3 b2 b4 n2 n2').mono (by
    rintro e w' ⟨gf, bn, n, k, rfl, H, d'⟩
    obtain ⟨el, hr⟩ := owI_rd H.out.2.2
    exact ⟨gf, bn, n, k, rfl, hide ⟨⟨H.out.2.1, hr, jnX_len g1 g2, jnX_in i1 i2⟩, el.trans (jnX_len g1 g2)⟩, d'⟩))
  have hNM : (N1 + N2) * M1 ≤ 4194304 := by rw [Nat.add_mul, ← g1, ← g2]; omega
  clear hF1 hX1 hF2 hX2 e1 e2 e3 e4 b1 b2 b3 b4 hv1 hv2 g1 g2 i1 i2 f1 f2
  have HNM := hide hNM
  clear hNM
  go_enter Try.func18, Try.ntmps18
  go_wp2_with fail
  go_at_call 31
  refine T1.out.mono ?_
  rintro e w2 ⟨rfl, d2⟩
  have HD2 := hide d2
  have Z1 := blk_on H2.out.2.1 d2
  have Z2 := blk_on H2.out.2.2.1 d2
  clear x0 y0 x1 y1 x2 y2 x3 y3 x4 y4 d2
  have x0 : w2.cell? ⟨w.heap.size, 0, none⟩ = some (.int .i64 (N1 : Int)) := cell_of Z1 rfl
  have x1 : w2.cell? ⟨w.heap.size, 1, none⟩ = some (.int .i64 (M1 : Int)) := cell_of Z1 rfl
  have x2 : w2.cell? ⟨w.heap.size, 2, none⟩ = some (.int .i64 (st1 : Int)) := cell_of Z1 rfl
  have x3 : w2.cell? ⟨w.heap.size, 3, none⟩ = some (.slice aF1 lF1 cF1) := cell_of Z1 rfl
  have x4 : w2.cell? ⟨w.heap.size, 4, none⟩ = some (.slice aN1 lN1 cN1) := cell_of Z1 rfl
  have y0 : w2.cell? ⟨w.heap.size + 1, 0, none⟩ = some (.int .i64 (N2 : Int)) := cell_of Z2 rfl
  have y1 : w2.cell? ⟨w.heap.size + 1, 1, none⟩ = some (.int .i64 (M1 : Int)) := cell_of Z2 rfl
  have y2 : w2.cell? ⟨w.heap.size + 1, 2, none⟩ = some (.int .i64 (st2 : Int)) := cell_of Z2 rfl
  have y3 : w2.cell? ⟨w.heap.size + 1, 3, none⟩ = some (.slice aF2 lF2 cF2) := cell_of Z2 rfl
  have y4 : w2.cell? ⟨w.heap.size + 1, 4, none⟩ = some (.slice aN2 lN2 cN2) := cell_of Z2 rfl
  clear Z1 Z2
  go_wp2_with fail
  go_at_call 31
  refine (T2.out w2 HD2.out).mono ?_
  rintro e w3 ⟨rfl, d3⟩
  have HD3 := hide (HD2.out.trans (d3.mono HD2.out.size))
  have Z1 := blk_on H2.out.2.1 HD3.out
  have Z2 := blk_on H2.out.2.2.1 HD3.out
  clear x0 y0 x1 y1 x2 y2 x3 y3 x4 y4 d3
  have x0 : w3.cell? ⟨w.heap.size, 0, none⟩ = some (.int .i64 (N1 : Int)) := cell_of Z1 rfl
  have x1 : w3.cell? ⟨w.heap.size, 1, none⟩ = some (.int .i64 (M1 : Int)) := cell_of Z1 rfl
  have x2 : w3.cell? ⟨w.heap.size, 2, none⟩ = some (.int .i64 (st1 : Int)) := cell_of Z1 rfl
  have x3 : w3.cell? ⟨w.heap.size, 3, none⟩ = some (.slice aF1 lF1 cF1) := cell_of Z1 rfl
  have x4 : w3.cell? ⟨w.heap.size, 4, none⟩ = some (.slice aN1 lN1 cN1) := cell_of Z1 rfl
  have y0 : w3.cell? ⟨w.heap.size + 1, 0, none⟩ = some (.int .i64 (N2 : Int)) := cell_of Z2 rfl
  have y1 : w3.cell? ⟨w.heap.size + 1, 1, none⟩ = some (.int .i64 (M1 : Int)) := cell_of Z2 rfl
  have y2 : w3.cell? ⟨w.heap.size + 1, 2, none⟩ = some (.int .i64 (st2 : Int)) := cell_of Z2 rfl
  have y3 : w3.cell? ⟨w.heap.size + 1, 3, none⟩ = some (.slice aF2 lF2 cF2) := cell_of Z2 rfl
  have y4 : w3.cell? ⟨w.heap.size + 1, 4, none⟩ = some (.slice aN2 lN2 cN2) := cell_of Z2 rfl
  clear T1 T2
  have HZ := hide (And.intro Z1 Z2)
  clear Z1 Z2
  go_upto_region 5 with fail
  have KK : Hid (∀ W, Below w3.heap.size w3 W → W.cell? ⟨w.heap.size, 0, none⟩ = some (.int .i64 (N1 : Int)) ∧ W.cell? ⟨w.heap.size, 1, none⟩ = some (.int .i64 (M1 : Int)) ∧ W.cell? ⟨w.heap.size, 2, none⟩ = some (.int .i64 (st1 : Int)) ∧ W.cell? ⟨w.heap.size, 3, none⟩ = some (.slice aF1 lF1 cF1) ∧ W.cell? ⟨w.heap.size, 4, none⟩ = some (.slice aN1 lN1 cN1) ∧ W.cell? ⟨w.heap.size + 1, 0, none⟩ = some (.int .i64 (N2 : Int)) ∧ W.cell? ⟨w.heap.size + 1, 1, none⟩ = some (.int .i64 (M1 : Int)) ∧ W.cell? ⟨w.heap.size + 1, 2, none⟩ = some (.int .i64 (st2 : Int)) ∧ W.cell? ⟨w.heap.size + 1, 3, none⟩ = some (.slice aF2 lF2 cF2) ∧ W.cell? ⟨w.heap.size + 1, 4, none⟩ = some (.slice aN2 lN2 cN2) ∧ Hid (Below w3.heap.size w3 W)) := hide (fun W d => by
    have Z1 := blk_on HZ.out.1 d
    have Z2 := blk_on HZ.out.2 d
    exact ⟨cell_of Z1 rfl, cell_of Z1 rfl, cell_of Z1 rfl, cell_of Z1 rfl, cell_of Z1 rfl, cell_of Z2 rfl, cell_of Z2 rfl, cell_of Z2 rfl, cell_of Z2 rfl, cell_of Z2 rfl, hide d⟩)
  clear x0 y0 x1 y1 x2 y2 x3 y3 x4 y4
  have DR : Hid (Below w3.heap.size w3 w3.drew) := hide (Below.refl _ _).drew
  have SR := KK.out w3.drew DR.out
  have jw : IntKind.i64.wrap ((N1 : Int) + (st2 : Int)) = ((N1 + st2 : Nat) : Int) := by rw [IntKind.wrap_i64]; omega
  go_region_held3 (fun W => W.cell? ⟨w.heap.size, 0, none⟩ = some (.int .i64 (N1 : Int)) ∧ W.cell? ⟨w.heap.size, 1, none⟩ = some (.int .i64 (M1 : Int)) ∧ W.cell? ⟨w.heap.size, 2, none⟩ = some (.int .i64 (st1 : Int)) ∧ W.cell? ⟨w.heap.size, 3, none⟩ = some (.slice aF1 lF1 cF1) ∧ W.cell? ⟨w.heap.size, 4, none⟩ = some (.slice aN1 lN1 cN1) ∧ W.cell? ⟨w.heap.size + 1, 0, none⟩ = some (.int .i64 (N2 : Int)) ∧ W.cell? ⟨w.heap.size + 1, 1, none⟩ = some (.int .i64 (M1 : Int)) ∧ W.cell? ⟨w.heap.size + 1, 2, none⟩ = some (.int .i64 (st2 : Int)) ∧ W.cell? ⟨w.heap.size + 1, 3, none⟩ = some (.slice aF2 lF2 cF2) ∧ W.cell? ⟨w.heap.size + 1, 4, none⟩ = some (.slice aN2 lN2 cN2) ∧ Hid (Below w3.heap.size w3 W))
    (first | exact SR | exact S4 | exact S5)
    (first
      | (go_at_call 44; refine (TS.out w3.drew (HD3.out.trans (DR.out.mono HD3.out.size))).mono ?_; rintro e w4 ⟨gf, bn, n, k, rfl, H4, d4⟩; have D4 := hide (DR.out.trans (d4.mono DR.out.size)); have S4 := KK.out w4 D4.out; have TT := tellT_any w4 (N1 + N2) M1 st1 (N1 + st2) gf n k bn (jnX N1 X1 X2) (fnE N1 F1 F2) H4.out.1 H4.out.2 (by omega) (by omega) HNM.out (by omega) (by omega); clear d4)
      | (go_at_call 42; refine TT.mono ?_; rintro e w5 ⟨b, nn, c, told, rfl, HA⟩; have D5 := hide (D4.out.trans (HA.out.1.mono D4.out.size)); have S5 := KK.out w5 D5.out))
  have DA : Hid (Below w.heap.size w w4) := hide (H2.out.1.trans ((HD3.out.trans (D4.out.mono HD3.out.size)).mono H2.out.1.size))
  cases told with
  | false =>
    have HX := hide (HA.out.2.2 rfl)
    go_wp2_with fail
    go_ret3
    refine ⟨none, 0, 0, true, ?_, hide ⟨?_, ?_, ?_⟩⟩
    · rw [HX.out.1, HX.out.2.1, HX.out.2.2.1]; rfl
    · exact DA.out.trans (HA.out.1.mono DA.out.size)
    · intro _
      exact ⟨rfl, rfl, rfl, side_ali HF.out.1 HF.out.2.1 HF.out.2.2.1 HF.out.2.2.2.1 HF.out.2.2.2.2.1 HF.out.2.2.2.2.2 s1 s1' HX.out.2.2.2⟩
    · intro e; cases e
  | true =>
    obtain ⟨u, hu, hw⟩ := HA.out.2.1 rfl
    have HU := hide (And.intro hu hw)
    clear hu hw
    go_wp2_with fail
    go_ret3
    refine ⟨b, nn, c, false, ?_, hide ⟨?_, ?_, ?_⟩⟩
    · rfl
    · exact DA.out.trans (HA.out.1.mono DA.out.size)
    · intro e; cases e
    · intro _
      exact ⟨u, owns_down HU.out.1 DA.out.size, side_tl HF.out.1 HF.out.2.1 HF.out.2.2.1 HF.out.2.2.2.1 HF.out.2.2.2.2.1 HF.out.2.2.2.2.2 s1 s1' HU.out.2⟩
/-! ### The least automaton: what it takes -/
/-- The lists of the least automaton. -/
def mnF (Fi : List Int) (T : List Nat) : List Int := natI (lsF (inF Fi) T T.length)
def mnX (Nx : List Int) (M : Nat) (T : List Nat) (al : Nat → Nat) : List Int := natI (lsN (fun s a => al (dl Nx M s a)) M T T.length)
theorem lsF_mem {fin : Nat → Bool} {T : List Nat} {n j : Nat} : j ∈ lsF fin T n ↔ j < n ∧ fin (T.getD j 0) = true := by
  unfold lsF
  rw [List.mem_filter, List.mem_range]
theorem getD_get {T : List Nat} {i : Nat} (h : i < T.length) : T.getD i 0 = T[i] := by
  rw [List.getD_eq_getElem?_getD, List.getElem?_eq_getElem h, Option.getD_some]
theorem mnF_in {Fi : List Int} {T : List Nat} {i : Nat} (h : i < T.length) : inF (mnF Fi T) i = inF Fi T[i] := by
  have e : ((i : Int) ∈ mnF Fi T) ↔ inF Fi T[i] = true := by
    unfold mnF natI
    rw [List.mem_map]
    constructor
    · rintro ⟨j, hj, e⟩
      obtain rfl : j = i := by omega
      have := (lsF_mem.1 hj).2
      rwa [getD_get h] at this
    · intro hf
      exact ⟨i, lsF_mem.2 ⟨h, by rw [getD_get h]; exact hf⟩, rfl⟩
  have u : ∀ b : Bool, (decide ((i : Int) ∈ mnF Fi T) = b) ↔ inF (mnF Fi T) i = b := fun b => Iff.rfl
  cases hb : inF Fi T[i] with
  | true => exact (u _).1 (decide_eq_true (e.2 hb))
  | false => exact (u _).1 (decide_eq_false (fun z => by rw [e.1 z] at hb; cases hb))
theorem lsN_get {φ : Nat → Nat → Nat} {M : Nat} {T : List Nat} : ∀ (n i a : Nat) (_ : n ≤ T.length) (_hi : i < n) (_ : a < M) (hT : i < T.length), (lsN φ M T n)[i * M + a]? = some (T.idxOf (φ T[i] a))
  | 0, _, _, _, hi, _, _ => by omega
  | n + 1, i, a, hn, hi, ha, hT => by
    rw [lsN_succ φ M T n (by omega)]
    have hl := lsN_len φ M T n (by omega)
    by_cases e : i = n
    · subst e
      rw [List.getElem?_append_right (by omega), hl, Nat.add_sub_cancel_left]
      unfold lsR
      rw [List.getElem?_map, List.getElem?_range ha]
      rfl
    · have hin : i < n := by omega
      have := place_lt hin ha
      rw [List.getElem?_append_left (by omega)]
      exact lsN_get n i a (by omega) hin ha hT
theorem mnX_len (Nx : List Int) (M : Nat) (T : List Nat) (al : Nat → Nat) : (mnX Nx M T al).length = T.length * M := by
  unfold mnX
  rw [natI_len, lsN_len _ _ _ _ (Nat.le_refl _)]
theorem mnX_dl {Nx : List Int} {M : Nat} {T : List Nat} {al : Nat → Nat} {i a : Nat} (hi : i < T.length) (ha : a < M) : dl (mnX Nx M T al) M i a = T.idxOf (al (dl Nx M T[i] a)) := by
  unfold dl
  have h := lsN_get (φ := fun s a => al (dl Nx M s a)) (M := M) T.length i a (Nat.le_refl _) hi ha hi
  have e : (mnX Nx M T al)[i * M + a]? = some ((T.idxOf (al (dl Nx M T[i] a)) : Nat) : Int) := by
    unfold mnX natI
    rw [List.getElem?_map, h]
    rfl
  rw [List.getD_eq_getElem?_getD, e, Option.getD_some, Int.toNat_natCast]
  rfl
/-- The numbers within the least automaton. -/
theorem mn_in {Nx : List Int} {M : Nat} {T K : List Nat} {al : Nat → Nat} (hc : Cv (fun s a => al (dl Nx M s a)) M T K (T.length * M)) : ∀ x ∈ mnX Nx M T al, 0 ≤ x ∧ x < (T.length : Int) := by
  intro x hx
  unfold mnX natI at hx
  obtain ⟨y, hy, rfl⟩ := List.mem_map.1 hx
  unfold lsN at hy
  obtain ⟨s, hs, hy⟩ := List.mem_flatMap.1 hy
  rw [List.take_length] at hs
  unfold lsR at hy
  obtain ⟨a, ha, rfl⟩ := List.mem_map.1 hy
  obtain ⟨i, hi, rfl⟩ := List.getElem_of_mem hs
  have := List.idxOf_lt_length_iff.2 (cv_in hc hi (List.mem_range.1 ha))
  exact ⟨Int.natCast_nonneg _, Int.ofNat_lt.2 this⟩
theorem mnF_rng {Fi : List Int} {T : List Nat} : ∀ x ∈ mnF Fi T, 0 ≤ x ∧ x < (T.length : Int) := by
  intro x hx
  unfold mnF natI at hx
  obtain ⟨y, hy, rfl⟩ := List.mem_map.1 hx
  have := (lsF_mem.1 hy).1
  omega
theorem vd_of {N M st : Nat} {Fi Nx : List Int} (n1 : 1 ≤ N) (n2 : N ≤ 4096) (m1 : M < 129) (s1 : st < N) (l : Nx.length = N * M) (i1 : ∀ x ∈ Nx, 0 ≤ x ∧ x < (N : Int)) (i2 : ∀ x ∈ Fi, 0 ≤ x ∧ x < (N : Int)) : vd N M st Fi Nx = true := by
  unfold vd
  simp only [Bool.and_eq_true, decide_eq_true_eq]
  refine ⟨⟨⟨⟨⟨⟨by omega, by omega⟩, inB_iff.2 ⟨by omega, by omega⟩⟩, inB_iff.2 ⟨by omega, by omega⟩⟩, by rw [l]; simp⟩, List.all_eq_true.2 fun x hx => inB_iff.2 (i1 x hx)⟩, List.all_eq_true.2 fun x hx => inB_iff.2 (i2 x hx)⟩
section
variable {N M st : Nat} {Fi Nx : List Int} {B : Nat} {w : World} {vF vN : Value} {T K : List Nat} {al : Nat → Nat} (h : MnA N M st Fi Nx B w vF vN T K al) (hv : vd N M st Fi Nx = true)
include h hv
theorem MnA.pos : 0 < T.length := by have _ := hv; have := h.wk.l; omega
theorem MnA.le : T.length ≤ N := by
  have _ := hv
  exact nodup_le h.nd h.lt
theorem MnA.valid : vd (T.length : Nat) M 0 (mnF Fi T) (mnX Nx M T al) = true := by
  obtain ⟨n, m, s0, en, em, es, n1, n2, m1, s1, e1, i1, i2⟩ := vd_nat hv
  have hp := h.pos hv
  have hl := h.le hv
  exact vd_of (st := 0) (by omega) (by omega) (by omega) (by omega) (mnX_len Nx M T al) (mn_in h.cv) mnF_rng
/-- From each number on the least automaton goes as the given one goes from the number's state. -/
theorem MnA.goes : ∀ (u : List Nat) (i : Nat) (_ : ∀ a ∈ u, a < M) (hi : i < T.length), ∃ hj : dls (mnX Nx M T al) M i u < T.length, Ali Nx (inF Fi) M (dls Nx M T[i] u) T[dls (mnX Nx M T al) M i u] := by
  obtain ⟨n, m, s0, en, em, es, n1, n2, m1, s1, e1, i1, i2⟩ := vd_nat hv
  obtain rfl : N = n := by omega
  obtain rfl : M = m := by omega
  intro u
  induction u with
  | nil => exact fun i _ hi => ⟨hi, Ali.refl⟩
  | cons a u ih =>
    intro i hu hi
    have ha := hu a (by simp)
    have hT : T[i] < N := h.lt _ (List.getElem_mem hi)
    have hin := cv_in h.cv hi ha
    have hx : T.idxOf (al (dl Nx M T[i] a)) < T.length := List.idxOf_lt_length_iff.2 hin
    obtain ⟨hj, q⟩ := ih (T.idxOf (al (dl Nx M T[i] a))) (fun b hb => hu b (by simp [hb])) hx
    have e : dls (mnX Nx M T al) M i (a :: u) = dls (mnX Nx M T al) M (T.idxOf (al (dl Nx M T[i] a))) u := by
      show dls (mnX Nx M T al) M (dl (mnX Nx M T al) M i a) u = _
      rw [mnX_dl hi ha]
    simp only [e]
    refine ⟨hj, Ali.trans ?_ q⟩
    have g : T[T.idxOf (al (dl Nx M T[i] a))] = al (dl Nx M T[i] a) := List.getElem_idxOf hx
    rw [g]
    have c := (h.ca (dl Nx M T[i] a) (dl_spec e1 i1 hT ha).2.2).2.1
    intro v hv2
    have := c (u ++ v) (fun b hb => by
      rcases List.mem_append.1 hb with z | z
      · exact hu b (by simp [z])
      · exact hv2 b z)
    rw [dls_app, dls_app] at this
    exact this
theorem MnA.takes (u : List Nat) (i : Nat) (hu : ∀ a ∈ u, a < M) (hi : i < T.length) : inF (mnF Fi T) (dls (mnX Nx M T al) M i u) = inF Fi (dls Nx M T[i] u) := by
  obtain ⟨hj, q⟩ := h.goes hv u i hu hi
  rw [mnF_in hj]
  exact q.fin.symm
/-- The least automaton has the same words. -/
theorem MnA.eqv : Eqv Fi Nx (mnF Fi T) (mnX Nx M T al) M st 0 := by
  obtain ⟨n, m, s0, en, em, es, n1, n2, m1, s1, e1, i1, i2⟩ := vd_nat hv
  obtain rfl : st = s0 := by omega
  intro u hu
  have hp := h.pos hv
  rw [h.takes hv u 0 hu hp]
  have z := h.wk.z
  rw [List.getElem?_eq_getElem hp] at z
  injection z with z
  rw [z]
  exact (h.ca st (by omega)).2.1 u hu
/-- No two numbers take the same words. -/
theorem MnA.apart {i j : Nat} (hi : i < T.length) (hj : j < T.length) (ha : Ali (mnX Nx M T al) (inF (mnF Fi T)) M i j) : i = j := by
  have hli := h.lt _ (List.getElem_mem hi)
  have hlj := h.lt _ (List.getElem_mem hj)
  have q : Ali Nx (inF Fi) M T[i] T[j] := fun u hu => by
    have := ha u hu
    rwa [h.takes hv u i hu hi, h.takes hv u j hu hj] at this
  have e := (h.ca.of hli hlj).1 q
  have fx : ∀ k (hk : k < T.length), al T[k] = T[k] := fun k hk => by
    have c : ∃ s, s < N ∧ T[k] = al s := by
      cases k with
      | zero =>
        obtain ⟨n, m, s0, en, em, es, n1, n2, m1, s1, e1, i1, i2⟩ := vd_nat hv
        have z := h.wk.z
        rw [List.getElem?_eq_getElem hk] at z
        injection z with z
        exact ⟨st, by omega, z⟩
      | succ k =>
        obtain ⟨n, m, s0, en, em, es, n1, n2, m1, s1, e1, i1, i2⟩ := vd_nat hv
        obtain rfl : N = n := by omega
        obtain rfl : M = m := by omega
        have hl := h.wk.l
        obtain ⟨k1, k2, x, hx, hx2⟩ := h.wk.s k (by omega)
        rw [List.getElem?_eq_getElem hk] at hx2
        injection hx2 with hx2
        have hM : 0 < M := by
          rcases Nat.eq_zero_or_pos M with e | e
          · rw [e] at k1; omega
          · exact e
        exact ⟨_, (dl_spec e1 i1 (h.lt x (List.mem_of_getElem? hx)) (Nat.mod_lt _ hM)).2.2, hx2⟩
    obtain ⟨s, hs, e⟩ := c
    have a1 := h.ca s hs
    rw [e]
    have := (h.ca.of hs (show al s < N by omega)).1 a1.2.1
    exact this.symm
  rw [fx i hi, fx j hj] at e
  exact nodup_inj h.nd hi hj e
end
/-! ### One walk alone -/
section
variable {α : Type} {φ : α → Nat → α} {M : Nat} {f : α} {T : List α} {K : List Nat} (h : Wk φ M f T K (T.length * M)) (hc : Cv φ M T K (T.length * M)) (hn : T.Nodup)
include h hn
theorem wk_new {i : Nat} {x : α} (hi : i < K.length) (hx : T[K.getD i 0 / M]? = some x) : φ x (K.getD i 0 % M) ∉ T.take (i + 1) := by
  obtain ⟨k1, k2, y, hy, hy2⟩ := h.s i hi
  rw [hx] at hy
  injection hy with hy
  subst hy
  intro hm
  obtain ⟨j, hj, e⟩ := List.getElem_of_mem hm
  rw [List.length_take] at hj
  rw [List.getElem_take] at e
  obtain ⟨h3, e3⟩ := List.getElem?_eq_some_iff.1 hy2
  have := nodup_inj hn (show j < T.length by omega) h3 (e.trans e3.symm)
  omega
omit hn in
include hc in
theorem wk_old {i e : Nat} {x : α} (hi : i < K.length) (he : e < K.getD i 0) (hx : T[e / M]? = some x) : φ x (e % M) ∈ T.take (i + 1) := by
  have k1 := (h.s i hi).1
  obtain ⟨j, hj, hk⟩ := hc e (by omega) x hx
  obtain ⟨h3, e3⟩ := List.getElem?_eq_some_iff.1 hj
  have hji : j < i + 1 := by
    cases j with
    | zero => omega
    | succ j =>
      have q := hk j rfl
      have hl := h.l
      by_cases hij : i ≤ j
      · rcases Nat.lt_or_eq_of_le hij with z | z
        · have := h.o i j z (by omega); omega
        · subst z; omega
      · omega
  rw [← e3]
  exact List.mem_take_iff_getElem.2 ⟨j, by omega, rfl⟩
end
theorem take_get {α : Type} {T1 T2 : List α} {n i : Nat} (e : T1.take n = T2.take n) (hi : i < n) : T1[i]? = T2[i]? := by
  have : (T1.take n)[i]? = (T2.take n)[i]? := by rw [e]
  rwa [List.getElem?_take_of_lt hi, List.getElem?_take_of_lt hi] at this
/-- There is one walk alone. -/
theorem wk_uniq {α : Type} {φ : α → Nat → α} {M : Nat} {f : α} {T1 T2 : List α} {K1 K2 : List Nat} (h1 : Wk φ M f T1 K1 (T1.length * M)) (c1 : Cv φ M T1 K1 (T1.length * M)) (n1 : T1.Nodup) (h2 : Wk φ M f T2 K2 (T2.length * M)) (c2 : Cv φ M T2 K2 (T2.length * M)) (n2 : T2.Nodup) : T1 = T2 ∧ K1 = K2 := by
  have main : ∀ i, i ≤ K1.length → i ≤ K2.length → T1.take (i + 1) = T2.take (i + 1) ∧ ∀ j, j < i → K1.getD j 0 = K2.getD j 0 := by
    intro i
    induction i with
    | zero =>
      intro _ _
      refine ⟨?_, fun j hj => by omega⟩
      rw [List.take_add_one, List.take_add_one, h1.z, h2.z]
      rfl
    | succ i ih =>
      intro q1 q2
      obtain ⟨e, ek⟩ := ih (by omega) (by omega)
      obtain ⟨a1, a2, x, ax, ay⟩ := h1.s i (by omega)
      obtain ⟨b1, b2, y, bx, by'⟩ := h2.s i (by omega)
      have ax' : T2[K1.getD i 0 / M]? = some x := by rw [← take_get e (by omega)]; exact ax
      have bx' : T1[K2.getD i 0 / M]? = some y := by rw [take_get e (by omega)]; exact bx
      have k : K1.getD i 0 = K2.getD i 0 := by
        rcases Nat.lt_trichotomy (K1.getD i 0) (K2.getD i 0) with z | z | z
        · have := wk_old h2 c2 (show i < K2.length by omega) z ax'
          rw [← e] at this
          exact absurd this (wk_new h1 n1 (by omega) ax)
        · exact z
        · have := wk_old h1 c1 (show i < K1.length by omega) z bx'
          rw [e] at this
          exact absurd this (wk_new h2 n2 (by omega) bx)
      rw [k] at ay ax'
      rw [bx] at ax'
      injection ax' with exy
      refine ⟨?_, fun j hj => ?_⟩
      · rw [List.take_add_one, e, ay, ← exy, List.take_add_one (l := T2) (i := i + 1), by']
      · by_cases ej : j = i
        · rw [ej]; exact k
        · exact ek j (by omega)
  have l1 := h1.l
  have l2 := h2.l
  have hlen : K1.length = K2.length := by
    rcases Nat.lt_trichotomy K1.length K2.length with z | z | z
    · exfalso
      obtain ⟨e, _⟩ := main K1.length (Nat.le_refl _) (by omega)
      obtain ⟨b1, b2, y, bx, by'⟩ := h2.s K1.length z
      have bx' : T1[K2.getD K1.length 0 / M]? = some y := by rw [take_get e (by omega)]; exact bx
      have hM : 0 < M := by
        rcases Nat.eq_zero_or_pos M with q | q
        · rw [q] at b1; omega
        · exact q
      have hlt : K2.getD K1.length 0 < T1.length * M := by rw [l1]; exact (Nat.div_lt_iff_lt_mul hM).1 (by omega)
      obtain ⟨j, hj, _⟩ := c1 _ hlt y bx'
      refine wk_new h2 n2 z bx ?_
      rw [← e]
      rw [show T1.take (K1.length + 1) = T1 from List.take_of_length_le (by omega)]
      exact List.mem_of_getElem? hj
    · exact z
    · exfalso
      obtain ⟨e, _⟩ := main K2.length (by omega) (Nat.le_refl _)
      obtain ⟨b1, b2, y, bx, by'⟩ := h1.s K2.length z
      have bx' : T2[K1.getD K2.length 0 / M]? = some y := by rw [← take_get e (by omega)]; exact bx
      have hM : 0 < M := by
        rcases Nat.eq_zero_or_pos M with q | q
        · rw [q] at b1; omega
        · exact q
      have hlt : K1.getD K2.length 0 < T2.length * M := by rw [l2]; exact (Nat.div_lt_iff_lt_mul hM).1 (by omega)
      obtain ⟨j, hj, _⟩ := c2 _ hlt y bx'
      refine wk_new h1 n1 z bx ?_
      rw [e]
      rw [show T2.take (K2.length + 1) = T2 from List.take_of_length_le (by omega)]
      exact List.mem_of_getElem? hj
  obtain ⟨e, ek⟩ := main K1.length (Nat.le_refl _) (by omega)
  refine ⟨?_, ?_⟩
  · rw [List.take_of_length_le (by omega), List.take_of_length_le (by omega)] at e
    exact e
  · refine List.ext_getElem hlen (fun i a b => ?_)
    have := ek i a
    rwa [getD_get a, getD_get b] at this
theorem idx_get {T : List Nat} (hn : T.Nodup) {i : Nat} (hi : i < T.length) : T.idxOf T[i] = i := by
  have h := List.idxOf_lt_length_iff.2 (List.getElem_mem hi)
  exact nodup_inj hn h hi (List.getElem_idxOf h)
section
variable {N M st : Nat} {Fi Nx : List Int} {B : Nat} {w : World} {vF vN : Value} {T K : List Nat} {al : Nat → Nat} (h : MnA N M st Fi Nx B w vF vN T K al)
include h
/-- The least automaton is numbered as it is walked. -/
theorem MnA.wk2 : Wk (dl (mnX Nx M T al) M) M 0 (List.range T.length) K ((List.range T.length).length * M) := by
  have hl := h.wk.l
  rw [List.length_range]
  refine ⟨by rw [List.length_range]; exact hl, List.getElem?_range (by omega), fun i hi => ?_, h.wk.o⟩
  obtain ⟨k1, k2, x, hx, hx2⟩ := h.wk.s i hi
  have hM : 0 < M := by
    rcases Nat.eq_zero_or_pos M with q | q
    · rw [q] at k1; omega
    · exact q
  refine ⟨k1, k2, K.getD i 0 / M, List.getElem?_range (by omega), ?_⟩
  have hk : K.getD i 0 / M < T.length := by omega
  rw [List.getElem?_range (by omega), mnX_dl hk (Nat.mod_lt _ hM)]
  rw [List.getElem?_eq_getElem hk] at hx
  injection hx with hx
  obtain ⟨h3, e3⟩ := List.getElem?_eq_some_iff.1 hx2
  rw [hx, ← show T[i + 1] = al (dl Nx M x (K.getD i 0 % M)) from e3, idx_get h.nd h3]
theorem MnA.cv2 : Cv (dl (mnX Nx M T al) M) M (List.range T.length) K ((List.range T.length).length * M) := by
  rw [List.length_range]
  intro e he x hx
  obtain ⟨h3, e3⟩ := List.getElem?_eq_some_iff.1 hx
  rw [List.length_range] at h3
  rw [List.getElem_range] at e3
  subst e3
  have hM : 0 < M := by
    rcases Nat.eq_zero_or_pos M with q | q
    · rw [q] at he; omega
    · exact q
  obtain ⟨i, hi, hk⟩ := h.cv e he T[e / M] (List.getElem?_eq_getElem h3)
  obtain ⟨h4, e4⟩ := List.getElem?_eq_some_iff.1 hi
  refine ⟨i, ?_, hk⟩
  rw [List.getElem?_range h4, mnX_dl h3 (Nat.mod_lt _ hM), ← show T[i] = al (dl Nx M T[e / M] (e % M)) from e4, idx_get h.nd h4]
/-- Whoever walks the least automaton finds its numbers in their order. -/
theorem MnA.walked {T2 K2 : List Nat} (h2 : Wk (dl (mnX Nx M T al) M) M 0 T2 K2 (T2.length * M)) (c2 : Cv (dl (mnX Nx M T al) M) M T2 K2 (T2.length * M)) (n2 : T2.Nodup) : T2 = List.range T.length ∧ K2 = K :=
  wk_uniq h2 c2 n2 h.wk2 h.cv2 List.nodup_range
end
/-! ### The small one -/
theorem rdN_of {W : World} {g : Nat} {L : List Int} {cs : Array Value} (h : W.heap[g]? = some (.cells cs 3 (0, 0))) (e : ∀ j (hj : j < L.length), cs[j]? = some (.int .i64 L[j])) : RdN W (some ⟨g, 0, none⟩) L := fun j hj => ⟨g, 0, rfl, cell_of h (by rw [Nat.zero_add]; exact e j hj)⟩
def smF : List Int := [1, 3]
def smX : List Int := [1, 2, 3, 0]
theorem sm_vd : vd (4 : Nat) (1 : Nat) (0 : Nat) smF smX = true := by decide
theorem sm_go : ∀ (u : List Nat), (∀ a ∈ u, a < 1) → inF smF (dls smX 1 0 u) = inF smF (dls smX 1 2 u) ∧ inF smF (dls smX 1 1 u) = inF smF (dls smX 1 3 u)
  | [], _ => ⟨by decide, by decide⟩
  | a :: u, h => by
    obtain rfl : a = 0 := by have := h a (by simp); omega
    have q := sm_go u (fun b hb => h b (by simp [hb]))
    exact ⟨q.2, q.1.symm⟩
theorem sm_ali : Ali smX (inF smF) 1 2 0 ∧ Ali smX (inF smF) 1 3 1 := ⟨fun u hu => (sm_go u hu).1.symm, fun u hu => (sm_go u hu).2.symm⟩
theorem sm_al {al : Nat → Nat} (h : ClA smX (inF smF) 4 1 al) : al 0 = 0 ∧ al 1 = 1 ∧ al 2 = 0 ∧ al 3 = 1 := by
  have h0 := h 0 (by omega)
  have h1 := h 1 (by omega)
  have h2 := h 2 (by omega)
  have h3 := h 3 (by omega)
  have a2 := h2.2.2 0 (by omega) sm_ali.1
  have a3 := h3.2.2 1 (by omega) sm_ali.2
  refine ⟨by omega, ?_, by omega, ?_⟩
  · have : al 1 ≠ 0 := fun e => by
      have q := h1.2.1.fin
      rw [e] at q
      exact absurd q (by decide)
    omega
  · have : al 3 ≠ 0 := fun e => by
      have q := h3.2.1.fin
      rw [e] at q
      exact absurd q (by decide)
    omega
theorem sm_min {B : Nat} {w : World} {vF vN : Value} {T K : List Nat} {al : Nat → Nat} (h : MnA 4 1 0 smF smX B w vF vN T K al) : T.length = 2 ∧ mnF smF T = [1] ∧ mnX smX 1 T al = [1, 0] := by
  obtain ⟨a0, a1, a2, a3⟩ := sm_al h.ca
  have p0 : (fun s a => al (dl smX 1 s a)) 0 0 = 1 := a1
  have p1 : (fun s a => al (dl smX 1 s a)) 1 0 = 0 := a2
  have w1 : Wk (fun s a => al (dl smX 1 s a)) 1 (al 0) [0, 1] [0] ([0, 1].length * 1) := ⟨rfl, by rw [a0]; rfl, fun i hi => by
    obtain rfl : i = 0 := by simpa using hi
    exact ⟨by decide, by decide, 0, rfl, congrArg some p0.symm⟩, fun i j hij hj => by
    have : j < 1 := hj
    omega⟩
  have c1 : Cv (fun s a => al (dl smX 1 s a)) 1 [0, 1] [0] ([0, 1].length * 1) := fun e he x hx => by
    have he : e < 2 := he
    match e, he with
    | 0, _ =>
      cases hx
      exact ⟨1, congrArg some p0.symm, fun j hj => by obtain rfl : j = 0 := by omega
                                                      decide⟩
    | 1, _ =>
      cases hx
      exact ⟨0, congrArg some p1.symm, fun j hj => by omega⟩
  obtain ⟨rfl, rfl⟩ := wk_uniq h.wk h.cv h.nd w1 c1 (by decide)
  refine ⟨rfl, by decide, ?_⟩
  unfold mnX lsN lsR
  simp only [List.length_cons, List.length_nil, List.take, List.flatMap_cons, List.flatMap_nil, List.range_succ, List.range_zero, List.nil_append, List.map_cons, List.map_nil, List.append_nil]
  have q0 : al (dl smX 1 0 0) = 1 := p0
  have q1 : al (dl smX 1 1 0) = 0 := p1
  rw [q0, q1]
  decide
theorem sm_walk {T K : List Nat} (h : Wk (dl smX 1) 1 0 T K (T.length * 1)) (c : Cv (dl smX 1) 1 T K (T.length * 1)) (n : T.Nodup) : T = [0, 1, 2, 3] ∧ K = [0, 1, 2] := by
  refine wk_uniq h c n ⟨rfl, rfl, fun i hi => ?_, fun i j hij hj => ?_⟩ (fun e he x hx => ?_) (by decide)
  · have hi : i < 3 := hi
    match i, hi with
    | 0, _ => exact ⟨by decide, by decide, 0, rfl, rfl⟩
    | 1, _ => exact ⟨by decide, by decide, 1, rfl, rfl⟩
    | 2, _ => exact ⟨by decide, by decide, 2, rfl, rfl⟩
  · have hj : j < 3 := hj
    have h2 : (i = 0 ∧ j = 1) ∨ (i = 0 ∧ j = 2) ∨ (i = 1 ∧ j = 2) := by omega
    rcases h2 with ⟨rfl, rfl⟩ | ⟨rfl, rfl⟩ | ⟨rfl, rfl⟩ <;> decide
  · have he : e < 4 := he
    match e, he with
    | 0, _ => cases hx; exact ⟨1, rfl, fun j hj => by obtain rfl : j = 0 := by omega
                                                      decide⟩
    | 1, _ => cases hx; exact ⟨2, rfl, fun j hj => by obtain rfl : j = 1 := by omega
                                                      decide⟩
    | 2, _ => cases hx; exact ⟨3, rfl, fun j hj => by obtain rfl : j = 2 := by omega
                                                      decide⟩
    | 3, _ => cases hx; exact ⟨0, rfl, fun j hj => by omega⟩
/-! ### The small one, asked -/
theorem sm8 (w : World) (g1 g2 : Nat) (h1 : RdN w (some ⟨g1, 0, none⟩) smF) (h2 : RdN w (some ⟨g2, 0, none⟩) smX) : Calls Try.prog 8 #[.agg #[.int .i64 4, .int .i64 1, .int .i64 0, .slice (some ⟨g1, 0, none⟩) 2 2, .slice (some ⟨g2, 0, none⟩) 4 4]] w fun e w' => ∃ bF cF bN cN, e = .returned (.tuple #[.agg #[.int .i64 2, .int .i64 1, .int .i64 0, .slice bF 1 cF, .slice bN 2 cN], .int .i64 0]) ∧ Hid (RdN w' bF [1] ∧ RdN w' bN [1, 0] ∧ Eqv smF smX [1] [1, 0] 1 0 0 ∧ vd (2 : Nat) (1 : Nat) (0 : Nat) [1] [1, 0] = true ∧ Below w.heap.size w w') := by
  refine (minimal_ok w 4 1 0 (some ⟨g1, 0, none⟩) (some ⟨g2, 0, none⟩) 2 2 4 4 smF smX h1 h2 rfl rfl (by decide) (by decide) sm_vd).mono ?_
  rintro e w' ⟨vF, vN, T, K, al, rfl, H⟩
  obtain ⟨hA, d⟩ := H.out
  obtain ⟨eT, eF, eX⟩ := sm_min hA
  have hf : OwI w' w.heap.size vF (mnF smF T) := hA.f
  have hn : OwI w' w.heap.size vN (mnX smX 1 T al) := hA.n
  have hq := hA.eqv sm_vd
  rw [eF, eX] at hq
  rw [eF] at hf
  rw [eX] at hn
  obtain ⟨bF, cF, rfl⟩ := own_slice hf
  obtain ⟨bN, cN, rfl⟩ := own_slice hn
  refine ⟨bF, cF, bN, cN, by rw [eT]; rfl, hide ⟨(owI_rd hf).2, (owI_rd hn).2, hq, by decide, d⟩⟩
theorem sm15 (w : World) (g1 g2 : Nat) (h1 : RdN w (some ⟨g1, 0, none⟩) smF) (h2 : RdN w (some ⟨g2, 0, none⟩) smX) : Calls Try.prog 15 #[.agg #[.int .i64 4, .int .i64 1, .int .i64 0, .slice (some ⟨g1, 0, none⟩) 2 2, .slice (some ⟨g2, 0, none⟩) 4 4], .int .i64 0, .int .i64 1] w fun e w' => ∃ b c, e = .returned (.tuple #[.slice b 0 c, .int .i64 0]) ∧ Below w.heap.size w w' := by
  refine (tell_ok w 4 1 0 (some ⟨g1, 0, none⟩) (some ⟨g2, 0, none⟩) 2 2 4 4 smF smX h1 h2 rfl rfl (by decide) (by decide) sm_vd 0 1 (by omega) (by omega)).mono ?_
  rintro e w' ⟨b, n, c, er, rfl, H⟩
  obtain ⟨d, h⟩ := H.out
  rcases h with ⟨_, _, _, _, ha⟩ | ⟨rfl, u, hu, ht⟩
  · exact absurd (ha.fin) (by decide)
  · have hu0 : u = [] := by
      cases u with
      | nil => rfl
      | cons a u =>
        have q := ht.2.2.2 [] (by simp) (by decide)
        have := rk_len (M := 1) (by omega) (A := []) (B := a :: u) (by simp) ht.1 (by simp)
        omega
    subst hu0
    obtain rfl : n = 0 := (owI_rd hu).1
    exact ⟨b, c, rfl, d⟩
theorem sm14 (w : World) (g1 g2 : Nat) (h1 : RdN w (some ⟨g1, 0, none⟩) smF) (h2 : RdN w (some ⟨g2, 0, none⟩) smX) : Calls Try.prog 14 #[.agg #[.int .i64 4, .int .i64 1, .int .i64 0, .slice (some ⟨g1, 0, none⟩) 2 2, .slice (some ⟨g2, 0, none⟩) 4 4]] w fun e w' => ∃ h, e = .returned (.tuple #[.slice (some ⟨h, 0, none⟩) 4 4, .int .i64 0]) ∧ Hid (RdN w' (some ⟨h, 0, none⟩) [0, 1, 0, 1] ∧ Below w.heap.size w w') := by
  refine (classes_ok w 4 1 0 (some ⟨g1, 0, none⟩) (some ⟨g2, 0, none⟩) 2 2 4 4 smF smX h1 h2 rfl rfl (by decide) (by decide) sm_vd).mono ?_
  rintro e w' ⟨h, rfl, al, H⟩
  obtain ⟨hm, hh, hc, d⟩ := H.out
  obtain ⟨a0, a1, a2, a3⟩ := sm_al hc
  refine ⟨h, rfl, hide ⟨fun j hj => ⟨h, 0, rfl, ?_⟩, d⟩⟩
  have hj : j < 4 := hj
  have z := hm.at j hj
  rw [Nat.zero_add, z]
  match j, hj with
  | 0, _ => rw [a0]; rfl
  | 1, _ => rw [a1]; rfl
  | 2, _ => rw [a2]; rfl
  | 3, _ => rw [a3]; rfl
theorem sm10 (w : World) (g1 g2 : Nat) (h1 : RdN w (some ⟨g1, 0, none⟩) smF) (h2 : RdN w (some ⟨g2, 0, none⟩) smX) : Calls Try.prog 10 #[.agg #[.int .i64 4, .int .i64 1, .int .i64 0, .slice (some ⟨g1, 0, none⟩) 2 2, .slice (some ⟨g2, 0, none⟩) 4 4]] w fun e w' => ∃ g bW cW, e = .returned (.tuple #[.slice (some ⟨g, 0, none⟩) 4 4, .int .i64 0]) ∧ Hid (w'.cell? ⟨g, 2, none⟩ = some (.slice bW 2 cW) ∧ RdN w' bW [0, 0] ∧ Below w.heap.size w w') := by
  refine (access_ok w 4 1 0 (some ⟨g1, 0, none⟩) (some ⟨g2, 0, none⟩) 2 2 4 4 smF smX h1 h2 rfl rfl (by decide) (by decide) sm_vd).mono ?_
  rintro e w' ⟨T, K, H, h⟩
  obtain ⟨hw, hc, hn, hl, d⟩ := H.out
  obtain ⟨rfl, rfl⟩ := sm_walk hw hc hn
  rcases h with ⟨h, _⟩ | ⟨_, g, val, rfl, HX⟩
  · exact absurd h (by decide)
  · obtain ⟨hg, hr⟩ := HX.out
    have q := hr.wd 2 2 (by omega) rfl
    have e2 : wdK 1 [0, 1, 2] 2 = [0, 0] := by decide
    rw [e2] at q
    obtain ⟨bW, cW, hv⟩ := own_slice q
    have z := hr.rw.at 2 (by omega)
    rw [hv] at z q
    exact ⟨g, bW, cW, rfl, hide ⟨z, (owI_rd q).2, d⟩⟩
theorem sm18 (w : World) (g1 g2 : Nat) (h1 : RdN w (some ⟨g1, 0, none⟩) smF) (h2 : RdN w (some ⟨g2, 0, none⟩) smX) (bF bN : Option Addr) (cF cN : Nat) (h3 : RdN w bF [1]) (h4 : RdN w bN [1, 0]) (hq : Eqv smF smX [1] [1, 0] 1 0 0) (hv : vd (2 : Nat) (1 : Nat) (0 : Nat) [1] [1, 0] = true) : Calls Try.prog 18 #[.agg #[.int .i64 4, .int .i64 1, .int .i64 0, .slice (some ⟨g1, 0, none⟩) 2 2, .slice (some ⟨g2, 0, none⟩) 4 4], .agg #[.int .i64 2, .int .i64 1, .int .i64 0, .slice bF 1 cF, .slice bN 2 cN]] w fun e w' => e = .returned (.tuple #[.bool true, .slice none 0 0, .int .i64 0]) ∧ Below w.heap.size w w' := by
  refine (equal_ok w 4 1 0 2 0 (some ⟨g1, 0, none⟩) (some ⟨g2, 0, none⟩) bF bN 2 2 4 4 1 cF 2 cN smF smX [1] [1, 0] h1 h2 h3 h4 rfl rfl rfl rfl (by decide) (by decide) (by decide) (by decide) sm_vd hv).mono ?_
  rintro e w' ⟨b, n, c, same, rfl, H⟩
  obtain ⟨d, hs, hd⟩ := H.out
  cases same with
  | true =>
    obtain ⟨rfl, rfl, rfl, _⟩ := hs rfl
    exact ⟨rfl, d⟩
  | false =>
    obtain ⟨u, _, ht⟩ := hd rfl
    exact absurd (hq u ht.1) ht.2.1
/-! ### It works -/
theorem sm_r1 : ∀ j (hj : j < smF.length), (#[.int .i64 1, .int .i64 3] : Array Value)[j]? = some (.int .i64 smF[j]) := fun j hj => by
  have h : j < 2 := hj
  match j, h with
  | 0, _ => rfl
  | 1, _ => rfl
theorem sm_r2 : ∀ j (hj : j < smX.length), (#[.int .i64 1, .int .i64 2, .int .i64 3, .int .i64 0] : Array Value)[j]? = some (.int .i64 smX[j]) := fun j hj => by
  have h : j < 4 := hj
  match j, h with
  | 0, _ => rfl
  | 1, _ => rfl
  | 2, _ => rfl
  | 3, _ => rfl
theorem sm_r3 : ∀ j (hj : j < [(0 : Int), 0].length), (#[.int .i64 0, .int .i64 0] : Array Value)[j]? = some (.int .i64 [(0 : Int), 0][j]) := fun j hj => by
  have h : j < 2 := hj
  match j, h with
  | 0, _ => rfl
  | 1, _ => rfl
theorem sm_r4 : ∀ j (hj : j < [(1 : Int)].length), (#[.int .i64 1] : Array Value)[j]? = some (.int .i64 [(1 : Int)][j]) := fun j hj => by
  have h : j < 1 := hj
  match j, h with
  | 0, _ => rfl
theorem sm_r5 : ∀ j (hj : j < [(1 : Int), 0].length), (#[.int .i64 1, .int .i64 0] : Array Value)[j]? = some (.int .i64 [(1 : Int), 0][j]) := fun j hj => by
  have h : j < 2 := hj
  match j, h with
  | 0, _ => rfl
  | 1, _ => rfl
theorem sm_r6 : ∀ j (hj : j < [(0 : Int), 1, 0, 1].length), (#[.int .i64 0, .int .i64 1, .int .i64 0, .int .i64 1] : Array Value)[j]? = some (.int .i64 [(0 : Int), 1, 0, 1][j]) := fun j hj => by
  have h : j < 4 := hj
  match j, h with
  | 0, _ => rfl
  | 1, _ => rfl
  | 2, _ => rfl
  | 3, _ => rfl
theorem same_ok (w : World) (aa ab : Option Addr) (la ca cb : Nat) (A : List Int) (hA : RdN w aa A) (hB : RdN w ab A) (hl : A.length = la) (bl : la ≤ 4194304) : Calls Try.prog 21 #[.slice aa la ca, .slice ab la cb] w fun e w' => e = .returned (.bool true) ∧ Below w.heap.size w w' := by
  have h := sameInts_any w aa ab la ca la cb A A hA hB hl hl bl bl
  rw [decide_eq_true rfl] at h
  exact h
def smP : MkP := fun x _ _ W => ∃ g1 g2, x = .agg #[.int .i64 4, .int .i64 1, .int .i64 0, .slice (some ⟨g1, 0, none⟩) 2 2, .slice (some ⟨g2, 0, none⟩) 4 4] ∧ RdN W (some ⟨g1, 0, none⟩) smF ∧ RdN W (some ⟨g2, 0, none⟩) smX
theorem smP_mono : MonoP smP := fun _ _ _ _ _ _ d ⟨g1, g2, e, a, b⟩ => ⟨g1, g2, e, a.on d, b.on d⟩
set_option maxRecDepth 100000 in
set_option maxHeartbeats 4000000 in
theorem works_any (w : World) : Calls Try.prog 7 #[] w fun e w' => e = .returned (.bool true) ∧ Below w.heap.size w w' := by
  go_enter Try.func7, Try.ntmps7
  go_upto_region 2 with (first | (go_at_call 30; refine (small_any w).mono ?_; rintro e wA ⟨g1, g2, rfl, HS1, DS1⟩; have RA1 : RdN wA (some ⟨g1, 0, none⟩) smF := rdN_of HS1.out.1 sm_r1; have RB1 : RdN wA (some ⟨g2, 0, none⟩) smX := rdN_of HS1.out.2.1 sm_r2; have T8 := sm8 wA g1 g2 RA1 RB1; have HA := hide DS1; clear RA1 RB1 DS1) | (go_at_call 8; refine T8.mono ?_; rintro e wB ⟨bF, cF, bN, cN, rfl, HM⟩; obtain ⟨bm, hbm⟩ : ∃ x, wB.heap.size = x := ⟨_, rfl⟩))
  obtain ⟨wC, hwC⟩ : ∃ W, wB.alloc (.cells #[.int .i64 2, .int .i64 1, .int .i64 0, .slice bF 1 cF, .slice bN 2 cN] 24) = W := ⟨_, rfl⟩
  try rw [hbm]
  rw [hwC]
  have DC : Below wB.heap.size wB wC := by rw [← hwC]; exact (Below.refl _ _).alloc (Nat.le_refl _) _
  have XC : wC.heap[bm]? = some (.cells #[.int .i64 2, .int .i64 1, .int .i64 0, .slice bF 1 cF, .slice bN 2 cN] 24 (0, 0)) := by rw [← hwC, ← hbm]; exact World.alloc_heap_new _ _
  have HC := hide (And.intro XC (And.intro (HM.out.1.on DC) (And.intro (HM.out.2.1.on DC) (And.intro HM.out.2.2.1 (And.intro HM.out.2.2.2.1 ((HA.out.trans (HM.out.2.2.2.2.mono HA.out.size)).trans (DC.mono (HA.out.trans (HM.out.2.2.2.2.mono HA.out.size)).size)))))))
  clear DC XC hwC hbm HM HA HS1 T8
  go_upto_region 3 with (first | (go_at_call 30; refine (small_any wC).mono ?_; rintro e wD ⟨g1, g2, rfl, HS2, DS2⟩; have RA2 : RdN wD (some ⟨g1, 0, none⟩) smF := rdN_of HS2.out.1 sm_r1; have RB2 : RdN wD (some ⟨g2, 0, none⟩) smX := rdN_of HS2.out.2.1 sm_r2; have T15 := sm15 wD g1 g2 RA2 RB2; have HD := hide DS2; clear RA2 RB2 DS2) | (go_at_call 15; refine T15.mono ?_; rintro e wE ⟨b1, c1, rfl, DE⟩; have HE := hide (HD.out.trans (DE.mono HD.out.size)); clear DE))
  clear T15 HS2 HD
  go_upto_region 4 with (first | (go_at_call 30; refine (small_any wE).mono ?_; rintro e wF ⟨g1, g2, rfl, HS3, DS3⟩; have RA3 : RdN wF (some ⟨g1, 0, none⟩) smF := rdN_of HS3.out.1 sm_r1; have RB3 : RdN wF (some ⟨g2, 0, none⟩) smX := rdN_of HS3.out.2.1 sm_r2; have T14 := sm14 wF g1 g2 RA3 RB3; have HF := hide (HE.out.trans (DS3.mono HE.out.size)); clear RA3 RB3 DS3) | (go_at_call 14; refine T14.mono ?_; rintro e wG ⟨hc, rfl, HCL⟩; have HG := hide (HF.out.trans (HCL.out.2.mono HF.out.size))))
  clear T14 HS3 HF HE
  have HB := hide (And.intro (blk_on HC.out.1 HG.out) (And.intro (HC.out.2.1.on HG.out) (And.intro (HC.out.2.2.1.on HG.out) (And.intro (HC.out.2.2.2.2.2.trans (HG.out.mono HC.out.2.2.2.2.2.size)) HCL.out.1))))
  have hmo : MonIL 0 [pI 0 (smP), vI 1 (.agg #[.int .i64 2, .int .i64 1, .int .i64 0, .slice bF 1 cF, .slice bN 2 cN]), vI 2 (.tuple #[.bool true, .slice none 0 0, .int .i64 0]), vI 3 (.tuple #[.bool true, .slice none 0 0, .int .i64 0]), vI 4 (.bool true), vI 5 (.slice none 0 0), vI 6 (.int .i64 0), vI 7 (.bool true), vI 8 (.slice none 0 0), vI 9 (.int .i64 0)] := ⟨pI_mono smP_mono, vI_mono _ _, vI_mono _ _, vI_mono _ _, vI_mono _ _, vI_mono _ _, vI_mono _ _, vI_mono _ _, vI_mono _ _, vI_mono _ _, trivial⟩
  refine wp_region_sl [pI 0 (smP), vI 1 (.agg #[.int .i64 2, .int .i64 1, .int .i64 0, .slice bF 1 cF, .slice bN 2 cN]), vI 2 (.tuple #[.bool true, .slice none 0 0, .int .i64 0]), vI 3 (.tuple #[.bool true, .slice none 0 0, .int .i64 0]), vI 4 (.bool true), vI 5 (.slice none 0 0), vI 6 (.int .i64 0), vI 7 (.bool true), vI 8 (.slice none 0 0), vI 9 (.int .i64 0)] (by kernel_rfl) (by kernel_rfl) (by kernel_rfl) (by kernel_rfl) hmo ⟨?o0, ?o1, ?o2, ?o3, ?o4, ?o5, ?o6, ?o7, ?o8, ?o9, trivial⟩ ?fin
  case o0 =>
    intro At yy W hy hb d hd K hK
    clear hd hy hb
    go_simp
    go_wp2_with (go_at_call 30; refine (small_any _).mono ?_; rintro e wa ⟨g1, g2, rfl, hs, da⟩)
    exact hK.out _ wa (stp_of hmo d da) ⟨g1, g2, if_pos rfl, rdN_of hs.out.1 sm_r1, rdN_of hs.out.2.1 sm_r2⟩
  case o1 =>
    intro At yy W hy hb d hd K hK
    have s1 : At.tmps.getD 1 undef = .pointer (some ⟨bm, 0, none⟩) := hb 1 rfl
    have s1' := s1
    rw [Array.getD_eq_getD_getElem?] at s1'
    clear hd hy hb
    have y0 : W.cell? ⟨bm, 0, none⟩ = some (.int .i64 2) := cell_of (blk_on HC.out.1 (HG.out.trans (d.mono HG.out.size))) rfl
    have y1 : W.cell? ⟨bm, 1, none⟩ = some (.int .i64 1) := cell_of (blk_on HC.out.1 (HG.out.trans (d.mono HG.out.size))) rfl
    have y2 : W.cell? ⟨bm, 2, none⟩ = some (.int .i64 0) := cell_of (blk_on HC.out.1 (HG.out.trans (d.mono HG.out.size))) rfl
    have y3 : W.cell? ⟨bm, 3, none⟩ = some (.slice bF 1 cF) := cell_of (blk_on HC.out.1 (HG.out.trans (d.mono HG.out.size))) rfl
    have y4 : W.cell? ⟨bm, 4, none⟩ = some (.slice bN 2 cN) := cell_of (blk_on HC.out.1 (HG.out.trans (d.mono HG.out.size))) rfl
    go_simp
    exact hK.out _ W (stp_of hmo d (Below.refl _ _)) (if_pos rfl)
  case o2 =>
    intro At yy W hy hb d hd K hK
    have f0 := hd ⟨0, .data⟩ (by simp) rfl rfl
    have e1 : yy 1 = .agg #[.int .i64 2, .int .i64 1, .int .i64 0, .slice bF 1 cF, .slice bN 2 cN] := by obtain ⟨_, _, _, _, e⟩ := hd ⟨1, .data⟩ (by simp) rfl rfl; exact e
    obtain ⟨lo0, hi0, hl0, hh0, g1, g2, e0, ra, rb⟩ := f0
    have s28 := (hy 0 _ 28 rfl rfl).trans e0
    have s28' := s28
    rw [Array.getD_eq_getD_getElem?] at s28'
    have s29 := (hy 1 _ 29 rfl rfl).trans e1
    have s29' := s29
    rw [Array.getD_eq_getD_getElem?] at s29'
    clear hd hy hb
    go_simp
    go_wp2_with (go_at_call 18; refine (sm18 _ g1 g2 ra rb bF bN cF cN ((HC.out.2.1.on HG.out).on d) ((HC.out.2.2.1.on HG.out).on d) HC.out.2.2.2.1 HC.out.2.2.2.2.1).mono ?_; rintro e wa ⟨rfl, da⟩)
    exact hK.out _ wa (stp_of hmo d da) (if_pos rfl)
  case o3 =>
    intro At yy W hy hb d hd K hK
    have e2 : yy 2 = .tuple #[.bool true, .slice none 0 0, .int .i64 0] := by obtain ⟨_, _, _, _, e⟩ := hd ⟨2, .data⟩ (by simp) rfl rfl; exact e
    have s30 := (hy 2 _ 30 rfl rfl).trans e2
    have s30' := s30
    rw [Array.getD_eq_getD_getElem?] at s30'
    clear hd hy hb
    go_simp
    exact hK.out _ W (stp_of hmo d (Below.refl _ _)) (if_pos rfl)
  case o4 =>
    intro At yy W hy hb d hd K hK
    have e3 : yy 3 = .tuple #[.bool true, .slice none 0 0, .int .i64 0] := by obtain ⟨_, _, _, _, e⟩ := hd ⟨3, .data⟩ (by simp) rfl rfl; exact e
    have s27 := (hy 3 _ 27 rfl rfl).trans e3
    have s27' := s27
    rw [Array.getD_eq_getD_getElem?] at s27'
    clear hd hy hb
    go_simp
    exact hK.out _ W (stp_of hmo d (Below.refl _ _)) (if_pos rfl)
  case o5 =>
    intro At yy W hy hb d hd K hK
    have e3 : yy 3 = .tuple #[.bool true, .slice none 0 0, .int .i64 0] := by obtain ⟨_, _, _, _, e⟩ := hd ⟨3, .data⟩ (by simp) rfl rfl; exact e
    have s27 := (hy 3 _ 27 rfl rfl).trans e3
    have s27' := s27
    rw [Array.getD_eq_getD_getElem?] at s27'
    clear hd hy hb
    go_simp
    exact hK.out _ W (stp_of hmo d (Below.refl _ _)) (if_pos rfl)
  case o6 =>
    intro At yy W hy hb d hd K hK
    have e3 : yy 3 = .tuple #[.bool true, .slice none 0 0, .int .i64 0] := by obtain ⟨_, _, _, _, e⟩ := hd ⟨3, .data⟩ (by simp) rfl rfl; exact e
    have s27 := (hy 3 _ 27 rfl rfl).trans e3
    have s27' := s27
    rw [Array.getD_eq_getD_getElem?] at s27'
    clear hd hy hb
    go_simp
    exact hK.out _ W (stp_of hmo d (Below.refl _ _)) (if_pos rfl)
  case o7 =>
    intro At yy W hy hb d hd K hK
    have e4 : yy 4 = .bool true := by obtain ⟨_, _, _, _, e⟩ := hd ⟨4, .data⟩ (by simp) rfl rfl; exact e
    have s31 := (hy 4 _ 31 rfl rfl).trans e4
    have s31' := s31
    rw [Array.getD_eq_getD_getElem?] at s31'
    clear hd hy hb
    go_simp
    exact hK.out _ W (stp_of hmo d (Below.refl _ _)) (if_pos rfl)
  case o8 =>
    intro At yy W hy hb d hd K hK
    have e5 : yy 5 = .slice none 0 0 := by obtain ⟨_, _, _, _, e⟩ := hd ⟨5, .data⟩ (by simp) rfl rfl; exact e
    have s32 := (hy 5 _ 32 rfl rfl).trans e5
    have s32' := s32
    rw [Array.getD_eq_getD_getElem?] at s32'
    clear hd hy hb
    go_simp
    exact hK.out _ W (stp_of hmo d (Below.refl _ _)) (if_pos rfl)
  case o9 =>
    intro At yy W hy hb d hd K hK
    have e6 : yy 6 = .int .i64 0 := by obtain ⟨_, _, _, _, e⟩ := hd ⟨6, .data⟩ (by simp) rfl rfl; exact e
    have s33 := (hy 6 _ 33 rfl rfl).trans e6
    have s33' := s33
    rw [Array.getD_eq_getD_getElem?] at s33'
    clear hd hy hb
    go_simp
    exact hK.out _ W (stp_of hmo d (Below.refl _ _)) (if_pos rfl)
  case fin =>
    intro yy lo hi W hM
    show wpList _ _ _ [] _ _
    have e1 : yy 1 = .agg #[.int .i64 2, .int .i64 1, .int .i64 0, .slice bF 1 cF, .slice bN 2 cN] := hM.fact 1 (by simp) rfl (notR_all 1 rfl)
    have e2 : yy 2 = .tuple #[.bool true, .slice none 0 0, .int .i64 0] := hM.fact 2 (by simp) rfl (notR_all 2 rfl)
    have e3 : yy 3 = .tuple #[.bool true, .slice none 0 0, .int .i64 0] := hM.fact 3 (by simp) rfl (notR_all 3 rfl)
    have e4 : yy 4 = .bool true := hM.fact 4 (by simp) rfl (notR_all 4 rfl)
    have e5 : yy 5 = .slice none 0 0 := hM.fact 5 (by simp) rfl (notR_all 5 rfl)
    have e6 : yy 6 = .int .i64 0 := hM.fact 6 (by simp) rfl (notR_all 6 rfl)
    have e7 : yy 7 = .bool true := hM.fact 7 (by simp) rfl (notR_all 7 rfl)
    have e8 : yy 8 = .slice none 0 0 := hM.fact 8 (by simp) rfl (notR_all 8 rfl)
    have e9 : yy 9 = .int .i64 0 := hM.fact 9 (by simp) rfl (notR_all 9 rfl)
    have dd := hM.d
    simp only [fills, Act.put, List.take, List.length, List.setIfInBounds_toArray, List.set_cons_zero, List.set_cons_succ, e1, e2, e3, e4, e5, e6, e7, e8, e9]
    obtain ⟨g1, g2, e0, _, _⟩ := hM.fact 0 (by simp) rfl (notR_all 0 rfl)
    rw [e0]
    clear hM hmo e1 e2 e3 e4 e5 e6 e7 e8 e9 e0
    have HH := hide dd
    clear dd
    go_upto_region 6 with (first | (go_at_call 30; refine (small_any W).mono ?_; rintro e wI ⟨g1, g2, rfl, HS5, DS5⟩; have RA5 : RdN wI (some ⟨g1, 0, none⟩) smF := rdN_of HS5.out.1 sm_r1; have RB5 : RdN wI (some ⟨g2, 0, none⟩) smX := rdN_of HS5.out.2.1 sm_r2; have T10 := sm10 wI g1 g2 RA5 RB5; have HI := hide (HH.out.trans (DS5.mono HH.out.size)); clear RA5 RB5 DS5) | (go_at_call 10; refine T10.mono ?_; rintro e wJ ⟨ga, bW, cW, rfl, HAC⟩; have HJ := hide (HI.out.trans (HAC.out.2.2.mono HI.out.size))))
    clear T10 HS5 HI
    have ya := HAC.out.1
    have TS := same_ok (wJ.alloc (.cells #[.int .i64 0, .int .i64 0] 3)) bW (some ⟨wJ.heap.size, 0, none⟩) 2 cW 2 [0, 0] (HAC.out.2.1.on ((Below.refl _ _).alloc (Nat.le_refl _) _)) (rdN_of (World.alloc_heap_new _ _) sm_r3) rfl (by decide)
    go_upto_region 8 with (go_at_call 21; refine TS.mono ?_; rintro e wK ⟨rfl, DK⟩)
    have HKK : Hid (Below wG.heap.size wG wK) := hide (HJ.out.trans ((((Below.refl _ _).alloc (Nat.le_refl _) _).trans (DK.mono (by simp))).mono HJ.out.size))
    have HK2 : Hid (Below wJ.heap.size wJ wK) := hide (((Below.refl _ _).alloc (Nat.le_refl _) _).trans (DK.mono (by simp)))
    clear DK TS ya
    have XK := blk_on HB.out.1 HKK.out
    have y0 : wK.cell? ⟨bm, 0, none⟩ = some (.int .i64 2) := cell_of XK rfl
    have y3 : wK.cell? ⟨bm, 3, none⟩ = some (.slice bF 1 cF) := cell_of XK rfl
    have AK : Below wK.heap.size wK (wK.alloc (.cells #[.int .i64 1] 3)) := (Below.refl _ _).alloc (Nat.le_refl _) _
    have TS1 := same_ok (wK.alloc (.cells #[.int .i64 1] 3)) bF (some ⟨wK.heap.size, 0, none⟩) 1 cF 1 [1] ((HB.out.2.1.on HKK.out).on AK) (rdN_of (World.alloc_heap_new _ _) sm_r4) rfl (by decide)
    have HAK := hide AK
    clear AK XK
    go_wp2_with fail
    go_at_call 21
    refine TS1.mono ?_
    rintro e wL ⟨rfl, DL⟩
    have HL2 : Hid (Below wK.heap.size wK wL) := hide (HAK.out.trans (DL.mono (by simp)))
    have HLL : Hid (Below wG.heap.size wG wL) := hide (HKK.out.trans (HL2.out.mono HKK.out.size))
    clear DL TS1 y0 y3
    have y4 : wL.cell? ⟨bm, 4, none⟩ = some (.slice bN 2 cN) := cell_of (blk_on HB.out.1 HLL.out) rfl
    have AL : Below wL.heap.size wL (wL.alloc (.cells #[.int .i64 1, .int .i64 0] 3)) := (Below.refl _ _).alloc (Nat.le_refl _) _
    have TS2 := same_ok (wL.alloc (.cells #[.int .i64 1, .int .i64 0] 3)) bN (some ⟨wL.heap.size, 0, none⟩) 2 cN 2 [1, 0] ((HB.out.2.2.1.on HLL.out).on AL) (rdN_of (World.alloc_heap_new _ _) sm_r5) rfl (by decide)
    have HAL := hide AL
    clear AL
    go_wp2_with fail
    go_at_call 21
    refine TS2.mono ?_
    rintro e wM ⟨rfl, DM⟩
    have HM2 : Hid (Below wL.heap.size wL wM) := hide (HAL.out.trans (DM.mono (by simp)))
    have HMM : Hid (Below wG.heap.size wG wM) := hide (HLL.out.trans (HM2.out.mono HLL.out.size))
    clear DM TS2 y4
    have AM : Below wM.heap.size wM (wM.alloc (.cells #[.int .i64 0, .int .i64 1, .int .i64 0, .int .i64 1] 3)) := (Below.refl _ _).alloc (Nat.le_refl _) _
    have TS3 := same_ok (wM.alloc (.cells #[.int .i64 0, .int .i64 1, .int .i64 0, .int .i64 1] 3)) (some ⟨hc, 0, none⟩) (some ⟨wM.heap.size, 0, none⟩) 4 4 4 [0, 1, 0, 1] ((HB.out.2.2.2.2.on HMM.out).on AM) (rdN_of (World.alloc_heap_new _ _) sm_r6) rfl (by decide)
    have HAM := hide AM
    clear AM
    go_wp2_with fail
    go_at_call 21
    refine TS3.mono ?_
    rintro e wN ⟨rfl, DN⟩
    have HNN : Hid (Below w.heap.size w wN) := hide (by
      have d1 := HMM.out.trans ((HAM.out.trans (DN.mono (by simp))).mono HMM.out.size)
      exact HB.out.2.2.2.1.trans (d1.mono HB.out.2.2.2.1.size))
    clear DN TS3
    go_wp2_with fail
    go_ret
    exact ⟨rfl, HNN.out⟩
/-! ### The words of states -/
theorem full_mem {N : Nat} {T : List Nat} (hl : T.length = N) (hn : T.Nodup) (lt : ∀ q ∈ T, q < N) {s : Nat} (hs : s < N) : s ∈ T := Classical.byContradiction fun hm => by
  have := nodup_le (List.nodup_cons.2 ⟨hm, hn⟩) (N := N) (fun q hq => by
    rcases List.mem_cons.1 hq with e | e
    · rw [e]; exact hs
    · exact lt q e)
  rw [List.length_cons] at this
  omega
section
variable {N M st : Nat} {Nx : List Int} {T K : List Nat} (hl : T.length = N) (hw : Wk (dl Nx M) M st T K (T.length * M))
include hl hw
end
end Go.Proofs.Ytocoghljmlpdeaa
namespace Go.Proofs.Ytocoghljmlpdeaa.frame
open Go.ChangeShapes Go.WideShapes Go.ChangeAt Go.RowKit Go.Joins Go.Deep
theorem own : ownKnob Try.prog.godebug = none := by kernel_rfl
theorem laidOut : laidOutB Try.prog = true := by kernel_rfl
theorem cells3 : Try.prog.cellsOf 3 = 1 := by kernel_rfl
theorem cellsI : Try.prog.cellsOf 22 = 1 := by kernel_rfl
theorem bulk_pos {H : Type} (d : DataW H) : 0 < Rows.uptoBulk d := by
  cases d
  case lit l => cases l <;> simp [Rows.uptoBulk]
  all_goals simp [Rows.uptoBulk]
theorem bulk_list {H : Type} (l : List (DataW H)) : l.length ≤ Rows.uptoBulkAll l ∧ ∀ d ∈ l, Rows.uptoBulk d ≤ Rows.uptoBulkAll l := by
  induction l with
  | nil => exact ⟨Nat.zero_le _, fun s hs => by cases hs⟩
  | cons x r ih =>
    have e : Rows.uptoBulkAll (x :: r) = Rows.uptoBulk x + Rows.uptoBulkAll r := by simp [Rows.uptoBulkAll]
    have := bulk_pos x
    rw [e]
    refine ⟨by simp; omega, fun s hs => ?_⟩
    rcases List.mem_cons.1 hs with rfl | h
    · omega
    · have := ih.2 s h; omega
theorem list1 {α : Type} {l : List α} (h : l.length = 1) : ∃ c0, l = [c0] := by
  match l, h with
  | [c0], _ => exact ⟨c0, rfl⟩
set_option maxRecDepth 100000 in
/-- A list that came in, opened. -/
theorem list_open {H : Type} {enc : TypeId × Value → H} {W : World} {n : Nat} {v : Value} {y : DataW H × List MemPlace} {T e sz : Nat} {α : Type} [Inhabited α] (At : Nat → Nat → α → Prop) (Z : α → Nat → Prop) (hZ : ∀ x a b, a ≤ b → Z x a → Z x b)
    (hT : Try.prog.underlying T = some (.slice e)) (hc : Try.prog.cellsOf e = sz)
    (item : ∀ {n' : Nat} {a : Addr} {cs : List Value} {z : DataW H × List MemPlace}, W.cells? 0 a sz = some cs → DataW.trod enc Try.prog W 0 (fun _ => true) true n' e cs = some z → ∃ x : α, At a.block a.off x ∧ a.spot = none ∧ Z x (Rows.uptoBulk z.1))
    (h : DataW.trod enc Try.prog W 0 (fun _ => true) true n T [v] = some y) :
    ∃ aL cL, ∃ L : List α, v = .slice aL L.length cL ∧ (∀ (k : Nat) (hk : k < L.length), ∃ g o, aL = some ⟨g, o, none⟩ ∧ At g (o + k * sz) L[k]) ∧ L.length ≤ Rows.uptoBulk y.1 ∧ ∀ x ∈ L, Z x (Rows.uptoBulk y.1) := by
  rcases open_slice hT h with ⟨hcs, _⟩ | ⟨a, len, cap, m, n', D, Pl, hcs, _, hl, _, hmm, hy, hx⟩
  · simp only [List.cons.injEq, and_true] at hcs
    exact ⟨none, 0, [], hcs, fun k hk => by simp at hk, by simp, fun s hs => by cases hs⟩
  · simp only [List.cons.injEq, and_true] at hcs
    simp only [if_true] at hmm
    have hsp : 0 < len → a.spot = none := by
      intro h0
      obtain ⟨cs', h1, h2⟩ := hx 0 (by omega)
      rw [hc] at h1
      obtain ⟨x, _, sp, _⟩ := item h1 h2
      simpa [Addr.add] using sp
    have each : ∀ i, i < len → ∃ x : α, At a.block (a.off + i * sz) x ∧ a.spot = none ∧ Z x (Rows.uptoBulk (D i)) := by
      intro i hi
      obtain ⟨cs', h1, h2⟩ := hx i (by omega)
      rw [hc] at h1
      obtain ⟨x, o, _, z⟩ := item h1 h2
      obtain ⟨ab, ao, spot⟩ := a
      have hs : spot = none := hsp (by omega)
      subst hs
      rw [Addr.add_lit] at o
      exact ⟨x, o, rfl, z⟩
    have hb := bulk_list (H := H) ((List.range len).map D)
    have hyb : Rows.uptoBulkAll ((List.range len).map D) ≤ Rows.uptoBulk y.1 := by rw [hy]; simp only [Rows.uptoBulk]; omega
    obtain ⟨q, hq⟩ := choose_lt each
    refine ⟨some a, cap, (List.range len).map q, by simpa using hcs, fun k hk => ?_, ?_, fun x hx2 => ?_⟩
    · have hk' : k < len := by simpa using hk
      obtain ⟨ab, ao, spot⟩ := a
      have hsp : spot = none := (hq k hk').2.1
      subst hsp
      refine ⟨ab, ao, rfl, ?_⟩
      have := (hq k hk').1
      simpa using this
    · have := hb.1
      simp at this
      simp
      omega
    · obtain ⟨i, hi, rfl⟩ := List.mem_map.1 hx2
      have hi' := List.mem_range.1 hi
      have h1 := (hq i hi').2.2
      have h2 := hb.2 (D i) (List.mem_map_of_mem hi)
      exact hZ _ _ _ (by omega) h1
theorem list5 {α : Type} {l : List α} (h : l.length = 5) : ∃ c0 c1 c2 c3 c4, l = [c0, c1, c2, c3, c4] := by
  match l, h with
  | [c0, c1, c2, c3, c4], _ => exact ⟨c0, c1, c2, c3, c4, rfl⟩
theorem num_item {H : Type} {enc : TypeId × Value → H} {W : World} {n : Nat} {a : Addr} {cs : List Value} {y : DataW H × List MemPlace} (h1 : W.cells? 0 a 1 = some cs) (h : DataW.trod enc Try.prog W 0 (fun _ => true) true n 3 cs = some y) :
    ∃ x : Int, W.cell? ⟨a.block, a.off, none⟩ = some (.int .i64 x) ∧ a.spot = none := by
  obtain ⟨_, hlen, hcell⟩ := World.cells?_some h1
  obtain ⟨v0, rfl⟩ := list1 hlen
  obtain ⟨k, e1, _, _⟩ := DataW.trod_int Try.underlying3 h
  simp only [List.cons.injEq, and_true] at e1
  subst e1
  have c0 := hcell 0 (by omega)
  obtain ⟨ab, ao, spot⟩ := a
  have hspot : spot = none := by simpa [Addr.add] using World.cell?_spot c0
  subst hspot
  rw [Addr.add_lit] at c0
  exact ⟨k, c0, rfl⟩
/-- A list of ints that came in, opened. -/
theorem nums_open {H : Type} {enc : TypeId × Value → H} {W : World} {n : Nat} {v : Value} {y : DataW H × List MemPlace} (h : DataW.trod enc Try.prog W 0 (fun _ => true) true n 22 [v] = some y) :
    ∃ (a : Option Addr) (c : Nat) (L : List Int), v = .slice a L.length c ∧ RdN W a L ∧ L.length ≤ Rows.uptoBulk y.1 := by
  obtain ⟨a, k, L, rfl, hL, l1, _⟩ := list_open (α := Int) (fun g o x => W.cell? ⟨g, o, none⟩ = some (.int .i64 x)) (fun _ _ => True) (fun _ _ _ _ q => q) Try.underlying22 cells3 (fun h1 h2 => by obtain ⟨x, q, s⟩ := num_item h1 h2; exact ⟨x, q, s, trivial⟩) h
  refine ⟨a, k, L, rfl, fun k hk => ?_, l1⟩
  obtain ⟨g, o, e, q⟩ := hL k hk
  exact ⟨g, o, e, by rw [Nat.mul_one] at q; exact q⟩
theorem cellsD : Try.prog.cellsOf 24 = 5 := by kernel_rfl
theorem cellsAsk : Try.prog.cellsOf 26 = 13 := by kernel_rfl
theorem list13 {α : Type} {l : List α} (h : l.length = 13) : ∃ a b c d e f g h i j k o p, l = [a, b, c, d, e, f, g, h, i, j, k, o, p] := by
  match l, h with
  | [a, b, c, d, e, f, g, h, i, j, k, o, p], _ => exact ⟨a, b, c, d, e, f, g, h, i, j, k, o, p, rfl⟩
/-- A complete automaton that came in, opened. -/
theorem dfa_open {H : Type} {enc : TypeId × Value → H} {W : World} {n : Nat} {v0 v1 v2 v3 v4 : Value} {y : DataW H × List MemPlace} (h : DataW.trod enc Try.prog W 0 (fun _ => true) true n 24 [v0, v1, v2, v3, v4] = some y) :
    ∃ (nn mm ss : Int) (a1 a2 : Option Addr) (c1 c2 : Nat) (Fi Nx : List Int), v0 = .int .i64 nn ∧ v1 = .int .i64 mm ∧ v2 = .int .i64 ss ∧ v3 = .slice a1 Fi.length c1 ∧ v4 = .slice a2 Nx.length c2 ∧ RdN W a1 Fi ∧ RdN W a2 Nx ∧ Fi.length ≤ Rows.uptoBulk y.1 ∧ Nx.length ≤ Rows.uptoBulk y.1 := by
  obtain ⟨ys, n2, _, hx2, hl2, hlen2, hfl2⟩ := DataW.trod_struct Try.underlying24 h
  obtain ⟨z0, z1, z2, z3, z4, rfl⟩ := list5 hlen2
  have g0 := hfl2 0 _ rfl
  have g1 := hfl2 1 _ rfl
  have g2 := hfl2 2 _ rfl
  have g3 := hfl2 3 _ rfl
  have g4 := hfl2 4 _ rfl
  simp [cells3, cellsI] at g0 g1 g2 g3 g4
  obtain ⟨nn, e0, _, _⟩ := DataW.trod_int Try.underlying3 g0
  obtain ⟨mm, e1, _, _⟩ := DataW.trod_int Try.underlying3 g1
  obtain ⟨ss, e2, _, _⟩ := DataW.trod_int Try.underlying3 g2
  simp only [List.cons.injEq, and_true] at e0 e1 e2
  have hb0 : Rows.uptoBulk z3.1 ≤ Rows.uptoBulk y.1 ∧ Rows.uptoBulk z4.1 ≤ Rows.uptoBulk y.1 := by
    rw [hx2]
    simp only [List.map_cons, List.map_nil, Rows.uptoBulk, Rows.uptoBulkAll]
    exact ⟨by omega, by omega⟩
  obtain ⟨a1, k1, Fi, e3, hFi, l1⟩ := nums_open g3
  obtain ⟨a2, k2, Nx, e4, hNx, l2⟩ := nums_open g4
  exact ⟨nn, mm, ss, a1, a2, k1, k2, Fi, Nx, e0, e1, e2, e3, e4, hFi, hNx, by omega, by omega⟩
set_option maxRecDepth 100000 in
/-- Two complete automata, two states and a word that came in, opened. -/
theorem ask_in {H : Type} {enc : TypeId × Value → H} {W : World} {base : Nat} {v : Value} {d : DataW H} {p : List MemPlace} (hv : Value.okWide Try.prog W .any base 26 v) (h : DataW.Trod enc Try.prog W 0 (fun _ => true) true 26 v d p) (hk : Rows.uptoBulk d ≤ 1048576) :
    ∃ (N M st N2 M2 s2 S T : Int) (aF aN bF bN aW : Option Addr) (cF cN dF dN cW : Nat) (Fi Nx F2 X2 Wd : List Int), v = .agg #[.int .i64 N, .int .i64 M, .int .i64 st, .slice aF Fi.length cF, .slice aN Nx.length cN, .int .i64 N2, .int .i64 M2, .int .i64 s2, .slice bF F2.length dF, .slice bN X2.length dN, .int .i64 S, .int .i64 T, .slice aW Wd.length cW] ∧ RdN W aF Fi ∧ RdN W aN Nx ∧ RdN W bF F2 ∧ RdN W bN X2 ∧ RdN W aW Wd ∧ Fi.length ≤ 1048576 ∧ Nx.length ≤ 1048576 ∧ F2.length ≤ 1048576 ∧ X2.length ≤ 1048576 ∧ Wd.length ≤ 1048576 := by
  obtain ⟨cs, rfl, hsz⟩ := okWide_struct Try.underlying26 hv
  obtain ⟨l⟩ := cs
  have hl13 : l.length = 13 := hsz.trans cellsAsk
  obtain ⟨x0, x1, x2, x3, x4, x5, x6, x7, x8, x9, x10, x11, x12, rfl⟩ := list13 hl13
  obtain ⟨fuel, hf⟩ := h
  obtain ⟨xs, n, _, hx, hl, hlen, hfl⟩ := DataW.trod_struct Try.underlying26 hf
  obtain ⟨y0, y1, y2, y3, y4, rfl⟩ := list5 hlen
  have h0 := hfl 0 _ rfl
  have h1 := hfl 1 _ rfl
  have h2 := hfl 2 _ rfl
  have h3 := hfl 3 _ rfl
  have h4 := hfl 4 _ rfl
  simp [Value.cells, cellsI, cellsD, cells3] at h0 h1 h2 h3 h4
  simp only [Prod.mk.injEq] at hx
  rw [hx.1] at hk
  simp only [List.map_cons, List.map_nil, Rows.uptoBulk, Rows.uptoBulkAll] at hk
  obtain ⟨N, M, st, aF, aN, cF, cN, Fi, Nx, rfl, rfl, rfl, rfl, rfl, rF, rN, l1, l2⟩ := dfa_open h0
  obtain ⟨N2, M2, s2, bF, bN, dF, dN, F2, X2, rfl, rfl, rfl, rfl, rfl, rF2, rN2, l3, l4⟩ := dfa_open h1
  obtain ⟨S, q2, _, _⟩ := DataW.trod_int Try.underlying3 h2
  obtain ⟨T, q3, _, _⟩ := DataW.trod_int Try.underlying3 h3
  simp only [List.cons.injEq, and_true] at q2 q3
  subst q2 q3
  obtain ⟨aW, cW, Wd, rfl, rW, l5⟩ := nums_open h4
  exact ⟨N, M, st, N2, M2, s2, S, T, aF, aN, bF, bN, aW, cF, cN, dF, dN, cW, Fi, Nx, F2, X2, Wd, rfl, rF, rN, rF2, rN2, rW, by omega, by omega, by omega, by omega, by omega⟩
end Go.Proofs.Ytocoghljmlpdeaa.frame
namespace Go.Proofs.Ytocoghljmlpdeaa
open Go.RowKit Go.Maps
attribute [local go_sem] Oper.semAt_some
/-! ### The reference: in, place, longer -/
set_option maxRecDepth 100000 in
set_option maxHeartbeats 1000000 in
/-- Is a number one of a list's? -/
theorem in_any (w : World) (ao : Option Addr) (lL cL : Nat) (L : List Int) (x : Int) (hr : RdN w ao L) (hl : L.length = lL) (bl : lL ≤ 4194304) :
    Calls Try.prog 49 #[.slice ao lL cL, .int .i64 x] w fun e w' => e = .returned (.bool (decide (x ∈ L))) ∧ w' = w := by
  have H := hide (And.intro hr hl)
  obtain ⟨q, hq⟩ : ∃ q, decide (x ∈ L) = q := ⟨_, rfl⟩
  rw [hq]
  have HQ := hide hq
  clear hr hl hq
  go_enter Try.func49, Try.ntmps49
  go_wp2
  go_loopw [5] (fun iv wr => ∃ i : Nat, i ≤ lL ∧ iv = .int .i64 i ∧ Hid (x ∉ L.take i ∧ wr = w)) (fun iv _ => lL - (intOf iv).toNat)
  case atStart => exact ⟨0, Nat.zero_le _, rfl, hide ⟨by simp, rfl⟩⟩
  case round =>
    obtain ⟨i, hi, rfl, HY⟩ := hrel
    obtain rfl : wr = w := HY.out.2
    by_cases hlt : i < lL
    · have l0 : (i : Int) < (lL : Int) := by omega
      have l1 : (0 : Int) ≤ (i : Int) := by omega
      have hiA : i < L.length := by have := H.out.2; omega
      obtain ⟨g, o, rfl, c⟩ := H.out.1 i hiA
      by_cases hx : L[i] = x
      · rw [hx] at c
        have hm : x ∈ L := by rw [← hx]; exact List.getElem_mem hiA
        obtain rfl : true = q := by rw [← HQ.out]; symm; simpa using hm
        clear hx hm
        go_wp2
        go_ret
        exact ⟨rfl, rfl⟩
      · have HX := hide (show x ∉ L.take (i + 1) by
          rw [List.take_add_one, List.getElem?_eq_getElem hiA]
          intro hm
          rcases List.mem_append.1 hm with e | e
          · exact HY.out.1 e
          · simp at e
            exact hx e.symm)
        have HN := hide hx
        clear hx
        generalize hy : L[i] = y at *
        have hne : ¬ y = x := HN.out
        clear hy HN
        go_wp2
        go_roundw
        case rel => exact ⟨i + 1, by omega, by go_num, hide (by simpa using HX.out)⟩
        case measure => simp [intOf]; omega
    · have l0 : ¬ (i : Int) < (lL : Int) := by omega
      obtain rfl : i = lL := by omega
      obtain rfl : false = q := by
        have e := HY.out.1
        rw [List.take_of_length_le (by have := H.out.2; omega)] at e
        rw [← HQ.out]
        symm
        simpa using e
      go_wp2
      go_ret
      exact ⟨rfl, rfl⟩
/-- The place of a number in a list; -1. -/
def plF (L : List Int) (x : Int) : Int := if x ∈ L then (L.idxOf x : Int) else -1
theorem idx_at {L : List Int} {x : Int} : ∀ {i : Nat} (h : i < L.length), x ∉ L.take i → L[i] = x → L.idxOf x = i := by
  induction L with
  | nil => intro i h; simp at h
  | cons y l ih =>
    intro i h hn he
    cases i with
    | zero =>
      have e : y = x := he
      subst e
      exact List.idxOf_cons_self
    | succ i =>
      rw [List.take_succ_cons, List.mem_cons, not_or] at hn
      have hz : (y == x) = false := by simpa using fun e : y = x => hn.1 e.symm
      rw [List.idxOf_cons, hz, cond_false, ih (by simpa using h) hn.2 (by simpa using he)]
set_option maxRecDepth 100000 in
set_option maxHeartbeats 1000000 in
theorem place_any (w : World) (ao : Option Addr) (lL cL : Nat) (L : List Int) (x : Int) (hr : RdN w ao L) (hl : L.length = lL) (bl : lL ≤ 4194304) :
    Calls Try.prog 50 #[.slice ao lL cL, .int .i64 x] w fun e w' => e = .returned (.int .i64 (plF L x)) ∧ w' = w := by
  have H := hide (And.intro hr hl)
  obtain ⟨q, hq⟩ : ∃ q, plF L x = q := ⟨_, rfl⟩
  rw [hq]
  have HQ := hide hq
  clear hr hl hq
  go_enter Try.func50, Try.ntmps50
  go_wp2
  go_loopw [5] (fun iv wr => ∃ i : Nat, i ≤ lL ∧ iv = .int .i64 i ∧ Hid (x ∉ L.take i ∧ wr = w)) (fun iv _ => lL - (intOf iv).toNat)
  case atStart => exact ⟨0, Nat.zero_le _, rfl, hide ⟨by simp, rfl⟩⟩
  case round =>
    obtain ⟨i, hi, rfl, HY⟩ := hrel
    obtain rfl : wr = w := HY.out.2
    by_cases hlt : i < lL
    · have l0 : (i : Int) < (lL : Int) := by omega
      have l1 : (0 : Int) ≤ (i : Int) := by omega
      have hiA : i < L.length := by have := H.out.2; omega
      obtain ⟨g, o, rfl, c⟩ := H.out.1 i hiA
      by_cases hx : L[i] = x
      · have hm : x ∈ L := by rw [← hx]; exact List.getElem_mem hiA
        obtain rfl : (i : Int) = q := by rw [← HQ.out]; unfold plF; rw [if_pos hm, idx_at hiA HY.out.1 hx]
        rw [hx] at c
        clear hx hm
        go_wp2
        go_ret
        exact ⟨rfl, rfl⟩
      · have HX := hide (show x ∉ L.take (i + 1) by
          rw [List.take_add_one, List.getElem?_eq_getElem hiA]
          intro hm
          rcases List.mem_append.1 hm with e | e
          · exact HY.out.1 e
          · simp at e
            exact hx e.symm)
        have HN := hide hx
        clear hx
        generalize hy : L[i] = y at *
        have hne : ¬ y = x := HN.out
        clear hy HN
        go_wp2
        go_roundw
        case rel => exact ⟨i + 1, by omega, by go_num, hide (by simpa using HX.out)⟩
        case measure => simp [intOf]; omega
    · have l0 : ¬ (i : Int) < (lL : Int) := by omega
      obtain rfl : i = lL := by omega
      obtain rfl : -1 = q := by
        have e := HY.out.1
        rw [List.take_of_length_le (by have := H.out.2; omega)] at e
        rw [← HQ.out]
        unfold plF
        rw [if_neg e]
      go_wp2
      go_ret
      exact ⟨rfl, rfl⟩
set_option maxRecDepth 100000 in
set_option maxHeartbeats 1000000 in
/-- A word with one symbol more. -/
theorem longer_any (w : World) (ao : Option Addr) (L : List Int) (cp lL : Nat) (y : Int) (hr : Hid (RdN w ao L)) (hll : L.length = lL) (hl : lL ≤ 16777215) :
    Calls Try.prog 67 #[.slice ao lL cp, .int .i64 y] w fun e w' => ∃ b c, e = .returned (.slice b (lL + 1) c) ∧ Hid (OwI w' w.heap.size (.slice b (lL + 1) c) (L ++ [y]) ∧ Below w.heap.size w w') := by
  subst hll
  obtain ⟨i3, hi3, hz30, hz31, hz32⟩ := info_parts info3
  go_enter Try.func67, Try.ntmps67
  go_upto_region 1 with fail
  go_cut [5] from 2 to 3 (fun v W => Hid (OwI W w.heap.size v L ∧ Below w.heap.size w W))
  case first =>
    cases ao with
    | some ad =>
      go_wp2_with (at_builtin; refine wpList_append_own_at _ rfl _ _ _ rfl w.heap.size 3 i3 _ 1 8 Try.underlying22 hi3 hz30 hz31 hz32 rfl (by omega) (.slice none 0 0) 0 [] rfl (World.ownsRow_nil _ _ _ _) ad L.length cp (L.map (Value.int .i64)) rfl (by simp) (rd_news hr.out) (ints_one L) (by unfold maxLen; omega) (by omega) (by simp) ?_)
      intro v1 w1 ho hgr hnil hloc
      have ho1 : OwI w1 w.heap.size v1 L := by unfold OwI; simpa using ho
      have D1 : Below w.heap.size w w1 := (Below.refl _ _).grown hgr (Nat.le_refl _) (fun k hk => by cases hk)
      clear ho hgr hnil hloc
      go_wp2_with fail
      go_meet
      exact hide ⟨ho1, D1⟩
    | none =>
      have hL : L = [] := by
        cases L with
        | nil => rfl
        | cons x l => obtain ⟨g, o, e, _⟩ := hr.out 0 (by simp); cases e
      subst hL
      go_wp2_with fail
      go_meet
      exact hide ⟨owI_nil _ _, Below.refl _ _⟩
  case rest =>
    rename World => wx
    have HC := hcut
    clear hcut
    have dA := hide ((Below.refl wx.heap.size wx).alloc (Nat.le_refl _) (.cells #[.int .i64 y] 3))
    go_wp2_with (at_builtin; refine wpList_appI rfl (.tmp 8) (.tmp 10) rfl w.heap.size _ L rfl (own_below HC.out.1 dA.out) wx.heap.size y rfl (World.alloc_heap_new _ _) (by omega) (by have := HC.out.2.size; simp; omega) ?_; intro b2 m2 k2 w2 h1 h2 h3 h4)
    have hb := HC.out.1.lt
    obtain rfl : m2 = L.length + 1 := h2.out
    have D2 := hide (show Below w.heap.size w w2 from (HC.out.2.trans (dA.out.mono HC.out.2.size)).trans (h3.out.toBelow (by have := HC.out.2.size; simp; omega) (fun k hk => (hb k hk).1)))
    clear h2 h3 h4 hb
    go_wp2_with fail
    go_ret
    exact ⟨b2, k2, rfl, hide ⟨h1.out, D2.out⟩⟩
end Go.Proofs.Ytocoghljmlpdeaa
