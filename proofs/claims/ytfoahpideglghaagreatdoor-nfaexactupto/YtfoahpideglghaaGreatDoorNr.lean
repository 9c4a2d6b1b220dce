import Derived.Test.YtfoahpideglghaaGreatDoorRL
namespace Go.Proofs.YtfoahpideglghaaGreatDoor
open Go.RowKit Go.Maps Go.Shelf
attribute [local go_sem] Oper.semAt_some

/-! ### The rests of a word, made -/
theorem rest_turn (Ed : List EdT) (F0 : Nat) (Wd : List Int) (j : Nat) (h : j < Wd.length) : restF Ed F0 Wd j = imgF false (restF Ed F0 Wd (j + 1)) Wd[j] (riseE (turnE Ed)) := by
  rw [imgF_rise, imgF_turn]; exact restF_step Ed F0 Wd j h
theorem turn_in {N : Nat} {Ed : List EdT} (h : ∀ x ∈ Ed, (0 ≤ x.1 ∧ x.1 < (N : Int)) ∧ 0 ≤ x.2.2 ∧ x.2.2 < (N : Int)) : ∀ x ∈ turnE Ed, (0 ≤ x.1 ∧ x.1 < (N : Int)) ∧ 0 ≤ x.2.2 ∧ x.2.2 < (N : Int) := fun x hx => by
  obtain ⟨y, hy, rfl⟩ := List.mem_map.1 hx
  exact ⟨(h y hy).2, (h y hy).1⟩
theorem RsB.lay {w0 w : World} {R : Rp} {rb k b g c X : Nat} {blk : Int} {sv : Value} (h : RsB w0 R rb blk sv w) (hk : k < R.nb) (hl : w0.heap.size ≤ R.gl) (hs : IsSet w b g c R.N X) (hbg : b ≠ g) {W' : World} (hW : w.setCell ⟨R.gl, k, none⟩ (.pointer (some ⟨b, 0, none⟩)) = W') :
    RsB w0 R rb blk sv W' ∧ PtrAt W' R.gl k R.N X ∧ ∀ i Y, i ≠ k → PtrAt w R.gl i R.N Y → PtrAt W' R.gl i R.N Y := by
  obtain ⟨cur, e1, e2⟩ := h.lr
  have o : Only w W' (fun q => q = R.gl) := by rw [← hW]; exact only_set _ _ _ _
  have hrl := (Array.getElem?_eq_some_iff.1 h.bx).1
  have kd : ∀ q, q = R.gl → ∀ cs t fr, w.heap[q]? = some (.cells cs t fr) → t ≠ 97 ∧ t ≠ 99 := fun q hq cs t fr he => by
    subst hq
    rw [e1] at he
    cases he
    decide
  have e3 : W'.heap[R.gl]? = some (.cells (cur.setIfInBounds k (.pointer (some ⟨b, 0, none⟩))) 56 (0, 0)) := by rw [← hW]; exact heap_setCell_same _ _ _ _ 56 _ e1
  refine ⟨⟨(o.block _ hrl (fun e => h.ne e.symm)).trans h.bx, h.le, h.be.trans (o.toBelow h.be.size (fun q hq => by rw [hq]; exact hl)), _, e3, by simpa using e2⟩, ⟨b, g, c, cell_of e3 (by rw [Array.getElem?_setIfInBounds_self_of_lt (by omega)]), set_other hs o kd, hbg⟩, fun i Y hi hp => hp.other o kd ?_⟩
  obtain ⟨b', _, _, hc, _⟩ := hp
  rw [hc]
  have hc2 : cur[i]? = some (.pointer (some ⟨b', 0, none⟩)) := by simpa [World.cell?, e1] using hc
  exact cell_of e3 (by rw [Array.getElem?_setIfInBounds_ne (fun e => hi e.symm)]; exact hc2)
/-- What newRests holds while it makes the blocks' last sets. -/
structure NrI (w0 : World) (R : Rp) (F : Nat → Nat) (rb kk b g c : Nat) (wr : World) : Prop where
  rs : ∃ blk sv, RsB w0 R rb blk sv wr
  set : 0 < kk → IsSet wr b g c R.N (F (endB R (kk - 1))) ∧ b ≠ g
  ptr : ∀ k, kk ≤ k → k < R.nb → PtrAt wr R.gl k R.N (F (endB R k))
  fin : kk = 0 → ∃ gs, RsA w0 R F rb 0 gs wr
set_option maxRecDepth 100000 in
set_option maxHeartbeats 4000000 in
theorem newRests_any (w : World) (N : Nat) (m : Int) (a1 a2 a3 aw : Option Addr) (c1 c2 c3 cw : Nat) (St Fi : List Int) (Ed : List EdT) (Wd : List Int) (hA : Hid (RdA w a1 a2 a3 St Fi Ed)) (hWd : Hid (RdN w aw Wd)) (hT : Hid (TabAt w ∧ 0 < w.heap.size)) (h1 : St.length ≤ 4194304) (h2 : Fi.length ≤ 4194304) (h3 : Ed.length ≤ 4194304) (hw : Wd.length ≤ 4194304) (em : Hid (mayA N m St Fi Ed = true)) :
    Calls Tryz.prog 87 #[.agg #[.int .i64 (N : Int), .int .i64 m, .slice a1 St.length c1, .slice a2 Fi.length c2, .slice a3 Ed.length c3], .slice aw Wd.length cw] w fun e w' => ∃ (rb : Nat) (R : Rp) (w0 : World) (gs : Nat), e = .returned (.pointer (some ⟨rb, 0, none⟩)) ∧ Hid (RpOk w0 R (restF Ed (setI N Fi) Wd) ∧ RsA w0 R (restF Ed (setI N Fi) Wd) rb 0 gs w' ∧ R.N = N ∧ R.Wd = Wd ∧ R.nb = R.Wd.length / R.wd + 1 ∧ w.heap.size ≤ w0.heap.size) ∧ Below w.heap.size w w' := by
  have hN : N ≤ 4096 := by have := (may_parts em.out).1; omega
  have HIN := hide (turn_in (may_in em.out))
  obtain ⟨W0, hW0⟩ : ∃ W0, w.alloc (.cells #[.int .i64 (N : Int), .int .i64 m, .slice a1 St.length c1, .slice a2 Fi.length c2, .slice a3 Ed.length c3] 25) = W0 := ⟨_, rfl⟩
  have d0 : Below w.heap.size w W0 := by rw [← hW0]; exact (Below.refl _ _).alloc (Nat.le_refl _) _
  have B0 : W0.heap[w.heap.size]? = some (.cells #[.int .i64 (N : Int), .int .i64 m, .slice a1 St.length c1, .slice a2 Fi.length c2, .slice a3 Ed.length c3] 25 (0, 0)) := by rw [← hW0]; exact World.alloc_heap_new _ _
  have y0 : W0.cell? ⟨w.heap.size, 0, none⟩ = some (.int .i64 (N : Int)) := cell_of B0 rfl
  have y1 : W0.cell? ⟨w.heap.size, 1, none⟩ = some (.int .i64 m) := cell_of B0 rfl
  have y2 : W0.cell? ⟨w.heap.size, 2, none⟩ = some (.slice a1 St.length c1) := cell_of B0 rfl
  have y3 : W0.cell? ⟨w.heap.size, 3, none⟩ = some (.slice a2 Fi.length c2) := cell_of B0 rfl
  have y4 : W0.cell? ⟨w.heap.size, 4, none⟩ = some (.slice a3 Ed.length c3) := cell_of B0 rfl
  have HD := hide (And.intro d0 B0)
  have TO := turned_any W0 N m a1 a2 a3 c1 c2 c3 St Fi Ed (hide (hA.out.on d0)) h1 h2 h3
  have HFr : Hid (∀ e ∈ riseE (turnE Ed), 0 ≤ e.1 ∧ e.1 < (N : Int)) := hide (fun e he => (HIN.out e ((riseE_iff _ e).1 he)).1)
  have hl3 : (riseE (turnE Ed)).length ≤ 4194304 := Nat.le_trans (riseE_len _) (by rw [turnE_len]; exact h3)
  have WK := hide (fun (w1 w2 : World) (g1 k1 g2 k2 g3 k3 gf B : Nat) (S F : List Int) => wk_of (N := N) (w := w1) (w' := w2) (g1 := g1) (k1 := k1) (g2 := g2) (k2 := k2) (g3 := g3) (k3 := k3) (gf := gf) (B := B) (S := S) (F := F) (Ed := turnE Ed))
  have RST := hide (fun (F0 j : Nat) (h : j < Wd.length) => rest_turn Ed F0 Wd j h)
  generalize riseE (turnE Ed) = Es at TO HFr hl3 WK RST
  clear d0 B0
  go_enter Tryz.func87, Tryz.ntmps87
  go_upto_region 2 with (first
    | (go_at_call 65; refine TO.mono ?_; rintro e w1 ⟨g1, k1, g2, k2, g3, k3, rfl, hO, d1⟩; have TN := newWalk_any w1 N m (some ⟨g1, 0, none⟩) (some ⟨g2, 0, none⟩) (some ⟨g3, 0, none⟩) (riseL Fi).length (riseL St).length k1 k2 k3 Es hN (hide (rdE_own hO.e)) hl3 HFr)
    | (go_at_call 85; refine TN.mono ?_; rintro e w2 ⟨gf, rfl, hM, hgf, d2⟩))
  obtain ⟨W3, hW3⟩ : ∃ W3, w2.alloc (.cells #[.int .i64 (N : Int), .int .i64 m, .slice (some ⟨g1, 0, none⟩) (riseL Fi).length k1, .slice (some ⟨g2, 0, none⟩) (riseL St).length k2, .slice (some ⟨g3, 0, none⟩) Es.length k3, .slice (some ⟨gf, 0, none⟩) (N + 1) (N + 1), .slice aw Wd.length cw, .int .i64 1, .slice none 0 0, .int .i64 0, .slice none 0 0] 108) = W3 := ⟨_, rfl⟩
  rw [hW3]
  have d3 : Below w2.heap.size w2 W3 := by rw [← hW3]; exact (Below.refl _ _).alloc (Nat.le_refl _) _
  have b3 : W3.heap[w2.heap.size]? = some (.cells #[.int .i64 (N : Int), .int .i64 m, .slice (some ⟨g1, 0, none⟩) (riseL Fi).length k1, .slice (some ⟨g2, 0, none⟩) (riseL St).length k2, .slice (some ⟨g3, 0, none⟩) Es.length k3, .slice (some ⟨gf, 0, none⟩) (N + 1) (N + 1), .slice aw Wd.length cw, .int .i64 1, .slice none 0 0, .int .i64 0, .slice none 0 0] 108 (0, 0)) := by rw [← hW3]; exact World.alloc_heap_new _ _
  have D02 : Below W0.heap.size W0 w2 := d1.trans (d2.mono d1.size)
  have D2 : Hid (Below w.heap.size w w2) := hide (HD.out.1.trans (D02.mono HD.out.1.size))
  have HW2 := hide (WK.out w1 w2 g1 k1 g2 k2 g3 k3 gf _ _ _ hO d2 hM HIN.out (by rw [turnE_len]; exact h3) hN)
  have H3 := hide (And.intro (blk_on HD.out.2 D02) (And.intro d3 b3))
  clear y0 y1 y2 y3 y4 TO TN hO d1 hM hgf d2 hW3 d3 b3 D02 WK HFr hl3 hW0
  obtain ⟨rb, hrb⟩ : ∃ rb, w2.heap.size = rb := ⟨_, rfl⟩
  have HRB := hide hrb
  rw [hrb] at H3
  rw [hrb]
  clear hrb
  go_loopw [14] (fun _ wr => ∃ d : Nat, 1 ≤ d ∧ d ≤ 2048 ∧ Hid (wr.heap[rb]? = some (.cells #[.int .i64 (N : Int), .int .i64 m, .slice (some ⟨g1, 0, none⟩) (riseL Fi).length k1, .slice (some ⟨g2, 0, none⟩) (riseL St).length k2, .slice (some ⟨g3, 0, none⟩) Es.length k3, .slice (some ⟨gf, 0, none⟩) (N + 1) (N + 1), .slice aw Wd.length cw, .int .i64 (d : Int), .slice none 0 0, .int .i64 0, .slice none 0 0] 108 (0, 0)) ∧ Only W3 wr (fun q => q = rb))) (fun _ wr => 5000 - (intOf ((wr.cell? ⟨rb, 7, none⟩).getD undef)).toNat)
  case atStart => exact ⟨1, Nat.le_refl _, by omega, hide ⟨H3.out.2.2, Only.ofBelow (Below.refl _ _)⟩⟩
  case round =>
    obtain ⟨d, hd1, hd2, HY⟩ := hrel
    have x7 : wr.cell? ⟨rb, 7, none⟩ = some (.int .i64 (d : Int)) := cell_of HY.out.1 rfl
    have hsq : d * d ≤ 4194304 := Nat.le_trans (Nat.mul_le_mul hd2 hd2) (by decide)
    obtain ⟨sq, hs⟩ : ∃ sq, d * d = sq := ⟨_, rfl⟩
    have hmul : IntKind.i64.wrap ((d : Int) * (d : Int)) = (sq : Int) := by
      rw [← Int.natCast_mul, hs, IntKind.wrap_i64]; omega
    rw [hs] at hsq
    have HSQ := hide hs
    clear hs
    by_cases hlt : sq < Wd.length
    · have l0 : (sq : Int) < (Wd.length : Int) := by omega
      have hd3 : d < 2048 := Nat.lt_of_not_le fun q => by
        have := Nat.mul_le_mul q q
        rw [HSQ.out] at this
        omega
      have f7 : wr.frozen? ⟨rb, 7, none⟩ = false := fz_of HY.out.1
      go_wp2
      refine wp_region_phase 11 #[true, true, true, true, true, true, true, true, true, true, true, false] (by kernel_rfl) (by kernel_rfl) ?_
      simp only [List.take_succ_cons, List.take_zero, List.drop_succ_cons, List.drop_zero]
      repeat (go_big_quiet_step (fail))
      refine wpQuiet_nil ?_
      intro wz hzz
      obtain ⟨nq, rfl⟩ := hzz
      go_wp2_with fail
      go_roundw
      case rel => exact ⟨d + 1, by omega, by omega, hide ⟨heap_setCell_same (wr.drewN nq) rb 7 _ 108 _ HY.out.1, (HY.out.2.trans (Only.ofBelow (below_drewN2 (Below.refl _ _) nq))).trans (only_set _ rb 7 _)⟩⟩
      case measure =>
        have e1 : ((wr.drewN nq).setCell ⟨rb, 7, none⟩ (.int .i64 ((d : Int) + 1))).cell? ⟨rb, 7, none⟩ = some (.int .i64 ((d : Int) + 1)) := cell_of (heap_setCell_same (wr.drewN nq) rb 7 _ 108 _ HY.out.1) rfl
        simp only [e1, x7, Option.getD_some, intOf]
        omega
    · have l0 : ¬ (sq : Int) < (Wd.length : Int) := by omega
      go_wp2
      refine wp_region_phase 11 #[true, true, true, true, true, true, true, true, true, true, true, false] (by kernel_rfl) (by kernel_rfl) ?_
      simp only [List.take_succ_cons, List.take_zero, List.drop_succ_cons, List.drop_zero]
      repeat (go_big_quiet_step (fail))
      refine wpQuiet_nil ?_
      intro wz hzz
      obtain ⟨nq, rfl⟩ := hzz
      go_upto_region 4 with fail
      obtain ⟨Wx, hWx⟩ : ∃ Wx, wr.drewN nq = Wx := ⟨_, rfl⟩
      rw [hWx]
      have HX : Hid (Wx.heap[rb]? = some (.cells #[.int .i64 (N : Int), .int .i64 m, .slice (some ⟨g1, 0, none⟩) (riseL Fi).length k1, .slice (some ⟨g2, 0, none⟩) (riseL St).length k2, .slice (some ⟨g3, 0, none⟩) Es.length k3, .slice (some ⟨gf, 0, none⟩) (N + 1) (N + 1), .slice aw Wd.length cw, .int .i64 (d : Int), .slice none 0 0, .int .i64 0, .slice none 0 0] 108 (0, 0)) ∧ Only W3 Wx (fun q => q = rb)) := hide (by rw [← hWx]; exact ⟨HY.out.1, HY.out.2.trans (Only.ofBelow (below_drewN2 (Below.refl _ _) nq))⟩)
      clear hWx x7 hmul HY l0 hlt hsq HSQ
      have x7 : Wx.cell? ⟨rb, 7, none⟩ = some (.int .i64 (d : Int)) := cell_of HX.out.1 rfl
      obtain ⟨qn, hqn⟩ : ∃ qn, Wd.length / d = qn := ⟨_, rfl⟩
      have hdiv : IntKind.i64.wrap ((Wd.length : Int) / (d : Int)) = (qn : Int) := by
        rw [← Int.natCast_ediv, hqn, IntKind.wrap_i64]
        have : qn ≤ Wd.length := by rw [← hqn]; exact Nat.div_le_self _ _
        omega
      have hq4 : qn ≤ 4194304 := by rw [← hqn]; exact Nat.le_trans (Nat.div_le_self _ _) hw
      have HQN := hide hqn
      clear hqn
      obtain ⟨i6, hi6, hz60, hz61, hz62⟩ := info_parts info56
      go_wp2_with (at_make; refine wpList_make_full _ rfl _ _ 106 rfl Wx.heap.size 56 i6 (.pointer none) 1 Tryz.underlying106 hi6 hz60 hz61 _ _ _ _ (qn + 1) rfl rfl (by go_num) (by go_num) (by rw [hz62]; omega) (by unfold maxLen; omega) (Nat.le_refl _) ?_)
      intro wB ho2 hg
      have dB : Below Wx.heap.size Wx wB := (Below.refl _ _).grown hg (Nat.le_refl _) (by intro q hq; cases hq)
      have hrow : ∃ cur, wB.heap[Wx.heap.size]? = some (.cells cur 56 (0, 0)) ∧ cur.size = qn + 1 := by
        rcases ho2.2 with ⟨hv, _⟩ | ⟨g', cap', cur, hv, hb, hg, h1, h2, h3, h4⟩
        · cases hv
        · cases hv
          exact ⟨cur, hg, by rw [h3, Nat.mul_one]⟩
      have HB := hide (And.intro (blk_on HX.out.1 dB) (And.intro hrow (And.intro (HX.out.2.trans (Only.ofBelow dB)) (show rb < Wx.heap.size from (Array.getElem?_eq_some_iff.1 HX.out.1).1))))
      clear ho2 hg dB hrow hi6 hz60 hz61 hz62 HX x7 hdiv
      generalize Wx.heap.size = gl at *
      have o8 : wB.cell? ⟨rb, 8, none⟩ = some (.slice none 0 0) := cell_of HB.out.1 rfl
      have f8 : wB.frozen? ⟨rb, 8, none⟩ = false := fz_of HB.out.1
      obtain ⟨wC, hwC⟩ : ∃ wC, wB.setCell ⟨rb, 8, none⟩ (.slice (some ⟨gl, 0, none⟩) (qn + 1) (qn + 1)) = wC := ⟨_, rfl⟩
      have HC : Hid (RsB w2 (⟨N, m, some ⟨g1, 0, none⟩, some ⟨g2, 0, none⟩, (riseL Fi).length, (riseL St).length, k1, k2, g3, k3, gf, Es, aw, cw, Wd, d, gl, (qn + 1)⟩ : Rp) rb 0 (.slice none 0 0) wC ∧ wC.heap[w.heap.size]? = some (.cells #[.int .i64 (N : Int), .int .i64 m, .slice a1 St.length c1, .slice a2 Fi.length c2, .slice a3 Ed.length c3] 25 (0, 0))) := hide (by
        have o := only_set wB rb 8 (.slice (some ⟨gl, 0, none⟩) (qn + 1) (qn + 1))
        have e : wC.heap[rb]? = some (.cells #[.int .i64 (N : Int), .int .i64 m, .slice (some ⟨g1, 0, none⟩) (riseL Fi).length k1, .slice (some ⟨g2, 0, none⟩) (riseL St).length k2, .slice (some ⟨g3, 0, none⟩) Es.length k3, .slice (some ⟨gf, 0, none⟩) (N + 1) (N + 1), .slice aw Wd.length cw, .int .i64 (d : Int), .slice (some ⟨gl, 0, none⟩) (qn + 1) (qn + 1), .int .i64 0, .slice none 0 0] 108 (0, 0)) := by rw [← hwC]; exact heap_setCell_same _ _ 8 _ 108 _ HB.out.1
        rw [hwC] at o
        obtain ⟨cur, e1, e2⟩ := HB.out.2.1
        have hne : gl ≠ rb := by have := HB.out.2.2.2; omega
        have O3 := HB.out.2.2.1.trans o
        have hz := H3.out.2.1.size
        have hlt0 := (Array.getElem?_eq_some_iff.1 H3.out.1).1
        have bw2 := blk_on H3.out.1 (HRB.out ▸ H3.out.2.1)
        refine ⟨⟨e, Nat.le_of_eq HRB.out, ?_, cur, (o.block _ (Array.getElem?_eq_some_iff.1 e1).1 hne).trans e1, e2⟩, ?_⟩
        · have d := HRB.out ▸ H3.out.2.1
          exact d.trans (O3.toBelow d.size (fun q hq => by rw [hq]; exact Nat.le_of_eq HRB.out))
        · have hlt3 := (Array.getElem?_eq_some_iff.1 bw2).1
          exact (O3.block _ hlt3 (by have := HRB.out; omega)).trans bw2)
      have hglw : w2.heap.size ≤ gl := by have := HB.out.2.2.2; have := HRB.out; omega
      go_upto_region 5 with fail
      clear o8 f8 hwC HB
      have y0 : wC.cell? ⟨w.heap.size, 0, none⟩ = some (.int .i64 (N : Int)) := cell_of HC.out.2 rfl
      have y1 : wC.cell? ⟨w.heap.size, 1, none⟩ = some (.int .i64 m) := cell_of HC.out.2 rfl
      have y2 : wC.cell? ⟨w.heap.size, 2, none⟩ = some (.slice a1 St.length c1) := cell_of HC.out.2 rfl
      have y3 : wC.cell? ⟨w.heap.size, 3, none⟩ = some (.slice a2 Fi.length c2) := cell_of HC.out.2 rfl
      have y4 : wC.cell? ⟨w.heap.size, 4, none⟩ = some (.slice a3 Ed.length c3) := cell_of HC.out.2 rfl
      have DC : Hid (Below w.heap.size w wC) := hide (D2.out.trans (HC.out.1.be.mono D2.out.size))
      have T54 := setOf_any wC N m a1 a2 a3 a2 St.length Fi.length Ed.length c1 c2 c3 c2 Fi (hide (hA.out.f.on DC.out)) h2 hN (hide (may_parts em.out).2.2.2.2.1)
      have HOK : Hid (RpOk w2 (⟨N, m, some ⟨g1, 0, none⟩, some ⟨g2, 0, none⟩, (riseL Fi).length, (riseL St).length, k1, k2, g3, k3, gf, Es, aw, cw, Wd, d, gl, (qn + 1)⟩ : Rp) (restF Ed (setI N Fi) Wd)) := hide ⟨HW2.out, hWd.out.on D2.out, ⟨hT.out.1.below D2.out hT.out.2, Nat.lt_of_lt_of_le hT.out.2 D2.out.size⟩, RST.out (setI N Fi), hw, hd1, by show d ≤ 4096; omega⟩
      have HLAST : Hid (restF Ed (setI N Fi) Wd (endB (⟨N, m, some ⟨g1, 0, none⟩, some ⟨g2, 0, none⟩, (riseL Fi).length, (riseL St).length, k1, k2, g3, k3, gf, Es, aw, cw, Wd, d, gl, (qn + 1)⟩ : Rp) qn) = setI N Fi) := hide (by
        have e : endB (⟨N, m, some ⟨g1, 0, none⟩, some ⟨g2, 0, none⟩, (riseL Fi).length, (riseL St).length, k1, k2, g3, k3, gf, Es, aw, cw, Wd, d, gl, (qn + 1)⟩ : Rp) qn = Wd.length := by
          have q1 := Nat.div_add_mod Wd.length d
          have q2 := Nat.mod_lt Wd.length (show d > 0 by omega)
          rw [HQN.out, Nat.mul_comm] at q1
          show min (qn * d + d - 1) Wd.length = Wd.length
          omega
        rw [e, restF_last])
      obtain ⟨F0, hF0⟩ : ∃ F0, setI N Fi = F0 := ⟨_, rfl⟩
      rw [hF0] at T54 HOK HLAST
      have HF0 := hide hF0
      clear hF0
      go_upto_region 6 with (go_at_call 54; refine T54.mono ?_; rintro e w4 ⟨b0, g0, k0, rfl, hs4, hb4, hg4, hbg4, d4⟩)
      have H4 : Hid (NrI w2 (⟨N, m, some ⟨g1, 0, none⟩, some ⟨g2, 0, none⟩, (riseL Fi).length, (riseL St).length, k1, k2, g3, k3, gf, Es, aw, cw, Wd, d, gl, (qn + 1)⟩ : Rp) (restF Ed F0 Wd) rb (qn + 1) b0 g0 k0 w4) := hide ⟨⟨0, .slice none 0 0, HC.out.1.on d4⟩, fun _ => ⟨by rw [show qn + 1 - 1 = qn by omega, HLAST.out]; exact hs4, hbg4⟩, fun k h1 h2 => absurd h1 (by show ¬ qn + 1 ≤ k; exact Nat.not_le_of_lt h2), fun h => by omega⟩
      have y8 : w4.cell? ⟨rb, 8, none⟩ = some (.slice (some ⟨gl, 0, none⟩) (qn + 1) (qn + 1)) := cell_of (HC.out.1.on d4).bx rfl
      clear y0 y1 y2 y3 y4 T54 hs4 hb4 hg4 hbg4 d4 HC HLAST
      go_wp2
      clear y8
      go_loopw [6, 7] (fun pv iv wr => ∃ kk b g c : Nat, kk ≤ qn + 1 ∧ pv = .pointer (some ⟨b, 0, none⟩) ∧ iv = .int .i64 ((kk : Int) - 1) ∧ Hid (NrI w2 (⟨N, m, some ⟨g1, 0, none⟩, some ⟨g2, 0, none⟩, (riseL Fi).length, (riseL St).length, k1, k2, g3, k3, gf, Es, aw, cw, Wd, d, gl, (qn + 1)⟩ : Rp) (restF Ed F0 Wd) rb kk b g c wr)) (fun _ iv _ => (intOf iv + 1).toNat)
      case atStart => exact ⟨qn + 1, b0, g0, k0, Nat.le_refl _, rfl, by go_num, H4⟩
      case round =>
        obtain ⟨kk, b, g, c, hkk, rfl, rfl, HZ⟩ := hrel
        clear H4
        obtain ⟨blk, sv, hrs⟩ := HZ.out.rs
        have HRS := hide hrs
        clear hrs
        by_cases hk0 : 0 < kk
        · obtain ⟨k, rfl⟩ : ∃ k, kk = k + 1 := ⟨kk - 1, by omega⟩
          have e1 : (((k + 1 : Nat) : Int) - 1) = (k : Int) := by omega
          rw [e1]
          have x8 : wr.cell? ⟨rb, 8, none⟩ = some (.slice (some ⟨gl, 0, none⟩) (qn + 1) (qn + 1)) := cell_of HRS.out.bx rfl
          obtain ⟨cur, hcu1, hcu2⟩ := HRS.out.lr
          have hkn : k < qn + 1 := by omega
          have hcu2 : cur.size = qn + 1 := hcu2
          have oc : wr.cell? ⟨gl, k, none⟩ = some cur[k] := cell_of hcu1 (Array.getElem?_eq_getElem (by omega))
          have fc : wr.frozen? ⟨gl, k, none⟩ = false := fz_of hcu1
          obtain ⟨W1, hW1⟩ : ∃ W1, wr.setCell ⟨gl, k, none⟩ (.pointer (some ⟨b, 0, none⟩)) = W1 := ⟨_, rfl⟩
          have st := HZ.out.set hk0
          have HL := hide (HRS.out.lay (k := k) hkn hglw st.1 st.2 hW1)
          have hkw : k * d ≤ Wd.length := by
            have q1 := Nat.mul_le_mul_right d (show k ≤ qn by omega)
            have q2 := Nat.div_mul_le_self Wd.length d
            rw [HQN.out] at q2
            omega
          have TL := load_any w2 W1 (⟨N, m, some ⟨g1, 0, none⟩, some ⟨g2, 0, none⟩, (riseL Fi).length, (riseL St).length, k1, k2, g3, k3, gf, Es, aw, cw, Wd, d, gl, (qn + 1)⟩ : Rp) (restF Ed F0 Wd) rb k blk sv HOK (hide HL.out.1) hkn hkw (hide HL.out.2.1)
          have z0 : (0 : Int) ≤ (k : Int) := by omega
          have z1 : (k : Int) < ((qn + 1 : Nat) : Int) := by omega
          have z2 : (k : Int) ≤ 4194304 := by omega
          clear hcu1 hcu2 st
          go_upto_region 11 with (go_at_call 106; refine TL.mono ?_; rintro e w5 ⟨rfl, gs, hv⟩)
          have PT : Hid (∀ i, k ≤ i → i < qn + 1 → PtrAt w5 gl i N (restF Ed F0 Wd (endB (⟨N, m, some ⟨g1, 0, none⟩, some ⟨g2, 0, none⟩, (riseL Fi).length, (riseL St).length, k1, k2, g3, k3, gf, Es, aw, cw, Wd, d, gl, (qn + 1)⟩ : Rp) i))) := hide (fun i hi1 hi2 => by
            have o5 := hv.out.2.2.1
            have q1 : PtrAt W1 gl i N (restF Ed F0 Wd (endB (⟨N, m, some ⟨g1, 0, none⟩, some ⟨g2, 0, none⟩, (riseL Fi).length, (riseL St).length, k1, k2, g3, k3, gf, Es, aw, cw, Wd, d, gl, (qn + 1)⟩ : Rp) i)) := by
              by_cases e : i = k
              · subst e; exact HL.out.2.1
              · exact HL.out.2.2 i _ e (HZ.out.ptr i (by omega) hi2)
            exact q1.other o5 HL.out.1.kind (cell_only o5 HL.out.1.glt HL.out.1.ne))
          clear TL oc fc hW1 x8
          by_cases hkp : 0 < k
          · have z3 : (0 : Int) < (k : Int) := by omega
            have B5 := hv.out.1.bx
            have x0 : w5.cell? ⟨rb, 0, none⟩ = some (.int .i64 (N : Int)) := cell_of B5 rfl
            have x1 : w5.cell? ⟨rb, 1, none⟩ = some (.int .i64 m) := cell_of B5 rfl
            have x2 : w5.cell? ⟨rb, 2, none⟩ = some (.slice (some ⟨g1, 0, none⟩) (riseL Fi).length k1) := cell_of B5 rfl
            have x3 : w5.cell? ⟨rb, 3, none⟩ = some (.slice (some ⟨g2, 0, none⟩) (riseL St).length k2) := cell_of B5 rfl
            have x4 : w5.cell? ⟨rb, 4, none⟩ = some (.slice (some ⟨g3, 0, none⟩) Es.length k3) := cell_of B5 rfl
            have x5 : w5.cell? ⟨rb, 5, none⟩ = some (.slice (some ⟨gf, 0, none⟩) (N + 1) (N + 1)) := cell_of B5 rfl
            have x7 : w5.cell? ⟨rb, 7, none⟩ = some (.int .i64 (d : Int)) := cell_of B5 rfl
            have x10 : w5.cell? ⟨rb, 10, none⟩ = some (.slice (some ⟨gs, 0, none⟩) (endB (⟨N, m, some ⟨g1, 0, none⟩, some ⟨g2, 0, none⟩, (riseL Fi).length, (riseL St).length, k1, k2, g3, k3, gf, Es, aw, cw, Wd, d, gl, (qn + 1)⟩ : Rp) k - k * d + 1) (endB (⟨N, m, some ⟨g1, 0, none⟩, some ⟨g2, 0, none⟩, (riseL Fi).length, (riseL St).length, k1, k2, g3, k3, gf, Es, aw, cw, Wd, d, gl, (qn + 1)⟩ : Rp) k - k * d + 1)) := cell_of B5 rfl
            clear B5
            have hen : k * d ≤ endB (⟨N, m, some ⟨g1, 0, none⟩, some ⟨g2, 0, none⟩, (riseL Fi).length, (riseL St).length, k1, k2, g3, k3, gf, Es, aw, cw, Wd, d, gl, (qn + 1)⟩ : Rp) k := by show k * d ≤ min (k * d + d - 1) Wd.length; omega
            obtain ⟨bb, gb, cb, hcb, hsb, hbgb⟩ := hv.out.2.1 (k * d) (Nat.le_refl _) hen
            have hcb : w5.cell? ⟨gs, k * d - k * d, none⟩ = some (.pointer (some ⟨bb, 0, none⟩)) := hcb
            rw [Nat.sub_self] at hcb
            have HEB : Hid (endB (⟨N, m, some ⟨g1, 0, none⟩, some ⟨g2, 0, none⟩, (riseL Fi).length, (riseL St).length, k1, k2, g3, k3, gf, Es, aw, cw, Wd, d, gl, (qn + 1)⟩ : Rp) (k - 1) = k * d - 1) := hide (by
              show min ((k - 1) * d + d - 1) Wd.length = k * d - 1
              have : (k - 1) * d + d = k * d := by
                obtain ⟨t, rfl⟩ : ∃ t, k = t + 1 := ⟨k - 1, by omega⟩
                rw [Nat.add_sub_cancel, Nat.succ_mul]
              omega)
            have hb0 : 0 < k * d := Nat.mul_pos hkp (by omega)
            generalize endB (⟨N, m, some ⟨g1, 0, none⟩, some ⟨g2, 0, none⟩, (riseL Fi).length, (riseL St).length, k1, k2, g3, k3, gf, Es, aw, cw, Wd, d, gl, (qn + 1)⟩ : Rp) k - k * d = LL at x10
            have HSB := hide hsb
            clear hsb
            have hmul : IntKind.i64.wrap ((k : Int) * (d : Int)) = ((k * d : Nat) : Int) := by
              rw [← Int.natCast_mul, IntKind.wrap_i64]; omega
            obtain ⟨bg, hbg⟩ : ∃ bg, k * d = bg := ⟨_, rfl⟩
            simp only [hbg] at hmul hb0 HEB HSB hkw hen
            have HBG := hide hbg
            clear hbg
            have hiw : bg - 1 < Wd.length := by omega
            have DW5 := hide (D2.out.trans (hv.out.1.be.mono D2.out.size))
            obtain ⟨gw, ow, haw, qw⟩ := (hWd.out.on DW5.out) (bg - 1) hiw
            have HST := hide (RST.out F0 (bg - 1) hiw)
            rw [show bg - 1 + 1 = bg by omega] at HST
            obtain ⟨sy, hsy⟩ : ∃ sy, Wd[bg - 1] = sy := ⟨_, rfl⟩
            rw [hsy] at qw HST
            clear hsy
            subst haw
            have v1 : ((bg : Int) - 1) = ((bg - 1 : Nat) : Int) := by omega
            have v2 : ((bg : Int) - 1) < (Wd.length : Int) := by omega
            have v3 : (0 : Int) ≤ (bg : Int) - 1 := by omega
            have v4 : (0 : Int) < ((LL + 1 : Nat) : Int) := by omega
            go_upto_region 12 with fail
            refine wp_region_phase 20 #[true, true, true, true, true, true, true, true, true, true, true, true, true, true, true, true, true, true, true, true, false, false] (by kernel_rfl) (by kernel_rfl) ?_
            simp only [List.take_succ_cons, List.take_zero, List.drop_succ_cons, List.drop_zero]
            repeat (go_big_quiet_step (fail))
            refine wpQuiet_nil ?_
            intro wz hzz
            obtain ⟨nq2, rfl⟩ := hzz
            have DZ : Hid (Below w5.heap.size w5 (w5.drewN nq2)) := hide (below_drewN2 (Below.refl _ _) nq2)
            have T86 := step_any (w5.drewN nq2) N m sy (some ⟨g1, 0, none⟩) (some ⟨g2, 0, none⟩) (riseL Fi).length (riseL St).length k1 k2 g3 k3 gf Es bb gb cb _ (hide (HW2.out.on (hv.out.1.on DZ.out).be)) (hide (HSB.out.below DZ.out)) (hide ⟨hT.out.1.below (DW5.out.trans (DZ.out.mono DW5.out.size)) hT.out.2, Nat.lt_of_lt_of_le hT.out.2 (Nat.le_trans DW5.out.size DZ.out.size)⟩)
            go_wp2_with (go_at_call 86; refine T86.mono ?_; rintro e w6 ⟨b6, g6, k6, rfl, hs6, d6⟩)
            have D6 : Below w5.heap.size w5 w6 := DZ.out.trans d6
            go_roundw
            case rel => exact ⟨k, b6, g6, k6, by omega, rfl, by go_num, hide ⟨⟨_, _, hv.out.1.on D6⟩, fun _ => ⟨by rw [HEB.out, HST.out]; exact hs6.out.1, hs6.out.2.2.2⟩, fun i h1 h2 => (PT.out i h1 h2).on D6, fun h => absurd h (by omega)⟩⟩
            case measure => simp [intOf]
          · obtain rfl : k = 0 := by omega
            have z3 : ¬ (0 : Int) < ((0 : Nat) : Int) := by omega
            go_wp2
            go_roundw
            case rel => exact ⟨0, b, g, c, by omega, rfl, by go_num, hide ⟨⟨_, _, hv.out.1⟩, fun h => absurd h (by omega), fun i h1 h2 => PT.out i h1 h2, fun _ => ⟨gs, hv.out.1, Nat.zero_lt_succ _, hv.out.2.1, fun i hi => PT.out i (Nat.zero_le _) hi, hv.out.2.2.2⟩⟩⟩
            case measure => simp [intOf]
        · obtain rfl : kk = 0 := by omega
          obtain ⟨gs, hgs⟩ := HZ.out.fin rfl
          have HGS := hide hgs
          clear hgs
          go_wp2
          refine bodyPost_ret (results_tmp rfl _ _ _) rfl ?_
          obtain rfl := HF0.out
          exact ⟨rb, (⟨N, m, some ⟨g1, 0, none⟩, some ⟨g2, 0, none⟩, (riseL Fi).length, (riseL St).length, k1, k2, g3, k3, gf, Es, aw, cw, Wd, d, gl, (qn + 1)⟩ : Rp), w2, gs, rfl, hide ⟨HOK.out, HGS.out, rfl, rfl, by show qn + 1 = Wd.length / d + 1; rw [HQN.out], D2.out.size⟩, D2.out.trans (HRS.out.be.mono D2.out.size)⟩
end Go.Proofs.YtfoahpideglghaaGreatDoor
