import Derived.Test.YtfoahpideglghaaGreatDoorRs
namespace Go.Proofs.YtfoahpideglghaaGreatDoor
open Go.RowKit Go.Maps Go.Shelf
attribute [local go_sem] Oper.semAt_some

/-! ### An automaton over other symbols -/
/-- The cells of the edges with other symbols. -/
def rlV (To : List Int) (L : List EdT) (c : Nat) : Value := ((rlEs To L).flatMap encE)[c]?.getD undef
theorem rlEs_len (To : List Int) (L : List EdT) : (rlEs To L).length = L.length := List.length_map _
theorem rlV_at {To : List Int} {L : List EdT} {i : Nat} (h : i < L.length) {x1 x2 x3 : Int} (hx : L[i] = (x1, x2, x3)) : rlV To L (i * 3) = .int .i64 x1 ∧ rlV To L (i * 3 + 1) = .int .i64 (toF To x2) ∧ rlV To L (i * 3 + 2) = .int .i64 x3 := by
  have hl : i < (rlEs To L).length := by rw [rlEs_len]; exact h
  have e : (rlEs To L)[i] = (x1, toF To x2, x3) := by simp [rlEs, hx, rlE]
  have f0 := flat_get encE 3 encE_len (rlEs To L) i 0 hl (by omega)
  have f1 := flat_get encE 3 encE_len (rlEs To L) i 1 hl (by omega)
  have f2 := flat_get encE 3 encE_len (rlEs To L) i 2 hl (by omega)
  rw [e] at f0 f1 f2
  unfold rlV
  refine ⟨?_, ?_, ?_⟩
  · rw [Nat.add_zero] at f0; rw [f0]; rfl
  · rw [f1]; rfl
  · rw [f2]; rfl
theorem rl_rd {W : World} {g : Nat} {To : List Int} {L : List EdT} (h : Mrw W g 59 (L.length * 3) (rlV To L) (L.length * 3)) : RdE W (some ⟨g, 0, none⟩) (rlEs To L) := fun j hj => by
  have hj2 : j < L.length := by rw [rlEs_len To] at hj; exact hj
  obtain ⟨x, hx⟩ : ∃ x, L[j] = x := ⟨_, rfl⟩
  obtain ⟨x1, x2, x3⟩ := x
  obtain ⟨v0, v1, v2⟩ := rlV_at hj2 hx
  have e : (rlEs To L)[j] = (x1, toF To x2, x3) := by simp [rlEs, hx, rlE]
  rw [e]
  have q0 := h.at (j * 3) (by omega)
  have q1 := h.at (j * 3 + 1) (by omega)
  have q2 := h.at (j * 3 + 2) (by omega)
  rw [v0] at q0
  rw [v1] at q1
  rw [v2] at q2
  exact ⟨g, 0, rfl, by rw [Nat.zero_add]; exact q0, by rw [Nat.zero_add]; exact q1, by rw [Nat.zero_add]; exact q2⟩
set_option maxRecDepth 100000 in
set_option maxHeartbeats 2000000 in
theorem relabelled_any (w : World) (n m k : Int) (a1 a2 a3 a0 : Option Addr) (c1 c2 c3 c0 : Nat) (St Fi To : List Int) (Ed : List EdT) (hA : Hid (RdA w a1 a2 a3 St Fi Ed)) (hTo : Hid (RdN w a0 To)) (hto : Hid (∀ e ∈ Ed, 0 ≤ e.2.1 ∧ e.2.1 < (To.length : Int))) (h1 : St.length ≤ 4194304) (h2 : Fi.length ≤ 4194304) (h3 : Ed.length ≤ 4194304) :
    Calls Tryz.prog 71 #[.agg #[.int .i64 n, .int .i64 m, .slice a1 St.length c1, .slice a2 Fi.length c2, .slice a3 Ed.length c3], .int .i64 k, .slice a0 To.length c0] w fun e w' => ∃ g1 k1 g2 k2 g3 k3, e = .returned (.agg #[.int .i64 n, .int .i64 k, .slice (some ⟨g1, 0, none⟩) (riseL St).length k1, .slice (some ⟨g2, 0, none⟩) (riseL Fi).length k2, .slice (some ⟨g3, 0, none⟩) (riseE (rlEs To Ed)).length k3]) ∧ Own w.heap.size w' g1 k1 g2 k2 g3 k3 (riseL St) (riseL Fi) (riseE (rlEs To Ed)) ∧ Below w.heap.size w w' := by
  obtain ⟨i5, hi5, hz50, hz51, hz52⟩ := info_parts info59
  obtain ⟨q, hq⟩ : ∃ q, q = Ed.length := ⟨_, rfl⟩
  have HL := hide hq
  rw [← hq]
  rw [← hq] at h3
  clear hq
  obtain ⟨W0, hW0⟩ : ∃ W0, (w.alloc (.cells #[.int .i64 n, .int .i64 m, .slice a1 St.length c1, .slice a2 Fi.length c2, .slice a3 q c3] 25)).alloc (.cells #[.int .i64 0, .int .i64 0, .slice none 0 0, .slice none 0 0, .slice none 0 0] 25) = W0 := ⟨_, rfl⟩
  have HD := hide (box2 w #[.int .i64 n, .int .i64 m, .slice a1 St.length c1, .slice a2 Fi.length c2, .slice a3 q c3] #[.int .i64 0, .int .i64 0, .slice none 0 0, .slice none 0 0, .slice none 0 0] 25)
  rw [hW0] at HD
  have B0 := HD.out.2.1
  have y4 : W0.cell? ⟨w.heap.size, 4, none⟩ = some (.slice a3 q c3) := cell_of B0 rfl
  clear B0
  go_enter Tryz.func71, Tryz.ntmps71
  go_wp2_with (at_make; refine wpList_make_full _ rfl _ _ 23 rfl W0.heap.size 59 i5 (.agg #[.int .i64 0, .int .i64 0, .int .i64 0]) 3 Tryz.underlying23 hi5 hz50 hz51 _ _ _ _ q rfl rfl (by go_num) (by go_num) (by rw [hz52]; omega) (by unfold maxLen; omega) (Nat.le_refl _) ?_)
  intro w1 ho hg
  have D1 : Below W0.heap.size W0 w1 := (Below.refl _ _).grown hg (Nat.le_refl _) (by intro k hk; cases hk)
  have M0 := Mrw.ofRow (rlV To Ed) ho
  have y41 : w1.cell? ⟨w.heap.size, 4, none⟩ = some (.slice a3 q c3) := cell_of (blk_on HD.out.2.1 D1) rfl
  have H1 := hide (And.intro M0 D1)
  clear M0 D1 ho hg y4
  go_wp2
  go_loopw [17] (fun iv wr => ∃ i : Nat, i ≤ q ∧ iv = .int .i64 i ∧ Hid (Mrw wr W0.heap.size 59 (q * 3) (rlV To Ed) (i * 3) ∧ Below W0.heap.size W0 wr)) (fun iv _ => q - (intOf iv).toNat)
  case atStart => exact ⟨0, Nat.zero_le _, rfl, hide ⟨by simpa using H1.out.1, H1.out.2⟩⟩
  case round =>
    obtain ⟨i, hi, rfl, HY⟩ := hrel
    clear H1 y41
    by_cases hil : i < q
    · have i0 : (0 : Int) ≤ (i : Int) := by omega
      have i1 : (i : Int) < (q : Int) := by omega
      have hil2 : i < Ed.length := by rw [← HL.out]; exact hil
      obtain ⟨ge, o, rfl, q1, q2, q3⟩ := (hA.out.e.on (HD.out.1.trans (HY.out.2.mono HD.out.1.size))) i hil2
      obtain ⟨x, hx⟩ : ∃ x, Ed[i] = x := ⟨_, rfl⟩
      rw [hx] at q1 q2 q3
      obtain ⟨x1, x2, x3⟩ := x
      have HV := hide (rlV_at (To := To) hil2 hx)
      have hsy := hto.out _ (List.getElem_mem hil2)
      rw [hx] at hsy
      simp only at hsy
      obtain ⟨gt, ot, htt, qt⟩ := (hTo.out.on (HD.out.1.trans (HY.out.2.mono HD.out.1.size))) x2.toNat (by omega)
      obtain ⟨_, hxt, ext⟩ := toF_at hsy.1 hsy.2
      rw [← ext] at qt
      clear ext hxt
      have hx2 : ((x2.toNat : Nat) : Int) = x2 := Int.toNat_of_nonneg hsy.1
      clear hx
      obtain ⟨W1, hW1⟩ : ∃ W1, wr.alloc (.cells #[.int .i64 x1, .int .i64 x2, .int .i64 x3] 59) = W1 := ⟨_, rfl⟩
      have HW : Hid (W1.heap[wr.heap.size]? = some (.cells #[.int .i64 x1, .int .i64 x2, .int .i64 x3] 59 (0, 0)) ∧ Below wr.heap.size wr W1) := hide (by rw [← hW1]; exact ⟨World.alloc_heap_new _ _, (Below.refl _ _).alloc (Nat.le_refl _) _⟩)
      have y0 : W1.cell? ⟨wr.heap.size, 0, none⟩ = some (.int .i64 x1) := cell_of HW.out.1 rfl
      have y1 : W1.cell? ⟨wr.heap.size, 1, none⟩ = some (.int .i64 x2) := cell_of HW.out.1 rfl
      have y2 : W1.cell? ⟨wr.heap.size, 2, none⟩ = some (.int .i64 x3) := cell_of HW.out.1 rfl
      have M1 : Hid (Mrw W1 W0.heap.size 59 (q * 3) (rlV To Ed) (i * 3)) := hide (HY.out.1.below HW.out.2 HY.out.1.lt)
      obtain ⟨u0, z0⟩ := M1.out.cell (i * 3) (by omega)
      obtain ⟨u1, z1⟩ := M1.out.cell (i * 3 + 1) (by omega)
      obtain ⟨u2, z2⟩ := M1.out.cell (i * 3 + 2) (by omega)
      have f0 := M1.out.fz (i * 3)
      have f1 := M1.out.fz (i * 3 + 1)
      have f2 := M1.out.fz (i * 3 + 2)
      have t1 : W1.cell? ⟨gt, ot + x2.toNat, none⟩ = some (.int .i64 (toF To x2)) := (HW.out.2.cell (p := ⟨gt, ot + x2.toNat, none⟩) (World.block_lt_of_cell? wr _ qt)).trans qt
      subst htt
      have hs0 := hsy.1
      have hs1 := hsy.2
      go_wp2
      refine wp_region_phase 13 #[true, true, true, true, true, true, true, true, true, true, true, true, true, false] (by kernel_rfl) (by kernel_rfl) ?_
      simp only [List.take_succ_cons, List.take_zero, List.drop_succ_cons, List.drop_zero]
      repeat (go_big_quiet_step (fail))
      refine wpQuiet_nil ?_
      intro wz hzz
      obtain ⟨nq, rfl⟩ := hzz

      go_wp2_with fail
      refine ⟨⟨i + 1, by omega, by go_num, hide ⟨?_, ?_⟩⟩, by simp [intOf]; omega⟩
      · have e1 := (show Mrw (W1.drewN nq) W0.heap.size 59 (q * 3) (rlV To Ed) (i * 3) from M1.out).put (by omega) _ HV.out.1
        have e2 := e1.put (by omega) _ HV.out.2.1
        have e3 := e2.put (by omega) _ HV.out.2.2
        rw [show (i + 1) * 3 = i * 3 + 1 + 1 + 1 by omega]
        exact e3
      · have d := below_drewN2 (HY.out.2.trans (HW.out.2.mono HY.out.2.size)) nq
        exact d.trans ((only3 (W1.drewN nq) W0.heap.size _ _ _ _ _ _).toBelow d.size (fun k hk => Nat.le_of_eq hk.symm))
    · obtain rfl : q = i := by omega
      have i1 : ¬ (q : Int) < (q : Int) := by omega
      have HR : Hid (RdE wr (some ⟨W0.heap.size, 0, none⟩) (rlEs To Ed)) := hide (by have := HY.out.1; rw [HL.out] at this; exact rl_rd this)
      have B1 := blk_on HD.out.2.1 HY.out.2
      have y0 : wr.cell? ⟨w.heap.size, 0, none⟩ = some (.int .i64 n) := cell_of B1 rfl
      have y1 : wr.cell? ⟨w.heap.size, 1, none⟩ = some (.int .i64 m) := cell_of B1 rfl
      have y2 : wr.cell? ⟨w.heap.size, 2, none⟩ = some (.slice a1 St.length c1) := cell_of B1 rfl
      have y3 : wr.cell? ⟨w.heap.size, 3, none⟩ = some (.slice a2 Fi.length c2) := cell_of B1 rfl
      have HA := hide (hA.out.on (HD.out.1.trans (HY.out.2.mono HD.out.1.size)))
      have T := inOrder_any wr n k a1 a2 (some ⟨W0.heap.size, 0, none⟩) c1 c2 q St Fi (rlEs To Ed) (hide ⟨HA.out.s, HA.out.f, HR.out⟩) h1 h2 (by rw [rlEs_len To, ← HL.out]; exact h3)
      rw [rlEs_len To, ← HL.out] at T
      clear B1
      have FK := hide (fun (W2 : World) (d : Below W0.heap.size W0 W2) => show W2.heap[w.heap.size + 1]? = some (.cells #[.int .i64 0, .int .i64 0, .slice none 0 0, .slice none 0 0, .slice none 0 0] 25 (0, 0)) from blk_on HD.out.2.2.1 d)
      go_wp2_with (go_at_call 62; refine T.mono ?_; rintro e wc ⟨g1, k1, g2, k2, g3, k3, rfl, hO, d⟩; have HO := hide (And.intro hO (And.intro d (HY.out.2.trans (d.mono HY.out.2.size)))); clear hO d; have F3 := FK.out wc HO.out.2.2; have o0 : wc.cell? ⟨w.heap.size + 1, 0, none⟩ = some (.int .i64 0) := cell_of F3 rfl; have f0 : wc.frozen? ⟨w.heap.size + 1, 0, none⟩ = false := fz_of F3; have o1 : wc.cell? ⟨w.heap.size + 1, 1, none⟩ = some (.int .i64 0) := cell_of F3 rfl; have f1 : wc.frozen? ⟨w.heap.size + 1, 1, none⟩ = false := fz_of F3; have o2 : wc.cell? ⟨w.heap.size + 1, 2, none⟩ = some (.slice none 0 0) := cell_of F3 rfl; have f2 : wc.frozen? ⟨w.heap.size + 1, 2, none⟩ = false := fz_of F3; have o3 : wc.cell? ⟨w.heap.size + 1, 3, none⟩ = some (.slice none 0 0) := cell_of F3 rfl; have f3 : wc.frozen? ⟨w.heap.size + 1, 3, none⟩ = false := fz_of F3; have o4 : wc.cell? ⟨w.heap.size + 1, 4, none⟩ = some (.slice none 0 0) := cell_of F3 rfl; have f4 : wc.frozen? ⟨w.heap.size + 1, 4, none⟩ = false := fz_of F3; have O6 := hide (And.intro (set5 wc (w.heap.size + 1) _ _ _ _ _ (.int .i64 n) (.int .i64 k) (.slice (some ⟨g1, 0, none⟩) (riseL St).length k1) (.slice (some ⟨g2, 0, none⟩) (riseL Fi).length k2) (.slice (some ⟨g3, 0, none⟩) (riseE (rlEs To Ed)).length k3) 25 F3) (only5 wc (w.heap.size + 1) (.int .i64 n) (.int .i64 k) (.slice (some ⟨g1, 0, none⟩) (riseL St).length k1) (.slice (some ⟨g2, 0, none⟩) (riseL Fi).length k2) (.slice (some ⟨g3, 0, none⟩) (riseE (rlEs To Ed)).length k3))); clear F3)
      refine bodyPost_ret (results_cell_row (p := 6) (ty := 25) rfl _ _ (w.heap.size + 1) 25 _ (0, 0) _ rfl O6.out.1 Tryz.underlying25 rfl (by kernel_rfl)) rfl ?_
      have z0 := HD.out.2.2.2
      have z1 := HY.out.2.size
      have z2 := HO.out.2.2.size
      have p1 := own_at HO.out.1.s
      have p2 := own_at HO.out.1.f
      have p3 := own_at HO.out.1.e
      have r1 : wc.ownsRow w.heap.size 3 1 (.slice (some ⟨g1, 0, none⟩) (riseL St).length k1) (riseL St).length ((riseL St).map (Value.int .i64)) := owns_down HO.out.1.s (by omega)
      have r2 : wc.ownsRow w.heap.size 3 1 (.slice (some ⟨g2, 0, none⟩) (riseL Fi).length k2) (riseL Fi).length ((riseL Fi).map (Value.int .i64)) := owns_down HO.out.1.f (by omega)
      have r3 : wc.ownsRow w.heap.size 59 3 (.slice (some ⟨g3, 0, none⟩) (riseE (rlEs To Ed)).length k3) (riseE (rlEs To Ed)).length ((riseE (rlEs To Ed)).flatMap encE) := owns_down HO.out.1.e (by omega)
      refine ⟨g1, k1, g2, k2, g3, k3, rfl, ⟨own_only r1 O6.out.2 (by omega), own_only r2 O6.out.2 (by omega), own_only r3 O6.out.2 (by omega), HO.out.1.n12, HO.out.1.n13, HO.out.1.n23⟩, (HD.out.1.trans (HO.out.2.2.mono (by omega))).trans (O6.out.2.toBelow (by omega) (fun k hk => by omega))⟩
set_option maxRecDepth 100000 in
set_option maxHeartbeats 1000000 in
theorem widen_auto (w : World) (n m k : Int) (a1 a2 a3 a0 : Option Addr) (c1 c2 c3 c0 lt : Nat) (St Fi : List Int) (Ed : List EdT) (hA : Hid (RdA w a1 a2 a3 St Fi Ed)) (h1 : St.length ≤ 4194304) (h2 : Fi.length ≤ 4194304) (h3 : Ed.length ≤ 4194304) (em : mayA n m St Fi Ed = false) :
    Calls Tryz.prog 29 #[.agg #[.int .i64 n, .int .i64 m, .slice a1 St.length c1, .slice a2 Fi.length c2, .slice a3 Ed.length c3], .int .i64 k, .slice a0 lt c0] w fun e w' => e = .returned (.tuple #[.agg #[.int .i64 0, .int .i64 0, .slice none 0 0, .slice none 0 0, .slice none 0 0], .int .i64 2]) ∧ Below w.heap.size w w' := by
  obtain ⟨W0, hW0⟩ : ∃ W0, (w.alloc (.cells #[.int .i64 n, .int .i64 m, .slice a1 St.length c1, .slice a2 Fi.length c2, .slice a3 Ed.length c3] 25)).alloc (.cells #[.int .i64 0, .int .i64 0, .slice none 0 0, .slice none 0 0, .slice none 0 0] 25) = W0 := ⟨_, rfl⟩
  have HD := hide (box2 w #[.int .i64 n, .int .i64 m, .slice a1 St.length c1, .slice a2 Fi.length c2, .slice a3 Ed.length c3] #[.int .i64 0, .int .i64 0, .slice none 0 0, .slice none 0 0, .slice none 0 0] 25)
  rw [hW0] at HD
  have B0 := HD.out.2.1
  have T1 := valid_any W0 n m a1 a2 a3 c1 c2 c3 St Fi Ed (hide (hA.out.on HD.out.1)) h1 h2 h3
  have k0 : W0.cell? ⟨w.heap.size, 0, none⟩ = some (.int .i64 n) := cell_of B0 rfl
  have k1 : W0.cell? ⟨w.heap.size, 1, none⟩ = some (.int .i64 m) := cell_of B0 rfl
  have k2 : W0.cell? ⟨w.heap.size, 2, none⟩ = some (.slice a1 St.length c1) := cell_of B0 rfl
  have k3 : W0.cell? ⟨w.heap.size, 3, none⟩ = some (.slice a2 Fi.length c2) := cell_of B0 rfl
  have k4 : W0.cell? ⟨w.heap.size, 4, none⟩ = some (.slice a3 Ed.length c3) := cell_of B0 rfl
  clear B0
  rw [em] at T1
  have T1 : Calls Tryz.prog 22 #[.agg #[.int .i64 n, .int .i64 m, .slice a1 St.length c1, .slice a2 Fi.length c2, .slice a3 Ed.length c3]] W0 fun e w' => e = .returned (.int .i64 2) ∧ Below W0.heap.size W0 w' := T1
  go_enter Tryz.func29, Tryz.ntmps29
  go_upto_region 3 with (go_at_call 22; refine T1.mono ?_; rintro e w1 ⟨rfl, d1⟩)
  have F3 := blk_on HD.out.2.2.1 d1
  have o0 : w1.cell? ⟨w.heap.size + 1, 0, none⟩ = some (.int .i64 0) := cell_of F3 rfl
  have f0 : w1.frozen? ⟨w.heap.size + 1, 0, none⟩ = false := fz_of F3
  have o1 : w1.cell? ⟨w.heap.size + 1, 1, none⟩ = some (.int .i64 0) := cell_of F3 rfl
  have f1 : w1.frozen? ⟨w.heap.size + 1, 1, none⟩ = false := fz_of F3
  have o2 : w1.cell? ⟨w.heap.size + 1, 2, none⟩ = some (.slice none 0 0) := cell_of F3 rfl
  have f2 : w1.frozen? ⟨w.heap.size + 1, 2, none⟩ = false := fz_of F3
  have o3 : w1.cell? ⟨w.heap.size + 1, 3, none⟩ = some (.slice none 0 0) := cell_of F3 rfl
  have f3 : w1.frozen? ⟨w.heap.size + 1, 3, none⟩ = false := fz_of F3
  have o4 : w1.cell? ⟨w.heap.size + 1, 4, none⟩ = some (.slice none 0 0) := cell_of F3 rfl
  have f4 : w1.frozen? ⟨w.heap.size + 1, 4, none⟩ = false := fz_of F3
  have O6 := hide (And.intro (set5 w1 (w.heap.size + 1) _ _ _ _ _ (.int .i64 0) (.int .i64 0) (.slice none 0 0) (.slice none 0 0) (.slice none 0 0) 25 F3) (only5 w1 (w.heap.size + 1) (.int .i64 0) (.int .i64 0) (.slice none 0 0) (.slice none 0 0) (.slice none 0 0)))
  have D1 := hide (d1)
  clear F3
  go_wp2_with fail
  refine bodyPost_ret (results_c1 (p := 6) (q := 7) (ty := 25) rfl _ _ (w.heap.size + 1) 25 _ (0, 0) _ _ rfl rfl O6.out.1 Tryz.underlying25 rfl (by kernel_rfl)) rfl ?_
  have z0 := HD.out.2.2.2
  have z1 := D1.out.size
  exact ⟨rfl, (HD.out.1.trans (D1.out.mono (by omega))).trans (O6.out.2.toBelow (by omega) (fun k hk => by omega))⟩
theorem okI_mem {k : Nat} {L : List Int} (h : okI k L = true) : ∀ x ∈ L, 0 ≤ x ∧ x < (k : Int) := fun x hx => by
  unfold okI at h
  simpa using List.all_eq_true.1 h x hx
/-- What Widen asks of its arguments. -/
def wideOk (m k : Int) (To : List Int) : Bool := inB 129 k && decide ((To.length : Int) = m) && okI k.toNat To && decide (To.length ≤ cnt k.toNat (setI k.toNat To))
theorem wide_parts {m k : Int} {To : List Int} (h : wideOk m k To = true) : (0 ≤ k ∧ k ≤ 128) ∧ (To.length : Int) = m ∧ (∀ x ∈ To, 0 ≤ x ∧ x < k) ∧ To.Nodup := by
  unfold wideOk at h
  simp only [Bool.and_eq_true, decide_eq_true_eq] at h
  obtain ⟨⟨⟨h1, h2⟩, h3⟩, h4⟩ := h
  have hk := inB_iff.1 h1
  have hk2 : ((k.toNat : Nat) : Int) = k := Int.toNat_of_nonneg hk.1
  refine ⟨by omega, h2, fun x hx => ?_, to_nodup h4⟩
  have := okI_mem h3 x hx
  omega
set_option maxRecDepth 100000 in
set_option maxHeartbeats 2000000 in
theorem widen_arg (w : World) (n m k : Int) (a1 a2 a3 a0 : Option Addr) (c1 c2 c3 c0 : Nat) (St Fi To : List Int) (Ed : List EdT) (hA : Hid (RdA w a1 a2 a3 St Fi Ed)) (hTo : Hid (RdN w a0 To)) (h1 : St.length ≤ 4194304) (h2 : Fi.length ≤ 4194304) (h3 : Ed.length ≤ 4194304) (h4 : To.length ≤ 4194304) (em : mayA n m St Fi Ed = true) (ew : wideOk m k To = false) :
    Calls Tryz.prog 29 #[.agg #[.int .i64 n, .int .i64 m, .slice a1 St.length c1, .slice a2 Fi.length c2, .slice a3 Ed.length c3], .int .i64 k, .slice a0 To.length c0] w fun e w' => e = .returned (.tuple #[.agg #[.int .i64 0, .int .i64 0, .slice none 0 0, .slice none 0 0, .slice none 0 0], .int .i64 1]) ∧ Below w.heap.size w w' := by
  obtain ⟨W0, hW0⟩ : ∃ W0, (w.alloc (.cells #[.int .i64 n, .int .i64 m, .slice a1 St.length c1, .slice a2 Fi.length c2, .slice a3 Ed.length c3] 25)).alloc (.cells #[.int .i64 0, .int .i64 0, .slice none 0 0, .slice none 0 0, .slice none 0 0] 25) = W0 := ⟨_, rfl⟩
  have HD := hide (box2 w #[.int .i64 n, .int .i64 m, .slice a1 St.length c1, .slice a2 Fi.length c2, .slice a3 Ed.length c3] #[.int .i64 0, .int .i64 0, .slice none 0 0, .slice none 0 0, .slice none 0 0] 25)
  rw [hW0] at HD
  have B0 := HD.out.2.1
  have T1 := valid_any W0 n m a1 a2 a3 c1 c2 c3 St Fi Ed (hide (hA.out.on HD.out.1)) h1 h2 h3
  have k0 : W0.cell? ⟨w.heap.size, 0, none⟩ = some (.int .i64 n) := cell_of B0 rfl
  have k1 : W0.cell? ⟨w.heap.size, 1, none⟩ = some (.int .i64 m) := cell_of B0 rfl
  have k2 : W0.cell? ⟨w.heap.size, 2, none⟩ = some (.slice a1 St.length c1) := cell_of B0 rfl
  have k3 : W0.cell? ⟨w.heap.size, 3, none⟩ = some (.slice a2 Fi.length c2) := cell_of B0 rfl
  have k4 : W0.cell? ⟨w.heap.size, 4, none⟩ = some (.slice a3 Ed.length c3) := cell_of B0 rfl
  clear B0
  rw [em] at T1
  have T1 : Calls Tryz.prog 22 #[.agg #[.int .i64 n, .int .i64 m, .slice a1 St.length c1, .slice a2 Fi.length c2, .slice a3 Ed.length c3]] W0 fun e w' => e = .returned (.int .i64 0) ∧ Below W0.heap.size W0 w' := T1
  go_enter Tryz.func29, Tryz.ntmps29
  cases hk : inB 129 k
  · go_upto_region 5 with (first
      | (go_at_call 22; refine T1.mono ?_; rintro e w1 ⟨rfl, d1⟩)
      | (go_at_call 63; refine (within_any _ _ _).mono ?_; rintro e w2 ⟨rfl, hw⟩; obtain rfl := hw.symm))
    have F3 := blk_on HD.out.2.2.1 d1
    have o0 : w1.cell? ⟨w.heap.size + 1, 0, none⟩ = some (.int .i64 0) := cell_of F3 rfl
    have f0 : w1.frozen? ⟨w.heap.size + 1, 0, none⟩ = false := fz_of F3
    have o1 : w1.cell? ⟨w.heap.size + 1, 1, none⟩ = some (.int .i64 0) := cell_of F3 rfl
    have f1 : w1.frozen? ⟨w.heap.size + 1, 1, none⟩ = false := fz_of F3
    have o2 : w1.cell? ⟨w.heap.size + 1, 2, none⟩ = some (.slice none 0 0) := cell_of F3 rfl
    have f2 : w1.frozen? ⟨w.heap.size + 1, 2, none⟩ = false := fz_of F3
    have o3 : w1.cell? ⟨w.heap.size + 1, 3, none⟩ = some (.slice none 0 0) := cell_of F3 rfl
    have f3 : w1.frozen? ⟨w.heap.size + 1, 3, none⟩ = false := fz_of F3
    have o4 : w1.cell? ⟨w.heap.size + 1, 4, none⟩ = some (.slice none 0 0) := cell_of F3 rfl
    have f4 : w1.frozen? ⟨w.heap.size + 1, 4, none⟩ = false := fz_of F3
    have O6 := hide (And.intro (set5 w1 (w.heap.size + 1) _ _ _ _ _ (.int .i64 0) (.int .i64 0) (.slice none 0 0) (.slice none 0 0) (.slice none 0 0) 25 F3) (only5 w1 (w.heap.size + 1) (.int .i64 0) (.int .i64 0) (.slice none 0 0) (.slice none 0 0) (.slice none 0 0)))
    have D1 := hide (d1)
    clear F3
    go_wp2_with fail
    refine bodyPost_ret (results_c1 (p := 6) (q := 7) (ty := 25) rfl _ _ (w.heap.size + 1) 25 _ (0, 0) _ _ rfl rfl O6.out.1 Tryz.underlying25 rfl (by kernel_rfl)) rfl ?_
    have z0 := HD.out.2.2.2
    have z1 := D1.out.size
    exact ⟨rfl, (HD.out.1.trans (D1.out.mono (by omega))).trans (O6.out.2.toBelow (by omega) (fun k hk => by omega))⟩
  · have hm0 : 0 ≤ k ∧ k < 129 := inB_iff.1 hk
    obtain ⟨K, rfl⟩ : ∃ K : Nat, k = (K : Int) := ⟨k.toNat, by omega⟩
    by_cases hl : (To.length : Int) = m
    · subst hl
      have e0 : ((To.length : Int) != (To.length : Int)) = false := by simp
      have TO := hide (fun (W : World) (d : Below W0.heap.size W0 W) => of81_any a0 c0 K To W (by omega) (readsI_of ((hTo.out.on HD.out.1).on d)) (by omega))
      have HQ : Hid (okI K To = true → ¬ To.length ≤ cnt K (setI K To)) := hide (fun h q => by
        unfold wideOk at ew
        rw [hk, Int.toNat_natCast, h] at ew
        simp [q] at ew)
      go_upto_region 7 with (first
        | (go_at_call 22; refine T1.mono ?_; rintro e w1 ⟨rfl, d1⟩; have H1 := hide (And.intro d1 (blk_on HD.out.2.1 d1)); have z1 : w1.cell? ⟨w.heap.size, 1, none⟩ = some (.int .i64 (To.length : Int)) := cell_of H1.out.2 rfl)
        | (go_at_call 63; refine (within_any _ _ _).mono ?_; rintro e w2 ⟨rfl, hw⟩; obtain rfl := hw.symm)
        | (go_at_call 69; refine (TO.out _ H1.out.1).mono ?_; rintro e w3 (⟨hok, b, g, cap, rfl, hs, _, _, _, d3⟩ | ⟨hok, rfl, d3⟩)))
      · have HS := hide (And.intro hs (And.intro (HQ.out hok) d3))
        clear hs d3
        have qc : Hid (cnt K (setI K To) < To.length) := hide (by have := HS.out.2.1; omega)
        obtain ⟨q, hq⟩ : ∃ q, cnt K (setI K To) = q := ⟨_, rfl⟩
        have TC := count_any b g cap K (setI K To) w3 HS.out.1
        rw [hq] at TC qc
        have qi : (q : Int) < (To.length : Int) := by have := qc.out; omega
        go_upto_region 8 with (go_at_call 70; refine TC.mono ?_; rintro e w4 ⟨rfl, hw⟩; obtain rfl := hw.symm)
        have F3 := blk_on HD.out.2.2.1 (H1.out.1.trans (HS.out.2.2.mono H1.out.1.size))
        have o0 : w3.cell? ⟨w.heap.size + 1, 0, none⟩ = some (.int .i64 0) := cell_of F3 rfl
        have f0 : w3.frozen? ⟨w.heap.size + 1, 0, none⟩ = false := fz_of F3
        have o1 : w3.cell? ⟨w.heap.size + 1, 1, none⟩ = some (.int .i64 0) := cell_of F3 rfl
        have f1 : w3.frozen? ⟨w.heap.size + 1, 1, none⟩ = false := fz_of F3
        have o2 : w3.cell? ⟨w.heap.size + 1, 2, none⟩ = some (.slice none 0 0) := cell_of F3 rfl
        have f2 : w3.frozen? ⟨w.heap.size + 1, 2, none⟩ = false := fz_of F3
        have o3 : w3.cell? ⟨w.heap.size + 1, 3, none⟩ = some (.slice none 0 0) := cell_of F3 rfl
        have f3 : w3.frozen? ⟨w.heap.size + 1, 3, none⟩ = false := fz_of F3
        have o4 : w3.cell? ⟨w.heap.size + 1, 4, none⟩ = some (.slice none 0 0) := cell_of F3 rfl
        have f4 : w3.frozen? ⟨w.heap.size + 1, 4, none⟩ = false := fz_of F3
        have O6 := hide (And.intro (set5 w3 (w.heap.size + 1) _ _ _ _ _ (.int .i64 0) (.int .i64 0) (.slice none 0 0) (.slice none 0 0) (.slice none 0 0) 25 F3) (only5 w3 (w.heap.size + 1) (.int .i64 0) (.int .i64 0) (.slice none 0 0) (.slice none 0 0) (.slice none 0 0)))
        have D1 := hide ((H1.out.1.trans (HS.out.2.2.mono H1.out.1.size)))
        clear F3
        go_wp2_with fail
        refine bodyPost_ret (results_c1 (p := 6) (q := 7) (ty := 25) rfl _ _ (w.heap.size + 1) 25 _ (0, 0) _ _ rfl rfl O6.out.1 Tryz.underlying25 rfl (by kernel_rfl)) rfl ?_
        have z0 := HD.out.2.2.2
        have z1 := D1.out.size
        exact ⟨rfl, (HD.out.1.trans (D1.out.mono (by omega))).trans (O6.out.2.toBelow (by omega) (fun k hk => by omega))⟩
      · go_upto_region 8 with fail
        have F3 := blk_on HD.out.2.2.1 (H1.out.1.trans (d3.mono H1.out.1.size))
        have o0 : w3.cell? ⟨w.heap.size + 1, 0, none⟩ = some (.int .i64 0) := cell_of F3 rfl
        have f0 : w3.frozen? ⟨w.heap.size + 1, 0, none⟩ = false := fz_of F3
        have o1 : w3.cell? ⟨w.heap.size + 1, 1, none⟩ = some (.int .i64 0) := cell_of F3 rfl
        have f1 : w3.frozen? ⟨w.heap.size + 1, 1, none⟩ = false := fz_of F3
        have o2 : w3.cell? ⟨w.heap.size + 1, 2, none⟩ = some (.slice none 0 0) := cell_of F3 rfl
        have f2 : w3.frozen? ⟨w.heap.size + 1, 2, none⟩ = false := fz_of F3
        have o3 : w3.cell? ⟨w.heap.size + 1, 3, none⟩ = some (.slice none 0 0) := cell_of F3 rfl
        have f3 : w3.frozen? ⟨w.heap.size + 1, 3, none⟩ = false := fz_of F3
        have o4 : w3.cell? ⟨w.heap.size + 1, 4, none⟩ = some (.slice none 0 0) := cell_of F3 rfl
        have f4 : w3.frozen? ⟨w.heap.size + 1, 4, none⟩ = false := fz_of F3
        have O6 := hide (And.intro (set5 w3 (w.heap.size + 1) _ _ _ _ _ (.int .i64 0) (.int .i64 0) (.slice none 0 0) (.slice none 0 0) (.slice none 0 0) 25 F3) (only5 w3 (w.heap.size + 1) (.int .i64 0) (.int .i64 0) (.slice none 0 0) (.slice none 0 0) (.slice none 0 0)))
        have D1 := hide ((H1.out.1.trans (d3.mono H1.out.1.size)))
        clear F3
        go_wp2_with fail
        refine bodyPost_ret (results_c1 (p := 6) (q := 7) (ty := 25) rfl _ _ (w.heap.size + 1) 25 _ (0, 0) _ _ rfl rfl O6.out.1 Tryz.underlying25 rfl (by kernel_rfl)) rfl ?_
        have z0 := HD.out.2.2.2
        have z1 := D1.out.size
        exact ⟨rfl, (HD.out.1.trans (D1.out.mono (by omega))).trans (O6.out.2.toBelow (by omega) (fun k hk => by omega))⟩
    · have e0 : ((To.length : Int) != m) = true := by simpa using hl
      go_upto_region 5 with (first
        | (go_at_call 22; refine T1.mono ?_; rintro e w1 ⟨rfl, d1⟩; have z1 : w1.cell? ⟨w.heap.size, 1, none⟩ = some (.int .i64 m) := cell_of (blk_on HD.out.2.1 d1) rfl)
        | (go_at_call 63; refine (within_any _ _ _).mono ?_; rintro e w2 ⟨rfl, hw⟩; obtain rfl := hw.symm))
      have F3 := blk_on HD.out.2.2.1 d1
      have o0 : w1.cell? ⟨w.heap.size + 1, 0, none⟩ = some (.int .i64 0) := cell_of F3 rfl
      have f0 : w1.frozen? ⟨w.heap.size + 1, 0, none⟩ = false := fz_of F3
      have o1 : w1.cell? ⟨w.heap.size + 1, 1, none⟩ = some (.int .i64 0) := cell_of F3 rfl
      have f1 : w1.frozen? ⟨w.heap.size + 1, 1, none⟩ = false := fz_of F3
      have o2 : w1.cell? ⟨w.heap.size + 1, 2, none⟩ = some (.slice none 0 0) := cell_of F3 rfl
      have f2 : w1.frozen? ⟨w.heap.size + 1, 2, none⟩ = false := fz_of F3
      have o3 : w1.cell? ⟨w.heap.size + 1, 3, none⟩ = some (.slice none 0 0) := cell_of F3 rfl
      have f3 : w1.frozen? ⟨w.heap.size + 1, 3, none⟩ = false := fz_of F3
      have o4 : w1.cell? ⟨w.heap.size + 1, 4, none⟩ = some (.slice none 0 0) := cell_of F3 rfl
      have f4 : w1.frozen? ⟨w.heap.size + 1, 4, none⟩ = false := fz_of F3
      have O6 := hide (And.intro (set5 w1 (w.heap.size + 1) _ _ _ _ _ (.int .i64 0) (.int .i64 0) (.slice none 0 0) (.slice none 0 0) (.slice none 0 0) 25 F3) (only5 w1 (w.heap.size + 1) (.int .i64 0) (.int .i64 0) (.slice none 0 0) (.slice none 0 0) (.slice none 0 0)))
      have D1 := hide (d1)
      clear F3
      go_wp2_with fail
      refine bodyPost_ret (results_c1 (p := 6) (q := 7) (ty := 25) rfl _ _ (w.heap.size + 1) 25 _ (0, 0) _ _ rfl rfl O6.out.1 Tryz.underlying25 rfl (by kernel_rfl)) rfl ?_
      have z0 := HD.out.2.2.2
      have z1 := D1.out.size
      exact ⟨rfl, (HD.out.1.trans (D1.out.mono (by omega))).trans (O6.out.2.toBelow (by omega) (fun k hk => by omega))⟩
set_option maxRecDepth 100000 in
set_option maxHeartbeats 2000000 in
theorem widen_ok (w : World) (n m k : Int) (a1 a2 a3 a0 : Option Addr) (c1 c2 c3 c0 : Nat) (St Fi To : List Int) (Ed : List EdT) (hA : Hid (RdA w a1 a2 a3 St Fi Ed)) (hTo : Hid (RdN w a0 To)) (h1 : St.length ≤ 4194304) (h2 : Fi.length ≤ 4194304) (h3 : Ed.length ≤ 4194304) (h4 : To.length ≤ 4194304) (em : mayA n m St Fi Ed = true) (ew : wideOk m k To = true) :
    Calls Tryz.prog 29 #[.agg #[.int .i64 n, .int .i64 m, .slice a1 St.length c1, .slice a2 Fi.length c2, .slice a3 Ed.length c3], .int .i64 k, .slice a0 To.length c0] w fun e w' => ∃ g1 k1 g2 k2 g3 k3, e = .returned (.tuple #[.agg #[.int .i64 n, .int .i64 k, .slice (some ⟨g1, 0, none⟩) (riseL St).length k1, .slice (some ⟨g2, 0, none⟩) (riseL Fi).length k2, .slice (some ⟨g3, 0, none⟩) (riseE (rlEs To Ed)).length k3], .int .i64 0]) ∧ Own w.heap.size w' g1 k1 g2 k2 g3 k3 (riseL St) (riseL Fi) (riseE (rlEs To Ed)) ∧ Below w.heap.size w w' := by
  obtain ⟨W0, hW0⟩ : ∃ W0, (w.alloc (.cells #[.int .i64 n, .int .i64 m, .slice a1 St.length c1, .slice a2 Fi.length c2, .slice a3 Ed.length c3] 25)).alloc (.cells #[.int .i64 0, .int .i64 0, .slice none 0 0, .slice none 0 0, .slice none 0 0] 25) = W0 := ⟨_, rfl⟩
  have HD := hide (box2 w #[.int .i64 n, .int .i64 m, .slice a1 St.length c1, .slice a2 Fi.length c2, .slice a3 Ed.length c3] #[.int .i64 0, .int .i64 0, .slice none 0 0, .slice none 0 0, .slice none 0 0] 25)
  rw [hW0] at HD
  have B0 := HD.out.2.1
  have T1 := valid_any W0 n m a1 a2 a3 c1 c2 c3 St Fi Ed (hide (hA.out.on HD.out.1)) h1 h2 h3
  have k0 : W0.cell? ⟨w.heap.size, 0, none⟩ = some (.int .i64 n) := cell_of B0 rfl
  have k1 : W0.cell? ⟨w.heap.size, 1, none⟩ = some (.int .i64 m) := cell_of B0 rfl
  have k2 : W0.cell? ⟨w.heap.size, 2, none⟩ = some (.slice a1 St.length c1) := cell_of B0 rfl
  have k3 : W0.cell? ⟨w.heap.size, 3, none⟩ = some (.slice a2 Fi.length c2) := cell_of B0 rfl
  have k4 : W0.cell? ⟨w.heap.size, 4, none⟩ = some (.slice a3 Ed.length c3) := cell_of B0 rfl
  clear B0
  have HM := hide (may_parts em)
  rw [em] at T1
  have T1 : Calls Tryz.prog 22 #[.agg #[.int .i64 n, .int .i64 m, .slice a1 St.length c1, .slice a2 Fi.length c2, .slice a3 Ed.length c3]] W0 fun e w' => e = .returned (.int .i64 0) ∧ Below W0.heap.size W0 w' := T1
  have hw4 := ew
  unfold wideOk at hw4
  simp only [Bool.and_eq_true, decide_eq_true_eq] at hw4
  obtain ⟨⟨⟨hk, hl⟩, hok⟩, hc⟩ := hw4
  have hm0 : 0 ≤ k ∧ k < 129 := inB_iff.1 hk
  obtain ⟨K, rfl⟩ : ∃ K : Nat, k = (K : Int) := ⟨k.toNat, by omega⟩
  rw [Int.toNat_natCast] at hok hc
  subst hl
  have e0 : ((To.length : Int) != (To.length : Int)) = false := by simp
  have HQ : Hid (okI K To = true ∧ To.length ≤ cnt K (setI K To)) := hide ⟨hok, hc⟩
  have TO : Hid (∀ (W : World), Below W0.heap.size W0 W → Calls Tryz.prog 69 #[.int .i64 K, .slice a0 To.length c0] W fun e w' => ∃ b g cap, e = .returned (.tuple #[.pointer (some ⟨b, 0, none⟩), .int .i64 0]) ∧ IsSet w' b g cap K (setI K To) ∧ Below W.heap.size W w') := hide (fun W d => by
    refine (of81_any a0 c0 K To W (by omega) (readsI_of ((hTo.out.on HD.out.1).on d)) (by omega)).mono ?_
    rintro e w' (⟨_, b, g, cap, he, hs, _, _, _, dd⟩ | ⟨hno, _, _⟩)
    · exact ⟨b, g, cap, he, hs, dd⟩
    · rw [HQ.out.1] at hno; cases hno)
  have T2 := hide (fun (W : World) (d : Below W0.heap.size W0 W) => relabelled_any W n (To.length : Int) (K : Int) a1 a2 a3 a0 c1 c2 c3 c0 St Fi To Ed (hide ((hA.out.on HD.out.1).on d)) (hide ((hTo.out.on HD.out.1).on d)) (hide fun e he => (HM.out.2.2.2.2.2 e he).2.1) h1 h2 h3)
  generalize riseL St = S1 at T2 ⊢
  generalize riseL Fi = F1 at T2 ⊢
  generalize riseE (rlEs To Ed) = E1 at T2 ⊢
  clear hok hc ew
  go_enter Tryz.func29, Tryz.ntmps29
  go_upto_region 7 with (first
    | (go_at_call 22; refine T1.mono ?_; rintro e w1 ⟨rfl, d1⟩; have H1 := hide (And.intro d1 (blk_on HD.out.2.1 d1)); have z1 : w1.cell? ⟨w.heap.size, 1, none⟩ = some (.int .i64 (To.length : Int)) := cell_of H1.out.2 rfl; clear d1)
    | (go_at_call 63; refine (within_any _ _ _).mono ?_; rintro e w2 ⟨rfl, hw⟩; obtain rfl := hw.symm; rw [hk])
    | (go_at_call 69; refine (TO.out _ H1.out.1).mono ?_; rintro e w3 ⟨b, g, cap, rfl, hs, d3⟩))
  have H3 := hide (And.intro hs (And.intro d3 (H1.out.1.trans (d3.mono H1.out.1.size))))
  clear hs d3 z1
  obtain ⟨q, hq⟩ : ∃ q, cnt K (setI K To) = q := ⟨_, rfl⟩
  have TC := count_any b g cap K (setI K To) w3 H3.out.1
  have qc := HQ.out.2
  rw [hq] at TC qc
  have qi : ¬ (q : Int) < (To.length : Int) := by omega
  go_upto_region 9 with (go_at_call 70; refine TC.mono ?_; rintro e w4 ⟨rfl, hw⟩; obtain rfl := hw.symm)
  have B1 := blk_on HD.out.2.1 H3.out.2.2
  have HF := hide (blk_on HD.out.2.2.1 H3.out.2.2)
  have y0 : w3.cell? ⟨w.heap.size, 0, none⟩ = some (.int .i64 n) := cell_of B1 rfl
  have y1 : w3.cell? ⟨w.heap.size, 1, none⟩ = some (.int .i64 (To.length : Int)) := cell_of B1 rfl
  have y2 : w3.cell? ⟨w.heap.size, 2, none⟩ = some (.slice a1 St.length c1) := cell_of B1 rfl
  have y3 : w3.cell? ⟨w.heap.size, 3, none⟩ = some (.slice a2 Fi.length c2) := cell_of B1 rfl
  have y4 : w3.cell? ⟨w.heap.size, 4, none⟩ = some (.slice a3 Ed.length c3) := cell_of B1 rfl
  clear k0 k1 k2 k3 k4 B1 T1 hA TC qi
  go_wp2_with (go_at_call 71; refine (T2.out w3 H3.out.2.2).mono ?_; rintro e w2 ⟨g1, k1, g2, k2, g3, k3, rfl, hO, d2⟩; have F3 := blk_on HF.out d2; have o0 : w2.cell? ⟨w.heap.size + 1, 0, none⟩ = some (.int .i64 0) := cell_of F3 rfl; have f0 : w2.frozen? ⟨w.heap.size + 1, 0, none⟩ = false := fz_of F3; have o1 : w2.cell? ⟨w.heap.size + 1, 1, none⟩ = some (.int .i64 0) := cell_of F3 rfl; have f1 : w2.frozen? ⟨w.heap.size + 1, 1, none⟩ = false := fz_of F3; have o2 : w2.cell? ⟨w.heap.size + 1, 2, none⟩ = some (.slice none 0 0) := cell_of F3 rfl; have f2 : w2.frozen? ⟨w.heap.size + 1, 2, none⟩ = false := fz_of F3; have o3 : w2.cell? ⟨w.heap.size + 1, 3, none⟩ = some (.slice none 0 0) := cell_of F3 rfl; have f3 : w2.frozen? ⟨w.heap.size + 1, 3, none⟩ = false := fz_of F3; have o4 : w2.cell? ⟨w.heap.size + 1, 4, none⟩ = some (.slice none 0 0) := cell_of F3 rfl; have f4 : w2.frozen? ⟨w.heap.size + 1, 4, none⟩ = false := fz_of F3; have H2 := hide (And.intro hO (And.intro d2 F3)); clear hO d2 F3)
  have O6 := hide (And.intro (set5 w2 (w.heap.size + 1) _ _ _ _ _ (.int .i64 n) (.int .i64 (K : Int)) (.slice (some ⟨g1, 0, none⟩) S1.length k1) (.slice (some ⟨g2, 0, none⟩) F1.length k2) (.slice (some ⟨g3, 0, none⟩) E1.length k3) 25 H2.out.2.2) (only5 w2 (w.heap.size + 1) (.int .i64 n) (.int .i64 (K : Int)) (.slice (some ⟨g1, 0, none⟩) S1.length k1) (.slice (some ⟨g2, 0, none⟩) F1.length k2) (.slice (some ⟨g3, 0, none⟩) E1.length k3)))
  refine bodyPost_ret (results_c1 (p := 6) (q := 7) (ty := 25) rfl _ _ (w.heap.size + 1) 25 _ (0, 0) _ _ rfl rfl O6.out.1 Tryz.underlying25 rfl (by kernel_rfl)) rfl ?_
  have z0 := HD.out.2.2.2
  have z1 := H3.out.2.2.size
  have z2 := H2.out.2.1.size
  obtain ⟨o1, o2, o3, n1, n2, n3⟩ := H2.out.1
  have q1 := own_at o1
  have q2 := own_at o2
  have q3 := own_at o3
  refine ⟨g1, k1, g2, k2, g3, k3, rfl, ⟨own_only (ownsRow_base (base := w3.heap.size) o1 (by omega)) O6.out.2 (by omega), own_only (ownsRow_base (base := w3.heap.size) o2 (by omega)) O6.out.2 (by omega), own_only (ownsRow_base (base := w3.heap.size) o3 (by omega)) O6.out.2 (by omega), n1, n2, n3⟩, ?_⟩
  exact ((HD.out.1.trans (H3.out.2.2.mono (by omega))).trans (H2.out.2.1.mono (by omega))).trans (O6.out.2.toBelow (by omega) (fun k hk => by omega))
end Go.Proofs.YtfoahpideglghaaGreatDoor
