import Derived.Test.YtfoahpideglghaaGreatDoorAC
namespace Go.Proofs.YtfoahpideglghaaGreatDoor
open Go.RowKit Go.Maps Go.Shelf
attribute [local go_sem] Oper.semAt_some

/-! ### An automaton turned round -/
def tE (e : EdT) : EdT := (e.2.2, e.2.1, e.1)
def turnE (L : List EdT) : List EdT := L.map tE
theorem turnE_len (L : List EdT) : (turnE L).length = L.length := List.length_map _
theorem imgF_turn (X : Nat) (y : Int) (L : List EdT) : imgF false X y (turnE L) = imgF true X y L := by
  apply Nat.eq_of_testBit_eq
  intro q
  rw [Bool.eq_iff_iff, imgF_test, imgF_test]
  unfold turnE
  constructor
  · rintro ⟨e, he, h⟩
    obtain ⟨x, hx, rfl⟩ := List.mem_map.1 he
    exact ⟨x, hx, by simpa [tE, ends] using h⟩
  · rintro ⟨x, hx, h⟩
    exact ⟨tE x, List.mem_map_of_mem hx, by simpa [tE, ends] using h⟩
/-- The cells of the turned edges. -/
def turnV (L : List EdT) (c : Nat) : Value := ((turnE L).flatMap encE)[c]?.getD undef
theorem turnV_at {L : List EdT} {i : Nat} (h : i < L.length) {x1 x2 x3 : Int} (hx : L[i] = (x1, x2, x3)) : turnV L (i * 3) = .int .i64 x3 ∧ turnV L (i * 3 + 1) = .int .i64 x2 ∧ turnV L (i * 3 + 2) = .int .i64 x1 := by
  have hl : i < (turnE L).length := by rw [turnE_len]; exact h
  have e : (turnE L)[i] = (x3, x2, x1) := by simp [turnE, hx, tE]
  have f0 := flat_get encE 3 encE_len (turnE L) i 0 hl (by omega)
  have f1 := flat_get encE 3 encE_len (turnE L) i 1 hl (by omega)
  have f2 := flat_get encE 3 encE_len (turnE L) i 2 hl (by omega)
  rw [e] at f0 f1 f2
  unfold turnV
  refine ⟨?_, ?_, ?_⟩
  · rw [Nat.add_zero] at f0; rw [f0]; rfl
  · rw [f1]; rfl
  · rw [f2]; rfl
theorem turn_rd {W : World} {g : Nat} {L : List EdT} (h : Mrw W g 59 (L.length * 3) (turnV L) (L.length * 3)) : RdE W (some ⟨g, 0, none⟩) (turnE L) := fun j hj => by
  have hj2 : j < L.length := by rw [turnE_len] at hj; exact hj
  obtain ⟨x, hx⟩ : ∃ x, L[j] = x := ⟨_, rfl⟩
  obtain ⟨x1, x2, x3⟩ := x
  obtain ⟨v0, v1, v2⟩ := turnV_at hj2 hx
  have e : (turnE L)[j] = (x3, x2, x1) := by simp [turnE, hx, tE]
  rw [e]
  have q0 := h.at (j * 3) (by omega)
  have q1 := h.at (j * 3 + 1) (by omega)
  have q2 := h.at (j * 3 + 2) (by omega)
  rw [v0] at q0
  rw [v1] at q1
  rw [v2] at q2
  exact ⟨g, 0, rfl, by rw [Nat.zero_add]; exact q0, by rw [Nat.zero_add]; exact q1, by rw [Nat.zero_add]; exact q2⟩
set_option maxRecDepth 100000 in
set_option maxHeartbeats 2000000 in
theorem turned_any (w : World) (n m : Int) (a1 a2 a3 : Option Addr) (c1 c2 c3 : Nat) (St Fi : List Int) (Ed : List EdT) (hA : Hid (RdA w a1 a2 a3 St Fi Ed)) (h1 : St.length ≤ 4194304) (h2 : Fi.length ≤ 4194304) (h3 : Ed.length ≤ 4194304) :
    Calls Tryz.prog 65 #[.agg #[.int .i64 n, .int .i64 m, .slice a1 St.length c1, .slice a2 Fi.length c2, .slice a3 Ed.length c3]] w fun e w' => ∃ g1 k1 g2 k2 g3 k3, e = .returned (.agg #[.int .i64 n, .int .i64 m, .slice (some ⟨g1, 0, none⟩) (riseL Fi).length k1, .slice (some ⟨g2, 0, none⟩) (riseL St).length k2, .slice (some ⟨g3, 0, none⟩) (riseE (turnE Ed)).length k3]) ∧ Own w.heap.size w' g1 k1 g2 k2 g3 k3 (riseL Fi) (riseL St) (riseE (turnE Ed)) ∧ Below w.heap.size w w' := by
  obtain ⟨i5, hi5, hz50, hz51, hz52⟩ := info_parts info59
  obtain ⟨q, hq⟩ : ∃ q, q = Ed.length := ⟨_, rfl⟩
  have HL := hide hq
  rw [← hq]
  rw [← hq] at h3
  clear hq
  obtain ⟨W0, hW0⟩ : ∃ W0, (w.alloc (.cells #[.int .i64 n, .int .i64 m, .slice a1 St.length c1, .slice a2 Fi.length c2, .slice a3 q c3] 25)).alloc (.cells #[.int .i64 0, .int .i64 0, .slice none 0 0, .slice none 0 0, .slice none 0 0] 25) = W0 := ⟨_, rfl⟩
  have HD := hide (box2 w #[.int .i64 n, .int .i64 m, .slice a1 St.length c1, .slice a2 Fi.length c2, .slice a3 q c3] #[.int .i64 0, .int .i64 0, .slice none 0 0, .slice none 0 0, .slice none 0 0] 25)
  rw [hW0] at HD
  have B0 := HD.out.2.1
  have y4 : W0.cell? ⟨w.heap.size, 4, none⟩ = some (.slice a3 q c3) := cell_of B0 rfl
  clear B0
  go_enter Tryz.func65, Tryz.ntmps65
  go_wp2_with (at_make; refine wpList_make_full _ rfl _ _ 23 rfl W0.heap.size 59 i5 (.agg #[.int .i64 0, .int .i64 0, .int .i64 0]) 3 Tryz.underlying23 hi5 hz50 hz51 _ _ _ _ q rfl rfl (by go_num) (by go_num) (by rw [hz52]; omega) (by unfold maxLen; omega) (Nat.le_refl _) ?_)
  intro w1 ho hg
  have D1 : Below W0.heap.size W0 w1 := (Below.refl _ _).grown hg (Nat.le_refl _) (by intro k hk; cases hk)
  have M0 := Mrw.ofRow (turnV Ed) ho
  have y41 : w1.cell? ⟨w.heap.size, 4, none⟩ = some (.slice a3 q c3) := cell_of (blk_on HD.out.2.1 D1) rfl
  have H1 := hide (And.intro M0 D1)
  clear M0 D1 ho hg y4
  go_wp2
  go_loopw [13] (fun iv wr => ∃ i : Nat, i ≤ q ∧ iv = .int .i64 i ∧ Hid (Mrw wr W0.heap.size 59 (q * 3) (turnV Ed) (i * 3) ∧ Below W0.heap.size W0 wr)) (fun iv _ => q - (intOf iv).toNat)
  case atStart => exact ⟨0, Nat.zero_le _, rfl, hide ⟨by simpa using H1.out.1, H1.out.2⟩⟩
  case round =>
    obtain ⟨i, hi, rfl, HY⟩ := hrel
    clear H1 y41
    by_cases hil : i < q
    · have i0 : (0 : Int) ≤ (i : Int) := by omega
      have i1 : (i : Int) < (q : Int) := by omega
      have hil2 : i < Ed.length := by rw [← HL.out]; exact hil
      obtain ⟨ge, o, rfl, q1, q2, q3⟩ := (hA.out.e.on (HD.out.1.trans (HY.out.2.mono HD.out.1.size))) i hil2
      obtain ⟨x, hx⟩ : ∃ x, Ed[i] = x := ⟨_, rfl⟩
      rw [hx] at q1 q2 q3
      obtain ⟨x1, x2, x3⟩ := x
      have HV := hide (turnV_at hil2 hx)
      clear hx
      obtain ⟨W1, hW1⟩ : ∃ W1, wr.alloc (.cells #[.int .i64 x1, .int .i64 x2, .int .i64 x3] 59) = W1 := ⟨_, rfl⟩
      have HW : Hid (W1.heap[wr.heap.size]? = some (.cells #[.int .i64 x1, .int .i64 x2, .int .i64 x3] 59 (0, 0)) ∧ Below wr.heap.size wr W1) := hide (by rw [← hW1]; exact ⟨World.alloc_heap_new _ _, (Below.refl _ _).alloc (Nat.le_refl _) _⟩)
      have y0 : W1.cell? ⟨wr.heap.size, 0, none⟩ = some (.int .i64 x1) := cell_of HW.out.1 rfl
      have y1 : W1.cell? ⟨wr.heap.size, 1, none⟩ = some (.int .i64 x2) := cell_of HW.out.1 rfl
      have y2 : W1.cell? ⟨wr.heap.size, 2, none⟩ = some (.int .i64 x3) := cell_of HW.out.1 rfl
      have M1 : Hid (Mrw W1 W0.heap.size 59 (q * 3) (turnV Ed) (i * 3)) := hide (HY.out.1.below HW.out.2 HY.out.1.lt)
      obtain ⟨u0, z0⟩ := M1.out.cell (i * 3) (by omega)
      obtain ⟨u1, z1⟩ := M1.out.cell (i * 3 + 1) (by omega)
      obtain ⟨u2, z2⟩ := M1.out.cell (i * 3 + 2) (by omega)
      have f0 := M1.out.fz (i * 3)
      have f1 := M1.out.fz (i * 3 + 1)
      have f2 := M1.out.fz (i * 3 + 2)
      go_wp2
      refine ⟨⟨i + 1, by omega, by go_num, hide ⟨?_, ?_⟩⟩, by simp [intOf]; omega⟩
      · have e1 := M1.out.put (by omega) _ HV.out.1
        have e2 := e1.put (by omega) _ HV.out.2.1
        have e3 := e2.put (by omega) _ HV.out.2.2
        rw [show (i + 1) * 3 = i * 3 + 1 + 1 + 1 by omega]
        exact e3
      · have d := HY.out.2.trans (HW.out.2.mono HY.out.2.size)
        exact d.trans ((only3 W1 W0.heap.size _ _ _ _ _ _).toBelow d.size (fun k hk => Nat.le_of_eq hk.symm))
    · obtain rfl : q = i := by omega
      have i1 : ¬ (q : Int) < (q : Int) := by omega
      have HR : Hid (RdE wr (some ⟨W0.heap.size, 0, none⟩) (turnE Ed)) := hide (by have := HY.out.1; rw [HL.out] at this; exact turn_rd this)
      have B1 := blk_on HD.out.2.1 HY.out.2
      have y0 : wr.cell? ⟨w.heap.size, 0, none⟩ = some (.int .i64 n) := cell_of B1 rfl
      have y1 : wr.cell? ⟨w.heap.size, 1, none⟩ = some (.int .i64 m) := cell_of B1 rfl
      have y2 : wr.cell? ⟨w.heap.size, 2, none⟩ = some (.slice a1 St.length c1) := cell_of B1 rfl
      have y3 : wr.cell? ⟨w.heap.size, 3, none⟩ = some (.slice a2 Fi.length c2) := cell_of B1 rfl
      have HA := hide (hA.out.on (HD.out.1.trans (HY.out.2.mono HD.out.1.size)))
      have T := inOrder_any wr n m a2 a1 (some ⟨W0.heap.size, 0, none⟩) c2 c1 q Fi St (turnE Ed) (hide ⟨HA.out.f, HA.out.s, HR.out⟩) h2 h1 (by rw [turnE_len, ← HL.out]; exact h3)
      rw [turnE_len, ← HL.out] at T
      clear B1
      have FK := hide (fun (W2 : World) (d : Below W0.heap.size W0 W2) => show W2.heap[w.heap.size + 1]? = some (.cells #[.int .i64 0, .int .i64 0, .slice none 0 0, .slice none 0 0, .slice none 0 0] 25 (0, 0)) from blk_on HD.out.2.2.1 d)
      go_wp2_with (go_at_call 62; refine T.mono ?_; rintro e wc ⟨g1, k1, g2, k2, g3, k3, rfl, hO, d⟩; have HO := hide (And.intro hO (And.intro d (HY.out.2.trans (d.mono HY.out.2.size)))); clear hO d; have F3 := FK.out wc HO.out.2.2; have o0 : wc.cell? ⟨w.heap.size + 1, 0, none⟩ = some (.int .i64 0) := cell_of F3 rfl; have f0 : wc.frozen? ⟨w.heap.size + 1, 0, none⟩ = false := fz_of F3; have o1 : wc.cell? ⟨w.heap.size + 1, 1, none⟩ = some (.int .i64 0) := cell_of F3 rfl; have f1 : wc.frozen? ⟨w.heap.size + 1, 1, none⟩ = false := fz_of F3; have o2 : wc.cell? ⟨w.heap.size + 1, 2, none⟩ = some (.slice none 0 0) := cell_of F3 rfl; have f2 : wc.frozen? ⟨w.heap.size + 1, 2, none⟩ = false := fz_of F3; have o3 : wc.cell? ⟨w.heap.size + 1, 3, none⟩ = some (.slice none 0 0) := cell_of F3 rfl; have f3 : wc.frozen? ⟨w.heap.size + 1, 3, none⟩ = false := fz_of F3; have o4 : wc.cell? ⟨w.heap.size + 1, 4, none⟩ = some (.slice none 0 0) := cell_of F3 rfl; have f4 : wc.frozen? ⟨w.heap.size + 1, 4, none⟩ = false := fz_of F3; have O6 := hide (And.intro (set5 wc (w.heap.size + 1) _ _ _ _ _ (.int .i64 n) (.int .i64 m) (.slice (some ⟨g1, 0, none⟩) (riseL Fi).length k1) (.slice (some ⟨g2, 0, none⟩) (riseL St).length k2) (.slice (some ⟨g3, 0, none⟩) (riseE (turnE Ed)).length k3) 25 F3) (only5 wc (w.heap.size + 1) (.int .i64 n) (.int .i64 m) (.slice (some ⟨g1, 0, none⟩) (riseL Fi).length k1) (.slice (some ⟨g2, 0, none⟩) (riseL St).length k2) (.slice (some ⟨g3, 0, none⟩) (riseE (turnE Ed)).length k3))); clear F3)
      refine bodyPost_ret (results_cell_row (p := 2) (ty := 25) rfl _ _ (w.heap.size + 1) 25 _ (0, 0) _ rfl O6.out.1 Tryz.underlying25 rfl (by kernel_rfl)) rfl ?_
      have z0 := HD.out.2.2.2
      have z1 := HY.out.2.size
      have z2 := HO.out.2.2.size
      have p1 := own_at HO.out.1.s
      have p2 := own_at HO.out.1.f
      have p3 := own_at HO.out.1.e
      have r1 : wc.ownsRow w.heap.size 3 1 (.slice (some ⟨g1, 0, none⟩) (riseL Fi).length k1) (riseL Fi).length ((riseL Fi).map (Value.int .i64)) := owns_down HO.out.1.s (by omega)
      have r2 : wc.ownsRow w.heap.size 3 1 (.slice (some ⟨g2, 0, none⟩) (riseL St).length k2) (riseL St).length ((riseL St).map (Value.int .i64)) := owns_down HO.out.1.f (by omega)
      have r3 : wc.ownsRow w.heap.size 59 3 (.slice (some ⟨g3, 0, none⟩) (riseE (turnE Ed)).length k3) (riseE (turnE Ed)).length ((riseE (turnE Ed)).flatMap encE) := owns_down HO.out.1.e (by omega)
      refine ⟨g1, k1, g2, k2, g3, k3, rfl, ⟨own_only r1 O6.out.2 (by omega), own_only r2 O6.out.2 (by omega), own_only r3 O6.out.2 (by omega), HO.out.1.n12, HO.out.1.n13, HO.out.1.n23⟩, (HD.out.1.trans (HO.out.2.2.mono (by omega))).trans (O6.out.2.toBelow (by omega) (fun k hk => by omega))⟩
end Go.Proofs.YtfoahpideglghaaGreatDoor
