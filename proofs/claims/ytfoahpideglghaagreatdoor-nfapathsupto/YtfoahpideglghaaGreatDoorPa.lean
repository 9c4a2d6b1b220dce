import Derived.Test.YtfoahpideglghaaGreatDoorLp
namespace Go.Proofs.YtfoahpideglghaaGreatDoor
open Go.RowKit Go.Maps Go.Shelf
attribute [local go_sem] Oper.semAt_some

/-! ### Path -/
theorem eql_nil (W : World) (ao : Option Addr) (n c : Nat) : (binOp .eql 22 (.slice ao n c) (.slice none 0 0)).run Tryz.prog W = .ok (.bool ao.isNone) W := by
  have := Lib.run_eql_slice_nil (P := Tryz.prog) W 22 3 ao n c 0 0 Tryz.underlying22
  simpa using this
set_option maxRecDepth 100000 in
set_option maxHeartbeats 1000000 in
theorem Path_bad (w : World) (n : Int) (m : Int) (a1 a2 a3 aw : Option Addr) (c1 c2 c3 cw : Nat) (St Fi : List Int) (Ed : List EdT) (Wd : List Int) (hA : Hid (RdA w a1 a2 a3 St Fi Ed)) (hWd : Hid (RdN w aw Wd)) (h1 : St.length ≤ 4194304) (h2 : Fi.length ≤ 4194304) (h3 : Ed.length ≤ 4194304) (hw : Wd.length ≤ 4194304) (hbad : wordErr n m St Fi Ed Wd ≠ 0) :
    Calls Tryz.prog 12 #[.agg #[.int .i64 n, .int .i64 m, .slice a1 St.length c1, .slice a2 Fi.length c2, .slice a3 Ed.length c3], .slice aw Wd.length cw] w fun e w' => e = .returned (.tuple #[.slice none 0 0, .int .i64 (wordErr n m St Fi Ed Wd)]) ∧ Below w.heap.size w w' := by
  obtain ⟨W0, hW0⟩ : ∃ W0, w.alloc (.cells #[.int .i64 n, .int .i64 m, .slice a1 St.length c1, .slice a2 Fi.length c2, .slice a3 Ed.length c3] 25) = W0 := ⟨_, rfl⟩
  have d0 : Below w.heap.size w W0 := by rw [← hW0]; exact (Below.refl _ _).alloc (Nat.le_refl _) _
  have B0 : W0.heap[w.heap.size]? = some (.cells #[.int .i64 n, .int .i64 m, .slice a1 St.length c1, .slice a2 Fi.length c2, .slice a3 Ed.length c3] 25 (0, 0)) := by rw [← hW0]; exact World.alloc_heap_new _ _
  have y0 : W0.cell? ⟨w.heap.size, 0, none⟩ = some (.int .i64 n) := cell_of B0 rfl
  have y1 : W0.cell? ⟨w.heap.size, 1, none⟩ = some (.int .i64 m) := cell_of B0 rfl
  have y2 : W0.cell? ⟨w.heap.size, 2, none⟩ = some (.slice a1 St.length c1) := cell_of B0 rfl
  have y3 : W0.cell? ⟨w.heap.size, 3, none⟩ = some (.slice a2 Fi.length c2) := cell_of B0 rfl
  have y4 : W0.cell? ⟨w.heap.size, 4, none⟩ = some (.slice a3 Ed.length c3) := cell_of B0 rfl
  have T1 := checkWord_any W0 n m a1 a2 a3 c1 c2 c3 St Fi Ed (hide (hA.out.on d0)) h1 h2 h3 aw cw Wd (hide (hWd.out.on d0)) hw
  have HD := hide (And.intro d0 B0)
  clear d0 B0
  obtain ⟨r, hr⟩ : ∃ r, wordErr n m St Fi Ed Wd = r := ⟨_, rfl⟩
  rw [hr] at T1 hbad
  rw [hr]
  clear hr
  go_enter Tryz.func12, Tryz.ntmps12
  go_wp2_with (go_at_call 51; refine T1.mono ?_; rintro e w1 ⟨rfl, d1⟩; have H1 := hide d1; clear d1)
  go_ret2
  exact ⟨rfl, HD.out.1.trans (H1.out.mono HD.out.1.size)⟩
set_option maxRecDepth 100000 in
set_option maxHeartbeats 1000000 in
theorem Path_none (w : World) (N : Nat) (m : Int) (a1 a2 a3 aw : Option Addr) (c1 c2 c3 cw : Nat) (St Fi : List Int) (Ed : List EdT) (Wd : List Int) (hA : Hid (RdA w a1 a2 a3 St Fi Ed)) (hWd : Hid (RdN w aw Wd)) (hT : Hid (TabAt w ∧ 0 < w.heap.size)) (h1 : St.length ≤ 4194304) (h2 : Fi.length ≤ 4194304) (h3 : Ed.length ≤ 4194304) (hw : Wd.length ≤ 4194304) (hok : wordErr N m St Fi Ed Wd = 0) (hz : setI N St &&& restF Ed (setI N Fi) Wd 0 = 0) :
    Calls Tryz.prog 12 #[.agg #[.int .i64 (N : Int), .int .i64 m, .slice a1 St.length c1, .slice a2 Fi.length c2, .slice a3 Ed.length c3], .slice aw Wd.length cw] w fun e w' => e = .returned (.tuple #[.slice none 0 0, .int .i64 60]) ∧ Below w.heap.size w w' := by
  obtain ⟨W0, hW0⟩ : ∃ W0, w.alloc (.cells #[.int .i64 (N : Int), .int .i64 m, .slice a1 St.length c1, .slice a2 Fi.length c2, .slice a3 Ed.length c3] 25) = W0 := ⟨_, rfl⟩
  have d0 : Below w.heap.size w W0 := by rw [← hW0]; exact (Below.refl _ _).alloc (Nat.le_refl _) _
  have B0 : W0.heap[w.heap.size]? = some (.cells #[.int .i64 (N : Int), .int .i64 m, .slice a1 St.length c1, .slice a2 Fi.length c2, .slice a3 Ed.length c3] 25 (0, 0)) := by rw [← hW0]; exact World.alloc_heap_new _ _
  have y0 : W0.cell? ⟨w.heap.size, 0, none⟩ = some (.int .i64 (N : Int)) := cell_of B0 rfl
  have y1 : W0.cell? ⟨w.heap.size, 1, none⟩ = some (.int .i64 m) := cell_of B0 rfl
  have y2 : W0.cell? ⟨w.heap.size, 2, none⟩ = some (.slice a1 St.length c1) := cell_of B0 rfl
  have y3 : W0.cell? ⟨w.heap.size, 3, none⟩ = some (.slice a2 Fi.length c2) := cell_of B0 rfl
  have y4 : W0.cell? ⟨w.heap.size, 4, none⟩ = some (.slice a3 Ed.length c3) := cell_of B0 rfl
  have T1 := checkWord_any W0 (N : Int) m a1 a2 a3 c1 c2 c3 St Fi Ed (hide (hA.out.on d0)) h1 h2 h3 aw cw Wd (hide (hWd.out.on d0)) hw
  have HD := hide (And.intro d0 B0)
  clear d0 B0
  have HE := hide (wordErr_zero hok)
  rw [hok] at T1
  clear hok
  go_enter Tryz.func12, Tryz.ntmps12
  go_upto_region 4 with (go_at_call 51; refine T1.mono ?_; rintro e w1 ⟨rfl, d1⟩; have H1 := hide (And.intro d1 (blk_on HD.out.2 d1)); clear d1)
  clear y0 y1 y2 y3 y4 T1
  have D1 : Hid (Below w.heap.size w w1) := hide (HD.out.1.trans (H1.out.1.mono HD.out.1.size))
  have B1 := H1.out.2
  have y0 : w1.cell? ⟨w.heap.size, 0, none⟩ = some (.int .i64 (N : Int)) := cell_of B1 rfl
  have y1 : w1.cell? ⟨w.heap.size, 1, none⟩ = some (.int .i64 m) := cell_of B1 rfl
  have y2 : w1.cell? ⟨w.heap.size, 2, none⟩ = some (.slice a1 St.length c1) := cell_of B1 rfl
  have y3 : w1.cell? ⟨w.heap.size, 3, none⟩ = some (.slice a2 Fi.length c2) := cell_of B1 rfl
  have y4 : w1.cell? ⟨w.heap.size, 4, none⟩ = some (.slice a3 Ed.length c3) := cell_of B1 rfl
  clear B1
  have TL := leastPath_none w1 N m a1 a2 a3 aw c1 c2 c3 cw St Fi Ed Wd (hide (hA.out.on D1.out)) (hide (hWd.out.on D1.out)) (hide ⟨hT.out.1.below D1.out hT.out.2, Nat.lt_of_lt_of_le hT.out.2 D1.out.size⟩) h1 h2 h3 hw (hide HE.out.1) hz
  have EQ := eql_nil
  go_wp2_with (go_at_call 55; refine TL.mono ?_; rintro e w2 ⟨rfl, d2⟩; have D2 : Hid (Below w.heap.size w w2) := hide (D1.out.trans (d2.mono D1.out.size)); clear d2)
  go_ret2
  exact ⟨rfl, D2.out⟩
set_option maxRecDepth 100000 in
set_option maxHeartbeats 1000000 in
theorem Path_ok (w : World) (N : Nat) (m : Int) (a1 a2 a3 aw : Option Addr) (c1 c2 c3 cw : Nat) (St Fi : List Int) (Ed : List EdT) (Wd : List Int) (hA : Hid (RdA w a1 a2 a3 St Fi Ed)) (hWd : Hid (RdN w aw Wd)) (hT : Hid (TabAt w ∧ 0 < w.heap.size)) (h1 : St.length ≤ 4194304) (h2 : Fi.length ≤ 4194304) (h3 : Ed.length ≤ 4194304) (hw : Wd.length ≤ 4194304) (hok : wordErr N m St Fi Ed Wd = 0) (p0 : Nat) (hz : Hid (setI N St &&& restF Ed (setI N Fi) Wd 0 ≠ 0)) (hp0 : nextL (elems N (setI N St &&& restF Ed (setI N Fi) Wd 0)) 0 = (p0 : Int)) :
    Calls Tryz.prog 12 #[.agg #[.int .i64 (N : Int), .int .i64 m, .slice a1 St.length c1, .slice a2 Fi.length c2, .slice a3 Ed.length c3], .slice aw Wd.length cw] w fun e w' => ∃ g c, e = .returned (.tuple #[.slice (some ⟨g, 0, none⟩) (Wd.length + 1) c, .int .i64 0]) ∧ Hid (w'.ownsRow w.heap.size 3 1 (.slice (some ⟨g, 0, none⟩) (Wd.length + 1) c) (Wd.length + 1) (intV (pathF (riseE Ed) (restF Ed (setI N Fi) Wd) Wd p0 (Wd.length + 1)))) ∧ Below w.heap.size w w' := by
  obtain ⟨W0, hW0⟩ : ∃ W0, w.alloc (.cells #[.int .i64 (N : Int), .int .i64 m, .slice a1 St.length c1, .slice a2 Fi.length c2, .slice a3 Ed.length c3] 25) = W0 := ⟨_, rfl⟩
  have d0 : Below w.heap.size w W0 := by rw [← hW0]; exact (Below.refl _ _).alloc (Nat.le_refl _) _
  have B0 : W0.heap[w.heap.size]? = some (.cells #[.int .i64 (N : Int), .int .i64 m, .slice a1 St.length c1, .slice a2 Fi.length c2, .slice a3 Ed.length c3] 25 (0, 0)) := by rw [← hW0]; exact World.alloc_heap_new _ _
  have y0 : W0.cell? ⟨w.heap.size, 0, none⟩ = some (.int .i64 (N : Int)) := cell_of B0 rfl
  have y1 : W0.cell? ⟨w.heap.size, 1, none⟩ = some (.int .i64 m) := cell_of B0 rfl
  have y2 : W0.cell? ⟨w.heap.size, 2, none⟩ = some (.slice a1 St.length c1) := cell_of B0 rfl
  have y3 : W0.cell? ⟨w.heap.size, 3, none⟩ = some (.slice a2 Fi.length c2) := cell_of B0 rfl
  have y4 : W0.cell? ⟨w.heap.size, 4, none⟩ = some (.slice a3 Ed.length c3) := cell_of B0 rfl
  have T1 := checkWord_any W0 (N : Int) m a1 a2 a3 c1 c2 c3 St Fi Ed (hide (hA.out.on d0)) h1 h2 h3 aw cw Wd (hide (hWd.out.on d0)) hw
  have HD := hide (And.intro d0 B0)
  clear d0 B0
  have HE := hide (wordErr_zero hok)
  rw [hok] at T1
  clear hok
  go_enter Tryz.func12, Tryz.ntmps12
  go_upto_region 4 with (go_at_call 51; refine T1.mono ?_; rintro e w1 ⟨rfl, d1⟩; have H1 := hide (And.intro d1 (blk_on HD.out.2 d1)); clear d1)
  clear y0 y1 y2 y3 y4 T1
  have D1 : Hid (Below w.heap.size w w1) := hide (HD.out.1.trans (H1.out.1.mono HD.out.1.size))
  have B1 := H1.out.2
  have y0 : w1.cell? ⟨w.heap.size, 0, none⟩ = some (.int .i64 (N : Int)) := cell_of B1 rfl
  have y1 : w1.cell? ⟨w.heap.size, 1, none⟩ = some (.int .i64 m) := cell_of B1 rfl
  have y2 : w1.cell? ⟨w.heap.size, 2, none⟩ = some (.slice a1 St.length c1) := cell_of B1 rfl
  have y3 : w1.cell? ⟨w.heap.size, 3, none⟩ = some (.slice a2 Fi.length c2) := cell_of B1 rfl
  have y4 : w1.cell? ⟨w.heap.size, 4, none⟩ = some (.slice a3 Ed.length c3) := cell_of B1 rfl
  clear B1
  have TL := leastPath_some w1 N m a1 a2 a3 aw c1 c2 c3 cw St Fi Ed Wd (hide (hA.out.on D1.out)) (hide (hWd.out.on D1.out)) (hide ⟨hT.out.1.below D1.out hT.out.2, Nat.lt_of_lt_of_le hT.out.2 D1.out.size⟩) h1 h2 h3 hw (hide HE.out.1) p0 hz hp0
  clear hz hp0
  have EQ : ∀ (W : World) (g n c : Nat), (binOp .eql 22 (.slice (some ⟨g, 0, none⟩) n c) (.slice none 0 0)).run Tryz.prog W = .ok (.bool false) W := fun W g n c => eql_nil W _ _ _
  go_wp2_with (go_at_call 55; refine TL.mono ?_; rintro e w2 ⟨gp, cp, rfl, hr2, d2⟩; have D2 : Hid (Below w.heap.size w w2) := hide (D1.out.trans (d2.mono D1.out.size)); clear d2)
  go_ret2
  exact ⟨gp, cp, rfl, hide (owns_down hr2.out D1.out.size), D2.out⟩
end Go.Proofs.YtfoahpideglghaaGreatDoor
