import Derived.Test.YtfoahpideglghaaGreatDoorLr
namespace Go.Proofs.YtfoahpideglghaaGreatDoor
open Go.RowKit Go.Maps Go.Shelf
attribute [local go_sem] Oper.semAt_some

/-! ### Two automata that are alike -/
set_option maxRecDepth 100000 in
set_option maxHeartbeats 2000000 in
theorem equal_yes (w : World) (n m : Int) (a1 a2 a3 b1 b2 b3 : Option Addr) (a4 a5 a6 b4 b5 b6 : Nat) (St Fi : List Int) (Ed : List EdT) (hA : Hid (RdA w a1 a2 a3 St Fi Ed)) (hB : Hid (RdA w b1 b2 b3 St Fi Ed)) (h1 : St.length ≤ 4194304) (h2 : Fi.length ≤ 4194304) (h3 : Ed.length ≤ 4194304) :
    Calls Tryz.prog 25 #[.agg #[.int .i64 n, .int .i64 m, .slice a1 St.length a4, .slice a2 Fi.length a5, .slice a3 Ed.length a6], .agg #[.int .i64 n, .int .i64 m, .slice b1 St.length b4, .slice b2 Fi.length b5, .slice b3 Ed.length b6]] w fun e w' => e = .returned (.bool true) ∧ Below w.heap.size w w' := by
  obtain ⟨W0, hW0⟩ : ∃ W0, (w.alloc (.cells #[.int .i64 n, .int .i64 m, .slice a1 St.length a4, .slice a2 Fi.length a5, .slice a3 Ed.length a6] 25)).alloc (.cells #[.int .i64 n, .int .i64 m, .slice b1 St.length b4, .slice b2 Fi.length b5, .slice b3 Ed.length b6] 25) = W0 := ⟨_, rfl⟩
  have HD := hide (box3 w #[.int .i64 n, .int .i64 m, .slice a1 St.length a4, .slice a2 Fi.length a5, .slice a3 Ed.length a6] #[.int .i64 n, .int .i64 m, .slice b1 St.length b4, .slice b2 Fi.length b5, .slice b3 Ed.length b6] 25 25)
  rw [hW0] at HD
  have SK : Hid (∀ W, Below W0.heap.size W0 W → (W.cell? ⟨w.heap.size, 0, none⟩ = some (.int .i64 n) ∧ W.cell? ⟨w.heap.size, 1, none⟩ = some (.int .i64 m) ∧ W.cell? ⟨w.heap.size, 2, none⟩ = some (.slice a1 St.length a4) ∧ W.cell? ⟨w.heap.size, 3, none⟩ = some (.slice a2 Fi.length a5) ∧ W.cell? ⟨w.heap.size, 4, none⟩ = some (.slice a3 Ed.length a6)) ∧ (W.cell? ⟨w.heap.size + 1, 0, none⟩ = some (.int .i64 n) ∧ W.cell? ⟨w.heap.size + 1, 1, none⟩ = some (.int .i64 m) ∧ W.cell? ⟨w.heap.size + 1, 2, none⟩ = some (.slice b1 St.length b4) ∧ W.cell? ⟨w.heap.size + 1, 3, none⟩ = some (.slice b2 Fi.length b5) ∧ W.cell? ⟨w.heap.size + 1, 4, none⟩ = some (.slice b3 Ed.length b6))) := hide (fun W d => by
    have e := blk_on HD.out.2.1 d
    have f := blk_on HD.out.2.2.1 d
    exact ⟨⟨cell_of e rfl, cell_of e rfl, cell_of e rfl, cell_of e rfl, cell_of e rfl⟩, cell_of f rfl, cell_of f rfl, cell_of f rfl, cell_of f rfl, cell_of f rfl⟩)
  have TS : Hid (∀ W, Below W0.heap.size W0 W → Calls Tryz.prog 20 #[.slice a1 St.length a4, .slice b1 St.length b4] W fun e w' => e = .returned (.bool true) ∧ Below W.heap.size W w') := hide (fun W d => by
    have d2 := HD.out.1.trans (d.mono HD.out.1.size)
    have t := sameInts_any W a1 b1 St St a4 b4 (hide (hA.out.s.on d2)) (hide (hB.out.s.on d2)) h1 h1
    simpa using t)
  have TF : Hid (∀ W, Below W0.heap.size W0 W → Calls Tryz.prog 20 #[.slice a2 Fi.length a5, .slice b2 Fi.length b5] W fun e w' => e = .returned (.bool true) ∧ Below W.heap.size W w') := hide (fun W d => by
    have d2 := HD.out.1.trans (d.mono HD.out.1.size)
    have t := sameInts_any W a2 b2 Fi Fi a5 b5 (hide (hA.out.f.on d2)) (hide (hB.out.f.on d2)) h2 h2
    simpa using t)
  obtain ⟨⟨y0, y1, y2, y3, y4⟩, z0, z1, z2, z3, z4⟩ := SK.out W0 (Below.refl _ _)
  have e0 : (n != n) = false := by simp
  have e1 : (m != m) = false := by simp
  have e2 : ((Ed.length : Int) != (Ed.length : Int)) = false := by simp
  go_enter Tryz.func25, Tryz.ntmps25
  go_wp2_with (first
    | (go_at_call_of 20 a1; refine (TS.out _ (Below.refl _ _)).mono ?_; rintro e w1 ⟨rfl, d1⟩; have ⟨⟨x0, x1, x2, x3, x4⟩, u0, u1, u2, u3, u4⟩ := SK.out w1 d1)
    | (go_at_call_of 20 a2; refine (TF.out w1 d1).mono ?_; rintro e w2 ⟨rfl, d2⟩; have d3 := d1.trans (d2.mono d1.size); have ⟨⟨p0, p1, p2, p3, p4⟩, q0, q1, q2, q3, q4⟩ := SK.out w2 d3))
  have D3 := hide d3
  clear y0 y1 y2 y3 y4 z0 z1 z2 z3 z4 d1 d2 d3 x0 x1 x2 x3 x4 u0 u1 u2 u3 u4 p0 p1 p2 p3 p4 q0 q1 q2 q3 q4
  go_loopw [5] (fun iv wr => ∃ i : Nat, i ≤ Ed.length ∧ iv = .int .i64 i ∧ Hid (Below W0.heap.size W0 wr)) (fun iv _ => Ed.length - (intOf iv).toNat)
  case atStart => exact ⟨0, Nat.zero_le _, rfl, D3⟩
  case round =>
    obtain ⟨i, hi, rfl, HW⟩ := hrel
    clear D3
    obtain ⟨⟨y0, y1, y2, y3, y4⟩, z0, z1, z2, z3, z4⟩ := SK.out wr HW.out
    have D := hide (HD.out.1.trans (HW.out.mono HD.out.1.size))
    clear y0 y1 y2 y3 z0 z1 z2 z3
    by_cases hlt : i < Ed.length
    · have l0 : (i : Int) < (Ed.length : Int) := by omega
      have l1 : (0 : Int) ≤ (i : Int) := by omega
      obtain ⟨g, o, hao, q0, q1, q2⟩ := (hA.out.e.on D.out) i hlt
      obtain ⟨g', o', hbo, r0, r1, r2⟩ := (hB.out.e.on D.out) i hlt
      subst hao hbo
      obtain ⟨x, hx⟩ : ∃ x, Ed[i] = x := ⟨_, rfl⟩
      rw [hx] at q0 q1 q2 r0 r1 r2
      obtain ⟨x1, x2, x3⟩ := x
      clear hx
      simp only at q0 q1 q2 r0 r1 r2
      go_wp2
      refine wp_region_phase 10 #[true, true, true, true, true, true, true, true, true, true, false] (by kernel_rfl) (by kernel_rfl) ?_
      simp only [List.take_succ_cons, List.take_zero, List.drop_succ_cons, List.drop_zero]
      repeat (go_big_quiet_step (fail))
      refine wpQuiet_nil ?_
      intro wz hzz
      obtain ⟨nq, rfl⟩ := hzz
      go_wp2_with fail
      go_roundw
      case rel => exact ⟨i + 1, by omega, by go_num, hide (below_drewN2 HW.out nq)⟩
      case measure => simp [intOf]; omega
    · have l0 : ¬ (i : Int) < (Ed.length : Int) := by omega
      go_wp2
      refine bodyPost_ret (results_tmp rfl _ _ _) rfl ?_
      exact ⟨rfl, D.out⟩
theorem box4 (w : World) (o1 o2 o3 o4 : Obj) : Below w.heap.size w ((((w.alloc o1).alloc o2).alloc o3).alloc o4) ∧ ((((w.alloc o1).alloc o2).alloc o3).alloc o4).heap[w.heap.size]? = some o1 ∧ ((((w.alloc o1).alloc o2).alloc o3).alloc o4).heap[w.heap.size + 1]? = some o2 ∧ ((((w.alloc o1).alloc o2).alloc o3).alloc o4).heap[w.heap.size + 1 + 1]? = some o3 ∧ ((((w.alloc o1).alloc o2).alloc o3).alloc o4).heap[w.heap.size + 1 + 1 + 1]? = some o4 := by
  refine ⟨((((Below.refl _ _).alloc (Nat.le_refl _) _).alloc (by simp) _).alloc (by simp <;> omega) _).alloc (by simp <;> omega) _, ?_, ?_, ?_, ?_⟩
  · exact (Below.heap_alloc _ _ _ (by simp <;> omega)).trans ((Below.heap_alloc _ _ _ (by simp <;> omega)).trans ((Below.heap_alloc _ _ _ (by simp)).trans (World.alloc_heap_new _ _)))
  · have := World.alloc_heap_new (w.alloc o1) o2
    rw [World.size_alloc] at this
    exact (Below.heap_alloc _ _ _ (by simp <;> omega)).trans ((Below.heap_alloc _ _ _ (by simp)).trans this)
  · have := World.alloc_heap_new ((w.alloc o1).alloc o2) o3
    rw [World.size_alloc, World.size_alloc] at this
    exact (Below.heap_alloc _ _ _ (by simp)).trans this
  · have := World.alloc_heap_new (((w.alloc o1).alloc o2).alloc o3) o4
    rw [World.size_alloc, World.size_alloc, World.size_alloc] at this
    exact this
/-- The small automaton's edges. -/
def smE : List EdT := [(0, 0, 0), (0, 1, 0), (0, 1, 1), (1, 0, 2)]
set_option maxRecDepth 100000 in
set_option maxHeartbeats 1000000 in
theorem small_any (w : World) : Calls Tryz.prog 50 #[] w fun e w' => ∃ g1 g2 g3, e = .returned (.agg #[.int .i64 3, .int .i64 2, .slice (some ⟨g1, 0, none⟩) 1 1, .slice (some ⟨g2, 0, none⟩) 1 1, .slice (some ⟨g3, 0, none⟩) 4 4]) ∧ Hid (RdA w' (some ⟨g1, 0, none⟩) (some ⟨g2, 0, none⟩) (some ⟨g3, 0, none⟩) [0] [2] smE) ∧ Below w.heap.size w w' := by
  have q := box4 w (.cells #[.int .i64 3, .int .i64 2, .slice (some ⟨w.heap.size + 1, 0, none⟩) 1 1, .slice (some ⟨w.heap.size + 1 + 1, 0, none⟩) 1 1, .slice (some ⟨w.heap.size + 1 + 1 + 1, 0, none⟩) 4 4] 25) (.cells #[.int .i64 0] 3) (.cells #[.int .i64 2] 3) (.cells #[.int .i64 0, .int .i64 0, .int .i64 0, .int .i64 0, .int .i64 1, .int .i64 0, .int .i64 0, .int .i64 1, .int .i64 1, .int .i64 1, .int .i64 0, .int .i64 2] 59)
  have HQ := hide q
  clear q
  go_enter Tryz.func50, Tryz.ntmps50
  go_wp2
  refine bodyPost_ret (results_cell_row (p := 0) (ty := 25) rfl _ _ w.heap.size 25 _ (0, 0) _ rfl HQ.out.2.1 Tryz.underlying25 rfl (by kernel_rfl)) rfl ?_
  refine ⟨w.heap.size + 1, w.heap.size + 1 + 1, w.heap.size + 1 + 1 + 1, rfl, hide ⟨fun j hj => ?_, fun j hj => ?_, fun j hj => ?_⟩, HQ.out.1⟩
  · match j, hj with
    | 0, _ => exact ⟨_, _, rfl, cell_of HQ.out.2.2.1 rfl⟩
  · match j, hj with
    | 0, _ => exact ⟨_, _, rfl, cell_of HQ.out.2.2.2.1 rfl⟩
  · have e := HQ.out.2.2.2.2
    match j, hj with
    | 0, _ => exact ⟨_, _, rfl, cell_of e rfl, cell_of e rfl, cell_of e rfl⟩
    | 1, _ => exact ⟨_, _, rfl, cell_of e rfl, cell_of e rfl, cell_of e rfl⟩
    | 2, _ => exact ⟨_, _, rfl, cell_of e rfl, cell_of e rfl, cell_of e rfl⟩
    | 3, _ => exact ⟨_, _, rfl, cell_of e rfl, cell_of e rfl, cell_of e rfl⟩
end Go.Proofs.YtfoahpideglghaaGreatDoor
