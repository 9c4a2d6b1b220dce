import Derived.Test.YtfoahpideglghaaGreatDoorCk
namespace Go.Proofs.YtfoahpideglghaaGreatDoor
open Go.RowKit Go.Maps
attribute [local go_sem] Oper.semAt_some
theorem box3 (w : World) (A Z : Array Value) (t u : TypeId) : Below w.heap.size w ((w.alloc (.cells A t)).alloc (.cells Z u)) ∧ ((w.alloc (.cells A t)).alloc (.cells Z u)).heap[w.heap.size]? = some (.cells A t (0, 0)) ∧ ((w.alloc (.cells A t)).alloc (.cells Z u)).heap[w.heap.size + 1]? = some (.cells Z u (0, 0)) ∧ ((w.alloc (.cells A t)).alloc (.cells Z u)).heap.size = w.heap.size + 2 := by
  refine ⟨((Below.refl _ _).alloc (Nat.le_refl _) _).alloc (by simp) _, (Below.heap_alloc _ _ _ (by simp)).trans (World.alloc_heap_new _ _), ?_, by simp⟩
  have := World.alloc_heap_new (w.alloc (.cells A t)) (.cells Z u)
  simpa using this
theorem set6 (w : World) (b : Nat) (v0 v1 v2 v3 v4 v5 u0 u1 u2 u3 u4 u5 : Value) (t : TypeId) (h : w.heap[b]? = some (.cells #[v0, v1, v2, v3, v4, v5] t (0, 0))) :
    ((((((w.setCell ⟨b, 0, none⟩ u0).setCell ⟨b, 1, none⟩ u1).setCell ⟨b, 2, none⟩ u2).setCell ⟨b, 3, none⟩ u3).setCell ⟨b, 4, none⟩ u4).setCell ⟨b, 5, none⟩ u5).heap[b]? = some (.cells #[u0, u1, u2, u3, u4, u5] t (0, 0)) :=
  heap_setCell_same _ _ 5 _ t _ (heap_setCell_same _ _ 4 _ t _ (heap_setCell_same _ _ 3 _ t _ (heap_setCell_same _ _ 2 _ t _ (heap_setCell_same _ _ 1 _ t _ (heap_setCell_same _ _ 0 _ t _ h)))))
theorem only6 (w : World) (b : Nat) (u0 u1 u2 u3 u4 u5 : Value) : Only w ((((((w.setCell ⟨b, 0, none⟩ u0).setCell ⟨b, 1, none⟩ u1).setCell ⟨b, 2, none⟩ u2).setCell ⟨b, 3, none⟩ u3).setCell ⟨b, 4, none⟩ u4).setCell ⟨b, 5, none⟩ u5) (fun k => k = b) :=
  (only5 w b u0 u1 u2 u3 u4).trans (only_set _ _ 5 _)
/-- How many edges start at the state before a number. -/
def cntAt (L : List EdT) (c : Nat) : Nat := (L.filter fun e => decide (e.1 + 1 = (c : Int))).length
/-- How many edges start below a number. -/
def lessC (L : List EdT) (c : Nat) : Nat := (L.filter fun e => decide (e.1 < (c : Int))).length
theorem cntAt_le (L : List EdT) (c : Nat) : cntAt L c ≤ L.length := List.length_filter_le _ _
theorem lessC_le (L : List EdT) (c : Nat) : lessC L c ≤ L.length := List.length_filter_le _ _
theorem cntAt_snoc (L : List EdT) (x : EdT) (c : Nat) : cntAt (L ++ [x]) c = cntAt L c + if x.1 + 1 = (c : Int) then 1 else 0 := by
  unfold cntAt
  rw [List.filter_append, List.length_append]
  by_cases h : x.1 + 1 = (c : Int) <;> simp [h]
theorem lessC_succ (L : List EdT) (c : Nat) : lessC L (c + 1) = cntAt L (c + 1) + lessC L c := by
  unfold lessC cntAt
  induction L with
  | nil => rfl
  | cons x L ih =>
    simp only [List.filter_cons]
    rcases Int.lt_trichotomy x.1 (c : Int) with h | h | h
    · rw [if_pos (by simp; omega), if_neg (by simp; omega), if_pos (by simpa using h), List.length_cons, List.length_cons, ih]; omega
    · rw [if_pos (by simp; omega), if_pos (by simp; omega), if_neg (by simp; omega), List.length_cons, List.length_cons, ih]; omega
    · rw [if_neg (by simp; omega), if_neg (by simp; omega), if_neg (by simp; omega), ih]
theorem lessC_zero (L : List EdT) (h : ∀ e ∈ L, 0 ≤ e.1) : lessC L 0 = 0 ∧ cntAt L 0 = 0 := by
  unfold lessC cntAt
  constructor <;> rw [List.length_eq_zero_iff, List.filter_eq_nil_iff] <;> intro e he <;> have := h e he <;> simp <;> omega
/-- The row of beginnings while the second loop runs. -/
def firstV (L : List EdT) (p c : Nat) : Value := .int .i64 ((if c ≤ p then lessC L c else cntAt L c : Nat) : Int)
set_option maxRecDepth 100000 in
set_option maxHeartbeats 1000000 in
theorem newWalk_any (w : World) (N : Nat) (m : Int) (a1 a2 a3 : Option Addr) (l1 l2 c1 c2 c3 : Nat) (Ed : List EdT) (hN : N ≤ 4096) (hE : Hid (RdE w a3 Ed)) (hl : Ed.length ≤ 4194304) (hF : Hid (∀ e ∈ Ed, 0 ≤ e.1 ∧ e.1 < (N : Int))) :
    Calls Tryz.prog 85 #[.agg #[.int .i64 (N : Int), .int .i64 m, .slice a1 l1 c1, .slice a2 l2 c2, .slice a3 Ed.length c3]] w fun e w' => ∃ g, e = .returned (.agg #[.int .i64 (N : Int), .int .i64 m, .slice a1 l1 c1, .slice a2 l2 c2, .slice a3 Ed.length c3, .slice (some ⟨g, 0, none⟩) (N + 1) (N + 1)]) ∧ Mrw w' g 3 (N + 1) (fun c => .int .i64 (lessC Ed c : Nat)) (N + 1) ∧ w.heap.size ≤ g ∧ Below w.heap.size w w' := by
  obtain ⟨i9, hi9, hz90, hz91, hz92⟩ := info_parts info3
  obtain ⟨M, hM⟩ : ∃ M, M = madeCells (Value.int .i64 0).cells ((((N : Nat) : Int) + 1).toNat * i9.size) := ⟨_, rfl⟩
  have hmk : ∀ W : World, (Instr.makeSlice 22 (.int .i64 ((N : Int) + 1)) (.int .i64 ((N : Int) + 1))).run Tryz.prog W = .ok (.slice (some ⟨W.heap.size, 0, none⟩) (N + 1) (N + 1)) (W.alloc (.cells M 3)) := fun W => by
    have h := run_make (P := Tryz.prog) W 22 3 i9 (.int .i64 0) Tryz.underlying22 hi9 hz90 .i64 .i64 ((N : Int) + 1) ((N : Int) + 1) (by omega) (by omega) (by rw [hz92]; omega) (by omega)
    rw [← hM] at h
    rw [h]
    have : ((N : Int) + 1).toNat = N + 1 := by omega
    rw [this]
  have hwr : IntKind.i64.wrap ((N : Int) + 1) = (N : Int) + 1 := by unfold IntKind.wrap; simp [IntKind.bits, IntKind.signed]; omega
  have hmk : ∀ W : World, (Instr.makeSlice 22 (.int .i64 (IntKind.i64.wrap ((N : Int) + 1))) (.int .i64 (IntKind.i64.wrap ((N : Int) + 1)))).run Tryz.prog W = .ok (.slice (some ⟨W.heap.size, 0, none⟩) (N + 1) (N + 1)) (W.alloc (.cells M 3)) := by rw [hwr]; exact hmk
  clear hwr
  have HM := hide (And.intro hM hz91)
  clear hM hi9 hz90 hz91 hz92
  obtain ⟨W0, hW0⟩ : ∃ W0, (w.alloc (.cells #[.int .i64 (N : Int), .int .i64 m, .slice a1 l1 c1, .slice a2 l2 c2, .slice a3 Ed.length c3] 25)).alloc (.cells #[.int .i64 0, .int .i64 0, .slice none 0 0, .slice none 0 0, .slice none 0 0, .slice none 0 0] 80) = W0 := ⟨_, rfl⟩
  have HD := hide (box3 w #[.int .i64 (N : Int), .int .i64 m, .slice a1 l1 c1, .slice a2 l2 c2, .slice a3 Ed.length c3] #[.int .i64 0, .int .i64 0, .slice none 0 0, .slice none 0 0, .slice none 0 0, .slice none 0 0] 25 80)
  rw [hW0] at HD
  have B0 := HD.out.2.1
  have k0 : W0.cell? ⟨w.heap.size, 0, none⟩ = some (.int .i64 (N : Int)) := cell_of B0 rfl
  have k1 : W0.cell? ⟨w.heap.size, 1, none⟩ = some (.int .i64 m) := cell_of B0 rfl
  have k2 : W0.cell? ⟨w.heap.size, 2, none⟩ = some (.slice a1 l1 c1) := cell_of B0 rfl
  have k3 : W0.cell? ⟨w.heap.size, 3, none⟩ = some (.slice a2 l2 c2) := cell_of B0 rfl
  have k4 : W0.cell? ⟨w.heap.size, 4, none⟩ = some (.slice a3 Ed.length c3) := cell_of B0 rfl
  clear B0
  go_enter Tryz.func85, Tryz.ntmps85
  go_upto_region 1 with fail
  go_cut [3] from 3 to 12 (fun p3 W => ∃ b g, p3 = .pointer (some ⟨b, 0, none⟩) ∧ Hid (W.heap[b]? = some (.cells #[.int .i64 (N : Int), .int .i64 m, .slice a1 l1 c1, .slice a2 l2 c2, .slice a3 Ed.length c3, .slice (some ⟨g, 0, none⟩) (N + 1) (N + 1)] 80 (0, 0)) ∧ W.heap[g]? = some (.cells M 3 (0, 0)) ∧ b ≠ g ∧ W0.heap.size ≤ b ∧ W0.heap.size ≤ g ∧ Below W0.heap.size W0 W))
  case first =>
    go_region_held3 (fun W2 => W2.cell? ⟨w.heap.size, 0, none⟩ = some (.int .i64 (N : Int)) ∧ W2.cell? ⟨w.heap.size, 1, none⟩ = some (.int .i64 m) ∧ W2.cell? ⟨w.heap.size, 2, none⟩ = some (.slice a1 l1 c1) ∧ W2.cell? ⟨w.heap.size, 3, none⟩ = some (.slice a2 l2 c2) ∧ W2.cell? ⟨w.heap.size, 4, none⟩ = some (.slice a3 Ed.length c3))
      (first | go_keep | assumption)
      (fail)
    · go_wp2_with fail
      go_meet
      refine ⟨W0.heap.size + 1, W0.heap.size, rfl, hide ?_⟩
      have q := box3 W0 M #[.int .i64 (N : Int), .int .i64 m, .slice a1 l1 c1, .slice a2 l2 c2, .slice a3 Ed.length c3, .slice (some ⟨W0.heap.size, 0, none⟩) (N + 1) (N + 1)] 3 80
      exact ⟨q.2.2.1, q.2.1, by omega, by omega, by omega, q.1.drew⟩
    · go_wp2_with fail
      go_meet
      refine ⟨W0.heap.size, W0.heap.size + 1, rfl, hide ?_⟩
      have q := box3 W0 #[.int .i64 (N : Int), .int .i64 m, .slice a1 l1 c1, .slice a2 l2 c2, .slice a3 Ed.length c3, .slice (some ⟨W0.heap.size + 1, 0, none⟩) (N + 1) (N + 1)] M 80 3
      exact ⟨q.2.1, q.2.2.1, by omega, by omega, by omega, q.1.drew⟩
  case rest =>
    obtain ⟨b, g, rfl, HX⟩ := hcut
    rename World => wx
    clear hmk k0 k1 k2 k3 k4
    have y4 : wx.cell? ⟨w.heap.size, 4, none⟩ = some (.slice a3 Ed.length c3) := cell_of (blk_on HD.out.2.1 HX.out.2.2.2.2.2) rfl
    have m0 : Mrw wx g 3 (N + 1) (fun c => .int .i64 (cntAt (Ed.take 0) c : Nat)) (N + 1) := by
      refine ⟨M, HX.out.2.1, by rw [HM.out.1, HM.out.2, size_madeCells]; omega, fun j hj => ?_⟩
      rw [HM.out.1, HM.out.2]
      rw [← Array.getElem?_toList, show (Value.int .i64 0).cells = #[Value.int .i64 0] from rfl, toList_madeCells_one, List.getElem?_replicate, if_pos (by omega)]
      simp [cntAt]
    have H0 := hide (And.intro m0 (And.intro HX.out.1 HX.out.2.2.2.2.2))
    have HP := hide (And.intro HX.out.2.2.1 (And.intro HX.out.2.2.2.1 HX.out.2.2.2.2.1))
    clear m0 HX
    go_wp2
    go_loopw [16] (fun iv wr => ∃ i : Nat, i ≤ Ed.length ∧ iv = .int .i64 i ∧ Hid (Mrw wr g 3 (N + 1) (fun c => .int .i64 (cntAt (Ed.take i) c : Nat)) (N + 1) ∧ wr.heap[b]? = some (.cells #[.int .i64 (N : Int), .int .i64 m, .slice a1 l1 c1, .slice a2 l2 c2, .slice a3 Ed.length c3, .slice (some ⟨g, 0, none⟩) (N + 1) (N + 1)] 80 (0, 0)) ∧ Below W0.heap.size W0 wr)) (fun iv _ => Ed.length - (intOf iv).toNat)
    case atStart => exact ⟨0, Nat.zero_le _, rfl, H0⟩
    case round =>
      obtain ⟨i, hi, rfl, HY⟩ := hrel
      clear H0 y4
      by_cases hil : i < Ed.length
      · have i0 : (0 : Int) ≤ (i : Int) := by omega
        have i1 : (i : Int) < (Ed.length : Int) := by omega
        obtain ⟨ge, o, rfl, q1, q2, q3⟩ := (hE.out.on (HD.out.1.trans (HY.out.2.2.mono HD.out.1.size))) i hil
        have HTk := hide (show Ed.take (i + 1) = Ed.take i ++ [Ed[i]] by rw [List.take_add_one, List.getElem?_eq_getElem hil]; rfl)
        have HN := hide (hF.out Ed[i] (List.getElem_mem hil))
        obtain ⟨x, hx⟩ : ∃ x, Ed[i] = x := ⟨_, rfl⟩
        rw [hx] at q1 q2 q3 HTk HN
        clear hx
        obtain ⟨x1, x2, x3⟩ := x
        obtain ⟨j1, hj1⟩ := Int.eq_ofNat_of_zero_le HN.out.1
        have hj1 : x1 = (j1 : Int) := hj1
        subst hj1
        have hl1 : j1 < N := by have := HN.out.2; simp only at this; omega
        obtain ⟨W1, hW1⟩ : ∃ W1, wr.alloc (.cells #[.int .i64 (j1 : Int), .int .i64 x2, .int .i64 x3] 59) = W1 := ⟨_, rfl⟩
        have HW : Hid (W1.heap[wr.heap.size]? = some (.cells #[.int .i64 (j1 : Int), .int .i64 x2, .int .i64 x3] 59 (0, 0)) ∧ Below wr.heap.size wr W1) := hide (by rw [← hW1]; exact ⟨World.alloc_heap_new _ _, (Below.refl _ _).alloc (Nat.le_refl _) _⟩)
        have y0 : W1.cell? ⟨wr.heap.size, 0, none⟩ = some (.int .i64 (j1 : Int)) := cell_of HW.out.1 rfl
        have y5 : W1.cell? ⟨b, 5, none⟩ = some (.slice (some ⟨g, 0, none⟩) (N + 1) (N + 1)) := cell_of (blk_on HY.out.2.1 HW.out.2) rfl
        have M1 : Hid (Mrw W1 g 3 (N + 1) (fun c => .int .i64 (cntAt (Ed.take i) c : Nat)) (N + 1)) := hide (HY.out.1.below HW.out.2 HY.out.1.lt)
        have r0 := M1.out.at (j1 + 1) (by omega)
        have r1 := M1.out.fz (j1 + 1)
        have hc := Nat.le_trans (cntAt_le (Ed.take i) (j1 + 1)) (by rw [List.length_take]; omega : (Ed.take i).length ≤ i)
        obtain ⟨cn, hcn⟩ : ∃ cn, cntAt (Ed.take i) (j1 + 1) = cn := ⟨_, rfl⟩
        simp only [hcn] at r0 hc
        have HC := hide hcn
        have i2 : (0 : Int) ≤ (j1 : Int) := by omega
        have i3 : (j1 : Int) < (N : Int) := by omega
        have i4 : (j1 : Int) + 1 < (N : Int) + 1 := by omega
        have i5 : (0 : Int) ≤ (j1 : Int) + 1 := by omega
        have i6 : (cn : Int) ≤ 4194304 := by omega
        have i7 : (0 : Int) ≤ (cn : Int) := by omega
        clear hcn
        go_wp2
        have hb1 := blk_on HY.out.2.1 HW.out.2
        refine ⟨⟨i + 1, by omega, by go_num, hide ⟨(M1.out.upd (j1 + 1) _).congr fun c hc => ?_, ((only_set W1 g (j1 + 1) _).block b (Array.getElem?_eq_some_iff.1 hb1).1 (fun e => HP.out.1 e)).trans hb1, (HY.out.2.2.trans (HW.out.2.mono HY.out.2.2.size)).trans ((only_set W1 g (j1 + 1) _).toBelow (Nat.le_trans HY.out.2.2.size HW.out.2.size) (fun k hk => by rw [hk]; exact HP.out.2.2))⟩⟩, by simp [intOf]; omega⟩
        rw [HTk.out, cntAt_snoc]
        by_cases e : c = j1 + 1
        · subst e
          rw [if_pos rfl, if_pos (by simp), HC.out]
          rfl
        · rw [if_neg e, if_neg (by simp only; omega)]
          rfl
      · obtain rfl : Ed.length = i := by omega
        have i1 : ¬ (Ed.length : Int) < (Ed.length : Int) := by omega
        have y0 : wr.cell? ⟨w.heap.size, 0, none⟩ = some (.int .i64 (N : Int)) := cell_of (blk_on HD.out.2.1 HY.out.2.2) rfl
        have HZ : Hid (Mrw wr g 3 (N + 1) (firstV Ed 0) (N + 1) ∧ wr.heap[b]? = some (.cells #[.int .i64 (N : Int), .int .i64 m, .slice a1 l1 c1, .slice a2 l2 c2, .slice a3 Ed.length c3, .slice (some ⟨g, 0, none⟩) (N + 1) (N + 1)] 80 (0, 0)) ∧ Below W0.heap.size W0 wr) := hide ⟨HY.out.1.congr (fun c _ => by
          unfold firstV
          rw [List.take_length]
          by_cases e : c ≤ 0
          · obtain rfl : c = 0 := by omega
            have q := lessC_zero Ed (fun e he => (hF.out e he).1)
            rw [if_pos e, q.1, q.2]
          · rw [if_neg e]), HY.out.2⟩
        clear HY
        go_wp2
        go_loopw [32] (fun iv wr2 => ∃ p : Nat, p ≤ N ∧ iv = .int .i64 p ∧ Hid (Mrw wr2 g 3 (N + 1) (firstV Ed p) (N + 1) ∧ wr2.heap[b]? = some (.cells #[.int .i64 (N : Int), .int .i64 m, .slice a1 l1 c1, .slice a2 l2 c2, .slice a3 Ed.length c3, .slice (some ⟨g, 0, none⟩) (N + 1) (N + 1)] 80 (0, 0)) ∧ Below W0.heap.size W0 wr2)) (fun iv _ => N - (intOf iv).toNat)
        case atStart => exact ⟨0, Nat.zero_le _, rfl, HZ⟩
        case round =>
          obtain ⟨p, hp, rfl, HQ⟩ := hrel
          clear HZ y0
          by_cases hlt : p < N
          · have j0 : (0 : Int) ≤ (p : Int) := by omega
            have j1 : (p : Int) < (N : Int) := by omega
            have j2 : (p : Int) < (N : Int) + 1 := by omega
            have j3 : (p : Int) + 1 < (N : Int) + 1 := by omega
            have j4 : (0 : Int) ≤ (p : Int) + 1 := by omega
            have r0 := HQ.out.1.at p (by omega)
            have r1 := HQ.out.1.at (p + 1) (by omega)
            have r2 := HQ.out.1.fz (p + 1)
            have y5 : wr.cell? ⟨b, 5, none⟩ = some (.slice (some ⟨g, 0, none⟩) (N + 1) (N + 1)) := cell_of HQ.out.2.1 rfl
            unfold firstV at r0 r1
            rw [if_pos (Nat.le_refl _)] at r0
            rw [if_neg (by omega)] at r1
            have u0 := lessC_le Ed p
            have u1 := cntAt_le Ed (p + 1)
            have HS := hide (lessC_succ Ed p)
            generalize lessC Ed p = s at r0 u0 HS
            generalize cntAt Ed (p + 1) = c at r1 u1 HS
            have v0 : (s : Int) ≤ 4194304 := by omega
            have v1 : (c : Int) ≤ 4194304 := by omega
            have v2 : (0 : Int) ≤ (s : Int) := by omega
            have v3 : (0 : Int) ≤ (c : Int) := by omega
            go_wp2
            refine wp_region_phase 12 #[true, true, true, true, true, true, true, true, true, true, true, true, false, false] (by kernel_rfl) (by kernel_rfl) ?_
            simp only [List.take_succ_cons, List.take_zero, List.drop_succ_cons, List.drop_zero]
            repeat (go_big_quiet_step (fail))
            refine wpQuiet_nil ?_
            intro wz hzz
            obtain ⟨nq, rfl⟩ := hzz
            go_wp2_with fail
            have hb1 : (wr.drewN nq).heap[b]? = some (.cells #[.int .i64 (N : Int), .int .i64 m, .slice a1 l1 c1, .slice a2 l2 c2, .slice a3 Ed.length c3, .slice (some ⟨g, 0, none⟩) (N + 1) (N + 1)] 80 (0, 0)) := HQ.out.2.1
            have mq : Mrw (wr.drewN nq) g 3 (N + 1) (firstV Ed p) (N + 1) := HQ.out.1
            refine ⟨⟨p + 1, by omega, by go_num, hide ⟨(mq.upd (p + 1) _).congr fun k hk => ?_, ((only_set _ g (p + 1) _).block b (Array.getElem?_eq_some_iff.1 hb1).1 (fun e => HP.out.1 e)).trans hb1, (below_drewN' HQ.out.2.2 nq).trans ((only_set _ g (p + 1) _).toBelow HQ.out.2.2.size (fun k hk => by rw [hk]; exact HP.out.2.2))⟩⟩, by simp [intOf]; omega⟩
            unfold firstV
            by_cases e : k = p + 1
            · subst e
              rw [if_pos rfl, if_pos (Nat.le_refl _), HS.out]
              rfl
            · rw [if_neg e]
              by_cases e2 : k ≤ p
              · rw [if_pos e2, if_pos (by omega)]
              · rw [if_neg e2, if_neg (by omega)]
          · obtain rfl : p = N := by omega
            have j1 : ¬ (p : Int) < (p : Int) := by omega
            have F3 := blk_on HD.out.2.2.1 HQ.out.2.2
            have HQ2 := HQ.out.2.1
            have o0 : wr.cell? ⟨w.heap.size + 1, 0, none⟩ = some (.int .i64 0) := cell_of F3 rfl
            have f0 : wr.frozen? ⟨w.heap.size + 1, 0, none⟩ = false := fz_of F3
            have k0 : wr.cell? ⟨b, 0, none⟩ = some (.int .i64 (p : Int)) := cell_of HQ2 rfl
            have o1 : wr.cell? ⟨w.heap.size + 1, 1, none⟩ = some (.int .i64 0) := cell_of F3 rfl
            have f1 : wr.frozen? ⟨w.heap.size + 1, 1, none⟩ = false := fz_of F3
            have k1 : wr.cell? ⟨b, 1, none⟩ = some (.int .i64 m) := cell_of HQ2 rfl
            have o2 : wr.cell? ⟨w.heap.size + 1, 2, none⟩ = some (.slice none 0 0) := cell_of F3 rfl
            have f2 : wr.frozen? ⟨w.heap.size + 1, 2, none⟩ = false := fz_of F3
            have k2 : wr.cell? ⟨b, 2, none⟩ = some (.slice a1 l1 c1) := cell_of HQ2 rfl
            have o3 : wr.cell? ⟨w.heap.size + 1, 3, none⟩ = some (.slice none 0 0) := cell_of F3 rfl
            have f3 : wr.frozen? ⟨w.heap.size + 1, 3, none⟩ = false := fz_of F3
            have k3 : wr.cell? ⟨b, 3, none⟩ = some (.slice a2 l2 c2) := cell_of HQ2 rfl
            have o4 : wr.cell? ⟨w.heap.size + 1, 4, none⟩ = some (.slice none 0 0) := cell_of F3 rfl
            have f4 : wr.frozen? ⟨w.heap.size + 1, 4, none⟩ = false := fz_of F3
            have k4 : wr.cell? ⟨b, 4, none⟩ = some (.slice a3 Ed.length c3) := cell_of HQ2 rfl
            have o5 : wr.cell? ⟨w.heap.size + 1, 5, none⟩ = some (.slice none 0 0) := cell_of F3 rfl
            have f5 : wr.frozen? ⟨w.heap.size + 1, 5, none⟩ = false := fz_of F3
            have k5 : wr.cell? ⟨b, 5, none⟩ = some (.slice (some ⟨g, 0, none⟩) (p + 1) (p + 1)) := cell_of HQ2 rfl
            have HF3 := hide F3
            clear F3 HQ2
            have O6 := hide (And.intro (set6 wr (w.heap.size + 1) _ _ _ _ _ _ (.int .i64 (p : Int)) (.int .i64 m) (.slice a1 l1 c1) (.slice a2 l2 c2) (.slice a3 Ed.length c3) (.slice (some ⟨g, 0, none⟩) (p + 1) (p + 1)) 80 HF3.out) (only6 wr (w.heap.size + 1) (.int .i64 (p : Int)) (.int .i64 m) (.slice a1 l1 c1) (.slice a2 l2 c2) (.slice a3 Ed.length c3) (.slice (some ⟨g, 0, none⟩) (p + 1) (p + 1))))
            go_wp2
            refine bodyPost_ret (results_cell_row (p := 2) (ty := 80) rfl _ _ (w.heap.size + 1) 80 _ (0, 0) _ rfl O6.out.1 Tryz.underlying80 rfl (by kernel_rfl)) rfl ?_
            have z0 := HD.out.2.2.2
            have z1 := HQ.out.2.2.size
            have z2 := HP.out.2.2
            refine ⟨g, rfl, ?_, by omega, (HD.out.1.trans (HQ.out.2.2.mono (by omega))).trans (O6.out.2.toBelow (by omega) (fun k hk => by omega))⟩
            refine (HQ.out.1.only O6.out.2 (by omega)).congr fun c hc => ?_
            unfold firstV
            rw [if_pos (by omega)]
end Go.Proofs.YtfoahpideglghaaGreatDoor
