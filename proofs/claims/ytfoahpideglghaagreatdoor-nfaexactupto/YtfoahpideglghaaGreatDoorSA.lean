import Derived.Test.YtfoahpideglghaaGreatDoorNB
import Derived.Test.YtfoahpideglghaaGreatDoorUs
import Derived.Test.YtfoahpideglghaaGreatDoorTv
import Derived.Deep.RegionHeld3
namespace Go.Proofs.YtfoahpideglghaaGreatDoor
open Go.RowKit
attribute [local go_sem] Oper.semAt_some

/-! ### slices.Equal -/
theorem bel_drewN {B : Nat} {w w' : World} (d : Below B w w') (n : Nat) : Below B w (w'.drewN n) := ⟨d.os, d.tape, d.output, d.size, d.block⟩
set_option maxRecDepth 100000 in
set_option maxHeartbeats 1000000 in
theorem equalI_any (w : World) (ao bo : Option Addr) (A B : List Int) (c d : Nat) (hA : Hid (RdN w ao A)) (hB : Hid (RdN w bo B)) (hl : A.length ≤ 4194304) (hk : B.length ≤ 4194304) :
    Calls Tryz.prog 66 #[.slice ao A.length c, .slice bo B.length d] w fun e w' => e = .returned (.bool (decide (A = B))) ∧ Below w.heap.size w w' := by
  go_enter Tryz.func66, Tryz.ntmps66
  by_cases hlen : A.length = B.length
  · have hl2 : ((A.length : Int) != (B.length : Int)) = false := by simp [hlen]
    go_wp2
    go_loopw [13] (fun iv wr => ∃ i : Nat, i ≤ A.length ∧ iv = .int .i64 i ∧ Hid (∀ t (h : t < A.length), t < i → A[t] = B[t]'(by omega)) ∧ Hid (Below w.heap.size w wr)) (fun iv _ => A.length - (intOf iv).toNat)
    case atStart => exact ⟨0, Nat.zero_le _, rfl, hide (fun t _ h => absurd h (Nat.not_lt_zero t)), hide (Below.refl _ _)⟩
    case round =>
      obtain ⟨i, hi, rfl, HY, HW⟩ := hrel
      by_cases hlt : i < A.length
      · have l0 : (i : Int) < (A.length : Int) := by omega
        have l1 : (0 : Int) ≤ (i : Int) := by omega
        have hltB : i < B.length := by omega
        have l2 : (i : Int) < (B.length : Int) := by omega
        obtain ⟨g, o, hao, q⟩ := (hA.out.on HW.out) i hlt
        obtain ⟨g', o', hbo, q'⟩ := (hB.out.on HW.out) i hltB
        subst hao hbo
        by_cases he : A[i] = B[i]
        · have HN : Hid (∀ t (h : t < A.length), t < i + 1 → A[t] = B[t]'(by omega)) := hide (fun t ht h2 => by
            rcases Nat.lt_or_ge t i with h3 | h3
            · exact HY.out t ht h3
            · obtain rfl : t = i := by omega
              exact he)
          rw [← he] at q'
          generalize A[i] = x at q q' he
          have hb : (x != x) = false := by simp
          clear he
          go_wp2
          refine wp_region_phase 8 #[true, true, true, true, true, true, true, true, false] (by kernel_rfl) (by kernel_rfl) ?_
          simp only [List.take_succ_cons, List.take_zero, List.drop_succ_cons, List.drop_zero]
          repeat (go_big_quiet_step (fail))
          refine wpQuiet_nil ?_
          intro wz hzz
          obtain ⟨nq, rfl⟩ := hzz
          go_wp2_with fail
          go_roundw
          case rel => exact ⟨i + 1, by omega, by go_num, HN, hide (bel_drewN HW.out nq)⟩
          case measure => simp [intOf]; omega
        · have hd : Hid (decide (A = B) = false) := hide (by
            rw [decide_eq_false_iff_not]
            intro e
            subst e
            exact he rfl)
          have hb : (A[i] != B[i]) = true := by simpa using he
          generalize A[i] = x at q he hb
          generalize B[i] = y at q' he hb
          go_wp2
          refine wp_region_phase 8 #[true, true, true, true, true, true, true, true, false] (by kernel_rfl) (by kernel_rfl) ?_
          simp only [List.take_succ_cons, List.take_zero, List.drop_succ_cons, List.drop_zero]
          repeat (go_big_quiet_step (fail))
          refine wpQuiet_nil ?_
          intro wz hzz
          obtain ⟨nq, rfl⟩ := hzz
          go_wp2_with fail
          refine bodyPost_ret (results_tmp rfl _ _ _) rfl ?_
          exact ⟨by rw [hd.out]; rfl, bel_drewN HW.out nq⟩
      · have l0 : ¬ (i : Int) < (A.length : Int) := by omega
        have hd : Hid (decide (A = B) = true) := hide (by
          rw [decide_eq_true_eq]
          exact List.ext_getElem hlen fun t h1 h2 => HY.out t h1 (by omega))
        go_wp2
        refine bodyPost_ret (results_tmp rfl _ _ _) rfl ?_
        exact ⟨by rw [hd.out]; rfl, HW.out⟩
  · have hl2 : ((A.length : Int) != (B.length : Int)) = true := by simp; omega
    have hd : Hid (decide (A = B) = false) := hide (by
      rw [decide_eq_false_iff_not]
      intro e
      exact hlen (by rw [e]))
    go_wp2
    refine bodyPost_ret (results_tmp rfl _ _ _) rfl ?_
    exact ⟨by rw [hd.out]; rfl, Below.refl _ _⟩
set_option maxRecDepth 100000 in
set_option maxHeartbeats 1000000 in
theorem equalE_any (w : World) (ao bo : Option Addr) (A B : List EdT) (c d : Nat) (hA : Hid (RdE w ao A)) (hB : Hid (RdE w bo B)) (hl : A.length ≤ 4194304) (hk : B.length ≤ 4194304) :
    Calls Tryz.prog 67 #[.slice ao A.length c, .slice bo B.length d] w fun e w' => e = .returned (.bool (decide (A = B))) ∧ Below w.heap.size w w' := by
  go_enter Tryz.func67, Tryz.ntmps67
  by_cases hlen : A.length = B.length
  · have hl2 : ((A.length : Int) != (B.length : Int)) = false := by simp [hlen]
    go_wp2
    go_loopw [13] (fun iv wr => ∃ i : Nat, i ≤ A.length ∧ iv = .int .i64 i ∧ Hid (∀ t (h : t < A.length), t < i → A[t] = B[t]'(by omega)) ∧ Hid (Below w.heap.size w wr)) (fun iv _ => A.length - (intOf iv).toNat)
    case atStart => exact ⟨0, Nat.zero_le _, rfl, hide (fun t _ h => absurd h (Nat.not_lt_zero t)), hide (Below.refl _ _)⟩
    case round =>
      obtain ⟨i, hi, rfl, HY, HW⟩ := hrel
      by_cases hlt : i < A.length
      · have l0 : (i : Int) < (A.length : Int) := by omega
        have l1 : (0 : Int) ≤ (i : Int) := by omega
        have hltB : i < B.length := by omega
        have l2 : (i : Int) < (B.length : Int) := by omega
        obtain ⟨g, o, hao, q0, q1, q2⟩ := (hA.out.on HW.out) i hlt
        obtain ⟨g', o', hbo, r0, r1, r2⟩ := (hB.out.on HW.out) i hltB
        subst hao hbo
        by_cases he : A[i] = B[i]
        · have HN : Hid (∀ t (h : t < A.length), t < i + 1 → A[t] = B[t]'(by omega)) := hide (fun t ht h2 => by
            rcases Nat.lt_or_ge t i with h3 | h3
            · exact HY.out t ht h3
            · obtain rfl : t = i := by omega
              exact he)
          rw [← he] at r0 r1 r2
          obtain ⟨x, hx⟩ : ∃ x, A[i] = x := ⟨_, rfl⟩
          rw [hx] at q0 q1 q2 r0 r1 r2
          obtain ⟨x1, x2, x3⟩ := x
          clear hx he
          simp only at q0 q1 q2 r0 r1 r2
          go_wp2
          refine wp_region_phase 8 #[true, true, true, true, true, true, true, true, false] (by kernel_rfl) (by kernel_rfl) ?_
          simp only [List.take_succ_cons, List.take_zero, List.drop_succ_cons, List.drop_zero]
          repeat (go_big_quiet_step (fail))
          refine wpQuiet_nil ?_
          intro wz hzz
          obtain ⟨nq, rfl⟩ := hzz
          go_wp2_with fail
          go_roundw
          case rel => exact ⟨i + 1, by omega, by go_num, HN, hide (bel_drewN HW.out nq)⟩
          case measure => simp [intOf]; omega
        · have hd : Hid (decide (A = B) = false) := hide (by
            rw [decide_eq_false_iff_not]
            intro e
            subst e
            exact he rfl)
          obtain ⟨x, hx⟩ : ∃ x, A[i] = x := ⟨_, rfl⟩
          obtain ⟨y, hy⟩ : ∃ y, B[i] = y := ⟨_, rfl⟩
          rw [hx] at q0 q1 q2 he
          rw [hy] at r0 r1 r2 he
          obtain ⟨x1, x2, x3⟩ := x
          obtain ⟨y1, y2, y3⟩ := y
          clear hx hy
          simp only [Prod.mk.injEq] at q0 q1 q2 r0 r1 r2 he
          by_cases e1 : x1 = y1
          · by_cases e2 : x2 = y2
            · have e3 : ¬ x3 = y3 := fun h => he ⟨e1, e2, h⟩
              subst e1 e2
              clear he
              go_wp2
              refine wp_region_phase 8 #[true, true, true, true, true, true, true, true, false] (by kernel_rfl) (by kernel_rfl) ?_
              simp only [List.take_succ_cons, List.take_zero, List.drop_succ_cons, List.drop_zero]
              repeat (go_big_quiet_step (fail))
              refine wpQuiet_nil ?_
              intro wz hzz
              obtain ⟨nq, rfl⟩ := hzz
              go_wp2_with fail
              refine bodyPost_ret (results_tmp rfl _ _ _) rfl ?_
              exact ⟨by rw [hd.out]; rfl, bel_drewN HW.out nq⟩
            · subst e1
              clear he
              go_wp2
              refine wp_region_phase 8 #[true, true, true, true, true, true, true, true, false] (by kernel_rfl) (by kernel_rfl) ?_
              simp only [List.take_succ_cons, List.take_zero, List.drop_succ_cons, List.drop_zero]
              repeat (go_big_quiet_step (fail))
              refine wpQuiet_nil ?_
              intro wz hzz
              obtain ⟨nq, rfl⟩ := hzz
              go_wp2_with fail
              refine bodyPost_ret (results_tmp rfl _ _ _) rfl ?_
              exact ⟨by rw [hd.out]; rfl, bel_drewN HW.out nq⟩
          · clear he
            go_wp2
            refine wp_region_phase 8 #[true, true, true, true, true, true, true, true, false] (by kernel_rfl) (by kernel_rfl) ?_
            simp only [List.take_succ_cons, List.take_zero, List.drop_succ_cons, List.drop_zero]
            repeat (go_big_quiet_step (fail))
            refine wpQuiet_nil ?_
            intro wz hzz
            obtain ⟨nq, rfl⟩ := hzz
            go_wp2_with fail
            refine bodyPost_ret (results_tmp rfl _ _ _) rfl ?_
            exact ⟨by rw [hd.out]; rfl, bel_drewN HW.out nq⟩
      · have l0 : ¬ (i : Int) < (A.length : Int) := by omega
        have hd : Hid (decide (A = B) = true) := hide (by
          rw [decide_eq_true_eq]
          exact List.ext_getElem hlen fun t h1 h2 => HY.out t h1 (by omega))
        go_wp2
        refine bodyPost_ret (results_tmp rfl _ _ _) rfl ?_
        exact ⟨by rw [hd.out]; rfl, HW.out⟩
  · have hl2 : ((A.length : Int) != (B.length : Int)) = true := by simp; omega
    have hd : Hid (decide (A = B) = false) := hide (by
      rw [decide_eq_false_iff_not]
      intro e
      exact hlen (by rw [e]))
    go_wp2
    refine bodyPost_ret (results_tmp rfl _ _ _) rfl ?_
    exact ⟨by rw [hd.out]; rfl, Below.refl _ _⟩
end Go.Proofs.YtfoahpideglghaaGreatDoor
namespace Go.Proofs.YtfoahpideglghaaGreatDoor
open Go.RowKit Go.Maps Go.Shelf
attribute [local go_sem] Oper.semAt_some

/-! ### Same -/
def smB (n m n' m' : Int) (St Fi : List Int) (Ed : List EdT) (St' Fi' : List Int) (Ed' : List EdT) : Bool :=
  decide (mayA n m St Fi Ed = true ∧ mayA n' m' St' Fi' Ed' = true ∧ n = n' ∧ m = m' ∧ riseL St = riseL St' ∧ riseL Fi = riseL Fi' ∧ riseE Ed = riseE Ed')
def SmP (w : World) (r : Bool) (e : Ending) (w' : World) : Prop := e = .returned (.bool r) ∧ Below w.heap.size w w'
set_option maxRecDepth 100000 in
set_option maxHeartbeats 40000000 in
theorem same_any (w : World) (n m n' m' : Int) (a1 a2 a3 b1 b2 b3 : Option Addr) (xa1 xa2 xa3 xb1 xb2 xb3 : Nat) (St Fi : List Int) (Ed : List EdT) (St' Fi' : List Int) (Ed' : List EdT) (hA : Hid (RdA w a1 a2 a3 St Fi Ed)) (hB : Hid (RdA w b1 b2 b3 St' Fi' Ed')) (h1 : St.length ≤ 4194304) (h2 : Fi.length ≤ 4194304) (h3 : Ed.length ≤ 4194304) (h4 : St'.length ≤ 4194304) (h5 : Fi'.length ≤ 4194304) (h6 : Ed'.length ≤ 4194304) :
    Calls Tryz.prog 24 #[.agg #[.int .i64 n, .int .i64 m, .slice a1 St.length xa1, .slice a2 Fi.length xa2, .slice a3 Ed.length xa3], .agg #[.int .i64 n', .int .i64 m', .slice b1 St'.length xb1, .slice b2 Fi'.length xb2, .slice b3 Ed'.length xb3]] w (SmP w (smB n m n' m' St Fi Ed St' Fi' Ed')) := by
  have HD := hide (box2 w #[.int .i64 n, .int .i64 m, .slice a1 St.length xa1, .slice a2 Fi.length xa2, .slice a3 Ed.length xa3] #[.int .i64 n', .int .i64 m', .slice b1 St'.length xb1, .slice b2 Fi'.length xb2, .slice b3 Ed'.length xb3] 25)
  obtain ⟨W0, hW0⟩ : ∃ W0, (w.alloc (.cells #[.int .i64 n, .int .i64 m, .slice a1 St.length xa1, .slice a2 Fi.length xa2, .slice a3 Ed.length xa3] 25)).alloc (.cells #[.int .i64 n', .int .i64 m', .slice b1 St'.length xb1, .slice b2 Fi'.length xb2, .slice b3 Ed'.length xb3] 25) = W0 := ⟨_, rfl⟩
  rw [hW0] at HD
  have SK : Hid (∀ W, Below W0.heap.size W0 W → (fun W => (W.cell? ⟨w.heap.size, 0, none⟩ = some (.int .i64 n) ∧ W.cell? ⟨w.heap.size, 1, none⟩ = some (.int .i64 m) ∧ W.cell? ⟨w.heap.size, 2, none⟩ = some (.slice a1 St.length xa1) ∧ W.cell? ⟨w.heap.size, 3, none⟩ = some (.slice a2 Fi.length xa2) ∧ W.cell? ⟨w.heap.size, 4, none⟩ = some (.slice a3 Ed.length xa3) ∧ W.cell? ⟨w.heap.size + 1, 0, none⟩ = some (.int .i64 n') ∧ W.cell? ⟨w.heap.size + 1, 1, none⟩ = some (.int .i64 m') ∧ W.cell? ⟨w.heap.size + 1, 2, none⟩ = some (.slice b1 St'.length xb1) ∧ W.cell? ⟨w.heap.size + 1, 3, none⟩ = some (.slice b2 Fi'.length xb2) ∧ W.cell? ⟨w.heap.size + 1, 4, none⟩ = some (.slice b3 Ed'.length xb3) ∧ Hid (Below W0.heap.size W0 W))) W) := hide (fun W d => by
    have e := blk_on HD.out.2.1 d
    have f := blk_on HD.out.2.2.1 d
    exact ⟨cell_of e rfl, cell_of e rfl, cell_of e rfl, cell_of e rfl, cell_of e rfl, cell_of f rfl, cell_of f rfl, cell_of f rfl, cell_of f rfl, cell_of f rfl, hide d⟩)
  have SD : Hid (∀ W, (fun W => (W.cell? ⟨w.heap.size, 0, none⟩ = some (.int .i64 n) ∧ W.cell? ⟨w.heap.size, 1, none⟩ = some (.int .i64 m) ∧ W.cell? ⟨w.heap.size, 2, none⟩ = some (.slice a1 St.length xa1) ∧ W.cell? ⟨w.heap.size, 3, none⟩ = some (.slice a2 Fi.length xa2) ∧ W.cell? ⟨w.heap.size, 4, none⟩ = some (.slice a3 Ed.length xa3) ∧ W.cell? ⟨w.heap.size + 1, 0, none⟩ = some (.int .i64 n') ∧ W.cell? ⟨w.heap.size + 1, 1, none⟩ = some (.int .i64 m') ∧ W.cell? ⟨w.heap.size + 1, 2, none⟩ = some (.slice b1 St'.length xb1) ∧ W.cell? ⟨w.heap.size + 1, 3, none⟩ = some (.slice b2 Fi'.length xb2) ∧ W.cell? ⟨w.heap.size + 1, 4, none⟩ = some (.slice b3 Ed'.length xb3) ∧ Hid (Below W0.heap.size W0 W))) W → Below W0.heap.size W0 W) := hide (fun W h => h.2.2.2.2.2.2.2.2.2.2.out)
  have SA : Hid (∀ W o, (fun W => (W.cell? ⟨w.heap.size, 0, none⟩ = some (.int .i64 n) ∧ W.cell? ⟨w.heap.size, 1, none⟩ = some (.int .i64 m) ∧ W.cell? ⟨w.heap.size, 2, none⟩ = some (.slice a1 St.length xa1) ∧ W.cell? ⟨w.heap.size, 3, none⟩ = some (.slice a2 Fi.length xa2) ∧ W.cell? ⟨w.heap.size, 4, none⟩ = some (.slice a3 Ed.length xa3) ∧ W.cell? ⟨w.heap.size + 1, 0, none⟩ = some (.int .i64 n') ∧ W.cell? ⟨w.heap.size + 1, 1, none⟩ = some (.int .i64 m') ∧ W.cell? ⟨w.heap.size + 1, 2, none⟩ = some (.slice b1 St'.length xb1) ∧ W.cell? ⟨w.heap.size + 1, 3, none⟩ = some (.slice b2 Fi'.length xb2) ∧ W.cell? ⟨w.heap.size + 1, 4, none⟩ = some (.slice b3 Ed'.length xb3) ∧ Hid (Below W0.heap.size W0 W))) W → (fun W => (W.cell? ⟨w.heap.size, 0, none⟩ = some (.int .i64 n) ∧ W.cell? ⟨w.heap.size, 1, none⟩ = some (.int .i64 m) ∧ W.cell? ⟨w.heap.size, 2, none⟩ = some (.slice a1 St.length xa1) ∧ W.cell? ⟨w.heap.size, 3, none⟩ = some (.slice a2 Fi.length xa2) ∧ W.cell? ⟨w.heap.size, 4, none⟩ = some (.slice a3 Ed.length xa3) ∧ W.cell? ⟨w.heap.size + 1, 0, none⟩ = some (.int .i64 n') ∧ W.cell? ⟨w.heap.size + 1, 1, none⟩ = some (.int .i64 m') ∧ W.cell? ⟨w.heap.size + 1, 2, none⟩ = some (.slice b1 St'.length xb1) ∧ W.cell? ⟨w.heap.size + 1, 3, none⟩ = some (.slice b2 Fi'.length xb2) ∧ W.cell? ⟨w.heap.size + 1, 4, none⟩ = some (.slice b3 Ed'.length xb3) ∧ Hid (Below W0.heap.size W0 W))) (W.alloc o)) := hide (fun W o h => SK.out _ ((SD.out W h).alloc (SD.out W h).size o))
  have SB : Hid (∀ (W : World) (o : Obj), (fun W => (W.cell? ⟨w.heap.size, 0, none⟩ = some (.int .i64 n) ∧ W.cell? ⟨w.heap.size, 1, none⟩ = some (.int .i64 m) ∧ W.cell? ⟨w.heap.size, 2, none⟩ = some (.slice a1 St.length xa1) ∧ W.cell? ⟨w.heap.size, 3, none⟩ = some (.slice a2 Fi.length xa2) ∧ W.cell? ⟨w.heap.size, 4, none⟩ = some (.slice a3 Ed.length xa3) ∧ W.cell? ⟨w.heap.size + 1, 0, none⟩ = some (.int .i64 n') ∧ W.cell? ⟨w.heap.size + 1, 1, none⟩ = some (.int .i64 m') ∧ W.cell? ⟨w.heap.size + 1, 2, none⟩ = some (.slice b1 St'.length xb1) ∧ W.cell? ⟨w.heap.size + 1, 3, none⟩ = some (.slice b2 Fi'.length xb2) ∧ W.cell? ⟨w.heap.size + 1, 4, none⟩ = some (.slice b3 Ed'.length xb3) ∧ Hid (Below W0.heap.size W0 W))) W.drew → (fun W => (W.cell? ⟨w.heap.size, 0, none⟩ = some (.int .i64 n) ∧ W.cell? ⟨w.heap.size, 1, none⟩ = some (.int .i64 m) ∧ W.cell? ⟨w.heap.size, 2, none⟩ = some (.slice a1 St.length xa1) ∧ W.cell? ⟨w.heap.size, 3, none⟩ = some (.slice a2 Fi.length xa2) ∧ W.cell? ⟨w.heap.size, 4, none⟩ = some (.slice a3 Ed.length xa3) ∧ W.cell? ⟨w.heap.size + 1, 0, none⟩ = some (.int .i64 n') ∧ W.cell? ⟨w.heap.size + 1, 1, none⟩ = some (.int .i64 m') ∧ W.cell? ⟨w.heap.size + 1, 2, none⟩ = some (.slice b1 St'.length xb1) ∧ W.cell? ⟨w.heap.size + 1, 3, none⟩ = some (.slice b2 Fi'.length xb2) ∧ W.cell? ⟨w.heap.size + 1, 4, none⟩ = some (.slice b3 Ed'.length xb3) ∧ Hid (Below W0.heap.size W0 W))) (W.alloc o).drew) := hide (fun W o h => SK.out _ (((undrew2 (SD.out _ h)).alloc (SD.out _ h).size o).drew))
  have SS : Hid (∀ W q u0 u1 u2 u3 u4, W0.heap.size ≤ q → (fun W => (W.cell? ⟨w.heap.size, 0, none⟩ = some (.int .i64 n) ∧ W.cell? ⟨w.heap.size, 1, none⟩ = some (.int .i64 m) ∧ W.cell? ⟨w.heap.size, 2, none⟩ = some (.slice a1 St.length xa1) ∧ W.cell? ⟨w.heap.size, 3, none⟩ = some (.slice a2 Fi.length xa2) ∧ W.cell? ⟨w.heap.size, 4, none⟩ = some (.slice a3 Ed.length xa3) ∧ W.cell? ⟨w.heap.size + 1, 0, none⟩ = some (.int .i64 n') ∧ W.cell? ⟨w.heap.size + 1, 1, none⟩ = some (.int .i64 m') ∧ W.cell? ⟨w.heap.size + 1, 2, none⟩ = some (.slice b1 St'.length xb1) ∧ W.cell? ⟨w.heap.size + 1, 3, none⟩ = some (.slice b2 Fi'.length xb2) ∧ W.cell? ⟨w.heap.size + 1, 4, none⟩ = some (.slice b3 Ed'.length xb3) ∧ Hid (Below W0.heap.size W0 W))) W → (fun W => (W.cell? ⟨w.heap.size, 0, none⟩ = some (.int .i64 n) ∧ W.cell? ⟨w.heap.size, 1, none⟩ = some (.int .i64 m) ∧ W.cell? ⟨w.heap.size, 2, none⟩ = some (.slice a1 St.length xa1) ∧ W.cell? ⟨w.heap.size, 3, none⟩ = some (.slice a2 Fi.length xa2) ∧ W.cell? ⟨w.heap.size, 4, none⟩ = some (.slice a3 Ed.length xa3) ∧ W.cell? ⟨w.heap.size + 1, 0, none⟩ = some (.int .i64 n') ∧ W.cell? ⟨w.heap.size + 1, 1, none⟩ = some (.int .i64 m') ∧ W.cell? ⟨w.heap.size + 1, 2, none⟩ = some (.slice b1 St'.length xb1) ∧ W.cell? ⟨w.heap.size + 1, 3, none⟩ = some (.slice b2 Fi'.length xb2) ∧ W.cell? ⟨w.heap.size + 1, 4, none⟩ = some (.slice b3 Ed'.length xb3) ∧ Hid (Below W0.heap.size W0 W))) (((((W.setCell ⟨q, 0, none⟩ u0).setCell ⟨q, 1, none⟩ u1).setCell ⟨q, 2, none⟩ u2).setCell ⟨q, 3, none⟩ u3).setCell ⟨q, 4, none⟩ u4)) := hide (fun W q u0 u1 u2 u3 u4 hq h => SK.out _ ((SD.out W h).trans ((only5 W q u0 u1 u2 u3 u4).toBelow (SD.out W h).size (fun k hk => by omega))))
  have TV : Hid (∀ W, Below W0.heap.size W0 W → Calls Tryz.prog 22 #[.agg #[.int .i64 n, .int .i64 m, .slice a1 St.length xa1, .slice a2 Fi.length xa2, .slice a3 Ed.length xa3]] W fun e w' => e = .returned (.int .i64 (if mayA n m St Fi Ed then 0 else 2)) ∧ Below W0.heap.size W0 w') := hide (fun W d => (valid_any W n m a1 a2 a3 xa1 xa2 xa3 St Fi Ed (hide ((hA.out.on HD.out.1).on d)) h1 h2 h3).mono fun e w' ⟨he, dd⟩ => ⟨he, d.trans (dd.mono d.size)⟩)
  have TW : Hid (∀ W, Below W0.heap.size W0 W → Calls Tryz.prog 22 #[.agg #[.int .i64 n', .int .i64 m', .slice b1 St'.length xb1, .slice b2 Fi'.length xb2, .slice b3 Ed'.length xb3]] W fun e w' => e = .returned (.int .i64 (if mayA n' m' St' Fi' Ed' then 0 else 2)) ∧ Below W0.heap.size W0 w') := hide (fun W d => (valid_any W n' m' b1 b2 b3 xb1 xb2 xb3 St' Fi' Ed' (hide ((hB.out.on HD.out.1).on d)) h4 h5 h6).mono fun e w' ⟨he, dd⟩ => ⟨he, d.trans (dd.mono d.size)⟩)
  have TA : Hid (∀ W, Below W0.heap.size W0 W → Calls Tryz.prog 62 #[.agg #[.int .i64 n, .int .i64 m, .slice a1 St.length xa1, .slice a2 Fi.length xa2, .slice a3 Ed.length xa3]] W fun e w' => ∃ g1 k1 g2 k2 g3 k3, e = .returned (.agg #[.int .i64 n, .int .i64 m, .slice (some ⟨g1, 0, none⟩) (riseL St).length k1, .slice (some ⟨g2, 0, none⟩) (riseL Fi).length k2, .slice (some ⟨g3, 0, none⟩) (riseE Ed).length k3]) ∧ Own W.heap.size w' g1 k1 g2 k2 g3 k3 (riseL St) (riseL Fi) (riseE Ed) ∧ Below W.heap.size W w' ∧ Below W0.heap.size W0 w') := hide (fun W d => by
    refine (inOrder_any W n m a1 a2 a3 xa1 xa2 xa3 St Fi Ed (hide ((hA.out.on HD.out.1).on d)) h1 h2 h3).mono ?_
    rintro e w' ⟨g1, k1, g2, k2, g3, k3, he, ho, dd⟩
    exact ⟨g1, k1, g2, k2, g3, k3, he, ho, dd, d.trans (dd.mono d.size)⟩)
  have TB : Hid (∀ W, Below W0.heap.size W0 W → Calls Tryz.prog 62 #[.agg #[.int .i64 n', .int .i64 m', .slice b1 St'.length xb1, .slice b2 Fi'.length xb2, .slice b3 Ed'.length xb3]] W fun e w' => ∃ g1 k1 g2 k2 g3 k3, e = .returned (.agg #[.int .i64 n', .int .i64 m', .slice (some ⟨g1, 0, none⟩) (riseL St').length k1, .slice (some ⟨g2, 0, none⟩) (riseL Fi').length k2, .slice (some ⟨g3, 0, none⟩) (riseE Ed').length k3]) ∧ Own W.heap.size w' g1 k1 g2 k2 g3 k3 (riseL St') (riseL Fi') (riseE Ed') ∧ Below W.heap.size W w' ∧ Below W0.heap.size W0 w') := hide (fun W d => by
    refine (inOrder_any W n' m' b1 b2 b3 xb1 xb2 xb3 St' Fi' Ed' (hide ((hB.out.on HD.out.1).on d)) h4 h5 h6).mono ?_
    rintro e w' ⟨g1, k1, g2, k2, g3, k3, he, ho, dd⟩
    exact ⟨g1, k1, g2, k2, g3, k3, he, ho, dd, d.trans (dd.mono d.size)⟩)
  have S0 := SK.out W0 (Below.refl _ _)
  obtain ⟨y0, y1, y2, y3, y4, z0, z1, z2, z3, z4, _⟩ := S0
  go_enter Tryz.func24, Tryz.ntmps24
  by_cases ea : mayA n m St Fi Ed = true
  · by_cases eb : mayA n' m' St' Fi' Ed' = true
    · have HM := hide (And.intro ea eb)
      have TV : Hid (∀ W, Below W0.heap.size W0 W → Calls Tryz.prog 22 #[.agg #[.int .i64 n, .int .i64 m, .slice a1 St.length xa1, .slice a2 Fi.length xa2, .slice a3 Ed.length xa3]] W fun e w' => e = .returned (.int .i64 0) ∧ Below W0.heap.size W0 w') := hide (fun W d => by have t := TV.out W d; rw [ea] at t; exact t)
      have TW : Hid (∀ W, Below W0.heap.size W0 W → Calls Tryz.prog 22 #[.agg #[.int .i64 n', .int .i64 m', .slice b1 St'.length xb1, .slice b2 Fi'.length xb2, .slice b3 Ed'.length xb3]] W fun e w' => e = .returned (.int .i64 0) ∧ Below W0.heap.size W0 w') := hide (fun W d => by have t := TW.out W d; rw [eb] at t; exact t)
      by_cases en : n = n'
      · have en0 : (n != n') = false := by simp [en]
        have EN := hide en
        clear en
        by_cases em : m = m'
        · have e0 : (m != m') = false := by simp [em]
          have EM := hide em
          clear em
          go_upto_region 3 with (first
            | (go_at_call_of 22 a1; refine (TV.out _ (Below.refl _ _)).mono ?_; rintro e wa ⟨rfl, D1⟩; obtain ⟨p0, p1, p2, p3, p4, q0, q1, q2, q3, q4, _⟩ := SK.out wa D1)
            | (go_at_call_of 22 b1; refine (TW.out _ D1).mono ?_; rintro e wb ⟨rfl, D2⟩; have DB := hide D2; obtain ⟨r0, r1, r2, r3, r4, t0, t1, t2, t3, t4, _⟩ := SK.out wb D2))
          clear y0 y1 y2 y3 y4 z0 z1 z2 z3 z4 p0 p1 p2 p3 p4 q0 q1 q2 q3 q4 r0 r1 r2 r3 r4 t0 t1 t2 t3 t4 D1 D2 TV TW
          go_cut [5, 6] from 5 to 32 (fun p q W => ∃ b5 b6 g1 k1 g2 k2 g3 k3 h1 c1 h2 c2 h3 c3, p = .pointer (some ⟨b5, 0, none⟩) ∧ q = .pointer (some ⟨b6, 0, none⟩) ∧ Hid (Lai W0 W b5 b6 n m n' m' g1 k1 g2 k2 g3 k3 h1 c1 h2 c2 h3 c3 (riseL St) (riseL Fi) (riseE Ed) (riseL St') (riseL Fi') (riseE Ed')))
          case first =>
            rename World => wx
            have Edr := hide DB.out
            refine wp_region_mkL [isV (.agg #[.int .i64 n, .int .i64 m, .slice a1 St.length xa1, .slice a2 Fi.length xa2, .slice a3 Ed.length xa3]), ownP n m (riseL St) (riseL Fi) (riseE Ed), isV (.agg #[.int .i64 n', .int .i64 m', .slice b1 St'.length xb1, .slice b2 Fi'.length xb2, .slice b3 Ed'.length xb3]), ownP n' m' (riseL St') (riseL Fi') (riseE Ed'), boxP, boxP] (by kernel_rfl) (by kernel_rfl) ⟨isV_mono _, ownP_mono, isV_mono _, ownP_mono, boxP_mono, boxP_mono, trivial⟩ ?go
            case go =>
              intro F hF
              simp only [fills, Act.put, List.take, List.length, List.setIfInBounds_toArray, List.set_cons_zero, List.set_cons_succ, Nat.reduceAdd] at hF
              refine ⟨⟨?o0, ?o1, ?o2, ?o3, ?o4, ?o5, trivial⟩, ?fin⟩
              case o0 =>
                intro y W d hd K hK
                clear hd
                simp only [hF]
                have S := SK.out W (Edr.out.trans (d.mono Edr.out.size))
                obtain ⟨y0, y1, y2, y3, y4, z0, z1, z2, z3, z4, _⟩ := S
                go_simp
                refine hK.out _ _ W (Below.refl _ _) rfl (by simp only [hF, updV, Nat.reduceEqDiff, reduceIte])
              case o1 =>
                intro y W d hd K hK
                have e0 : y 0 = .agg #[.int .i64 n, .int .i64 m, .slice a1 St.length xa1, .slice a2 Fi.length xa2, .slice a3 Ed.length xa3] := by obtain ⟨_, _, _, e⟩ := hd ⟨0, .data⟩ (by simp) rfl; exact e
                clear hd
                rw [hF]
                simp only [e0]
                go_wp2_with (go_at_call 62; refine (TA.out _ (Edr.out.trans (d.mono Edr.out.size))).mono ?_; rintro e wa ⟨g1, k1, g2, k2, g3, k3, rfl, o1, d1, D1⟩)
                refine hK.out _ _ wa d1 (ownP_of o1) (by simp only [hF, updV, Nat.reduceAdd, Nat.reduceEqDiff, reduceIte, e0])
              case o2 =>
                intro y W d hd K hK
                clear hd
                simp only [hF]
                have S := SK.out W (Edr.out.trans (d.mono Edr.out.size))
                obtain ⟨y0, y1, y2, y3, y4, z0, z1, z2, z3, z4, _⟩ := S
                go_simp
                refine hK.out _ _ W (Below.refl _ _) rfl (by simp only [hF, updV, Nat.reduceAdd, Nat.reduceEqDiff, reduceIte])
              case o3 =>
                intro y W d hd K hK
                have e2 : y 2 = .agg #[.int .i64 n', .int .i64 m', .slice b1 St'.length xb1, .slice b2 Fi'.length xb2, .slice b3 Ed'.length xb3] := by obtain ⟨_, _, _, e⟩ := hd ⟨2, .data⟩ (by simp) rfl; exact e
                clear hd
                rw [hF]
                simp only [e2]
                go_wp2_with (go_at_call 62; refine (TB.out _ (Edr.out.trans (d.mono Edr.out.size))).mono ?_; rintro e wa ⟨g1, k1, g2, k2, g3, k3, rfl, o1, d1, D1⟩)
                refine hK.out _ _ wa d1 (ownP_of o1) (by simp only [hF, updV, Nat.reduceAdd, Nat.reduceEqDiff, reduceIte, e2])
              case o4 =>
                intro y W d hd K hK
                clear hd
                simp only [hF]
                go_simp
                refine hK.out _ _ _ ((Below.refl _ _).alloc (Nat.le_refl _) _) (boxP_of _) (by simp only [hF, updV, Nat.reduceAdd, Nat.reduceEqDiff, reduceIte])
              case o5 =>
                intro y W d hd K hK
                clear hd
                simp only [hF]
                go_simp
                refine hK.out _ _ _ ((Below.refl _ _).alloc (Nat.le_refl _) _) (boxP_of _) (by simp only [hF, updV, Nat.reduceAdd, Nat.reduceEqDiff, reduceIte])
              case fin =>
                intro y lo hi W hM
                have e0 : y 0 = .agg #[.int .i64 n, .int .i64 m, .slice a1 St.length xa1, .slice a2 Fi.length xa2, .slice a3 Ed.length xa3] := hM.fact 0 (by simp) rfl
                have e2 : y 2 = .agg #[.int .i64 n', .int .i64 m', .slice b1 St'.length xb1, .slice b2 Fi'.length xb2, .slice b3 Ed'.length xb3] := hM.fact 2 (by simp) rfl
                obtain ⟨p, q, g1, k1, g2, k2, g3, k3, h1, c1, h2, c2, h3, c3, e1, e3, e4, e5, HP⟩ := two_pre Edr.out (by simp) hM (hM.order 3 _ ⟨1, .chain⟩ (by simp) rfl rfl (by simp) rfl)
                simp only [hF, e0, e2, e1, e3, e4, e5]
                have HL := hide (HP.lai n m n' m')
                obtain ⟨⟨u0, u1, u2, u3, u4⟩, v0, v1, v2, v3, v4⟩ := zero_cells HP.zp
                obtain ⟨⟨ua0, ua1, ua2, ua3, ua4⟩, va0, va1, va2, va3, va4⟩ := zero_cells (HP.zq1 n m)
                have ne := HP.ne
                clear hM hF e0 e2 e1 e3 e4 e5
                clear HP
                go_wp2_with fail
                go_meet
                exact ⟨_, _, _, _, _, _, _, _, _, _, _, _, _, _, rfl, rfl, HL⟩
          case rest =>
            obtain ⟨b5, b6, g1, k1, g2, k2, g3, k3, g4, k4, g5, k5, g6, k6, rfl, rfl, HL⟩ := hcut
            rename World => wy
            have HU : Hid (smB n m n' m' St Fi Ed St' Fi' Ed' = (decide (riseL St = riseL St') && decide (riseL Fi = riseL Fi') && decide (riseE Ed = riseE Ed'))) := hide (by
              unfold smB
              rw [Bool.eq_iff_iff]
              simp only [decide_eq_true_eq, Bool.and_eq_true]
              exact ⟨fun h => ⟨⟨h.2.2.2.2.1, h.2.2.2.2.2.1⟩, h.2.2.2.2.2.2⟩, fun h => ⟨HM.out.1, HM.out.2, EN.out, EM.out, h.1.1, h.1.2, h.2⟩⟩)
            have CY : Hid (∀ W, Below wy.heap.size wy W → (W.cell? ⟨b5, 2, none⟩ = some (.slice (some ⟨g1, 0, none⟩) (riseL St).length k1) ∧ W.cell? ⟨b5, 3, none⟩ = some (.slice (some ⟨g2, 0, none⟩) (riseL Fi).length k2) ∧ W.cell? ⟨b5, 4, none⟩ = some (.slice (some ⟨g3, 0, none⟩) (riseE Ed).length k3)) ∧ W.cell? ⟨b6, 2, none⟩ = some (.slice (some ⟨g4, 0, none⟩) (riseL St').length k4) ∧ W.cell? ⟨b6, 3, none⟩ = some (.slice (some ⟨g5, 0, none⟩) (riseL Fi').length k5) ∧ W.cell? ⟨b6, 4, none⟩ = some (.slice (some ⟨g6, 0, none⟩) (riseE Ed').length k6)) := hide (fun W d => by
              have e := blk_on HL.out.bp d
              have f := blk_on HL.out.bq d
              exact ⟨⟨cell_of e rfl, cell_of e rfl, cell_of e rfl⟩, cell_of f rfl, cell_of f rfl, cell_of f rfl⟩)
            have T1 : Hid (∀ W, Below wy.heap.size wy W → Calls Tryz.prog 66 #[.slice (some ⟨g1, 0, none⟩) (riseL St).length k1, .slice (some ⟨g4, 0, none⟩) (riseL St').length k4] W fun e w' => e = .returned (.bool (decide (riseL St = riseL St'))) ∧ Below wy.heap.size wy w') := hide (fun W d => (equalI_any W (some ⟨g1, 0, none⟩) (some ⟨g4, 0, none⟩) (riseL St) (riseL St') k1 k4 (hide (HL.out.o1.rd.s.on d)) (hide (HL.out.o2.rd.s.on d)) (Nat.le_trans (riseL_len St) h1) (Nat.le_trans (riseL_len St') h4)).mono fun e w' ⟨he, dd⟩ => ⟨he, d.trans (dd.mono d.size)⟩)
            have T2 : Hid (∀ W, Below wy.heap.size wy W → Calls Tryz.prog 66 #[.slice (some ⟨g2, 0, none⟩) (riseL Fi).length k2, .slice (some ⟨g5, 0, none⟩) (riseL Fi').length k5] W fun e w' => e = .returned (.bool (decide (riseL Fi = riseL Fi'))) ∧ Below wy.heap.size wy w') := hide (fun W d => (equalI_any W (some ⟨g2, 0, none⟩) (some ⟨g5, 0, none⟩) (riseL Fi) (riseL Fi') k2 k5 (hide (HL.out.o1.rd.f.on d)) (hide (HL.out.o2.rd.f.on d)) (Nat.le_trans (riseL_len Fi) h2) (Nat.le_trans (riseL_len Fi') h5)).mono fun e w' ⟨he, dd⟩ => ⟨he, d.trans (dd.mono d.size)⟩)
            have T3 : Hid (∀ W, Below wy.heap.size wy W → Calls Tryz.prog 67 #[.slice (some ⟨g3, 0, none⟩) (riseE Ed).length k3, .slice (some ⟨g6, 0, none⟩) (riseE Ed').length k6] W fun e w' => e = .returned (.bool (decide (riseE Ed = riseE Ed'))) ∧ Below wy.heap.size wy w') := hide (fun W d => (equalE_any W (some ⟨g3, 0, none⟩) (some ⟨g6, 0, none⟩) (riseE Ed) (riseE Ed') k3 k6 (hide (HL.out.o1.rd.e.on d)) (hide (HL.out.o2.rd.e.on d)) (Nat.le_trans (riseE_len Ed) h3) (Nat.le_trans (riseE_len Ed') h6)).mono fun e w' ⟨he, dd⟩ => ⟨he, d.trans (dd.mono d.size)⟩)
            obtain ⟨⟨y0, y1, y2⟩, z0, z1, z2⟩ := CY.out wy (Below.refl _ _)
            generalize decide (riseL St = riseL St') = c1 at T1 HU
            generalize decide (riseL Fi = riseL Fi') = c2 at T2 HU
            generalize decide (riseE Ed = riseE Ed') = c3 at T3 HU
            have HDL := hide HL.out.d
            cases c1
            · go_wp2_with (go_at_call_of 66 g1; refine (T1.out _ (Below.refl _ _)).mono ?_; rintro e wa ⟨rfl, D1⟩)
              refine bodyPost_ret (results_tmp rfl _ _ _) rfl ?_
              exact ⟨by rw [HU.out]; rfl, HD.out.1.trans ((HDL.out.trans (D1.mono HDL.out.size)).mono HD.out.1.size)⟩
            · cases c2
              · go_wp2_with (first
                  | (go_at_call_of 66 g1; refine (T1.out _ (Below.refl _ _)).mono ?_; rintro e wa ⟨rfl, D1⟩; obtain ⟨⟨y0, y1, y2⟩, z0, z1, z2⟩ := CY.out wa D1)
                  | (go_at_call_of 66 g2; refine (T2.out _ D1).mono ?_; rintro e wb ⟨rfl, D2⟩))
                refine bodyPost_ret (results_tmp rfl _ _ _) rfl ?_
                exact ⟨by rw [HU.out]; rfl, HD.out.1.trans ((HDL.out.trans (D2.mono HDL.out.size)).mono HD.out.1.size)⟩
              · go_wp2_with (first
                  | (go_at_call_of 66 g1; refine (T1.out _ (Below.refl _ _)).mono ?_; rintro e wa ⟨rfl, D1⟩; obtain ⟨⟨y0, y1, y2⟩, z0, z1, z2⟩ := CY.out wa D1)
                  | (go_at_call_of 66 g2; refine (T2.out _ D1).mono ?_; rintro e wb ⟨rfl, D2⟩; obtain ⟨⟨y0, y1, y2⟩, z0, z1, z2⟩ := CY.out wb D2)
                  | (go_at_call_of 67 g3; refine (T3.out _ D2).mono ?_; rintro e wc ⟨rfl, D3⟩))
                refine bodyPost_ret (results_tmp rfl _ _ _) rfl ?_
                exact ⟨by rw [HU.out]; rfl, HD.out.1.trans ((HDL.out.trans (D3.mono HDL.out.size)).mono HD.out.1.size)⟩
        · have e0 : (m != m') = true := by simpa using em
          have EM := hide em
          clear em
          go_upto_region 2 with (first
            | (go_at_call_of 22 a1; refine (TV.out _ (Below.refl _ _)).mono ?_; rintro e wa ⟨rfl, D1⟩; obtain ⟨p0, p1, p2, p3, p4, q0, q1, q2, q3, q4, _⟩ := SK.out wa D1)
            | (go_at_call_of 22 b1; refine (TW.out _ D1).mono ?_; rintro e wb ⟨rfl, D2⟩; have DB := hide D2; obtain ⟨r0, r1, r2, r3, r4, t0, t1, t2, t3, t4, _⟩ := SK.out wb D2))
          go_wp2_with fail
          refine bodyPost_ret (results_tmp rfl _ _ _) rfl ?_
          have he : smB n m n' m' St Fi Ed St' Fi' Ed' = false := by unfold smB; rw [decide_eq_false_iff_not]; intro h; exact EM.out h.2.2.2.1
          exact ⟨by rw [he]; rfl, HD.out.1.trans (DB.out.mono HD.out.1.size)⟩
      · have en0 : (n != n') = true := by simpa using en
        have EN := hide en
        clear en
        go_upto_region 2 with (first
            | (go_at_call_of 22 a1; refine (TV.out _ (Below.refl _ _)).mono ?_; rintro e wa ⟨rfl, D1⟩; obtain ⟨p0, p1, p2, p3, p4, q0, q1, q2, q3, q4, _⟩ := SK.out wa D1)
            | (go_at_call_of 22 b1; refine (TW.out _ D1).mono ?_; rintro e wb ⟨rfl, D2⟩; have DB := hide D2; obtain ⟨r0, r1, r2, r3, r4, t0, t1, t2, t3, t4, _⟩ := SK.out wb D2))
        go_wp2_with fail
        refine bodyPost_ret (results_tmp rfl _ _ _) rfl ?_
        have he : smB n m n' m' St Fi Ed St' Fi' Ed' = false := by unfold smB; rw [decide_eq_false_iff_not]; intro h; exact EN.out h.2.2.1
        exact ⟨by rw [he]; rfl, HD.out.1.trans (DB.out.mono HD.out.1.size)⟩
    · have eb : mayA n' m' St' Fi' Ed' = false := by simpa using eb
      have TV : Hid (∀ W, Below W0.heap.size W0 W → Calls Tryz.prog 22 #[.agg #[.int .i64 n, .int .i64 m, .slice a1 St.length xa1, .slice a2 Fi.length xa2, .slice a3 Ed.length xa3]] W fun e w' => e = .returned (.int .i64 0) ∧ Below W0.heap.size W0 w') := hide (fun W d => by have t := TV.out W d; rw [ea] at t; exact t)
      have TW : Hid (∀ W, Below W0.heap.size W0 W → Calls Tryz.prog 22 #[.agg #[.int .i64 n', .int .i64 m', .slice b1 St'.length xb1, .slice b2 Fi'.length xb2, .slice b3 Ed'.length xb3]] W fun e w' => e = .returned (.int .i64 2) ∧ Below W0.heap.size W0 w') := hide (fun W d => by have t := TW.out W d; rw [eb] at t; exact t)
      go_upto_region 2 with (first
            | (go_at_call_of 22 a1; refine (TV.out _ (Below.refl _ _)).mono ?_; rintro e wa ⟨rfl, D1⟩; obtain ⟨p0, p1, p2, p3, p4, q0, q1, q2, q3, q4, _⟩ := SK.out wa D1)
            | (go_at_call_of 22 b1; refine (TW.out _ D1).mono ?_; rintro e wb ⟨rfl, D2⟩; have DB := hide D2; obtain ⟨r0, r1, r2, r3, r4, t0, t1, t2, t3, t4, _⟩ := SK.out wb D2))
      go_wp2_with fail
      refine bodyPost_ret (results_tmp rfl _ _ _) rfl ?_
      have he : smB n m n' m' St Fi Ed St' Fi' Ed' = false := by unfold smB; rw [decide_eq_false_iff_not]; intro h; rw [eb] at h; cases h.2.1
      exact ⟨by rw [he]; rfl, HD.out.1.trans (DB.out.mono HD.out.1.size)⟩
  · have ea : mayA n m St Fi Ed = false := by simpa using ea
    have TV : Hid (∀ W, Below W0.heap.size W0 W → Calls Tryz.prog 22 #[.agg #[.int .i64 n, .int .i64 m, .slice a1 St.length xa1, .slice a2 Fi.length xa2, .slice a3 Ed.length xa3]] W fun e w' => e = .returned (.int .i64 2) ∧ Below W0.heap.size W0 w') := hide (fun W d => by have t := TV.out W d; rw [ea] at t; exact t)
    go_upto_region 2 with (go_at_call_of 22 a1; refine (TV.out _ (Below.refl _ _)).mono ?_; rintro e wa ⟨rfl, D1⟩; have DB := hide D1)
    go_wp2_with fail
    refine bodyPost_ret (results_tmp rfl _ _ _) rfl ?_
    have he : smB n m n' m' St Fi Ed St' Fi' Ed' = false := by unfold smB; rw [decide_eq_false_iff_not]; intro h; rw [ea] at h; cases h.1
    exact ⟨by rw [he]; rfl, HD.out.1.trans (DB.out.mono HD.out.1.size)⟩
end Go.Proofs.YtfoahpideglghaaGreatDoor
