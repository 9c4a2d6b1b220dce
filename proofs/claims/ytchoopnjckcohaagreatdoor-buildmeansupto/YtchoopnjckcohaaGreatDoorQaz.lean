import Derived.Test.YtchoopnjckcohaaGreatDoorQao
set_option maxRecDepth 100000
set_option maxHeartbeats 40000000
namespace Go.Proofs.YtchoopnjckcohaaGreatDoor
open Go.RowKit Go.Maps Go.Shelf
attribute [local go_sem] Oper.semAt_some
def unErr (n m n' m' : Int) (St Fi : List Int) (Ed : List EdT) (St' Fi' : List Int) (Ed' : List EdT) : Int :=
 if mayA n m St Fi Ed = false ∨ mayA n' m' St' Fi' Ed' = false then 2 else if m ≠ m' then 6 else if 4096 < n + n' then 8 else if 65536 < (riseE Ed).length + (riseE Ed').length then 8 else 0
def UnP (w : World) (n m n' m' : Int) (St Fi : List Int) (Ed : List EdT) (St' Fi' : List Int) (Ed' : List EdT) (e : Ending) (w' : World) : Prop :=
 ((unErr n m n' m' St Fi Ed St' Fi' Ed' ≠ 0 ∧ e = .returned (.tuple #[.agg #[.int .i64 0, .int .i64 0, .slice none 0 0, .slice none 0 0, .slice none 0 0], .int .i64 (unErr n m n' m' St Fi Ed St' Fi' Ed')])) ∨ (unErr n m n' m' St Fi Ed St' Fi' Ed' = 0 ∧ ∃ r1 q1 r2 q2 r3 q3, e = .returned (.tuple #[.agg #[.int .i64 (n + n'), .int .i64 m, .slice (some ⟨r1, 0, none⟩) (riseL St ++ shL n (riseL St')).length q1, .slice (some ⟨r2, 0, none⟩) (riseL Fi ++ shL n (riseL Fi')).length q2, .slice (some ⟨r3, 0, none⟩) (riseE Ed ++ shEs n (riseE Ed')).length q3], .int .i64 0]) ∧ Own w.heap.size w' r1 q1 r2 q2 r3 q3 (riseL St ++ shL n (riseL St')) (riseL Fi ++ shL n (riseL Fi')) (riseE Ed ++ shEs n (riseE Ed')))) ∧ Below w.heap.size w w'
theorem union_any (w : World) (n m n' m' : Int) (a1 a2 a3 b1 b2 b3 : Option Addr) (xa1 xa2 xa3 xb1 xb2 xb3 : Nat) (St Fi : List Int) (Ed : List EdT) (St' Fi' : List Int) (Ed' : List EdT) (hA : Hid (RdA w a1 a2 a3 St Fi Ed)) (hB : Hid (RdA w b1 b2 b3 St' Fi' Ed')) (h1 : St.length ≤ 4194304) (h2 : Fi.length ≤ 4194304) (h3 : Ed.length ≤ 4194304) (h4 : St'.length ≤ 4194304) (h5 : Fi'.length ≤ 4194304) (h6 : Ed'.length ≤ 4194304) :
 Calls Tryz.prog 59 #[.agg #[.int .i64 n, .int .i64 m, .slice a1 St.length xa1, .slice a2 Fi.length xa2, .slice a3 Ed.length xa3], .agg #[.int .i64 n', .int .i64 m', .slice b1 St'.length xb1, .slice b2 Fi'.length xb2, .slice b3 Ed'.length xb3]] w (UnP w n m n' m' St Fi Ed St' Fi' Ed') := by
 have HD := hide (box3z w #[.int .i64 n, .int .i64 m, .slice a1 St.length xa1, .slice a2 Fi.length xa2, .slice a3 Ed.length xa3] #[.int .i64 n', .int .i64 m', .slice b1 St'.length xb1, .slice b2 Fi'.length xb2, .slice b3 Ed'.length xb3] #[.int .i64 0, .int .i64 0, .slice none 0 0, .slice none 0 0, .slice none 0 0] 25)
 obtain ⟨W0, hW0⟩ : ∃ W0, ((w.alloc (.cells #[.int .i64 n, .int .i64 m, .slice a1 St.length xa1, .slice a2 Fi.length xa2, .slice a3 Ed.length xa3] 25)).alloc (.cells #[.int .i64 n', .int .i64 m', .slice b1 St'.length xb1, .slice b2 Fi'.length xb2, .slice b3 Ed'.length xb3] 25)).alloc (.cells #[.int .i64 0, .int .i64 0, .slice none 0 0, .slice none 0 0, .slice none 0 0] 25) = W0 := ⟨_, rfl⟩
 rw [hW0] at HD
 have SK : Hid (∀ W, Below W0.heap.size W0 W → (fun W => (W.cell? ⟨w.heap.size, 0, none⟩ = some (.int .i64 n) ∧ W.cell? ⟨w.heap.size, 1, none⟩ = some (.int .i64 m) ∧ W.cell? ⟨w.heap.size, 2, none⟩ = some (.slice a1 St.length xa1) ∧ W.cell? ⟨w.heap.size, 3, none⟩ = some (.slice a2 Fi.length xa2) ∧ W.cell? ⟨w.heap.size, 4, none⟩ = some (.slice a3 Ed.length xa3) ∧ W.cell? ⟨w.heap.size + 1, 0, none⟩ = some (.int .i64 n') ∧ W.cell? ⟨w.heap.size + 1, 1, none⟩ = some (.int .i64 m') ∧ W.cell? ⟨w.heap.size + 1, 2, none⟩ = some (.slice b1 St'.length xb1) ∧ W.cell? ⟨w.heap.size + 1, 3, none⟩ = some (.slice b2 Fi'.length xb2) ∧ W.cell? ⟨w.heap.size + 1, 4, none⟩ = some (.slice b3 Ed'.length xb3) ∧ Hid (Below W0.heap.size W0 W))) W) := hide (fun W d => by
  have e := blk_on HD.out.2.1 d
  have f := blk_on HD.out.2.2.1 d
  exact ⟨cell_of e rfl, cell_of e rfl, cell_of e rfl, cell_of e rfl, cell_of e rfl, cell_of f rfl, cell_of f rfl, cell_of f rfl, cell_of f rfl, cell_of f rfl, hide d⟩)
 have SD : Hid (∀ W, (fun W => (W.cell? ⟨w.heap.size, 0, none⟩ = some (.int .i64 n) ∧ W.cell? ⟨w.heap.size, 1, none⟩ = some (.int .i64 m) ∧ W.cell? ⟨w.heap.size, 2, none⟩ = some (.slice a1 St.length xa1) ∧ W.cell? ⟨w.heap.size, 3, none⟩ = some (.slice a2 Fi.length xa2) ∧ W.cell? ⟨w.heap.size, 4, none⟩ = some (.slice a3 Ed.length xa3) ∧ W.cell? ⟨w.heap.size + 1, 0, none⟩ = some (.int .i64 n') ∧ W.cell? ⟨w.heap.size + 1, 1, none⟩ = some (.int .i64 m') ∧ W.cell? ⟨w.heap.size + 1, 2, none⟩ = some (.slice b1 St'.length xb1) ∧ W.cell? ⟨w.heap.size + 1, 3, none⟩ = some (.slice b2 Fi'.length xb2) ∧ W.cell? ⟨w.heap.size + 1, 4, none⟩ = some (.slice b3 Ed'.length xb3) ∧ Hid (Below W0.heap.size W0 W))) W → Below W0.heap.size W0 W) := hide (fun W h => h.2.2.2.2.2.2.2.2.2.2.out)
 have SA : Hid (∀ W o, (fun W => (W.cell? ⟨w.heap.size, 0, none⟩ = some (.int .i64 n) ∧ W.cell? ⟨w.heap.size, 1, none⟩ = some (.int .i64 m) ∧ W.cell? ⟨w.heap.size, 2, none⟩ = some (.slice a1 St.length xa1) ∧ W.cell? ⟨w.heap.size, 3, none⟩ = some (.slice a2 Fi.length xa2) ∧ W.cell? ⟨w.heap.size, 4, none⟩ = some (.slice a3 Ed.length xa3) ∧ W.cell? ⟨w.heap.size + 1, 0, none⟩ = some (.int .i64 n') ∧ W.cell? ⟨w.heap.size + 1, 1, none⟩ = some (.int .i64 m') ∧ W.cell? ⟨w.heap.size + 1, 2, none⟩ = some (.slice b1 St'.length xb1) ∧ W.cell? ⟨w.heap.size + 1, 3, none⟩ = some (.slice b2 Fi'.length xb2) ∧ W.cell? ⟨w.heap.size + 1, 4, none⟩ = some (.slice b3 Ed'.length xb3) ∧ Hid (Below W0.heap.size W0 W))) W → (fun W => (W.cell? ⟨w.heap.size, 0, none⟩ = some (.int .i64 n) ∧ W.cell? ⟨w.heap.size, 1, none⟩ = some (.int .i64 m) ∧ W.cell? ⟨w.heap.size, 2, none⟩ = some (.slice a1 St.length xa1) ∧ W.cell? ⟨w.heap.size, 3, none⟩ = some (.slice a2 Fi.length xa2) ∧ W.cell? ⟨w.heap.size, 4, none⟩ = some (.slice a3 Ed.length xa3) ∧ W.cell? ⟨w.heap.size + 1, 0, none⟩ = some (.int .i64 n') ∧ W.cell? ⟨w.heap.size + 1, 1, none⟩ = some (.int .i64 m') ∧ W.cell? ⟨w.heap.size + 1, 2, none⟩ = some (.slice b1 St'.length xb1) ∧ W.cell? ⟨w.heap.size + 1, 3, none⟩ = some (.slice b2 Fi'.length xb2) ∧ W.cell? ⟨w.heap.size + 1, 4, none⟩ = some (.slice b3 Ed'.length xb3) ∧ Hid (Below W0.heap.size W0 W))) (W.alloc o)) := hide (fun W o h => SK.out _ ((SD.out W h).alloc (SD.out W h).size o))
 have SB : Hid (∀ (W : World) (o : Obj), (fun W => (W.cell? ⟨w.heap.size, 0, none⟩ = some (.int .i64 n) ∧ W.cell? ⟨w.heap.size, 1, none⟩ = some (.int .i64 m) ∧ W.cell? ⟨w.heap.size, 2, none⟩ = some (.slice a1 St.length xa1) ∧ W.cell? ⟨w.heap.size, 3, none⟩ = some (.slice a2 Fi.length xa2) ∧ W.cell? ⟨w.heap.size, 4, none⟩ = some (.slice a3 Ed.length xa3) ∧ W.cell? ⟨w.heap.size + 1, 0, none⟩ = some (.int .i64 n') ∧ W.cell? ⟨w.heap.size + 1, 1, none⟩ = some (.int .i64 m') ∧ W.cell? ⟨w.heap.size + 1, 2, none⟩ = some (.slice b1 St'.length xb1) ∧ W.cell? ⟨w.heap.size + 1, 3, none⟩ = some (.slice b2 Fi'.length xb2) ∧ W.cell? ⟨w.heap.size + 1, 4, none⟩ = some (.slice b3 Ed'.length xb3) ∧ Hid (Below W0.heap.size W0 W))) W.drew → (fun W => (W.cell? ⟨w.heap.size, 0, none⟩ = some (.int .i64 n) ∧ W.cell? ⟨w.heap.size, 1, none⟩ = some (.int .i64 m) ∧ W.cell? ⟨w.heap.size, 2, none⟩ = some (.slice a1 St.length xa1) ∧ W.cell? ⟨w.heap.size, 3, none⟩ = some (.slice a2 Fi.length xa2) ∧ W.cell? ⟨w.heap.size, 4, none⟩ = some (.slice a3 Ed.length xa3) ∧ W.cell? ⟨w.heap.size + 1, 0, none⟩ = some (.int .i64 n') ∧ W.cell? ⟨w.heap.size + 1, 1, none⟩ = some (.int .i64 m') ∧ W.cell? ⟨w.heap.size + 1, 2, none⟩ = some (.slice b1 St'.length xb1) ∧ W.cell? ⟨w.heap.size + 1, 3, none⟩ = some (.slice b2 Fi'.length xb2) ∧ W.cell? ⟨w.heap.size + 1, 4, none⟩ = some (.slice b3 Ed'.length xb3) ∧ Hid (Below W0.heap.size W0 W))) (W.alloc o).drew) := hide (fun W o h => SK.out _ (((undrew2 (SD.out _ h)).alloc (SD.out _ h).size o).drew))
 have SS : Hid (∀ W q u0 u1 u2 u3 u4, W0.heap.size ≤ q → (fun W => (W.cell? ⟨w.heap.size, 0, none⟩ = some (.int .i64 n) ∧ W.cell? ⟨w.heap.size, 1, none⟩ = some (.int .i64 m) ∧ W.cell? ⟨w.heap.size, 2, none⟩ = some (.slice a1 St.length xa1) ∧ W.cell? ⟨w.heap.size, 3, none⟩ = some (.slice a2 Fi.length xa2) ∧ W.cell? ⟨w.heap.size, 4, none⟩ = some (.slice a3 Ed.length xa3) ∧ W.cell? ⟨w.heap.size + 1, 0, none⟩ = some (.int .i64 n') ∧ W.cell? ⟨w.heap.size + 1, 1, none⟩ = some (.int .i64 m') ∧ W.cell? ⟨w.heap.size + 1, 2, none⟩ = some (.slice b1 St'.length xb1) ∧ W.cell? ⟨w.heap.size + 1, 3, none⟩ = some (.slice b2 Fi'.length xb2) ∧ W.cell? ⟨w.heap.size + 1, 4, none⟩ = some (.slice b3 Ed'.length xb3) ∧ Hid (Below W0.heap.size W0 W))) W → (fun W => (W.cell? ⟨w.heap.size, 0, none⟩ = some (.int .i64 n) ∧ W.cell? ⟨w.heap.size, 1, none⟩ = some (.int .i64 m) ∧ W.cell? ⟨w.heap.size, 2, none⟩ = some (.slice a1 St.length xa1) ∧ W.cell? ⟨w.heap.size, 3, none⟩ = some (.slice a2 Fi.length xa2) ∧ W.cell? ⟨w.heap.size, 4, none⟩ = some (.slice a3 Ed.length xa3) ∧ W.cell? ⟨w.heap.size + 1, 0, none⟩ = some (.int .i64 n') ∧ W.cell? ⟨w.heap.size + 1, 1, none⟩ = some (.int .i64 m') ∧ W.cell? ⟨w.heap.size + 1, 2, none⟩ = some (.slice b1 St'.length xb1) ∧ W.cell? ⟨w.heap.size + 1, 3, none⟩ = some (.slice b2 Fi'.length xb2) ∧ W.cell? ⟨w.heap.size + 1, 4, none⟩ = some (.slice b3 Ed'.length xb3) ∧ Hid (Below W0.heap.size W0 W))) (((((W.setCell ⟨q, 0, none⟩ u0).setCell ⟨q, 1, none⟩ u1).setCell ⟨q, 2, none⟩ u2).setCell ⟨q, 3, none⟩ u3).setCell ⟨q, 4, none⟩ u4)) := hide (fun W q u0 u1 u2 u3 u4 hq h => SK.out _ ((SD.out W h).trans ((only5 W q u0 u1 u2 u3 u4).toBelow (SD.out W h).size (fun k hk => by omega))))
 have TV : Hid (∀ W, Below W0.heap.size W0 W → Calls Tryz.prog 75 #[.agg #[.int .i64 n, .int .i64 m, .slice a1 St.length xa1, .slice a2 Fi.length xa2, .slice a3 Ed.length xa3]] W fun e w' => e = .returned (.int .i64 (if mayA n m St Fi Ed then 0 else 2)) ∧ Below W0.heap.size W0 w') := hide (fun W d => (valid_any W n m a1 a2 a3 xa1 xa2 xa3 St Fi Ed (hide ((hA.out.on HD.out.1).on d)) h1 h2 h3).mono fun e w' ⟨he, dd⟩ => ⟨he, d.trans (dd.mono d.size)⟩)
 have TW : Hid (∀ W, Below W0.heap.size W0 W → Calls Tryz.prog 75 #[.agg #[.int .i64 n', .int .i64 m', .slice b1 St'.length xb1, .slice b2 Fi'.length xb2, .slice b3 Ed'.length xb3]] W fun e w' => e = .returned (.int .i64 (if mayA n' m' St' Fi' Ed' then 0 else 2)) ∧ Below W0.heap.size W0 w') := hide (fun W d => (valid_any W n' m' b1 b2 b3 xb1 xb2 xb3 St' Fi' Ed' (hide ((hB.out.on HD.out.1).on d)) h4 h5 h6).mono fun e w' ⟨he, dd⟩ => ⟨he, d.trans (dd.mono d.size)⟩)
 have TA : Hid (∀ W, Below W0.heap.size W0 W → Calls Tryz.prog 81 #[.agg #[.int .i64 n, .int .i64 m, .slice a1 St.length xa1, .slice a2 Fi.length xa2, .slice a3 Ed.length xa3]] W fun e w' => ∃ g1 k1 g2 k2 g3 k3, e = .returned (.agg #[.int .i64 n, .int .i64 m, .slice (some ⟨g1, 0, none⟩) (riseL St).length k1, .slice (some ⟨g2, 0, none⟩) (riseL Fi).length k2, .slice (some ⟨g3, 0, none⟩) (riseE Ed).length k3]) ∧ Own W.heap.size w' g1 k1 g2 k2 g3 k3 (riseL St) (riseL Fi) (riseE Ed) ∧ Below W.heap.size W w' ∧ Below W0.heap.size W0 w') := hide (fun W d => by
  refine (inOrder_any W n m a1 a2 a3 xa1 xa2 xa3 St Fi Ed (hide ((hA.out.on HD.out.1).on d)) h1 h2 h3).mono ?_
  rintro e w' ⟨g1, k1, g2, k2, g3, k3, he, ho, dd⟩
  exact ⟨g1, k1, g2, k2, g3, k3, he, ho, dd, d.trans (dd.mono d.size)⟩)
 have TB : Hid (∀ W, Below W0.heap.size W0 W → Calls Tryz.prog 81 #[.agg #[.int .i64 n', .int .i64 m', .slice b1 St'.length xb1, .slice b2 Fi'.length xb2, .slice b3 Ed'.length xb3]] W fun e w' => ∃ g1 k1 g2 k2 g3 k3, e = .returned (.agg #[.int .i64 n', .int .i64 m', .slice (some ⟨g1, 0, none⟩) (riseL St').length k1, .slice (some ⟨g2, 0, none⟩) (riseL Fi').length k2, .slice (some ⟨g3, 0, none⟩) (riseE Ed').length k3]) ∧ Own W.heap.size w' g1 k1 g2 k2 g3 k3 (riseL St') (riseL Fi') (riseE Ed') ∧ Below W.heap.size W w' ∧ Below W0.heap.size W0 w') := hide (fun W d => by
  refine (inOrder_any W n' m' b1 b2 b3 xb1 xb2 xb3 St' Fi' Ed' (hide ((hB.out.on HD.out.1).on d)) h4 h5 h6).mono ?_
  rintro e w' ⟨g1, k1, g2, k2, g3, k3, he, ho, dd⟩
  exact ⟨g1, k1, g2, k2, g3, k3, he, ho, dd, d.trans (dd.mono d.size)⟩)
 have S0 := SK.out W0 (Below.refl _ _)
 obtain ⟨y0, y1, y2, y3, y4, z0, z1, z2, z3, z4, _⟩ := S0
 go_enter Tryz.func59, Tryz.ntmps59
 by_cases ea : mayA n m St Fi Ed = true
 · by_cases eb : mayA n' m' St' Fi' Ed' = true
   · have HM := hide (And.intro (may_parts ea) (And.intro (may_parts eb) (And.intro (may_rise eb) (may_rise ea))))
     have TV : Hid (∀ W, Below W0.heap.size W0 W → Calls Tryz.prog 75 #[.agg #[.int .i64 n, .int .i64 m, .slice a1 St.length xa1, .slice a2 Fi.length xa2, .slice a3 Ed.length xa3]] W fun e w' => e = .returned (.int .i64 0) ∧ Below W0.heap.size W0 w') := hide (fun W d => by have t := TV.out W d; rw [ea] at t; exact t)
     have TW : Hid (∀ W, Below W0.heap.size W0 W → Calls Tryz.prog 75 #[.agg #[.int .i64 n', .int .i64 m', .slice b1 St'.length xb1, .slice b2 Fi'.length xb2, .slice b3 Ed'.length xb3]] W fun e w' => e = .returned (.int .i64 0) ∧ Below W0.heap.size W0 w') := hide (fun W d => by have t := TW.out W d; rw [eb] at t; exact t)
     have HU : Hid (unErr n m n' m' St Fi Ed St' Fi' Ed' = if m ≠ m' then 6 else if 4096 < n + n' then 8 else if 65536 < (riseE Ed).length + (riseE Ed').length then 8 else 0) := hide (by unfold unErr; rw [if_neg (by rw [ea, eb]; simp)])
     by_cases em : m = m'
     · have e0 : (m != m') = false := by simp [em]
       have EM := hide em
       clear em
       have hb1 := HM.out.1.1
       have hb2 := HM.out.2.1.1
       have iw : IntKind.i64.wrap (n + n') = n + n' := by rw [IntKind.wrap_i64]; omega
       by_cases en : 4096 < n + n'
       · go_upto_region 6 with (first
          | (go_at_call_of 75 a1; refine (TV.out _ (Below.refl _ _)).mono ?_; rintro e wa ⟨rfl, D1⟩; obtain ⟨p0, p1, p2, p3, p4, q0, q1, q2, q3, q4, _⟩ := SK.out wa D1)
          | (go_at_call_of 75 b1; refine (TW.out _ D1).mono ?_; rintro e wb ⟨rfl, D2⟩; have DB := hide D2; obtain ⟨r0, r1, r2, r3, r4, t0, t1, t2, t3, t4, _⟩ := SK.out wb D2))
         have F3 := blk_on HD.out.2.2.2.1 DB.out
         obtain ⟨o0, o1, o2, o3, o4⟩ := zd5 F3 rfl rfl rfl rfl rfl
         have f0 : wb.frozen? ⟨w.heap.size + 1 + 1, 0, none⟩ = false := fz_of F3
         have f1 : wb.frozen? ⟨w.heap.size + 1 + 1, 1, none⟩ = false := fz_of F3
         have f2 : wb.frozen? ⟨w.heap.size + 1 + 1, 2, none⟩ = false := fz_of F3
         have f3 : wb.frozen? ⟨w.heap.size + 1 + 1, 3, none⟩ = false := fz_of F3
         have f4 : wb.frozen? ⟨w.heap.size + 1 + 1, 4, none⟩ = false := fz_of F3
         have O6 := hide (And.intro (set5 wb (w.heap.size + 1 + 1) _ _ _ _ _ (.int .i64 0) (.int .i64 0) (.slice none 0 0) (.slice none 0 0) (.slice none 0 0) 25 F3) (only5 wb (w.heap.size + 1 + 1) (.int .i64 0) (.int .i64 0) (.slice none 0 0) (.slice none 0 0) (.slice none 0 0)))
         clear F3
         go_wp2_with fail
         refine bodyPost_ret (results_c1 (p := 4) (q := 5) (ty := 25) rfl _ _ (w.heap.size + 1 + 1) 25 _ (0, 0) _ _ rfl rfl O6.out.1 Tryz.underlying25 rfl (by kernel_rfl)) rfl ?_
         have z0 := HD.out.2.2.2.2
         have z1 := DB.out.size
         have he : unErr n m n' m' St Fi Ed St' Fi' Ed' = 8 := by rw [HU.out, if_neg (by simp [EM.out]), if_pos en]
         exact ⟨Or.inl ⟨by rw [he]; decide, by rw [he]; rfl⟩, (HD.out.1.trans (DB.out.mono (by omega))).trans (O6.out.2.toBelow (by omega) (fun k hk => by omega))⟩
       · have EN := hide en
         clear en
         have en : ¬ 4096 < n + n' := EN.out
         go_upto_region 7 with (first
          | (go_at_call_of 75 a1; refine (TV.out _ (Below.refl _ _)).mono ?_; rintro e wa ⟨rfl, D1⟩; obtain ⟨p0, p1, p2, p3, p4, q0, q1, q2, q3, q4, _⟩ := SK.out wa D1)
          | (go_at_call_of 75 b1; refine (TW.out _ D1).mono ?_; rintro e wb ⟨rfl, D2⟩; have DB := hide D2; obtain ⟨r0, r1, r2, r3, r4, t0, t1, t2, t3, t4, _⟩ := SK.out wb D2))
         clear y0 y1 y2 y3 y4 z0 z1 z2 z3 z4 p0 p1 p2 p3 p4 q0 q1 q2 q3 q4 r0 r1 r2 r3 r4 t0 t1 t2 t3 t4 D1 D2 TV TW
         go_cut [6, 7] from 6 to 33 (fun p q W => ∃ b5 b6 g1 k1 g2 k2 g3 k3 h1 c1 h2 c2 h3 c3, p = .pointer (some ⟨b5, 0, none⟩) ∧ q = .pointer (some ⟨b6, 0, none⟩) ∧ Hid (Lai W0 W b5 b6 n m n' m' g1 k1 g2 k2 g3 k3 h1 c1 h2 c2 h3 c3 (riseL St) (riseL Fi) (riseE Ed) (riseL St') (riseL Fi') (riseE Ed')))
         case first =>
          rename World => wx
          have Edr := hide DB.out
          refine wp_region_mkL [isV (.agg #[.int .i64 n, .int .i64 m, .slice a1 St.length xa1, .slice a2 Fi.length xa2, .slice a3 Ed.length xa3]), ownP n m (riseL St) (riseL Fi) (riseE Ed), isV (.agg #[.int .i64 n', .int .i64 m', .slice b1 St'.length xb1, .slice b2 Fi'.length xb2, .slice b3 Ed'.length xb3]), ownP n' m' (riseL St') (riseL Fi') (riseE Ed'), boxP, boxP] (by kernel_rfl) (by kernel_rfl) ⟨isV_mono _, ownP_mono, isV_mono _, ownP_mono, boxP_mono, boxP_mono, trivial⟩ ?go
          case go =>
           intro F hF
           simp only [fills, Act.put, List.take, List.length, List.setIfInBounds_toArray, List.set_cons_zero, List.set_cons_succ, Nat.reduceAdd] at hF
           refine ⟨⟨?o0, ?o1, ?o2, ?o3, ?o4, ?o5, trivial⟩, ?fin⟩
           case o0 =>
            intro y W d hd K hK
            clear hd
            simp only [hF]
            have S := SK.out W (Edr.out.trans (d.mono Edr.out.size))
            obtain ⟨y0, y1, y2, y3, y4, z0, z1, z2, z3, z4, _⟩ := S
            go_simp
            refine hK.out _ _ W (Below.refl _ _) rfl (by simp only [hF, updV, Nat.reduceEqDiff, reduceIte])
           case o1 =>
            intro y W d hd K hK
            have e0 : y 0 = .agg #[.int .i64 n, .int .i64 m, .slice a1 St.length xa1, .slice a2 Fi.length xa2, .slice a3 Ed.length xa3] := by obtain ⟨_, _, _, e⟩ := hd ⟨0, .data⟩ (by simp) rfl; exact e
            clear hd
            rw [hF]
            simp only [e0]
            go_wp2_with (go_at_call 81; refine (TA.out _ (Edr.out.trans (d.mono Edr.out.size))).mono ?_; rintro e wa ⟨g1, k1, g2, k2, g3, k3, rfl, o1, d1, D1⟩)
            refine hK.out _ _ wa d1 (ownP_of o1) (by simp only [hF, updV, Nat.reduceAdd, Nat.reduceEqDiff, reduceIte, e0])
           case o2 =>
            intro y W d hd K hK
            clear hd
            simp only [hF]
            have S := SK.out W (Edr.out.trans (d.mono Edr.out.size))
            obtain ⟨y0, y1, y2, y3, y4, z0, z1, z2, z3, z4, _⟩ := S
            go_simp
            refine hK.out _ _ W (Below.refl _ _) rfl (by simp only [hF, updV, Nat.reduceAdd, Nat.reduceEqDiff, reduceIte])
           case o3 =>
            intro y W d hd K hK
            have e2 : y 2 = .agg #[.int .i64 n', .int .i64 m', .slice b1 St'.length xb1, .slice b2 Fi'.length xb2, .slice b3 Ed'.length xb3] := by obtain ⟨_, _, _, e⟩ := hd ⟨2, .data⟩ (by simp) rfl; exact e
            clear hd
            rw [hF]
            simp only [e2]
            go_wp2_with (go_at_call 81; refine (TB.out _ (Edr.out.trans (d.mono Edr.out.size))).mono ?_; rintro e wa ⟨g1, k1, g2, k2, g3, k3, rfl, o1, d1, D1⟩)
            refine hK.out _ _ wa d1 (ownP_of o1) (by simp only [hF, updV, Nat.reduceAdd, Nat.reduceEqDiff, reduceIte, e2])
           case o4 =>
            intro y W d hd K hK
            clear hd
            simp only [hF]
            go_simp
            refine hK.out _ _ _ ((Below.refl _ _).alloc (Nat.le_refl _) _) (boxP_of _) (by simp only [hF, updV, Nat.reduceAdd, Nat.reduceEqDiff, reduceIte])
           case o5 =>
            intro y W d hd K hK
            clear hd
            simp only [hF]
            go_simp
            refine hK.out _ _ _ ((Below.refl _ _).alloc (Nat.le_refl _) _) (boxP_of _) (by simp only [hF, updV, Nat.reduceAdd, Nat.reduceEqDiff, reduceIte])
           case fin =>
            intro y lo hi W hM
            have e0 : y 0 = .agg #[.int .i64 n, .int .i64 m, .slice a1 St.length xa1, .slice a2 Fi.length xa2, .slice a3 Ed.length xa3] := hM.fact 0 (by simp) rfl
            have e2 : y 2 = .agg #[.int .i64 n', .int .i64 m', .slice b1 St'.length xb1, .slice b2 Fi'.length xb2, .slice b3 Ed'.length xb3] := hM.fact 2 (by simp) rfl
            obtain ⟨p, q, g1, k1, g2, k2, g3, k3, h1, c1, h2, c2, h3, c3, e1, e3, e4, e5, HP⟩ := two_pre Edr.out (by simp) hM (hM.order 3 _ ⟨1, .chain⟩ (by simp) rfl rfl (by simp) rfl)
            simp only [hF, e0, e2, e1, e3, e4, e5]
            have HL := hide (HP.lai n m n' m')
            obtain ⟨⟨u0, u1, u2, u3, u4⟩, v0, v1, v2, v3, v4⟩ := zero_cells HP.zp
            obtain ⟨⟨ua0, ua1, ua2, ua3, ua4⟩, va0, va1, va2, va3, va4⟩ := zero_cells (HP.zq1 n m)
            have ne := HP.ne
            clear hM hF e0 e2 e1 e3 e4 e5
            clear HP
            go_wp2_with fail
            go_meet
            exact ⟨_, _, _, _, _, _, _, _, _, _, _, _, _, _, rfl, rfl, HL⟩
         case rest =>
          obtain ⟨b5, b6, g1, k1, g2, k2, g3, k3, g4, k4, g5, k5, g6, k6, rfl, rfl, HL⟩ := hcut
          rename World => wy
          have le1 := riseE_len Ed
          have le2 := riseE_len Ed'
          have bl1 : wy.cell? ⟨b5, 4, none⟩ = some (.slice (some ⟨g3, 0, none⟩) (riseE Ed).length k3) := cell_of HL.out.bp rfl
          have bl2 : wy.cell? ⟨b6, 4, none⟩ = some (.slice (some ⟨g6, 0, none⟩) (riseE Ed').length k6) := cell_of HL.out.bq rfl
          have iw2 : IntKind.i64.wrap (((riseE Ed).length : Int) + ((riseE Ed').length : Int)) = ((riseE Ed).length : Int) + ((riseE Ed').length : Int) := by rw [IntKind.wrap_i64]; omega
          by_cases el : 65536 < (riseE Ed).length + (riseE Ed').length
          · have el2 : (65536 : Int) < ((riseE Ed).length : Int) + ((riseE Ed').length : Int) := by omega
            have DY := hide HL.out.d
            have EL := hide el
            clear el
            go_upto_region 9 with fail
            have F3 := blk_on HD.out.2.2.2.1 DY.out
            obtain ⟨o0, o1, o2, o3, o4⟩ := zd5 F3 rfl rfl rfl rfl rfl
            have f0 : wy.frozen? ⟨w.heap.size + 1 + 1, 0, none⟩ = false := fz_of F3
            have f1 : wy.frozen? ⟨w.heap.size + 1 + 1, 1, none⟩ = false := fz_of F3
            have f2 : wy.frozen? ⟨w.heap.size + 1 + 1, 2, none⟩ = false := fz_of F3
            have f3 : wy.frozen? ⟨w.heap.size + 1 + 1, 3, none⟩ = false := fz_of F3
            have f4 : wy.frozen? ⟨w.heap.size + 1 + 1, 4, none⟩ = false := fz_of F3
            have O6 := hide (And.intro (set5 wy (w.heap.size + 1 + 1) _ _ _ _ _ (.int .i64 0) (.int .i64 0) (.slice none 0 0) (.slice none 0 0) (.slice none 0 0) 25 F3) (only5 wy (w.heap.size + 1 + 1) (.int .i64 0) (.int .i64 0) (.slice none 0 0) (.slice none 0 0) (.slice none 0 0)))
            clear F3
            go_wp2_with fail
            refine bodyPost_ret (results_c1 (p := 4) (q := 5) (ty := 25) rfl _ _ (w.heap.size + 1 + 1) 25 _ (0, 0) _ _ rfl rfl O6.out.1 Tryz.underlying25 rfl (by kernel_rfl)) rfl ?_
            have z0 := HD.out.2.2.2.2
            have z1 := DY.out.size
            have he : unErr n m n' m' St Fi Ed St' Fi' Ed' = 8 := by rw [HU.out, if_neg (by simp [EM.out]), if_neg (by have := EN.out; omega), if_pos EL.out]
            exact ⟨Or.inl ⟨by rw [he]; decide, by rw [he]; rfl⟩, (HD.out.1.trans (DY.out.mono (by omega))).trans (O6.out.2.toBelow (by omega) (fun k hk => by omega))⟩
          · have el2 : ¬ (65536 : Int) < ((riseE Ed).length : Int) + ((riseE Ed').length : Int) := by omega
            have EL := hide el
            clear el
            go_upto_region 10 with fail
            clear bl1 bl2
            obtain ⟨y0, y1, y2, y3, y4⟩ := zd5 HL.out.bp rfl rfl rfl rfl rfl
            obtain ⟨z0, z1, z2, z3, z4⟩ := zd5 HL.out.bq rfl rfl rfl rfl rfl
            obtain ⟨C, hC⟩ := HL.out.lt
            have T68 := beside_any wy W0.heap.size C n n' m m' g1 k1 g2 k2 g3 k3 g4 k4 g5 k5 g6 k6 (riseL St) (riseL Fi) (riseL St') (riseL Fi') (riseE Ed) (riseE Ed') (hide HL.out.o1) (hide HL.out.o2) (hide hC) HL.out.d.size hb1 hb2 (hide fun x hx => by have := (may_st HM.out.2.2.1).1 x hx; omega) (hide fun x hx => by have := (may_st HM.out.2.2.1).2 x hx; omega) (hide fun e he => by have := (may_parts HM.out.2.2.1).2.2.2.2.2 e he; omega) (Nat.le_trans (riseL_len St) h1) (Nat.le_trans (riseL_len Fi) h2) (Nat.le_trans le1 h3) (Nat.le_trans (riseL_len St') h4) (Nat.le_trans (riseL_len Fi') h5) (Nat.le_trans le2 h6)
            obtain ⟨XS, hXS⟩ : ∃ X, riseL St ++ shL n (riseL St') = X := ⟨_, rfl⟩
            obtain ⟨XF, hXF⟩ : ∃ X, riseL Fi ++ shL n (riseL Fi') = X := ⟨_, rfl⟩
            obtain ⟨XE, hXE⟩ : ∃ X, riseE Ed ++ shEs n (riseE Ed') = X := ⟨_, rfl⟩
            rw [hXS, hXF, hXE] at T68
            have HX := hide (And.intro hXS (And.intro hXF hXE))
            clear hXS hXF hXE hC
            go_wp2_with (go_at_call 97; refine T68.mono ?_; rintro e wz ⟨r1, q1, r2, q2, r3, q3, rfl, hO, dz⟩; have HZ := hide (And.intro hO (HL.out.d.trans dz)); clear hO dz; have F3 := blk_on HD.out.2.2.2.1 HZ.out.2; obtain ⟨o0, o1, o2, o3, o4⟩ := zd5 F3 rfl rfl rfl rfl rfl; have f0 : wz.frozen? ⟨w.heap.size + 1 + 1, 0, none⟩ = false := fz_of F3; have f1 : wz.frozen? ⟨w.heap.size + 1 + 1, 1, none⟩ = false := fz_of F3; have f2 : wz.frozen? ⟨w.heap.size + 1 + 1, 2, none⟩ = false := fz_of F3; have f3 : wz.frozen? ⟨w.heap.size + 1 + 1, 3, none⟩ = false := fz_of F3; have f4 : wz.frozen? ⟨w.heap.size + 1 + 1, 4, none⟩ = false := fz_of F3; have O6 := hide (And.intro (set5 wz (w.heap.size + 1 + 1) _ _ _ _ _ (.int .i64 (n + n')) (.int .i64 m) (.slice (some ⟨r1, 0, none⟩) XS.length q1) (.slice (some ⟨r2, 0, none⟩) XF.length q2) (.slice (some ⟨r3, 0, none⟩) XE.length q3) 25 F3) (only5 wz (w.heap.size + 1 + 1) (.int .i64 (n + n')) (.int .i64 m) (.slice (some ⟨r1, 0, none⟩) XS.length q1) (.slice (some ⟨r2, 0, none⟩) XF.length q2) (.slice (some ⟨r3, 0, none⟩) XE.length q3))); clear F3)
            refine bodyPost_ret (results_c1 (p := 4) (q := 5) (ty := 25) rfl _ _ (w.heap.size + 1 + 1) 25 _ (0, 0) _ _ rfl rfl O6.out.1 Tryz.underlying25 rfl (by kernel_rfl)) rfl ?_
            have z0 := HD.out.2.2.2.2
            have z1 := HZ.out.2.size
            have q1 := own_at HZ.out.1.s
            have q2 := own_at HZ.out.1.f
            have q3 := own_at HZ.out.1.e
            have he : unErr n m n' m' St Fi Ed St' Fi' Ed' = 0 := by rw [HU.out, if_neg (by simp [EM.out]), if_neg (by have := EN.out; omega), if_neg EL.out]
            unfold UnP
            rw [HX.out.1, HX.out.2.1, HX.out.2.2]
            refine ⟨Or.inr ⟨he, r1, _, r2, _, r3, _, rfl, ⟨own_only (owns_down HZ.out.1.s (by omega)) O6.out.2 (by omega), own_only (owns_down HZ.out.1.f (by omega)) O6.out.2 (by omega), own_only (owns_down HZ.out.1.e (by omega)) O6.out.2 (by omega), HZ.out.1.n12, HZ.out.1.n13, HZ.out.1.n23⟩⟩, (HD.out.1.trans (HZ.out.2.mono (by omega))).trans (O6.out.2.toBelow (by omega) (fun k hk => by omega))⟩
     · have e0 : (m != m') = true := by simpa using em
       have EM := hide em
       clear em
       go_upto_region 4 with (first
        | (go_at_call_of 75 a1; refine (TV.out _ (Below.refl _ _)).mono ?_; rintro e wa ⟨rfl, D1⟩; obtain ⟨p0, p1, p2, p3, p4, q0, q1, q2, q3, q4, _⟩ := SK.out wa D1)
        | (go_at_call_of 75 b1; refine (TW.out _ D1).mono ?_; rintro e wb ⟨rfl, D2⟩; have DB := hide D2; obtain ⟨r0, r1, r2, r3, r4, t0, t1, t2, t3, t4, _⟩ := SK.out wb D2))
       have F3 := blk_on HD.out.2.2.2.1 DB.out
       obtain ⟨o0, o1, o2, o3, o4⟩ := zd5 F3 rfl rfl rfl rfl rfl
       have f0 : wb.frozen? ⟨w.heap.size + 1 + 1, 0, none⟩ = false := fz_of F3
       have f1 : wb.frozen? ⟨w.heap.size + 1 + 1, 1, none⟩ = false := fz_of F3
       have f2 : wb.frozen? ⟨w.heap.size + 1 + 1, 2, none⟩ = false := fz_of F3
       have f3 : wb.frozen? ⟨w.heap.size + 1 + 1, 3, none⟩ = false := fz_of F3
       have f4 : wb.frozen? ⟨w.heap.size + 1 + 1, 4, none⟩ = false := fz_of F3
       have O6 := hide (And.intro (set5 wb (w.heap.size + 1 + 1) _ _ _ _ _ (.int .i64 0) (.int .i64 0) (.slice none 0 0) (.slice none 0 0) (.slice none 0 0) 25 F3) (only5 wb (w.heap.size + 1 + 1) (.int .i64 0) (.int .i64 0) (.slice none 0 0) (.slice none 0 0) (.slice none 0 0)))
       clear F3
       go_wp2_with fail
       refine bodyPost_ret (results_c1 (p := 4) (q := 5) (ty := 25) rfl _ _ (w.heap.size + 1 + 1) 25 _ (0, 0) _ _ rfl rfl O6.out.1 Tryz.underlying25 rfl (by kernel_rfl)) rfl ?_
       have z0 := HD.out.2.2.2.2
       have z1 := DB.out.size
       have he : unErr n m n' m' St Fi Ed St' Fi' Ed' = 6 := by rw [HU.out, if_pos EM.out]
       exact ⟨Or.inl ⟨by rw [he]; decide, by rw [he]; rfl⟩, (HD.out.1.trans (DB.out.mono (by omega))).trans (O6.out.2.toBelow (by omega) (fun k hk => by omega))⟩
   · have eb : mayA n' m' St' Fi' Ed' = false := by simpa using eb
     have TV : Hid (∀ W, Below W0.heap.size W0 W → Calls Tryz.prog 75 #[.agg #[.int .i64 n, .int .i64 m, .slice a1 St.length xa1, .slice a2 Fi.length xa2, .slice a3 Ed.length xa3]] W fun e w' => e = .returned (.int .i64 0) ∧ Below W0.heap.size W0 w') := hide (fun W d => by have t := TV.out W d; rw [ea] at t; exact t)
     have TW : Hid (∀ W, Below W0.heap.size W0 W → Calls Tryz.prog 75 #[.agg #[.int .i64 n', .int .i64 m', .slice b1 St'.length xb1, .slice b2 Fi'.length xb2, .slice b3 Ed'.length xb3]] W fun e w' => e = .returned (.int .i64 2) ∧ Below W0.heap.size W0 w') := hide (fun W d => by have t := TW.out W d; rw [eb] at t; exact t)
     go_upto_region 2 with (first
      | (go_at_call_of 75 a1; refine (TV.out _ (Below.refl _ _)).mono ?_; rintro e wa ⟨rfl, D1⟩; obtain ⟨p0, p1, p2, p3, p4, q0, q1, q2, q3, q4, _⟩ := SK.out wa D1)
      | (go_at_call_of 75 b1; refine (TW.out _ D1).mono ?_; rintro e wb ⟨rfl, D2⟩; have DB := hide D2; obtain ⟨r0, r1, r2, r3, r4, t0, t1, t2, t3, t4, _⟩ := SK.out wb D2))
     have F3 := blk_on HD.out.2.2.2.1 DB.out
     obtain ⟨o0, o1, o2, o3, o4⟩ := zd5 F3 rfl rfl rfl rfl rfl
     have f0 : wb.frozen? ⟨w.heap.size + 1 + 1, 0, none⟩ = false := fz_of F3
     have f1 : wb.frozen? ⟨w.heap.size + 1 + 1, 1, none⟩ = false := fz_of F3
     have f2 : wb.frozen? ⟨w.heap.size + 1 + 1, 2, none⟩ = false := fz_of F3
     have f3 : wb.frozen? ⟨w.heap.size + 1 + 1, 3, none⟩ = false := fz_of F3
     have f4 : wb.frozen? ⟨w.heap.size + 1 + 1, 4, none⟩ = false := fz_of F3
     have O6 := hide (And.intro (set5 wb (w.heap.size + 1 + 1) _ _ _ _ _ (.int .i64 0) (.int .i64 0) (.slice none 0 0) (.slice none 0 0) (.slice none 0 0) 25 F3) (only5 wb (w.heap.size + 1 + 1) (.int .i64 0) (.int .i64 0) (.slice none 0 0) (.slice none 0 0) (.slice none 0 0)))
     clear F3
     go_wp2_with fail
     refine bodyPost_ret (results_c1 (p := 4) (q := 5) (ty := 25) rfl _ _ (w.heap.size + 1 + 1) 25 _ (0, 0) _ _ rfl rfl O6.out.1 Tryz.underlying25 rfl (by kernel_rfl)) rfl ?_
     have z0 := HD.out.2.2.2.2
     have z1 := DB.out.size
     have he : unErr n m n' m' St Fi Ed St' Fi' Ed' = 2 := by unfold unErr; rw [if_pos (Or.inr eb)]
     exact ⟨Or.inl ⟨by rw [he]; decide, by rw [he]; rfl⟩, (HD.out.1.trans (DB.out.mono (by omega))).trans (O6.out.2.toBelow (by omega) (fun k hk => by omega))⟩
 · have ea : mayA n m St Fi Ed = false := by simpa using ea
   have TV : Hid (∀ W, Below W0.heap.size W0 W → Calls Tryz.prog 75 #[.agg #[.int .i64 n, .int .i64 m, .slice a1 St.length xa1, .slice a2 Fi.length xa2, .slice a3 Ed.length xa3]] W fun e w' => e = .returned (.int .i64 2) ∧ Below W0.heap.size W0 w') := hide (fun W d => by have t := TV.out W d; rw [ea] at t; exact t)
   go_upto_region 2 with (go_at_call_of 75 a1; refine (TV.out _ (Below.refl _ _)).mono ?_; rintro e wa ⟨rfl, D1⟩; have DB := hide D1)
   have F3 := blk_on HD.out.2.2.2.1 DB.out
   obtain ⟨o0, o1, o2, o3, o4⟩ := zd5 F3 rfl rfl rfl rfl rfl
   have f0 : wa.frozen? ⟨w.heap.size + 1 + 1, 0, none⟩ = false := fz_of F3
   have f1 : wa.frozen? ⟨w.heap.size + 1 + 1, 1, none⟩ = false := fz_of F3
   have f2 : wa.frozen? ⟨w.heap.size + 1 + 1, 2, none⟩ = false := fz_of F3
   have f3 : wa.frozen? ⟨w.heap.size + 1 + 1, 3, none⟩ = false := fz_of F3
   have f4 : wa.frozen? ⟨w.heap.size + 1 + 1, 4, none⟩ = false := fz_of F3
   have O6 := hide (And.intro (set5 wa (w.heap.size + 1 + 1) _ _ _ _ _ (.int .i64 0) (.int .i64 0) (.slice none 0 0) (.slice none 0 0) (.slice none 0 0) 25 F3) (only5 wa (w.heap.size + 1 + 1) (.int .i64 0) (.int .i64 0) (.slice none 0 0) (.slice none 0 0) (.slice none 0 0)))
   clear F3
   go_wp2_with fail
   refine bodyPost_ret (results_c1 (p := 4) (q := 5) (ty := 25) rfl _ _ (w.heap.size + 1 + 1) 25 _ (0, 0) _ _ rfl rfl O6.out.1 Tryz.underlying25 rfl (by kernel_rfl)) rfl ?_
   have z0 := HD.out.2.2.2.2
   have z1 := DB.out.size
   have he : unErr n m n' m' St Fi Ed St' Fi' Ed' = 2 := by unfold unErr; rw [if_pos (Or.inl ea)]
   exact ⟨Or.inl ⟨by rw [he]; decide, by rw [he]; rfl⟩, (HD.out.1.trans (DB.out.mono (by omega))).trans (O6.out.2.toBelow (by omega) (fun k hk => by omega))⟩
end Go.Proofs.YtchoopnjckcohaaGreatDoor
namespace Go.Proofs.YtchoopnjckcohaaGreatDoor
open Go.RowKit Go.Maps Go.Shelf
structure Ans where
 n : Int
 m : Int
 s : List Int
 f : List Int
 e : List EdT
 er : Int
def badA (er : Int) : Ans := ⟨0, 0, [], [], [], er⟩
theorem Own.o {B : Nat} {w : World} {g1 k1 g2 k2 g3 k3 : Nat} {S F : List Int} {E : List EdT} (h : Own B w g1 k1 g2 k2 g3 k3 S F E) : OwnO B w (.slice (some ⟨g1, 0, none⟩) S.length k1) (.slice (some ⟨g2, 0, none⟩) F.length k2) (.slice (some ⟨g3, 0, none⟩) E.length k3) S F E :=
 ⟨h.s, h.f, h.e, fun g q q' => h.n12 (by simp only [Value.ownBlock, Option.some.injEq] at q q'; rw [q, q'])⟩
def AnsO (w : World) (r : Ans) (e : Ending) (w' : World) : Prop := ∃ b1 k1 b2 k2 b3 k3, e = .returned (.tuple #[.agg #[.int .i64 r.n, .int .i64 r.m, .slice b1 r.s.length k1, .slice b2 r.f.length k2, .slice b3 r.e.length k3], .int .i64 r.er]) ∧ Hid (OwnO w.heap.size w' (.slice b1 r.s.length k1) (.slice b2 r.f.length k2) (.slice b3 r.e.length k3) r.s r.f r.e) ∧ Below w.heap.size w w'
theorem ansO_bad {w w' : World} {er : Int} {e : Ending} (he : e = .returned (.tuple #[.agg #[.int .i64 0, .int .i64 0, .slice none 0 0, .slice none 0 0, .slice none 0 0], .int .i64 er])) (d : Below w.heap.size w w') : AnsO w (badA er) e w' :=
 ⟨none, 0, none, 0, none, 0, he, hide ⟨⟨rfl, .inl ⟨rfl, rfl⟩⟩, ⟨rfl, .inl ⟨rfl, rfl⟩⟩, ⟨rfl, .inl ⟨rfl, rfl⟩⟩, fun g q => by cases q⟩, d⟩
def revAns (n m : Int) (St Fi : List Int) (Ed : List EdT) : Ans := if mayA n m St Fi Ed = true then ⟨n, m, riseL Fi, riseL St, riseE (turnE Ed), 0⟩ else badA 2
def uniAns (n m n' m' : Int) (St Fi : List Int) (Ed : List EdT) (St' Fi' : List Int) (Ed' : List EdT) : Ans := if unErr n m n' m' St Fi Ed St' Fi' Ed' = 0 then ⟨n + n', m, riseL St ++ shL n (riseL St'), riseL Fi ++ shL n (riseL Fi'), riseE Ed ++ shEs n (riseE Ed'), 0⟩ else badA (unErr n m n' m' St Fi Ed St' Fi' Ed')
theorem reverse_ans (w : World) (n m : Int) (a1 a2 a3 : Option Addr) (c1 c2 c3 : Nat) (St Fi : List Int) (Ed : List EdT) (hA : Hid (RdA w a1 a2 a3 St Fi Ed)) (h1 : St.length ≤ 4194304) (h2 : Fi.length ≤ 4194304) (h3 : Ed.length ≤ 4194304) : Calls Tryz.prog 61 #[.agg #[.int .i64 n, .int .i64 m, .slice a1 St.length c1, .slice a2 Fi.length c2, .slice a3 Ed.length c3]] w (AnsO w (revAns n m St Fi Ed)) := by
 unfold revAns
 by_cases em : mayA n m St Fi Ed = true
 · rw [if_pos em]
   exact (reverse_ok w n m a1 a2 a3 c1 c2 c3 St Fi Ed hA h1 h2 h3 em).mono fun e w' ⟨g1, k1, g2, k2, g3, k3, he, ho, d⟩ => ⟨_, k1, _, k2, _, k3, he, hide ho.o, d⟩
 · rw [if_neg em]
   exact (reverse_bad w n m a1 a2 a3 c1 c2 c3 St Fi Ed hA h1 h2 h3 (by simpa using em)).mono fun e w' ⟨he, d⟩ => ansO_bad he d
theorem union_ans (w : World) (n m n' m' : Int) (a1 a2 a3 b1 b2 b3 : Option Addr) (c1 c2 c3 d1 d2 d3 : Nat) (St Fi : List Int) (Ed : List EdT) (St' Fi' : List Int) (Ed' : List EdT) (hA : Hid (RdA w a1 a2 a3 St Fi Ed)) (hB : Hid (RdA w b1 b2 b3 St' Fi' Ed')) (h1 : St.length ≤ 4194304) (h2 : Fi.length ≤ 4194304) (h3 : Ed.length ≤ 4194304) (h4 : St'.length ≤ 4194304) (h5 : Fi'.length ≤ 4194304) (h6 : Ed'.length ≤ 4194304) : Calls Tryz.prog 59 #[.agg #[.int .i64 n, .int .i64 m, .slice a1 St.length c1, .slice a2 Fi.length c2, .slice a3 Ed.length c3], .agg #[.int .i64 n', .int .i64 m', .slice b1 St'.length d1, .slice b2 Fi'.length d2, .slice b3 Ed'.length d3]] w (AnsO w (uniAns n m n' m' St Fi Ed St' Fi' Ed')) := by
 refine (union_any w n m n' m' a1 a2 a3 b1 b2 b3 c1 c2 c3 d1 d2 d3 St Fi Ed St' Fi' Ed' hA hB h1 h2 h3 h4 h5 h6).mono fun e w' h => ?_
 unfold uniAns
 rcases h with ⟨⟨h0, he⟩ | ⟨h0, g1, k1, g2, k2, g3, k3, he, ho⟩, d⟩
 · rw [if_neg h0]
   exact ansO_bad he d
 · rw [if_pos h0]
   exact ⟨_, k1, _, k2, _, k3, he, hide ho.o, d⟩
end Go.Proofs.YtchoopnjckcohaaGreatDoor
