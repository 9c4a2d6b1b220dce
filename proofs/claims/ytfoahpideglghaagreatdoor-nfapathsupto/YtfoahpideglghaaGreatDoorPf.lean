import Derived.Test.YtfoahpideglghaaGreatDoorPn
import Derived.Test.YtfoahpideglghaaGreatDoorWs
import Derived.Test.YtfoahpideglghaaGreatDoorIb
import Derived.Test.YtfoahpideglghaaGreatDoorIo
namespace Go.Proofs.YtfoahpideglghaaGreatDoor
open Go.RowKit Go.Maps Go.Shelf
attribute [local go_sem] Oper.semAt_some

set_option maxRecDepth 100000 in
set_option maxHeartbeats 4000000 in
theorem paths_bad (w : World) (n m nb mb sym kk : Int) (a1 a2 a3 b1 b2 b3 q1 p1 u1 o1 : Option Addr) (c1 c2 c3 l1 d1 l2 d2 l3 d3 lq cq cp cw lo co : Nat) (St Fi Ss Wd : List Int) (Ed : List EdT) (hT : Hid (TabAt w ∧ 0 < w.heap.size)) (hA : Hid (RdA w a1 a2 a3 St Fi Ed)) (hP : Hid (RdN w p1 Ss)) (hU : Hid (RdN w u1 Wd)) (h1 : St.length ≤ 1048576) (h2 : Fi.length ≤ 1048576) (h3 : Ed.length ≤ 1048576) (h4 : Ss.length ≤ 1048576) (h5 : Wd.length ≤ 1048576) (hbad : wordErr n m St Fi Ed Wd ≠ 0) :
    Calls Tryz.prog 3 #[.agg #[.int .i64 n, .int .i64 m, .slice a1 St.length c1, .slice a2 Fi.length c2, .slice a3 Ed.length c3, .int .i64 nb, .int .i64 mb, .slice b1 l1 d1, .slice b2 l2 d2, .slice b3 l3 d3, .slice q1 lq cq, .slice p1 Ss.length cp, .int .i64 sym, .slice u1 Wd.length cw, .int .i64 kk, .slice o1 lo co]] w fun e w' => e = .returned (.bool true) ∧ Below w.heap.size w w' := by
  obtain ⟨W0, hW0⟩ : ∃ W0, w.alloc (.cells #[.int .i64 n, .int .i64 m, .slice a1 St.length c1, .slice a2 Fi.length c2, .slice a3 Ed.length c3, .int .i64 nb, .int .i64 mb, .slice b1 l1 d1, .slice b2 l2 d2, .slice b3 l3 d3, .slice q1 lq cq, .slice p1 Ss.length cp, .int .i64 sym, .slice u1 Wd.length cw, .int .i64 kk, .slice o1 lo co] 27) = W0 := ⟨_, rfl⟩
  have D0 : Hid (Below w.heap.size w W0) := hide (by rw [← hW0]; exact alloc_below _ _)
  have B0 : Hid (W0.heap[w.heap.size]? = some (.cells #[.int .i64 n, .int .i64 m, .slice a1 St.length c1, .slice a2 Fi.length c2, .slice a3 Ed.length c3, .int .i64 nb, .int .i64 mb, .slice b1 l1 d1, .slice b2 l2 d2, .slice b3 l3 d3, .slice q1 lq cq, .slice p1 Ss.length cp, .int .i64 sym, .slice u1 Wd.length cw, .int .i64 kk, .slice o1 lo co] 27 (0, 0))) := hide (by rw [← hW0]; exact World.alloc_heap_new _ _)
  have SK : Hid (∀ W, Below W0.heap.size W0 W → (fun W => (W.cell? ⟨w.heap.size, 0, none⟩ = some (.int .i64 n) ∧ W.cell? ⟨w.heap.size, 1, none⟩ = some (.int .i64 m) ∧ W.cell? ⟨w.heap.size, 2, none⟩ = some (.slice a1 St.length c1) ∧ W.cell? ⟨w.heap.size, 3, none⟩ = some (.slice a2 Fi.length c2) ∧ W.cell? ⟨w.heap.size, 4, none⟩ = some (.slice a3 Ed.length c3) ∧ W.cell? ⟨w.heap.size, 11, none⟩ = some (.slice p1 Ss.length cp) ∧ W.cell? ⟨w.heap.size, 13, none⟩ = some (.slice u1 Wd.length cw) ∧ Hid (Below W0.heap.size W0 W))) W) := hide (fun W d => by
    have e := blk_on B0.out d
    exact ⟨cell_of e rfl, cell_of e rfl, cell_of e rfl, cell_of e rfl, cell_of e rfl, cell_of e rfl, cell_of e rfl, hide d⟩)
  have SD : Hid (∀ W, (fun W => (W.cell? ⟨w.heap.size, 0, none⟩ = some (.int .i64 n) ∧ W.cell? ⟨w.heap.size, 1, none⟩ = some (.int .i64 m) ∧ W.cell? ⟨w.heap.size, 2, none⟩ = some (.slice a1 St.length c1) ∧ W.cell? ⟨w.heap.size, 3, none⟩ = some (.slice a2 Fi.length c2) ∧ W.cell? ⟨w.heap.size, 4, none⟩ = some (.slice a3 Ed.length c3) ∧ W.cell? ⟨w.heap.size, 11, none⟩ = some (.slice p1 Ss.length cp) ∧ W.cell? ⟨w.heap.size, 13, none⟩ = some (.slice u1 Wd.length cw) ∧ Hid (Below W0.heap.size W0 W))) W → Below W0.heap.size W0 W) := hide (fun W h => h.2.2.2.2.2.2.2.out)
  have T10 : Hid (∀ W, Below W0.heap.size W0 W → Calls Tryz.prog 10 #[.agg #[.int .i64 n, .int .i64 m, .slice a1 St.length c1, .slice a2 Fi.length c2, .slice a3 Ed.length c3]] W fun e w' => ∃ g1 k1 g2 k2 g3 k3, e = .returned (.agg #[.int .i64 n, .int .i64 m, .slice (some ⟨g1, 0, none⟩) St.length k1, .slice (some ⟨g2, 0, none⟩) Fi.length k2, .slice (some ⟨g3, 0, none⟩) Ed.length k3]) ∧ Hid (RdA w' (some ⟨g1, 0, none⟩) (some ⟨g2, 0, none⟩) (some ⟨g3, 0, none⟩) St Fi Ed) ∧ Below W0.heap.size W0 w' ∧ Below W.heap.size W w') := hide (fun W d => by
    refine (twin_any W n m a1 a2 a3 c1 c2 c3 St Fi Ed (hide (hA.out.on (D0.out.trans (d.mono D0.out.size)))) (by omega) (by omega) (by omega)).mono ?_
    rintro e w' ⟨g1, k1, g2, k2, g3, k3, he, ht, dd⟩
    exact ⟨g1, k1, g2, k2, g3, k3, he, hide ht.out.rd, d.trans (dd.mono d.size), dd⟩)
  have T11p : Hid (∀ W, Below W0.heap.size W0 W → Calls Tryz.prog 11 #[.slice p1 Ss.length cp] W fun e w' => ∃ g c, e = .returned (.slice (some ⟨g, 0, none⟩) Ss.length c) ∧ Hid (RdN w' (some ⟨g, 0, none⟩) Ss) ∧ Below W0.heap.size W0 w' ∧ Below W.heap.size W w') := hide (fun W d => by
    refine (ints_any W p1 Ss cp (hide (hP.out.on (D0.out.trans (d.mono D0.out.size)))) (by omega)).mono ?_
    rintro e w' ⟨g, c, he, hm, dd⟩
    exact ⟨g, c, he, hide hm.out.rd, d.trans (dd.mono d.size), dd⟩)
  have T11u : Hid (∀ W, Below W0.heap.size W0 W → Calls Tryz.prog 11 #[.slice u1 Wd.length cw] W fun e w' => ∃ g c, e = .returned (.slice (some ⟨g, 0, none⟩) Wd.length c) ∧ Hid (RdN w' (some ⟨g, 0, none⟩) Wd) ∧ Below W0.heap.size W0 w' ∧ Below W.heap.size W w') := hide (fun W d => by
    refine (ints_any W u1 Wd cw (hide (hU.out.on (D0.out.trans (d.mono D0.out.size)))) (by omega)).mono ?_
    rintro e w' ⟨g, c, he, hm, dd⟩
    exact ⟨g, c, he, hide hm.out.rd, d.trans (dd.mono d.size), dd⟩)
  have TA : Hid (∀ W, Below W0.heap.size W0 W → TabAt W ∧ 0 < W.heap.size) := hide (fun W d => by
    have d2 := D0.out.trans (d.mono D0.out.size)
    exact ⟨hT.out.1.below d2 hT.out.2, Nat.lt_of_lt_of_le hT.out.2 d2.size⟩)
  have T8 : Calls Tryz.prog 8 #[] W0 fun e w' => e = .returned (.bool true) ∧ Below W0.heap.size W0 w' := works_any W0 (hide (TA.out W0 (Below.refl _ _)))
  obtain ⟨r, hr⟩ : ∃ r, wordErr n m St Fi Ed Wd = r := ⟨_, rfl⟩
  have TC : Hid (∀ (W : World) (g1 k1 g2 k2 g3 k3 gq kq : Nat), Below W0.heap.size W0 W → RdA W (some ⟨g1, 0, none⟩) (some ⟨g2, 0, none⟩) (some ⟨g3, 0, none⟩) St Fi Ed → RdN W (some ⟨gq, 0, none⟩) Wd → Calls Tryz.prog 9 #[.agg #[.int .i64 n, .int .i64 m, .slice (some ⟨g1, 0, none⟩) St.length k1, .slice (some ⟨g2, 0, none⟩) Fi.length k2, .slice (some ⟨g3, 0, none⟩) Ed.length k3], .slice (some ⟨gq, 0, none⟩) Wd.length kq] W fun e w' => e = .returned (.tuple #[.bool false, .int .i64 r]) ∧ Below W0.heap.size W0 w') := hide (fun W g1 k1 g2 k2 g3 k3 gq kq d hA hQ => by
    have t := Accepts_bad W n m (some ⟨g1, 0, none⟩) (some ⟨g2, 0, none⟩) (some ⟨g3, 0, none⟩) (some ⟨gq, 0, none⟩) k1 k2 k3 kq St Fi Ed Wd (hide hA) (hide hQ) (by omega) (by omega) (by omega) (by omega) hbad
    rw [hr] at t
    exact t.mono fun e w' ⟨h, dd⟩ => ⟨h, d.trans (dd.mono d.size)⟩)
  have TH : Hid (∀ (W : World) (g1 k1 g2 k2 g3 k3 gq kq : Nat), Below W0.heap.size W0 W → RdA W (some ⟨g1, 0, none⟩) (some ⟨g2, 0, none⟩) (some ⟨g3, 0, none⟩) St Fi Ed → RdN W (some ⟨gq, 0, none⟩) Wd → Calls Tryz.prog 12 #[.agg #[.int .i64 n, .int .i64 m, .slice (some ⟨g1, 0, none⟩) St.length k1, .slice (some ⟨g2, 0, none⟩) Fi.length k2, .slice (some ⟨g3, 0, none⟩) Ed.length k3], .slice (some ⟨gq, 0, none⟩) Wd.length kq] W fun e w' => e = .returned (.tuple #[.slice none 0 0, .int .i64 r]) ∧ Below W0.heap.size W0 w') := hide (fun W g1 k1 g2 k2 g3 k3 gq kq d hA hQ => by
    have t := Path_bad W n m (some ⟨g1, 0, none⟩) (some ⟨g2, 0, none⟩) (some ⟨g3, 0, none⟩) (some ⟨gq, 0, none⟩) k1 k2 k3 kq St Fi Ed Wd (hide hA) (hide hQ) (by omega) (by omega) (by omega) (by omega) hbad
    rw [hr] at t
    exact t.mono fun e w' ⟨h, dd⟩ => ⟨h, d.trans (dd.mono d.size)⟩)
  have TR : Hid (∀ (W : World) (g1 k1 g2 k2 g3 k3 gp kp gq kq : Nat), Below W0.heap.size W0 W → RdA W (some ⟨g1, 0, none⟩) (some ⟨g2, 0, none⟩) (some ⟨g3, 0, none⟩) St Fi Ed → RdN W (some ⟨gq, 0, none⟩) Wd → Calls Tryz.prog 13 #[.agg #[.int .i64 n, .int .i64 m, .slice (some ⟨g1, 0, none⟩) St.length k1, .slice (some ⟨g2, 0, none⟩) Fi.length k2, .slice (some ⟨g3, 0, none⟩) Ed.length k3], .slice (some ⟨gp, 0, none⟩) Ss.length kp, .slice (some ⟨gq, 0, none⟩) Wd.length kq] W fun e w' => e = .returned (.tuple #[.bool false, .int .i64 r]) ∧ Below W0.heap.size W0 w') := hide (fun W g1 k1 g2 k2 g3 k3 gp kp gq kq d hA hQ => by
    have t := Runs_bad W n m (some ⟨g1, 0, none⟩) (some ⟨g2, 0, none⟩) (some ⟨g3, 0, none⟩) (some ⟨gp, 0, none⟩) (some ⟨gq, 0, none⟩) k1 k2 k3 kp kq Ss.length St Fi Ed Wd (hide hA) (hide hQ) (by omega) (by omega) (by omega) (by omega) hbad
    rw [hr] at t
    exact t.mono fun e w' ⟨h, dd⟩ => ⟨h, d.trans (dd.mono d.size)⟩)
  have hr0 : r ≠ 0 := by rw [← hr]; exact hbad
  have hr1 : (r != 0) = true := by simpa using hr0
  have hr2 : (r == r) = true := by simp
  clear hr hbad
  go_enter Tryz.func3, Tryz.ntmps3
  go_upto_region 3 with (go_at_call 8; refine T8.mono ?_; rintro e w1 ⟨rfl, d1⟩)
  have D1 := hide d1
  clear T8 d1
  go_cut [3, 4] from 3 to 28 (fun pv ev W => pv = .bool false ∧ ev = .int .i64 r ∧ Hid (Below W0.heap.size W0 W))
  case first =>
    have S0 := SK.out w1.drew D1.out.drew
    go_region_held3 (fun W => (W.cell? ⟨w.heap.size, 0, none⟩ = some (.int .i64 n) ∧ W.cell? ⟨w.heap.size, 1, none⟩ = some (.int .i64 m) ∧ W.cell? ⟨w.heap.size, 2, none⟩ = some (.slice a1 St.length c1) ∧ W.cell? ⟨w.heap.size, 3, none⟩ = some (.slice a2 Fi.length c2) ∧ W.cell? ⟨w.heap.size, 4, none⟩ = some (.slice a3 Ed.length c3) ∧ W.cell? ⟨w.heap.size, 11, none⟩ = some (.slice p1 Ss.length cp) ∧ W.cell? ⟨w.heap.size, 13, none⟩ = some (.slice u1 Wd.length cw) ∧ Hid (Below W0.heap.size W0 W)))
      (with_reducible assumption)
      ((first
        | (go_at_call 10; refine (T10.out _ (SD.out _ (by with_reducible assumption))).mono ?_; rintro e wa ⟨g1, k1, g2, k2, g3, k3, rfl, hA1, Da, da⟩; have Sa := SK.out wa Da)
        | (go_at_call 11; refine (T11u.out _ (SD.out _ (by with_reducible assumption))).mono ?_; rintro e wb ⟨gq, kq, rfl, hQ1, Db, db⟩; have Sb := SK.out wb Db; have hA2 := hide (hA1.out.on db))
        | (go_at_call 9; refine (TC.out _ _ _ _ _ _ _ _ _ (SD.out _ (by with_reducible assumption)) hA2.out hQ1.out).mono ?_; rintro e wc ⟨rfl, Dc⟩; have Sc := SK.out wc Dc)))
    all_goals (
      go_wp2_with fail
      go_meet
      exact ⟨rfl, rfl, hide Dc⟩)
  case rest =>
    obtain ⟨rfl, rfl, HB⟩ := hcut
    rename World => wx
    clear D1 w1
    go_upto_region 4 with fail
    go_cut [5, 6] from 5 to 38 (fun pv ev W => pv = .slice none 0 0 ∧ ev = .int .i64 r ∧ Hid (Below W0.heap.size W0 W))
    case first =>
      have S0 := SK.out wx.drew HB.out.drew
      go_region_held3 (fun W => (W.cell? ⟨w.heap.size, 0, none⟩ = some (.int .i64 n) ∧ W.cell? ⟨w.heap.size, 1, none⟩ = some (.int .i64 m) ∧ W.cell? ⟨w.heap.size, 2, none⟩ = some (.slice a1 St.length c1) ∧ W.cell? ⟨w.heap.size, 3, none⟩ = some (.slice a2 Fi.length c2) ∧ W.cell? ⟨w.heap.size, 4, none⟩ = some (.slice a3 Ed.length c3) ∧ W.cell? ⟨w.heap.size, 11, none⟩ = some (.slice p1 Ss.length cp) ∧ W.cell? ⟨w.heap.size, 13, none⟩ = some (.slice u1 Wd.length cw) ∧ Hid (Below W0.heap.size W0 W)))
        (with_reducible assumption)
        ((first
          | (go_at_call 10; refine (T10.out _ (SD.out _ (by with_reducible assumption))).mono ?_; rintro e wa ⟨g1, k1, g2, k2, g3, k3, rfl, hA1, Da, da⟩; have Sa := SK.out wa Da)
          | (go_at_call 11; refine (T11u.out _ (SD.out _ (by with_reducible assumption))).mono ?_; rintro e wb ⟨gq, kq, rfl, hQ1, Db, db⟩; have Sb := SK.out wb Db; have hA2 := hide (hA1.out.on db))
          | (go_at_call 12; refine (TH.out _ _ _ _ _ _ _ _ _ (SD.out _ (by with_reducible assumption)) hA2.out hQ1.out).mono ?_; rintro e wc ⟨rfl, Dc⟩; have Sc := SK.out wc Dc)))
      all_goals (
        go_wp2_with fail
        go_meet
        exact ⟨rfl, rfl, hide Dc⟩)
    case rest =>
      obtain ⟨rfl, rfl, HC⟩ := hcut
      rename World => wy
      clear HB
      go_upto_region 5 with fail
      go_cut [7, 8] from 7 to 51 (fun pv ev W => pv = .bool false ∧ ev = .int .i64 r ∧ Hid (Below W0.heap.size W0 W))
      case first =>
        have S0 := SK.out wy.drew HC.out.drew
        go_region_held3 (fun W => (W.cell? ⟨w.heap.size, 0, none⟩ = some (.int .i64 n) ∧ W.cell? ⟨w.heap.size, 1, none⟩ = some (.int .i64 m) ∧ W.cell? ⟨w.heap.size, 2, none⟩ = some (.slice a1 St.length c1) ∧ W.cell? ⟨w.heap.size, 3, none⟩ = some (.slice a2 Fi.length c2) ∧ W.cell? ⟨w.heap.size, 4, none⟩ = some (.slice a3 Ed.length c3) ∧ W.cell? ⟨w.heap.size, 11, none⟩ = some (.slice p1 Ss.length cp) ∧ W.cell? ⟨w.heap.size, 13, none⟩ = some (.slice u1 Wd.length cw) ∧ Hid (Below W0.heap.size W0 W)))
          (with_reducible assumption)
          ((first
            | (go_at_call 10; refine (T10.out _ (SD.out _ (by with_reducible assumption))).mono ?_; rintro e wa ⟨g1, k1, g2, k2, g3, k3, rfl, hA1, Da, da⟩; have Sa := SK.out wa Da)
            | (go_at_call_of 11 p1; refine (T11p.out _ (SD.out _ (by with_reducible assumption))).mono ?_; rintro e wp ⟨gp, kp, rfl, hP1, Dp, dp⟩; have Sp := SK.out wp Dp; have hAp := hide (hA1.out.on dp))
            | (go_at_call_of 11 u1; refine (T11u.out _ (SD.out _ (by with_reducible assumption))).mono ?_; rintro e wb ⟨gq, kq, rfl, hQ1, Db, db⟩; have Sb := SK.out wb Db; have hA2 := hide (hAp.out.on db); have hP2 := hide (hP1.out.on db))
            | (go_at_call 13; refine (TR.out _ _ _ _ _ _ _ _ _ _ _ (SD.out _ (by with_reducible assumption)) hA2.out hQ1.out).mono ?_; rintro e wc ⟨rfl, Dc⟩; have Sc := SK.out wc Dc)))
        all_goals (
          go_wp2_with fail
          go_meet
          exact ⟨rfl, rfl, hide Dc⟩)
      case rest =>
        obtain ⟨rfl, rfl, HE⟩ := hcut
        go_wp2
        refine bodyPost_ret (results_tmp rfl _ _ _) rfl ?_
        exact ⟨rfl, D0.out.trans (HE.out.mono D0.out.size)⟩
end Go.Proofs.YtfoahpideglghaaGreatDoor
namespace Go.Proofs.YtfoahpideglghaaGreatDoor
open Go.RowKit Go.Maps Go.Shelf
attribute [local go_sem] Oper.semAt_some

set_option maxRecDepth 100000 in
set_option maxHeartbeats 4000000 in
theorem paths_none (w : World) (N : Nat) (m nb mb sym kk : Int) (a1 a2 a3 b1 b2 b3 q1 p1 u1 o1 : Option Addr) (c1 c2 c3 l1 d1 l2 d2 l3 d3 lq cq cp cw lo co : Nat) (St Fi Ss Wd : List Int) (Ed : List EdT) (hT : Hid (TabAt w ∧ 0 < w.heap.size)) (hA : Hid (RdA w a1 a2 a3 St Fi Ed)) (hP : Hid (RdN w p1 Ss)) (hU : Hid (RdN w u1 Wd)) (h1 : St.length ≤ 1048576) (h2 : Fi.length ≤ 1048576) (h3 : Ed.length ≤ 1048576) (h4 : Ss.length ≤ 1048576) (h5 : Wd.length ≤ 1048576) (hok : wordErr N m St Fi Ed Wd = 0) (hz : setI N St &&& restF Ed (setI N Fi) Wd 0 = 0) :
    Calls Tryz.prog 3 #[.agg #[.int .i64 (N : Int), .int .i64 m, .slice a1 St.length c1, .slice a2 Fi.length c2, .slice a3 Ed.length c3, .int .i64 nb, .int .i64 mb, .slice b1 l1 d1, .slice b2 l2 d2, .slice b3 l3 d3, .slice q1 lq cq, .slice p1 Ss.length cp, .int .i64 sym, .slice u1 Wd.length cw, .int .i64 kk, .slice o1 lo co]] w fun e w' => e = .returned (.bool true) ∧ Below w.heap.size w w' := by
  have HE := hide (wordErr_zero hok)
  have HIN := hide (may_in HE.out.1)
  have hSt : Hid (∀ x ∈ St, 0 ≤ x ∧ x < (N : Int)) := hide (fun x hx => inB_iff.1 (List.all_eq_true.1 (may_parts HE.out.1).2.2.2.1 x hx))
  have hFi : Hid (∀ x ∈ Fi, 0 ≤ x ∧ x < (N : Int)) := hide (fun x hx => inB_iff.1 (List.all_eq_true.1 (may_parts HE.out.1).2.2.2.2.1 x hx))
  have HY : Hid ((!decide (wordF Ed (setI N St) Wd &&& setI N Fi = 0)) = false) := hide (by rw [decide_eq_true ((taken_iff HIN.out _ _ Wd).2 hz)]; rfl)
  obtain ⟨rr, hrr⟩ : ∃ rr, rr = false := ⟨_, rfl⟩
  have HRR : Hid (rr = true ↔ IsP St Fi Ed Ss Wd) := hide ⟨fun h => (by rw [hrr] at h; cases h), fun h => by
    have q := isP_zero HIN.out hSt.out hFi.out h (by have := h.1; omega)
    rw [hz] at q
    simp at q⟩
  subst hrr
  obtain ⟨W0, hW0⟩ : ∃ W0, w.alloc (.cells #[.int .i64 (N : Int), .int .i64 m, .slice a1 St.length c1, .slice a2 Fi.length c2, .slice a3 Ed.length c3, .int .i64 nb, .int .i64 mb, .slice b1 l1 d1, .slice b2 l2 d2, .slice b3 l3 d3, .slice q1 lq cq, .slice p1 Ss.length cp, .int .i64 sym, .slice u1 Wd.length cw, .int .i64 kk, .slice o1 lo co] 27) = W0 := ⟨_, rfl⟩
  have D0 : Hid (Below w.heap.size w W0) := hide (by rw [← hW0]; exact alloc_below _ _)
  have B0 : Hid (W0.heap[w.heap.size]? = some (.cells #[.int .i64 (N : Int), .int .i64 m, .slice a1 St.length c1, .slice a2 Fi.length c2, .slice a3 Ed.length c3, .int .i64 nb, .int .i64 mb, .slice b1 l1 d1, .slice b2 l2 d2, .slice b3 l3 d3, .slice q1 lq cq, .slice p1 Ss.length cp, .int .i64 sym, .slice u1 Wd.length cw, .int .i64 kk, .slice o1 lo co] 27 (0, 0))) := hide (by rw [← hW0]; exact World.alloc_heap_new _ _)
  have SK : Hid (∀ W, Below W0.heap.size W0 W → (fun W => (W.cell? ⟨w.heap.size, 0, none⟩ = some (.int .i64 (N : Int)) ∧ W.cell? ⟨w.heap.size, 1, none⟩ = some (.int .i64 m) ∧ W.cell? ⟨w.heap.size, 2, none⟩ = some (.slice a1 St.length c1) ∧ W.cell? ⟨w.heap.size, 3, none⟩ = some (.slice a2 Fi.length c2) ∧ W.cell? ⟨w.heap.size, 4, none⟩ = some (.slice a3 Ed.length c3) ∧ W.cell? ⟨w.heap.size, 11, none⟩ = some (.slice p1 Ss.length cp) ∧ W.cell? ⟨w.heap.size, 13, none⟩ = some (.slice u1 Wd.length cw) ∧ Hid (Below W0.heap.size W0 W))) W) := hide (fun W d => by
    have e := blk_on B0.out d
    exact ⟨cell_of e rfl, cell_of e rfl, cell_of e rfl, cell_of e rfl, cell_of e rfl, cell_of e rfl, cell_of e rfl, hide d⟩)
  have SD : Hid (∀ W, (fun W => (W.cell? ⟨w.heap.size, 0, none⟩ = some (.int .i64 (N : Int)) ∧ W.cell? ⟨w.heap.size, 1, none⟩ = some (.int .i64 m) ∧ W.cell? ⟨w.heap.size, 2, none⟩ = some (.slice a1 St.length c1) ∧ W.cell? ⟨w.heap.size, 3, none⟩ = some (.slice a2 Fi.length c2) ∧ W.cell? ⟨w.heap.size, 4, none⟩ = some (.slice a3 Ed.length c3) ∧ W.cell? ⟨w.heap.size, 11, none⟩ = some (.slice p1 Ss.length cp) ∧ W.cell? ⟨w.heap.size, 13, none⟩ = some (.slice u1 Wd.length cw) ∧ Hid (Below W0.heap.size W0 W))) W → Below W0.heap.size W0 W) := hide (fun W h => h.2.2.2.2.2.2.2.out)
  have T10 : Hid (∀ W, Below W0.heap.size W0 W → Calls Tryz.prog 10 #[.agg #[.int .i64 (N : Int), .int .i64 m, .slice a1 St.length c1, .slice a2 Fi.length c2, .slice a3 Ed.length c3]] W fun e w' => ∃ g1 k1 g2 k2 g3 k3, e = .returned (.agg #[.int .i64 (N : Int), .int .i64 m, .slice (some ⟨g1, 0, none⟩) St.length k1, .slice (some ⟨g2, 0, none⟩) Fi.length k2, .slice (some ⟨g3, 0, none⟩) Ed.length k3]) ∧ Hid (RdA w' (some ⟨g1, 0, none⟩) (some ⟨g2, 0, none⟩) (some ⟨g3, 0, none⟩) St Fi Ed) ∧ Below W0.heap.size W0 w' ∧ Below W.heap.size W w') := hide (fun W d => by
    refine (twin_any W N m a1 a2 a3 c1 c2 c3 St Fi Ed (hide (hA.out.on (D0.out.trans (d.mono D0.out.size)))) (by omega) (by omega) (by omega)).mono ?_
    rintro e w' ⟨g1, k1, g2, k2, g3, k3, he, ht, dd⟩
    exact ⟨g1, k1, g2, k2, g3, k3, he, hide ht.out.rd, d.trans (dd.mono d.size), dd⟩)
  have T11p : Hid (∀ W, Below W0.heap.size W0 W → Calls Tryz.prog 11 #[.slice p1 Ss.length cp] W fun e w' => ∃ g c, e = .returned (.slice (some ⟨g, 0, none⟩) Ss.length c) ∧ Hid (RdN w' (some ⟨g, 0, none⟩) Ss) ∧ Below W0.heap.size W0 w' ∧ Below W.heap.size W w') := hide (fun W d => by
    refine (ints_any W p1 Ss cp (hide (hP.out.on (D0.out.trans (d.mono D0.out.size)))) (by omega)).mono ?_
    rintro e w' ⟨g, c, he, hm, dd⟩
    exact ⟨g, c, he, hide hm.out.rd, d.trans (dd.mono d.size), dd⟩)
  have T11u : Hid (∀ W, Below W0.heap.size W0 W → Calls Tryz.prog 11 #[.slice u1 Wd.length cw] W fun e w' => ∃ g c, e = .returned (.slice (some ⟨g, 0, none⟩) Wd.length c) ∧ Hid (RdN w' (some ⟨g, 0, none⟩) Wd) ∧ Below W0.heap.size W0 w' ∧ Below W.heap.size W w') := hide (fun W d => by
    refine (ints_any W u1 Wd cw (hide (hU.out.on (D0.out.trans (d.mono D0.out.size)))) (by omega)).mono ?_
    rintro e w' ⟨g, c, he, hm, dd⟩
    exact ⟨g, c, he, hide hm.out.rd, d.trans (dd.mono d.size), dd⟩)
  have TA : Hid (∀ W, Below W0.heap.size W0 W → TabAt W ∧ 0 < W.heap.size) := hide (fun W d => by
    have d2 := D0.out.trans (d.mono D0.out.size)
    exact ⟨hT.out.1.below d2 hT.out.2, Nat.lt_of_lt_of_le hT.out.2 d2.size⟩)
  have T8 : Calls Tryz.prog 8 #[] W0 fun e w' => e = .returned (.bool true) ∧ Below W0.heap.size W0 w' := works_any W0 (hide (TA.out W0 (Below.refl _ _)))
  have TC : Hid (∀ (W : World) (g1 k1 g2 k2 g3 k3 gq kq : Nat), Below W0.heap.size W0 W → RdA W (some ⟨g1, 0, none⟩) (some ⟨g2, 0, none⟩) (some ⟨g3, 0, none⟩) St Fi Ed → RdN W (some ⟨gq, 0, none⟩) Wd → Calls Tryz.prog 9 #[.agg #[.int .i64 (N : Int), .int .i64 m, .slice (some ⟨g1, 0, none⟩) St.length k1, .slice (some ⟨g2, 0, none⟩) Fi.length k2, .slice (some ⟨g3, 0, none⟩) Ed.length k3], .slice (some ⟨gq, 0, none⟩) Wd.length kq] W fun e w' => e = .returned (.tuple #[.bool false, .int .i64 0]) ∧ Below W0.heap.size W0 w') := hide (fun W g1 k1 g2 k2 g3 k3 gq kq d hA hQ => by
    have t := Accepts_ok W N m (some ⟨g1, 0, none⟩) (some ⟨g2, 0, none⟩) (some ⟨g3, 0, none⟩) (some ⟨gq, 0, none⟩) k1 k2 k3 kq St Fi Ed Wd (hide hA) (hide hQ) (hide (TA.out W d)) (by omega) (by omega) (by omega) (by omega) hok
    rw [HY.out] at t
    exact t.mono fun e w' ⟨h, dd⟩ => ⟨h, d.trans (dd.mono d.size)⟩)
  have TH : Hid (∀ (W : World) (g1 k1 g2 k2 g3 k3 gq kq : Nat), Below W0.heap.size W0 W → RdA W (some ⟨g1, 0, none⟩) (some ⟨g2, 0, none⟩) (some ⟨g3, 0, none⟩) St Fi Ed → RdN W (some ⟨gq, 0, none⟩) Wd → Calls Tryz.prog 12 #[.agg #[.int .i64 (N : Int), .int .i64 m, .slice (some ⟨g1, 0, none⟩) St.length k1, .slice (some ⟨g2, 0, none⟩) Fi.length k2, .slice (some ⟨g3, 0, none⟩) Ed.length k3], .slice (some ⟨gq, 0, none⟩) Wd.length kq] W fun e w' => e = .returned (.tuple #[.slice none 0 0, .int .i64 60]) ∧ Below W0.heap.size W0 w') := hide (fun W g1 k1 g2 k2 g3 k3 gq kq d hA hQ => by
    have t := Path_none W N m (some ⟨g1, 0, none⟩) (some ⟨g2, 0, none⟩) (some ⟨g3, 0, none⟩) (some ⟨gq, 0, none⟩) k1 k2 k3 kq St Fi Ed Wd (hide hA) (hide hQ) (hide (TA.out W d)) (by omega) (by omega) (by omega) (by omega) hok hz
    exact t.mono fun e w' ⟨h, dd⟩ => ⟨h, d.trans (dd.mono d.size)⟩)
  have TR : Hid (∀ (W : World) (g1 k1 g2 k2 g3 k3 gp kp gq kq : Nat), Below W0.heap.size W0 W → RdA W (some ⟨g1, 0, none⟩) (some ⟨g2, 0, none⟩) (some ⟨g3, 0, none⟩) St Fi Ed → RdN W (some ⟨gp, 0, none⟩) Ss → RdN W (some ⟨gq, 0, none⟩) Wd → Calls Tryz.prog 13 #[.agg #[.int .i64 (N : Int), .int .i64 m, .slice (some ⟨g1, 0, none⟩) St.length k1, .slice (some ⟨g2, 0, none⟩) Fi.length k2, .slice (some ⟨g3, 0, none⟩) Ed.length k3], .slice (some ⟨gp, 0, none⟩) Ss.length kp, .slice (some ⟨gq, 0, none⟩) Wd.length kq] W fun e w' => e = .returned (.tuple #[.bool false, .int .i64 0]) ∧ Below W0.heap.size W0 w') := hide (fun W g1 k1 g2 k2 g3 k3 gp kp gq kq d hA hP hQ => by
    refine (Runs_ok W N m (some ⟨g1, 0, none⟩) (some ⟨g2, 0, none⟩) (some ⟨g3, 0, none⟩) (some ⟨gp, 0, none⟩) (some ⟨gq, 0, none⟩) k1 k2 k3 kp kq St Fi Ed Ss Wd (hide hA) (hide hP) (hide hQ) (by omega) (by omega) (by omega) (by omega) (by omega) hok).mono ?_
    rintro e w' ⟨r, rfl, hr, dd⟩
    exact ⟨by rw [show r = false from Bool.eq_iff_iff.2 (hr.trans HRR.out.symm)], d.trans (dd.mono d.size)⟩)
  clear hz
  go_enter Tryz.func3, Tryz.ntmps3
  go_upto_region 3 with (go_at_call 8; refine T8.mono ?_; rintro e w1 ⟨rfl, d1⟩)
  have D1 := hide d1
  clear T8 d1
  go_cut [3, 4] from 3 to 28 (fun pv ev W => pv = .bool false ∧ ev = .int .i64 0 ∧ Hid (Below W0.heap.size W0 W))
  case first =>
    have S0 := SK.out w1.drew D1.out.drew
    go_region_held3 (fun W => (W.cell? ⟨w.heap.size, 0, none⟩ = some (.int .i64 (N : Int)) ∧ W.cell? ⟨w.heap.size, 1, none⟩ = some (.int .i64 m) ∧ W.cell? ⟨w.heap.size, 2, none⟩ = some (.slice a1 St.length c1) ∧ W.cell? ⟨w.heap.size, 3, none⟩ = some (.slice a2 Fi.length c2) ∧ W.cell? ⟨w.heap.size, 4, none⟩ = some (.slice a3 Ed.length c3) ∧ W.cell? ⟨w.heap.size, 11, none⟩ = some (.slice p1 Ss.length cp) ∧ W.cell? ⟨w.heap.size, 13, none⟩ = some (.slice u1 Wd.length cw) ∧ Hid (Below W0.heap.size W0 W)))
      (with_reducible assumption)
      ((first
        | (go_at_call 10; refine (T10.out _ (SD.out _ (by with_reducible assumption))).mono ?_; rintro e wa ⟨g1, k1, g2, k2, g3, k3, rfl, hA1, Da, da⟩; have Sa := SK.out wa Da)
        | (go_at_call 11; refine (T11u.out _ (SD.out _ (by with_reducible assumption))).mono ?_; rintro e wb ⟨gq, kq, rfl, hQ1, Db, db⟩; have Sb := SK.out wb Db; have hA2 := hide (hA1.out.on db))
        | (go_at_call 9; refine (TC.out _ _ _ _ _ _ _ _ _ (SD.out _ (by with_reducible assumption)) hA2.out hQ1.out).mono ?_; rintro e wc ⟨rfl, Dc⟩; have Sc := SK.out wc Dc)))
    all_goals (
      go_wp2_with fail
      go_meet
      exact ⟨rfl, rfl, hide Dc⟩)
  case rest =>
    obtain ⟨rfl, rfl, HB⟩ := hcut
    rename World => wx
    clear D1 w1
    go_upto_region 4 with fail
    go_cut [5, 6] from 5 to 38 (fun pv ev W => pv = .slice none 0 0 ∧ ev = .int .i64 60 ∧ Hid (Below W0.heap.size W0 W))
    case first =>
      have S0 := SK.out wx.drew HB.out.drew
      go_region_held3 (fun W => (W.cell? ⟨w.heap.size, 0, none⟩ = some (.int .i64 (N : Int)) ∧ W.cell? ⟨w.heap.size, 1, none⟩ = some (.int .i64 m) ∧ W.cell? ⟨w.heap.size, 2, none⟩ = some (.slice a1 St.length c1) ∧ W.cell? ⟨w.heap.size, 3, none⟩ = some (.slice a2 Fi.length c2) ∧ W.cell? ⟨w.heap.size, 4, none⟩ = some (.slice a3 Ed.length c3) ∧ W.cell? ⟨w.heap.size, 11, none⟩ = some (.slice p1 Ss.length cp) ∧ W.cell? ⟨w.heap.size, 13, none⟩ = some (.slice u1 Wd.length cw) ∧ Hid (Below W0.heap.size W0 W)))
        (with_reducible assumption)
        ((first
          | (go_at_call 10; refine (T10.out _ (SD.out _ (by with_reducible assumption))).mono ?_; rintro e wa ⟨g1, k1, g2, k2, g3, k3, rfl, hA1, Da, da⟩; have Sa := SK.out wa Da)
          | (go_at_call 11; refine (T11u.out _ (SD.out _ (by with_reducible assumption))).mono ?_; rintro e wb ⟨gq, kq, rfl, hQ1, Db, db⟩; have Sb := SK.out wb Db; have hA2 := hide (hA1.out.on db))
          | (go_at_call 12; refine (TH.out _ _ _ _ _ _ _ _ _ (SD.out _ (by with_reducible assumption)) hA2.out hQ1.out).mono ?_; rintro e wc ⟨rfl, Dc⟩; have Sc := SK.out wc Dc)))
      all_goals (
        go_wp2_with fail
        go_meet
        exact ⟨rfl, rfl, hide Dc⟩)
    case rest =>
      obtain ⟨rfl, rfl, HC⟩ := hcut
      rename World => wy
      clear HB
      go_upto_region 5 with fail
      go_cut [7, 8] from 7 to 51 (fun pv ev W => pv = .bool false ∧ ev = .int .i64 0 ∧ Hid (Below W0.heap.size W0 W))
      case first =>
        have S0 := SK.out wy.drew HC.out.drew
        go_region_held3 (fun W => (W.cell? ⟨w.heap.size, 0, none⟩ = some (.int .i64 (N : Int)) ∧ W.cell? ⟨w.heap.size, 1, none⟩ = some (.int .i64 m) ∧ W.cell? ⟨w.heap.size, 2, none⟩ = some (.slice a1 St.length c1) ∧ W.cell? ⟨w.heap.size, 3, none⟩ = some (.slice a2 Fi.length c2) ∧ W.cell? ⟨w.heap.size, 4, none⟩ = some (.slice a3 Ed.length c3) ∧ W.cell? ⟨w.heap.size, 11, none⟩ = some (.slice p1 Ss.length cp) ∧ W.cell? ⟨w.heap.size, 13, none⟩ = some (.slice u1 Wd.length cw) ∧ Hid (Below W0.heap.size W0 W)))
          (with_reducible assumption)
          ((first
            | (go_at_call 10; refine (T10.out _ (SD.out _ (by with_reducible assumption))).mono ?_; rintro e wa ⟨g1, k1, g2, k2, g3, k3, rfl, hA1, Da, da⟩; have Sa := SK.out wa Da)
            | (go_at_call_of 11 p1; refine (T11p.out _ (SD.out _ (by with_reducible assumption))).mono ?_; rintro e wp ⟨gp, kp, rfl, hP1, Dp, dp⟩; have Sp := SK.out wp Dp; have hAp := hide (hA1.out.on dp))
            | (go_at_call_of 11 u1; refine (T11u.out _ (SD.out _ (by with_reducible assumption))).mono ?_; rintro e wb ⟨gq, kq, rfl, hQ1, Db, db⟩; have Sb := SK.out wb Db; have hA2 := hide (hAp.out.on db); have hP2 := hide (hP1.out.on db))
            | (go_at_call 13; refine (TR.out _ _ _ _ _ _ _ _ _ _ _ (SD.out _ (by with_reducible assumption)) hA2.out hP2.out hQ1.out).mono ?_; rintro e wc ⟨rfl, Dc⟩; have Sc := SK.out wc Dc)))
        all_goals (
          go_wp2_with fail
          go_meet
          exact ⟨rfl, rfl, hide Dc⟩)
      case rest =>
        obtain ⟨rfl, rfl, HE⟩ := hcut
        go_wp2
        refine bodyPost_ret (results_tmp rfl _ _ _) rfl ?_
        exact ⟨rfl, D0.out.trans (HE.out.mono D0.out.size)⟩
end Go.Proofs.YtfoahpideglghaaGreatDoor
namespace Go.Proofs.YtfoahpideglghaaGreatDoor
open Go.RowKit Go.Maps Go.Shelf
attribute [local go_sem] Oper.semAt_some

set_option maxRecDepth 100000 in
set_option maxHeartbeats 8000000 in
theorem paths_some (w : World) (N : Nat) (m nb mb sym kk : Int) (a1 a2 a3 b1 b2 b3 q1 p1 u1 o1 : Option Addr) (c1 c2 c3 l1 d1 l2 d2 l3 d3 lq cq cp cw lo co : Nat) (St Fi Ss Wd : List Int) (Ed : List EdT) (hT : Hid (TabAt w ∧ 0 < w.heap.size)) (hA : Hid (RdA w a1 a2 a3 St Fi Ed)) (hP : Hid (RdN w p1 Ss)) (hU : Hid (RdN w u1 Wd)) (h1 : St.length ≤ 1048576) (h2 : Fi.length ≤ 1048576) (h3 : Ed.length ≤ 1048576) (h4 : Ss.length ≤ 1048576) (h5 : Wd.length ≤ 1048576) (hok : wordErr N m St Fi Ed Wd = 0) (hz : setI N St &&& restF Ed (setI N Fi) Wd 0 ≠ 0) :
    Calls Tryz.prog 3 #[.agg #[.int .i64 (N : Int), .int .i64 m, .slice a1 St.length c1, .slice a2 Fi.length c2, .slice a3 Ed.length c3, .int .i64 nb, .int .i64 mb, .slice b1 l1 d1, .slice b2 l2 d2, .slice b3 l3 d3, .slice q1 lq cq, .slice p1 Ss.length cp, .int .i64 sym, .slice u1 Wd.length cw, .int .i64 kk, .slice o1 lo co]] w fun e w' => e = .returned (.bool true) ∧ Below w.heap.size w w' := by
  have HE := hide (wordErr_zero hok)
  have HIN := hide (may_in HE.out.1)
  have hSt : Hid (∀ x ∈ St, 0 ≤ x ∧ x < (N : Int)) := hide (fun x hx => inB_iff.1 (List.all_eq_true.1 (may_parts HE.out.1).2.2.2.1 x hx))
  have hFi : Hid (∀ x ∈ Fi, 0 ≤ x ∧ x < (N : Int)) := hide (fun x hx => inB_iff.1 (List.all_eq_true.1 (may_parts HE.out.1).2.2.2.2.1 x hx))
  have hN : N ≤ 4096 := by have := (may_parts HE.out.1).1; omega
  have HY : Hid ((!decide (wordF Ed (setI N St) Wd &&& setI N Fi = 0)) = true) := hide (by rw [decide_eq_false (fun h => hz ((taken_iff HIN.out _ _ Wd).1 h))]; rfl)
  obtain ⟨rr, hrr⟩ : ∃ rr : Bool, (rr = true ↔ IsP St Fi Ed Ss Wd) := by classical exact ⟨decide (IsP St Fi Ed Ss Wd), decide_eq_true_iff⟩
  have HRR := hide hrr
  clear hrr
  obtain ⟨p0, hp0, hpN, hb0, hmin⟩ := next_zero (Nat.lt_of_le_of_lt Nat.and_le_left (setI_lt N St)) hz
  have HIS := hide (path_is (St := St) (Fi := Fi) (Wd := Wd) HIN.out hb0)
  have HLE : Hid (rr = true → ¬ lessL Ss (itl (pathF (riseE Ed) (restF Ed (setI N Fi) Wd) Wd p0 (Wd.length + 1)))) := hide (fun h => path_least HIN.out hSt.out hFi.out hb0 hmin (HRR.out.1 h))
  obtain ⟨W0, hW0⟩ : ∃ W0, w.alloc (.cells #[.int .i64 (N : Int), .int .i64 m, .slice a1 St.length c1, .slice a2 Fi.length c2, .slice a3 Ed.length c3, .int .i64 nb, .int .i64 mb, .slice b1 l1 d1, .slice b2 l2 d2, .slice b3 l3 d3, .slice q1 lq cq, .slice p1 Ss.length cp, .int .i64 sym, .slice u1 Wd.length cw, .int .i64 kk, .slice o1 lo co] 27) = W0 := ⟨_, rfl⟩
  have D0 : Hid (Below w.heap.size w W0) := hide (by rw [← hW0]; exact alloc_below _ _)
  have B0 : Hid (W0.heap[w.heap.size]? = some (.cells #[.int .i64 (N : Int), .int .i64 m, .slice a1 St.length c1, .slice a2 Fi.length c2, .slice a3 Ed.length c3, .int .i64 nb, .int .i64 mb, .slice b1 l1 d1, .slice b2 l2 d2, .slice b3 l3 d3, .slice q1 lq cq, .slice p1 Ss.length cp, .int .i64 sym, .slice u1 Wd.length cw, .int .i64 kk, .slice o1 lo co] 27 (0, 0))) := hide (by rw [← hW0]; exact World.alloc_heap_new _ _)
  have SK : Hid (∀ W, Below W0.heap.size W0 W → (fun W => (W.cell? ⟨w.heap.size, 0, none⟩ = some (.int .i64 (N : Int)) ∧ W.cell? ⟨w.heap.size, 1, none⟩ = some (.int .i64 m) ∧ W.cell? ⟨w.heap.size, 2, none⟩ = some (.slice a1 St.length c1) ∧ W.cell? ⟨w.heap.size, 3, none⟩ = some (.slice a2 Fi.length c2) ∧ W.cell? ⟨w.heap.size, 4, none⟩ = some (.slice a3 Ed.length c3) ∧ W.cell? ⟨w.heap.size, 11, none⟩ = some (.slice p1 Ss.length cp) ∧ W.cell? ⟨w.heap.size, 13, none⟩ = some (.slice u1 Wd.length cw) ∧ Hid (Below W0.heap.size W0 W))) W) := hide (fun W d => by
    have e := blk_on B0.out d
    exact ⟨cell_of e rfl, cell_of e rfl, cell_of e rfl, cell_of e rfl, cell_of e rfl, cell_of e rfl, cell_of e rfl, hide d⟩)
  have SD : Hid (∀ W, (fun W => (W.cell? ⟨w.heap.size, 0, none⟩ = some (.int .i64 (N : Int)) ∧ W.cell? ⟨w.heap.size, 1, none⟩ = some (.int .i64 m) ∧ W.cell? ⟨w.heap.size, 2, none⟩ = some (.slice a1 St.length c1) ∧ W.cell? ⟨w.heap.size, 3, none⟩ = some (.slice a2 Fi.length c2) ∧ W.cell? ⟨w.heap.size, 4, none⟩ = some (.slice a3 Ed.length c3) ∧ W.cell? ⟨w.heap.size, 11, none⟩ = some (.slice p1 Ss.length cp) ∧ W.cell? ⟨w.heap.size, 13, none⟩ = some (.slice u1 Wd.length cw) ∧ Hid (Below W0.heap.size W0 W))) W → Below W0.heap.size W0 W) := hide (fun W h => h.2.2.2.2.2.2.2.out)
  have T10 : Hid (∀ W, Below W0.heap.size W0 W → Calls Tryz.prog 10 #[.agg #[.int .i64 (N : Int), .int .i64 m, .slice a1 St.length c1, .slice a2 Fi.length c2, .slice a3 Ed.length c3]] W fun e w' => ∃ g1 k1 g2 k2 g3 k3, e = .returned (.agg #[.int .i64 (N : Int), .int .i64 m, .slice (some ⟨g1, 0, none⟩) St.length k1, .slice (some ⟨g2, 0, none⟩) Fi.length k2, .slice (some ⟨g3, 0, none⟩) Ed.length k3]) ∧ Hid (RdA w' (some ⟨g1, 0, none⟩) (some ⟨g2, 0, none⟩) (some ⟨g3, 0, none⟩) St Fi Ed) ∧ Below W0.heap.size W0 w' ∧ Below W.heap.size W w') := hide (fun W d => by
    refine (twin_any W N m a1 a2 a3 c1 c2 c3 St Fi Ed (hide (hA.out.on (D0.out.trans (d.mono D0.out.size)))) (by omega) (by omega) (by omega)).mono ?_
    rintro e w' ⟨g1, k1, g2, k2, g3, k3, he, ht, dd⟩
    exact ⟨g1, k1, g2, k2, g3, k3, he, hide ht.out.rd, d.trans (dd.mono d.size), dd⟩)
  have T11p : Hid (∀ W, Below W0.heap.size W0 W → Calls Tryz.prog 11 #[.slice p1 Ss.length cp] W fun e w' => ∃ g c, e = .returned (.slice (some ⟨g, 0, none⟩) Ss.length c) ∧ Hid (RdN w' (some ⟨g, 0, none⟩) Ss) ∧ Below W0.heap.size W0 w' ∧ Below W.heap.size W w') := hide (fun W d => by
    refine (ints_any W p1 Ss cp (hide (hP.out.on (D0.out.trans (d.mono D0.out.size)))) (by omega)).mono ?_
    rintro e w' ⟨g, c, he, hm, dd⟩
    exact ⟨g, c, he, hide hm.out.rd, d.trans (dd.mono d.size), dd⟩)
  have T11u : Hid (∀ W, Below W0.heap.size W0 W → Calls Tryz.prog 11 #[.slice u1 Wd.length cw] W fun e w' => ∃ g c, e = .returned (.slice (some ⟨g, 0, none⟩) Wd.length c) ∧ Hid (RdN w' (some ⟨g, 0, none⟩) Wd) ∧ Below W0.heap.size W0 w' ∧ Below W.heap.size W w') := hide (fun W d => by
    refine (ints_any W u1 Wd cw (hide (hU.out.on (D0.out.trans (d.mono D0.out.size)))) (by omega)).mono ?_
    rintro e w' ⟨g, c, he, hm, dd⟩
    exact ⟨g, c, he, hide hm.out.rd, d.trans (dd.mono d.size), dd⟩)
  have TA : Hid (∀ W, Below W0.heap.size W0 W → TabAt W ∧ 0 < W.heap.size) := hide (fun W d => by
    have d2 := D0.out.trans (d.mono D0.out.size)
    exact ⟨hT.out.1.below d2 hT.out.2, Nat.lt_of_lt_of_le hT.out.2 d2.size⟩)
  have T8 : Calls Tryz.prog 8 #[] W0 fun e w' => e = .returned (.bool true) ∧ Below W0.heap.size W0 w' := works_any W0 (hide (TA.out W0 (Below.refl _ _)))
  have TC : Hid (∀ (W : World) (g1 k1 g2 k2 g3 k3 gq kq : Nat), Below W0.heap.size W0 W → RdA W (some ⟨g1, 0, none⟩) (some ⟨g2, 0, none⟩) (some ⟨g3, 0, none⟩) St Fi Ed → RdN W (some ⟨gq, 0, none⟩) Wd → Calls Tryz.prog 9 #[.agg #[.int .i64 (N : Int), .int .i64 m, .slice (some ⟨g1, 0, none⟩) St.length k1, .slice (some ⟨g2, 0, none⟩) Fi.length k2, .slice (some ⟨g3, 0, none⟩) Ed.length k3], .slice (some ⟨gq, 0, none⟩) Wd.length kq] W fun e w' => e = .returned (.tuple #[.bool true, .int .i64 0]) ∧ Below W0.heap.size W0 w') := hide (fun W g1 k1 g2 k2 g3 k3 gq kq d hA hQ => by
    have t := Accepts_ok W N m (some ⟨g1, 0, none⟩) (some ⟨g2, 0, none⟩) (some ⟨g3, 0, none⟩) (some ⟨gq, 0, none⟩) k1 k2 k3 kq St Fi Ed Wd (hide hA) (hide hQ) (hide (TA.out W d)) (by omega) (by omega) (by omega) (by omega) hok
    rw [HY.out] at t
    exact t.mono fun e w' ⟨h, dd⟩ => ⟨h, d.trans (dd.mono d.size)⟩)
  have TH : Hid (∀ (W : World) (g1 k1 g2 k2 g3 k3 gq kq : Nat), Below W0.heap.size W0 W → RdA W (some ⟨g1, 0, none⟩) (some ⟨g2, 0, none⟩) (some ⟨g3, 0, none⟩) St Fi Ed → RdN W (some ⟨gq, 0, none⟩) Wd → Calls Tryz.prog 12 #[.agg #[.int .i64 (N : Int), .int .i64 m, .slice (some ⟨g1, 0, none⟩) St.length k1, .slice (some ⟨g2, 0, none⟩) Fi.length k2, .slice (some ⟨g3, 0, none⟩) Ed.length k3], .slice (some ⟨gq, 0, none⟩) Wd.length kq] W fun e w' => ∃ g c, e = .returned (.tuple #[.slice (some ⟨g, 0, none⟩) (Wd.length + 1) c, .int .i64 0]) ∧ Hid (RdN w' (some ⟨g, 0, none⟩) (itl (pathF (riseE Ed) (restF Ed (setI N Fi) Wd) Wd p0 (Wd.length + 1)))) ∧ Below W0.heap.size W0 w') := hide (fun W g1 k1 g2 k2 g3 k3 gq kq d hA hQ => by
    have t := Path_ok W N m (some ⟨g1, 0, none⟩) (some ⟨g2, 0, none⟩) (some ⟨g3, 0, none⟩) (some ⟨gq, 0, none⟩) k1 k2 k3 kq St Fi Ed Wd (hide hA) (hide hQ) (hide (TA.out W d)) (by omega) (by omega) (by omega) (by omega) hok p0 (hide hz) hp0
    exact t.mono fun e w' ⟨g, c, h, hr, dd⟩ => ⟨g, c, h, hide (row_rd hr.out), d.trans (dd.mono d.size)⟩)
  have TR : Hid (∀ (W : World) (g1 k1 g2 k2 g3 k3 gp kp gq kq : Nat), Below W0.heap.size W0 W → RdA W (some ⟨g1, 0, none⟩) (some ⟨g2, 0, none⟩) (some ⟨g3, 0, none⟩) St Fi Ed → RdN W (some ⟨gp, 0, none⟩) Ss → RdN W (some ⟨gq, 0, none⟩) Wd → Calls Tryz.prog 13 #[.agg #[.int .i64 (N : Int), .int .i64 m, .slice (some ⟨g1, 0, none⟩) St.length k1, .slice (some ⟨g2, 0, none⟩) Fi.length k2, .slice (some ⟨g3, 0, none⟩) Ed.length k3], .slice (some ⟨gp, 0, none⟩) Ss.length kp, .slice (some ⟨gq, 0, none⟩) Wd.length kq] W fun e w' => e = .returned (.tuple #[.bool rr, .int .i64 0]) ∧ Below W0.heap.size W0 w') := hide (fun W g1 k1 g2 k2 g3 k3 gp kp gq kq d hA hP hQ => by
    refine (Runs_ok W N m (some ⟨g1, 0, none⟩) (some ⟨g2, 0, none⟩) (some ⟨g3, 0, none⟩) (some ⟨gp, 0, none⟩) (some ⟨gq, 0, none⟩) k1 k2 k3 kp kq St Fi Ed Ss Wd (hide hA) (hide hP) (hide hQ) (by omega) (by omega) (by omega) (by omega) (by omega) hok).mono ?_
    rintro e w' ⟨r, rfl, hr, dd⟩
    exact ⟨by rw [show r = rr from Bool.eq_iff_iff.2 (hr.trans HRR.out.symm)], d.trans (dd.mono d.size)⟩)
  have T10B : Hid (∀ B W, Below W0.heap.size W0 B → Below B.heap.size B W → Calls Tryz.prog 10 #[.agg #[.int .i64 (N : Int), .int .i64 m, .slice a1 St.length c1, .slice a2 Fi.length c2, .slice a3 Ed.length c3]] W fun e w' => ∃ g1 k1 g2 k2 g3 k3, e = .returned (.agg #[.int .i64 (N : Int), .int .i64 m, .slice (some ⟨g1, 0, none⟩) St.length k1, .slice (some ⟨g2, 0, none⟩) Fi.length k2, .slice (some ⟨g3, 0, none⟩) Ed.length k3]) ∧ Hid (RdA w' (some ⟨g1, 0, none⟩) (some ⟨g2, 0, none⟩) (some ⟨g3, 0, none⟩) St Fi Ed) ∧ Below B.heap.size B w' ∧ Below W.heap.size W w') := hide (fun B W dB d => (T10.out W (dB.trans (d.mono dB.size))).mono fun e w' ⟨g1, k1, g2, k2, g3, k3, he, h, _, dd⟩ => ⟨g1, k1, g2, k2, g3, k3, he, h, d.trans (dd.mono d.size), dd⟩)
  have TP : Hid (∀ (B W : World) (g1 k1 g2 k2 g3 k3 gq kq : Nat) (L : List Int) (y : Int), L.length ≤ 1048576 → L.all (inB N) = true → inB m y = true → Below W0.heap.size W0 B → Below B.heap.size B W → RdA W (some ⟨g1, 0, none⟩) (some ⟨g2, 0, none⟩) (some ⟨g3, 0, none⟩) St Fi Ed → RdN W (some ⟨gq, 0, none⟩) L → Calls Tryz.prog 15 #[.agg #[.int .i64 (N : Int), .int .i64 m, .slice (some ⟨g1, 0, none⟩) St.length k1, .slice (some ⟨g2, 0, none⟩) Fi.length k2, .slice (some ⟨g3, 0, none⟩) Ed.length k3], .slice (some ⟨gq, 0, none⟩) L.length kq, .int .i64 y] W fun e w' => ∃ g c, e = .returned (.tuple #[.slice (some ⟨g, 0, none⟩) (elems N (imgF false (setI N L) y Ed)).length c, .int .i64 0]) ∧ Hid (RdN w' (some ⟨g, 0, none⟩) (itl (elems N (imgF false (setI N L) y Ed)))) ∧ Below B.heap.size B w') := hide (fun B W g1 k1 g2 k2 g3 k3 gq kq L y hl hin hy dB d hA hQ => by
    refine (post_ok W N m (some ⟨g1, 0, none⟩) (some ⟨g2, 0, none⟩) (some ⟨g3, 0, none⟩) (some ⟨gq, 0, none⟩) k1 k2 k3 kq St Fi Ed L y (hide (TA.out W (dB.trans (d.mono dB.size)))) (hide hA) (hide hQ) (by omega) (by omega) (by omega) (by omega) (hide HE.out.1) (hide hin) (hide hy)).mono ?_
    rintro e w' ⟨g, c, he, hr, dd⟩
    exact ⟨g, c, he, hide (row_rd hr), d.trans (dd.mono d.size)⟩)
  have TQ : Hid (∀ (B W : World) (g1 k1 g2 k2 g3 k3 gq kq : Nat) (L : List Int) (y : Int), L.length ≤ 1048576 → L.all (inB N) = true → inB m y = true → Below W0.heap.size W0 B → Below B.heap.size B W → RdA W (some ⟨g1, 0, none⟩) (some ⟨g2, 0, none⟩) (some ⟨g3, 0, none⟩) St Fi Ed → RdN W (some ⟨gq, 0, none⟩) L → Calls Tryz.prog 16 #[.agg #[.int .i64 (N : Int), .int .i64 m, .slice (some ⟨g1, 0, none⟩) St.length k1, .slice (some ⟨g2, 0, none⟩) Fi.length k2, .slice (some ⟨g3, 0, none⟩) Ed.length k3], .slice (some ⟨gq, 0, none⟩) L.length kq, .int .i64 y] W fun e w' => ∃ g c, e = .returned (.tuple #[.slice (some ⟨g, 0, none⟩) (elems N (imgF true (setI N L) y Ed)).length c, .int .i64 0]) ∧ Hid (RdN w' (some ⟨g, 0, none⟩) (itl (elems N (imgF true (setI N L) y Ed)))) ∧ Below B.heap.size B w') := hide (fun B W g1 k1 g2 k2 g3 k3 gq kq L y hl hin hy dB d hA hQ => by
    refine (pre_ok W N m (some ⟨g1, 0, none⟩) (some ⟨g2, 0, none⟩) (some ⟨g3, 0, none⟩) (some ⟨gq, 0, none⟩) k1 k2 k3 kq St Fi Ed L y (hide (TA.out W (dB.trans (d.mono dB.size)))) (hide hA) (hide hQ) (by omega) (by omega) (by omega) (by omega) (hide HE.out.1) (hide hin) (hide hy)).mono ?_
    rintro e w' ⟨g, c, he, hr, dd⟩
    exact ⟨g, c, he, hide (row_rd hr), d.trans (dd.mono d.size)⟩)
  have HPL : Hid ((itl (pathF (riseE Ed) (restF Ed (setI N Fi) Wd) Wd p0 (Wd.length + 1))).length = Wd.length + 1) := hide (path_len _ _ _ _ _)
  clear hz hp0 hb0 hmin
  generalize (itl (pathF (riseE Ed) (restF Ed (setI N Fi) Wd) Wd p0 (Wd.length + 1))) = P at HIS HLE TH HPL
  have T11P : Hid (∀ (B W : World) g c, Below W0.heap.size W0 B → Below B.heap.size B W → RdN W (some ⟨g, 0, none⟩) P → Calls Tryz.prog 11 #[.slice (some ⟨g, 0, none⟩) (Wd.length + 1) c] W fun e w' => ∃ g' c', e = .returned (.slice (some ⟨g', 0, none⟩) (Wd.length + 1) c') ∧ Hid (RdN w' (some ⟨g', 0, none⟩) P) ∧ Below B.heap.size B w' ∧ Below W.heap.size W w') := hide (fun B W g c dB d hr => by
    have t := ints_any W (some ⟨g, 0, none⟩) P c (hide hr) (by rw [HPL.out]; omega)
    rw [HPL.out] at t
    refine t.mono ?_
    rintro e w' ⟨g, c, he, hm, dd⟩
    exact ⟨g, c, he, hide hm.out.rd, d.trans (dd.mono d.size), dd⟩)
  have T11B : Hid (∀ (B W : World), Below W0.heap.size W0 B → Below B.heap.size B W → Calls Tryz.prog 11 #[.slice u1 Wd.length cw] W fun e w' => ∃ g c, e = .returned (.slice (some ⟨g, 0, none⟩) Wd.length c) ∧ Hid (RdN w' (some ⟨g, 0, none⟩) Wd) ∧ Below B.heap.size B w' ∧ Below W.heap.size W w') := hide (fun B W dB d => (T11u.out W (dB.trans (d.mono dB.size))).mono fun e w' ⟨g, c, he, h, _, dd⟩ => ⟨g, c, he, h, d.trans (dd.mono d.size), dd⟩)
  have TR2 : Hid (∀ (B W : World) (g1 k1 g2 k2 g3 k3 gp kp gq kq : Nat), Below W0.heap.size W0 B → Below B.heap.size B W → RdA W (some ⟨g1, 0, none⟩) (some ⟨g2, 0, none⟩) (some ⟨g3, 0, none⟩) St Fi Ed → RdN W (some ⟨gp, 0, none⟩) P → RdN W (some ⟨gq, 0, none⟩) Wd → Calls Tryz.prog 13 #[.agg #[.int .i64 (N : Int), .int .i64 m, .slice (some ⟨g1, 0, none⟩) St.length k1, .slice (some ⟨g2, 0, none⟩) Fi.length k2, .slice (some ⟨g3, 0, none⟩) Ed.length k3], .slice (some ⟨gp, 0, none⟩) (Wd.length + 1) kp, .slice (some ⟨gq, 0, none⟩) Wd.length kq] W fun e w' => e = .returned (.tuple #[.bool true, .int .i64 0]) ∧ Below B.heap.size B w') := hide (fun B W g1 k1 g2 k2 g3 k3 gp kp gq kq dB d hA hP hQ => by
    have t := Runs_ok W N m (some ⟨g1, 0, none⟩) (some ⟨g2, 0, none⟩) (some ⟨g3, 0, none⟩) (some ⟨gp, 0, none⟩) (some ⟨gq, 0, none⟩) k1 k2 k3 kp kq St Fi Ed P Wd (hide hA) (hide hP) (hide hQ) (by omega) (by omega) (by omega) (by rw [HPL.out]; omega) (by omega) hok
    rw [HPL.out] at t
    refine t.mono ?_
    rintro e w' ⟨r, rfl, hr, dd⟩
    exact ⟨by rw [show r = true from hr.2 HIS.out], d.trans (dd.mono d.size)⟩)
  have T14 : Hid (rr = true → ∀ (W : World) g c, Below W0.heap.size W0 W → RdN W (some ⟨g, 0, none⟩) P → Calls Tryz.prog 14 #[.slice p1 Ss.length cp, .slice (some ⟨g, 0, none⟩) (Wd.length + 1) c] W fun e w' => e = .returned (.bool false) ∧ Below W.heap.size W w') := hide (fun hq W g c d hr => by
    have t := less_any W p1 (some ⟨g, 0, none⟩) Ss P cp c (hide (hP.out.on (D0.out.trans (d.mono D0.out.size)))) (hide hr) (by omega)
    rw [HPL.out] at t
    refine t.mono ?_
    rintro e w' ⟨r, rfl, hr, dd⟩
    exact ⟨by rw [Bool.eq_false_iff.2 (fun h => HLE.out hq (hr.1 h))], dd⟩)
  go_enter Tryz.func3, Tryz.ntmps3
  go_upto_region 3 with (go_at_call 8; refine T8.mono ?_; rintro e w1 ⟨rfl, d1⟩)
  have D1 := hide d1
  clear T8 d1
  go_cut [3, 4] from 3 to 28 (fun pv ev W => pv = .bool true ∧ ev = .int .i64 0 ∧ Hid (Below W0.heap.size W0 W))
  case first =>
    have S0 := SK.out w1.drew D1.out.drew
    go_region_held3 (fun W => (W.cell? ⟨w.heap.size, 0, none⟩ = some (.int .i64 (N : Int)) ∧ W.cell? ⟨w.heap.size, 1, none⟩ = some (.int .i64 m) ∧ W.cell? ⟨w.heap.size, 2, none⟩ = some (.slice a1 St.length c1) ∧ W.cell? ⟨w.heap.size, 3, none⟩ = some (.slice a2 Fi.length c2) ∧ W.cell? ⟨w.heap.size, 4, none⟩ = some (.slice a3 Ed.length c3) ∧ W.cell? ⟨w.heap.size, 11, none⟩ = some (.slice p1 Ss.length cp) ∧ W.cell? ⟨w.heap.size, 13, none⟩ = some (.slice u1 Wd.length cw) ∧ Hid (Below W0.heap.size W0 W)))
      (with_reducible assumption)
      ((first
        | (go_at_call 10; refine (T10.out _ (SD.out _ (by with_reducible assumption))).mono ?_; rintro e wa ⟨g1, k1, g2, k2, g3, k3, rfl, hA1, Da, da⟩; have Sa := SK.out wa Da)
        | (go_at_call 11; refine (T11u.out _ (SD.out _ (by with_reducible assumption))).mono ?_; rintro e wb ⟨gq, kq, rfl, hQ1, Db, db⟩; have Sb := SK.out wb Db; have hA2 := hide (hA1.out.on db))
        | (go_at_call 9; refine (TC.out _ _ _ _ _ _ _ _ _ (SD.out _ (by with_reducible assumption)) hA2.out hQ1.out).mono ?_; rintro e wc ⟨rfl, Dc⟩; have Sc := SK.out wc Dc)))
    all_goals (
      go_wp2_with fail
      go_meet
      exact ⟨rfl, rfl, hide Dc⟩)
  case rest =>
    obtain ⟨rfl, rfl, HB⟩ := hcut
    rename World => wx
    clear D1 w1
    go_upto_region 4 with fail
    go_cut [5, 6] from 5 to 38 (fun pv ev W => ∃ g c, pv = .slice (some ⟨g, 0, none⟩) (Wd.length + 1) c ∧ ev = .int .i64 0 ∧ Hid (RdN W (some ⟨g, 0, none⟩) P) ∧ Hid (Below W0.heap.size W0 W))
    case first =>
      have S0 := SK.out wx.drew HB.out.drew
      go_region_held3 (fun W => (W.cell? ⟨w.heap.size, 0, none⟩ = some (.int .i64 (N : Int)) ∧ W.cell? ⟨w.heap.size, 1, none⟩ = some (.int .i64 m) ∧ W.cell? ⟨w.heap.size, 2, none⟩ = some (.slice a1 St.length c1) ∧ W.cell? ⟨w.heap.size, 3, none⟩ = some (.slice a2 Fi.length c2) ∧ W.cell? ⟨w.heap.size, 4, none⟩ = some (.slice a3 Ed.length c3) ∧ W.cell? ⟨w.heap.size, 11, none⟩ = some (.slice p1 Ss.length cp) ∧ W.cell? ⟨w.heap.size, 13, none⟩ = some (.slice u1 Wd.length cw) ∧ Hid (Below W0.heap.size W0 W)))
        (with_reducible assumption)
        ((first
          | (go_at_call 10; refine (T10.out _ (SD.out _ (by with_reducible assumption))).mono ?_; rintro e wa ⟨g1, k1, g2, k2, g3, k3, rfl, hA1, Da, da⟩; have Sa := SK.out wa Da)
          | (go_at_call 11; refine (T11u.out _ (SD.out _ (by with_reducible assumption))).mono ?_; rintro e wb ⟨gq, kq, rfl, hQ1, Db, db⟩; have Sb := SK.out wb Db; have hA2 := hide (hA1.out.on db))
          | (go_at_call 12; refine (TH.out _ _ _ _ _ _ _ _ _ (SD.out _ (by with_reducible assumption)) hA2.out hQ1.out).mono ?_; rintro e wc ⟨gr, cr, rfl, hr, Dc⟩; have Sc := SK.out wc Dc)))
      all_goals (
        go_wp2_with fail
        go_meet
        exact ⟨gr, cr, rfl, rfl, hr, hide Dc⟩)
    case rest =>
      obtain ⟨gP, cP, rfl, rfl, HRP, HC⟩ := hcut
      rename World => wy
      clear HB
      have SKy : Hid (∀ W, Below wy.heap.size wy W → (fun W => (W.cell? ⟨w.heap.size, 0, none⟩ = some (.int .i64 (N : Int)) ∧ W.cell? ⟨w.heap.size, 1, none⟩ = some (.int .i64 m) ∧ W.cell? ⟨w.heap.size, 2, none⟩ = some (.slice a1 St.length c1) ∧ W.cell? ⟨w.heap.size, 3, none⟩ = some (.slice a2 Fi.length c2) ∧ W.cell? ⟨w.heap.size, 4, none⟩ = some (.slice a3 Ed.length c3) ∧ W.cell? ⟨w.heap.size, 11, none⟩ = some (.slice p1 Ss.length cp) ∧ W.cell? ⟨w.heap.size, 13, none⟩ = some (.slice u1 Wd.length cw) ∧ Hid (Below wy.heap.size wy W))) W) := hide (fun W d => by
        have e := SK.out W (HC.out.trans (d.mono HC.out.size))
        exact ⟨e.1, e.2.1, e.2.2.1, e.2.2.2.1, e.2.2.2.2.1, e.2.2.2.2.2.1, e.2.2.2.2.2.2.1, hide d⟩)
      have SDy : Hid (∀ W, (fun W => (W.cell? ⟨w.heap.size, 0, none⟩ = some (.int .i64 (N : Int)) ∧ W.cell? ⟨w.heap.size, 1, none⟩ = some (.int .i64 m) ∧ W.cell? ⟨w.heap.size, 2, none⟩ = some (.slice a1 St.length c1) ∧ W.cell? ⟨w.heap.size, 3, none⟩ = some (.slice a2 Fi.length c2) ∧ W.cell? ⟨w.heap.size, 4, none⟩ = some (.slice a3 Ed.length c3) ∧ W.cell? ⟨w.heap.size, 11, none⟩ = some (.slice p1 Ss.length cp) ∧ W.cell? ⟨w.heap.size, 13, none⟩ = some (.slice u1 Wd.length cw) ∧ Hid (Below wy.heap.size wy W))) W → Below wy.heap.size wy W) := hide (fun W h => h.2.2.2.2.2.2.2.out)
      have TRy : Hid (∀ (W : World) (g1 k1 g2 k2 g3 k3 gp kp gq kq : Nat), Below wy.heap.size wy W → RdA W (some ⟨g1, 0, none⟩) (some ⟨g2, 0, none⟩) (some ⟨g3, 0, none⟩) St Fi Ed → RdN W (some ⟨gp, 0, none⟩) Ss → RdN W (some ⟨gq, 0, none⟩) Wd → Calls Tryz.prog 13 #[.agg #[.int .i64 (N : Int), .int .i64 m, .slice (some ⟨g1, 0, none⟩) St.length k1, .slice (some ⟨g2, 0, none⟩) Fi.length k2, .slice (some ⟨g3, 0, none⟩) Ed.length k3], .slice (some ⟨gp, 0, none⟩) Ss.length kp, .slice (some ⟨gq, 0, none⟩) Wd.length kq] W fun e w' => e = .returned (.tuple #[.bool rr, .int .i64 0]) ∧ Below wy.heap.size wy w') := hide (fun W g1 k1 g2 k2 g3 k3 gp kp gq kq d hA hP hQ => by
        refine (Runs_ok W N m (some ⟨g1, 0, none⟩) (some ⟨g2, 0, none⟩) (some ⟨g3, 0, none⟩) (some ⟨gp, 0, none⟩) (some ⟨gq, 0, none⟩) k1 k2 k3 kp kq St Fi Ed Ss Wd (hide hA) (hide hP) (hide hQ) (by omega) (by omega) (by omega) (by omega) (by omega) hok).mono ?_
        rintro e w' ⟨r, rfl, hr, dd⟩
        exact ⟨by rw [show r = rr from Bool.eq_iff_iff.2 (hr.trans HRR.out.symm)], d.trans (dd.mono d.size)⟩)
      have T11py : Hid (∀ W, Below wy.heap.size wy W → Calls Tryz.prog 11 #[.slice p1 Ss.length cp] W fun e w' => ∃ g c, e = .returned (.slice (some ⟨g, 0, none⟩) Ss.length c) ∧ Hid (RdN w' (some ⟨g, 0, none⟩) Ss) ∧ Below wy.heap.size wy w' ∧ Below W.heap.size W w') := hide (fun W d => (T11p.out W (HC.out.trans (d.mono HC.out.size))).mono fun e w' ⟨g, c, he, h, _, dd⟩ => ⟨g, c, he, h, d.trans (dd.mono d.size), dd⟩)
      clear TR
      go_upto_region 5 with fail
      go_cut [7, 8] from 7 to 51 (fun pv ev W => pv = .bool rr ∧ ev = .int .i64 0 ∧ Hid (Below wy.heap.size wy W))
      case first =>
        have S0 := SKy.out wy.drew (Below.refl _ wy).drew
        go_region_held3 (fun W => (W.cell? ⟨w.heap.size, 0, none⟩ = some (.int .i64 (N : Int)) ∧ W.cell? ⟨w.heap.size, 1, none⟩ = some (.int .i64 m) ∧ W.cell? ⟨w.heap.size, 2, none⟩ = some (.slice a1 St.length c1) ∧ W.cell? ⟨w.heap.size, 3, none⟩ = some (.slice a2 Fi.length c2) ∧ W.cell? ⟨w.heap.size, 4, none⟩ = some (.slice a3 Ed.length c3) ∧ W.cell? ⟨w.heap.size, 11, none⟩ = some (.slice p1 Ss.length cp) ∧ W.cell? ⟨w.heap.size, 13, none⟩ = some (.slice u1 Wd.length cw) ∧ Hid (Below wy.heap.size wy W)))
          (with_reducible assumption)
          ((first
            | (go_at_call 10; refine (T10B.out wy _ HC.out (SDy.out _ (by with_reducible assumption))).mono ?_; rintro e wa ⟨g1, k1, g2, k2, g3, k3, rfl, hA1, Da, da⟩; have Sa := SKy.out wa Da)
            | (go_at_call_of 11 p1; refine (T11py.out _ (SDy.out _ (by with_reducible assumption))).mono ?_; rintro e wp ⟨gp, kp, rfl, hP1, Dp, dp⟩; have Sp := SKy.out wp Dp; have hAp := hide (hA1.out.on dp))
            | (go_at_call_of 11 u1; refine (T11B.out wy _ HC.out (SDy.out _ (by with_reducible assumption))).mono ?_; rintro e wb ⟨gq, kq, rfl, hQ1, Db, db⟩; have Sb := SKy.out wb Db; have hA2 := hide (hAp.out.on db); have hP2 := hide (hP1.out.on db))
            | (go_at_call 13; refine (TRy.out _ _ _ _ _ _ _ _ _ _ _ (SDy.out _ (by with_reducible assumption)) hA2.out hP2.out hQ1.out).mono ?_; rintro e wc ⟨rfl, Dc⟩; have Sc := SKy.out wc Dc)))
        all_goals (
          go_wp2_with fail
          go_meet
          exact ⟨rfl, rfl, hide Dc⟩)
      case rest =>
        obtain ⟨rfl, rfl, HZ⟩ := hcut
        rename World => wz
        clear TRy T11py
        rcases rr with _ | _
        all_goals (
          go_upto_region 12 with fail
          go_cut [9, 10] from 51 to 114 (fun pv ev W => pv = .bool true ∧ ev = .int .i64 0 ∧ Hid (Below wy.heap.size wy W))
          case first =>
            have S0 := SKy.out wz.drew HZ.out.drew
            go_region_held3 (fun W => (W.cell? ⟨w.heap.size, 0, none⟩ = some (.int .i64 (N : Int)) ∧ W.cell? ⟨w.heap.size, 1, none⟩ = some (.int .i64 m) ∧ W.cell? ⟨w.heap.size, 2, none⟩ = some (.slice a1 St.length c1) ∧ W.cell? ⟨w.heap.size, 3, none⟩ = some (.slice a2 Fi.length c2) ∧ W.cell? ⟨w.heap.size, 4, none⟩ = some (.slice a3 Ed.length c3) ∧ W.cell? ⟨w.heap.size, 11, none⟩ = some (.slice p1 Ss.length cp) ∧ W.cell? ⟨w.heap.size, 13, none⟩ = some (.slice u1 Wd.length cw) ∧ Hid (Below wy.heap.size wy W)))
              (with_reducible assumption)
              ((first
                | (go_at_call 10; refine (T10B.out wy _ HC.out (SDy.out _ (by with_reducible assumption))).mono ?_; rintro e wa ⟨g1, k1, g2, k2, g3, k3, rfl, hA1, Da, da⟩; have Sa := SKy.out wa Da)
                | (go_at_call_of 11 gP; refine (T11P.out wy _ _ _ HC.out (SDy.out _ (by with_reducible assumption)) (HRP.out.on (SDy.out _ (by with_reducible assumption)))).mono ?_; rintro e wp ⟨gp, kp, rfl, hP1, Dp, dp⟩; have Sp := SKy.out wp Dp; have hAp := hide (hA1.out.on dp))
                | (go_at_call_of 11 u1; refine (T11B.out wy _ HC.out (SDy.out _ (by with_reducible assumption))).mono ?_; rintro e wb ⟨gq, kq, rfl, hQ1, Db, db⟩; have Sb := SKy.out wb Db; have hA2 := hide (hAp.out.on db); have hP2 := hide (hP1.out.on db))
                | (go_at_call 13; refine (TR2.out wy _ _ _ _ _ _ _ _ _ _ _ HC.out (SDy.out _ (by with_reducible assumption)) hA2.out hP2.out hQ1.out).mono ?_; rintro e wc ⟨rfl, Dc⟩; have Sc := SKy.out wc Dc)))
            all_goals (
              go_wp2_with fail
              go_meet
              exact ⟨rfl, rfl, hide Dc⟩)
          case rest =>
            obtain ⟨rfl, rfl, HV⟩ := hcut
            rename World => wq
            clear HZ
            obtain ⟨y0, y1, y2, y3, y4, y11, y13, _⟩ := SKy.out wq HV.out
            have l1 : (Wd.length : Int) ≤ 1048576 := by omega
            go_wp2_with (go_at_call 14; refine (T14.out (by trivial) _ _ _ (HC.out.trans (HV.out.mono HC.out.size)) (HRP.out.on HV.out)).mono ?_; rintro e wt ⟨rfl, dt⟩)
            go_loopw [11] (fun iv wr => ∃ i : Nat, i ≤ Wd.length ∧ iv = .int .i64 i ∧ Hid (Below wy.heap.size wy wr)) (fun iv _ => Wd.length - (intOf iv).toNat)
            case atStart => exact ⟨0, Nat.zero_le _, rfl, by first | exact HV | exact hide (HV.out.trans (dt.mono HV.out.size))⟩
            case round =>
              obtain ⟨i, hi, rfl, HW⟩ := hrel
              clear y0 y1 y2 y3 y4 y11 y13
              have HW0 : Hid (Below W0.heap.size W0 wr) := hide (HC.out.trans (HW.out.mono HC.out.size))
              obtain ⟨_, _, _, _, _, _, z13, _⟩ := SK.out wr HW0.out
              by_cases hlt : i < Wd.length
              · have i0 : (0 : Int) ≤ (i : Int) := by omega
                have i1 : (i : Int) < (Wd.length : Int) := by omega
                have i4 : (i : Int) ≤ 1048576 := by omega
                have i5 : (i : Int) < (Wd.length : Int) + 1 := by omega
                have i6 : (i : Int) + 1 < (Wd.length : Int) + 1 := by omega
                have i8 : (0 : Int) ≤ (i : Int) + 1 := by omega
                have iw : IntKind.i64.wrap ((i : Int) + 1) = (i : Int) + 1 := by rw [IntKind.wrap_i64]; omega
                have iz : ((i : Int) + 1).toNat = i + 1 := by omega
                obtain ⟨gu, ou, rfl, qw⟩ := (hU.out.on (D0.out.trans (HW0.out.mono D0.out.size))) i hlt
                obtain ⟨_, _, e1, q0⟩ := (HRP.out.on HW.out) i (by rw [HPL.out]; omega)
                cases e1
                obtain ⟨_, _, e1, q1⟩ := (HRP.out.on HW.out) (i + 1) (by rw [HPL.out]; omega)
                cases e1
                have hEd := HIS.out.2.2.2 i hlt
                have hyy := List.all_eq_true.1 HE.out.2 _ (List.getElem_mem hlt)
                generalize Wd[i] = y at qw hEd hyy
                generalize P[i]'(by rw [HPL.out]; omega) = x at q0 hEd
                generalize P[i + 1]'(by rw [HPL.out]; omega) = z at q1 hEd
                rw [Nat.zero_add] at q0 q1
                have hb := HIN.out _ hEd
                simp only at hb
                have hy := hide hyy
                have Xwr := hide (And.intro q0 (And.intro q1 qw))
                have ox : [x].all (inB N) = true := by simp only [List.all_cons, List.all_nil, Bool.and_true]; exact inB_iff.2 hb.1
                have oz : [z].all (inB N) = true := by simp only [List.all_cons, List.all_nil, Bool.and_true]; exact inB_iff.2 hb.2
                have M1 : decide (z ∈ itl (elems N (imgF false (setI N [x]) y Ed))) = true := decide_eq_true (mem_itl.2 ⟨z.toNat, mem_elems.2 ⟨by omega, edge_post hEd (hasB_setI.2 ⟨List.mem_singleton.2 rfl, hb.1⟩)⟩, by omega⟩)
                have M2 : decide (x ∈ itl (elems N (imgF true (setI N [z]) y Ed))) = true := decide_eq_true (mem_itl.2 ⟨x.toNat, mem_elems.2 ⟨by omega, edge_img hEd (hasB_setI.2 ⟨List.mem_singleton.2 rfl, hb.2⟩)⟩, by omega⟩)
                have HM1 := hide M1
                have HM2 := hide M2
                have HOX := hide ox
                have HOZ := hide oz
                clear M1 M2 ox oz hb hEd hyy q0 q1 qw
                have SKwr : Hid (∀ W, Below wr.heap.size wr W → (fun W => (W.cell? ⟨w.heap.size, 0, none⟩ = some (.int .i64 (N : Int)) ∧ W.cell? ⟨w.heap.size, 1, none⟩ = some (.int .i64 m) ∧ W.cell? ⟨w.heap.size, 2, none⟩ = some (.slice a1 St.length c1) ∧ W.cell? ⟨w.heap.size, 3, none⟩ = some (.slice a2 Fi.length c2) ∧ W.cell? ⟨w.heap.size, 4, none⟩ = some (.slice a3 Ed.length c3) ∧ W.cell? ⟨w.heap.size, 13, none⟩ = some (.slice (some ⟨gu, ou, none⟩) Wd.length cw) ∧ W.cell? ⟨gP, i, none⟩ = some (.int .i64 x) ∧ W.cell? ⟨gP, i + 1, none⟩ = some (.int .i64 z) ∧ W.cell? ⟨gu, ou + i, none⟩ = some (.int .i64 y) ∧ Hid (Below wr.heap.size wr W))) W) := hide (fun W d => by
                  have e := SK.out W (HW0.out.trans (d.mono HW0.out.size))
                  exact ⟨e.1, e.2.1, e.2.2.1, e.2.2.2.1, e.2.2.2.2.1, e.2.2.2.2.2.2.1, (d.cell (p := ⟨gP, i, none⟩) (World.block_lt_of_cell? wr _ Xwr.out.1)).trans Xwr.out.1, (d.cell (p := ⟨gP, i + 1, none⟩) (World.block_lt_of_cell? wr _ Xwr.out.2.1)).trans Xwr.out.2.1, (d.cell (p := ⟨gu, ou + i, none⟩) (World.block_lt_of_cell? wr _ Xwr.out.2.2)).trans Xwr.out.2.2, hide d⟩)
                have SDwr : Hid (∀ W, (fun W => (W.cell? ⟨w.heap.size, 0, none⟩ = some (.int .i64 (N : Int)) ∧ W.cell? ⟨w.heap.size, 1, none⟩ = some (.int .i64 m) ∧ W.cell? ⟨w.heap.size, 2, none⟩ = some (.slice a1 St.length c1) ∧ W.cell? ⟨w.heap.size, 3, none⟩ = some (.slice a2 Fi.length c2) ∧ W.cell? ⟨w.heap.size, 4, none⟩ = some (.slice a3 Ed.length c3) ∧ W.cell? ⟨w.heap.size, 13, none⟩ = some (.slice (some ⟨gu, ou, none⟩) Wd.length cw) ∧ W.cell? ⟨gP, i, none⟩ = some (.int .i64 x) ∧ W.cell? ⟨gP, i + 1, none⟩ = some (.int .i64 z) ∧ W.cell? ⟨gu, ou + i, none⟩ = some (.int .i64 y) ∧ Hid (Below wr.heap.size wr W))) W → Below wr.heap.size wr W) := hide (fun W h => h.2.2.2.2.2.2.2.2.2.out)
                go_upto_region 18 with fail
                clear z13
                go_cut [12, 13] from 145 to 162 (fun pv ev W => ∃ g c, pv = .slice (some ⟨g, 0, none⟩) (elems N (imgF false (setI N [x]) y Ed)).length c ∧ ev = .int .i64 0 ∧ Hid (RdN W (some ⟨g, 0, none⟩) (itl (elems N (imgF false (setI N [x]) y Ed)))) ∧ Hid (Below wr.heap.size wr W))
                case first =>
                  have S0 := SKwr.out wr.drew (Below.refl _ wr).drew
                  go_region_held3 (fun W => (W.cell? ⟨w.heap.size, 0, none⟩ = some (.int .i64 (N : Int)) ∧ W.cell? ⟨w.heap.size, 1, none⟩ = some (.int .i64 m) ∧ W.cell? ⟨w.heap.size, 2, none⟩ = some (.slice a1 St.length c1) ∧ W.cell? ⟨w.heap.size, 3, none⟩ = some (.slice a2 Fi.length c2) ∧ W.cell? ⟨w.heap.size, 4, none⟩ = some (.slice a3 Ed.length c3) ∧ W.cell? ⟨w.heap.size, 13, none⟩ = some (.slice (some ⟨gu, ou, none⟩) Wd.length cw) ∧ W.cell? ⟨gP, i, none⟩ = some (.int .i64 x) ∧ W.cell? ⟨gP, i + 1, none⟩ = some (.int .i64 z) ∧ W.cell? ⟨gu, ou + i, none⟩ = some (.int .i64 y) ∧ Hid (Below wr.heap.size wr W)))
                    (first | (with_reducible assumption) | (exact SKwr.out _ (by first | exact below_al (Below.refl _ wr) (.cells #[.int .i64 x] 3) rfl rfl rfl rfl | exact below_al Da (.cells #[.int .i64 x] 3) rfl rfl rfl rfl)))
                    ((first
                      | (go_at_call 10; refine (T10B.out wr _ HW0.out (SDwr.out _ (by with_reducible assumption))).mono ?_; rintro e wa ⟨g1, k1, g2, k2, g3, k3, rfl, hA1, Da, da⟩; have Sa := SKwr.out wa Da)
                      | (go_at_call 15; refine (TP.out wr _ _ _ _ _ _ _ _ _ [x] y (by simp) HOX.out hy.out HW0.out (SDwr.out _ (by with_reducible assumption)) (by first | exact hA1.out.on (alloc_below wa (.cells #[.int .i64 x] 3)) | exact hA1.out) (by first | exact rd_lit wa [x] | exact rd_lit_on wr [x] da rfl)).mono ?_; rintro e wc ⟨gr, cr, rfl, hr, Dc⟩; have Sc := SKwr.out wc Dc)))
                  all_goals (
                    go_wp2_with fail
                    go_meet
                    exact ⟨gr, cr, rfl, rfl, hr, hide Dc⟩)
                case rest =>
                  obtain ⟨gA, cA, rfl, rfl, HRA, HBA⟩ := hcut
                  rename World => wv
                  have HV0 : Hid (Below W0.heap.size W0 wv) := hide (HW0.out.trans (HBA.out.mono HW0.out.size))
                  have Xwv := hide (And.intro ((HBA.out.cell (p := ⟨gP, i, none⟩) (World.block_lt_of_cell? wr _ Xwr.out.1)).trans Xwr.out.1) (And.intro ((HBA.out.cell (p := ⟨gP, i + 1, none⟩) (World.block_lt_of_cell? wr _ Xwr.out.2.1)).trans Xwr.out.2.1) ((HBA.out.cell (p := ⟨gu, ou + i, none⟩) (World.block_lt_of_cell? wr _ Xwr.out.2.2)).trans Xwr.out.2.2)))
                  have SKwv : Hid (∀ W, Below wv.heap.size wv W → (fun W => (W.cell? ⟨w.heap.size, 0, none⟩ = some (.int .i64 (N : Int)) ∧ W.cell? ⟨w.heap.size, 1, none⟩ = some (.int .i64 m) ∧ W.cell? ⟨w.heap.size, 2, none⟩ = some (.slice a1 St.length c1) ∧ W.cell? ⟨w.heap.size, 3, none⟩ = some (.slice a2 Fi.length c2) ∧ W.cell? ⟨w.heap.size, 4, none⟩ = some (.slice a3 Ed.length c3) ∧ W.cell? ⟨w.heap.size, 13, none⟩ = some (.slice (some ⟨gu, ou, none⟩) Wd.length cw) ∧ W.cell? ⟨gP, i, none⟩ = some (.int .i64 x) ∧ W.cell? ⟨gP, i + 1, none⟩ = some (.int .i64 z) ∧ W.cell? ⟨gu, ou + i, none⟩ = some (.int .i64 y) ∧ Hid (Below wv.heap.size wv W))) W) := hide (fun W d => by
                    have e := SK.out W (HV0.out.trans (d.mono HV0.out.size))
                    exact ⟨e.1, e.2.1, e.2.2.1, e.2.2.2.1, e.2.2.2.2.1, e.2.2.2.2.2.2.1, (d.cell (p := ⟨gP, i, none⟩) (World.block_lt_of_cell? wv _ Xwv.out.1)).trans Xwv.out.1, (d.cell (p := ⟨gP, i + 1, none⟩) (World.block_lt_of_cell? wv _ Xwv.out.2.1)).trans Xwv.out.2.1, (d.cell (p := ⟨gu, ou + i, none⟩) (World.block_lt_of_cell? wv _ Xwv.out.2.2)).trans Xwv.out.2.2, hide d⟩)
                  have SDwv : Hid (∀ W, (fun W => (W.cell? ⟨w.heap.size, 0, none⟩ = some (.int .i64 (N : Int)) ∧ W.cell? ⟨w.heap.size, 1, none⟩ = some (.int .i64 m) ∧ W.cell? ⟨w.heap.size, 2, none⟩ = some (.slice a1 St.length c1) ∧ W.cell? ⟨w.heap.size, 3, none⟩ = some (.slice a2 Fi.length c2) ∧ W.cell? ⟨w.heap.size, 4, none⟩ = some (.slice a3 Ed.length c3) ∧ W.cell? ⟨w.heap.size, 13, none⟩ = some (.slice (some ⟨gu, ou, none⟩) Wd.length cw) ∧ W.cell? ⟨gP, i, none⟩ = some (.int .i64 x) ∧ W.cell? ⟨gP, i + 1, none⟩ = some (.int .i64 z) ∧ W.cell? ⟨gu, ou + i, none⟩ = some (.int .i64 y) ∧ Hid (Below wv.heap.size wv W))) W → Below wv.heap.size wv W) := hide (fun W h => h.2.2.2.2.2.2.2.2.2.out)
                  go_upto_region 19 with fail
                  go_cut [14, 15] from 162 to 180 (fun pv ev W => ∃ g c, pv = .slice (some ⟨g, 0, none⟩) (elems N (imgF true (setI N [z]) y Ed)).length c ∧ ev = .int .i64 0 ∧ Hid (RdN W (some ⟨g, 0, none⟩) (itl (elems N (imgF true (setI N [z]) y Ed)))) ∧ Hid (Below wv.heap.size wv W))
                  case first =>
                    have S0 := SKwv.out wv.drew (Below.refl _ wv).drew
                    go_region_held3 (fun W => (W.cell? ⟨w.heap.size, 0, none⟩ = some (.int .i64 (N : Int)) ∧ W.cell? ⟨w.heap.size, 1, none⟩ = some (.int .i64 m) ∧ W.cell? ⟨w.heap.size, 2, none⟩ = some (.slice a1 St.length c1) ∧ W.cell? ⟨w.heap.size, 3, none⟩ = some (.slice a2 Fi.length c2) ∧ W.cell? ⟨w.heap.size, 4, none⟩ = some (.slice a3 Ed.length c3) ∧ W.cell? ⟨w.heap.size, 13, none⟩ = some (.slice (some ⟨gu, ou, none⟩) Wd.length cw) ∧ W.cell? ⟨gP, i, none⟩ = some (.int .i64 x) ∧ W.cell? ⟨gP, i + 1, none⟩ = some (.int .i64 z) ∧ W.cell? ⟨gu, ou + i, none⟩ = some (.int .i64 y) ∧ Hid (Below wv.heap.size wv W)))
                      (first | (with_reducible assumption) | (exact SKwv.out _ (by first | exact below_al (Below.refl _ wv) (.cells #[.int .i64 z] 3) rfl rfl rfl rfl | exact below_al Da (.cells #[.int .i64 z] 3) rfl rfl rfl rfl)))
                      ((first
                        | (go_at_call 10; refine (T10B.out wv _ HV0.out (SDwv.out _ (by with_reducible assumption))).mono ?_; rintro e wa ⟨g1, k1, g2, k2, g3, k3, rfl, hA1, Da, da⟩; have Sa := SKwv.out wa Da)
                        | (go_at_call 16; refine (TQ.out wv _ _ _ _ _ _ _ _ _ [z] y (by simp) HOZ.out hy.out HV0.out (SDwv.out _ (by with_reducible assumption)) (by first | exact hA1.out.on (alloc_below wa (.cells #[.int .i64 z] 3)) | exact hA1.out) (by first | exact rd_lit wa [z] | exact rd_lit_on wv [z] da rfl)).mono ?_; rintro e wc ⟨gr, cr, rfl, hr, Dc⟩; have Sc := SKwv.out wc Dc)))
                    all_goals (
                      go_wp2_with fail
                      go_meet
                      exact ⟨gr, cr, rfl, rfl, hr, hide Dc⟩)
                  case rest =>
                    obtain ⟨gB, cB, rfl, rfl, HRB, HBB⟩ := hcut
                    rename World => wu
                    have DY : Hid (Below wy.heap.size wy wu) := hide ((HW.out.trans (HBA.out.mono HW.out.size)).trans (HBB.out.mono (Nat.le_trans HW.out.size HBA.out.size)))
                    obtain ⟨_, _, _, _, _, _, f0, f1, _, _⟩ := SKwv.out wu HBB.out
                    have A1 := has17 wu (some ⟨gA, 0, none⟩) (itl (elems N (imgF false (setI N [x]) y Ed))) cA z (hide (HRA.out.on HBB.out)) (by rw [itl_len]; exact Nat.le_trans (elems_le _ _) (by omega))
                    have A2 := has17 wu (some ⟨gB, 0, none⟩) (itl (elems N (imgF true (setI N [z]) y Ed))) cB x HRB (by rw [itl_len]; exact Nat.le_trans (elems_le _ _) (by omega))
                    rw [HM1.out] at A1
                    rw [HM2.out] at A2
                    simp only [itl_len] at A1 A2
                    go_wp2_with (first
                      | (go_at_call_of 17 gA; refine A1.mono ?_; rintro e w' ⟨rfl, hw'⟩; obtain rfl := hw'.symm)
                      | (go_at_call_of 17 gB; refine A2.mono ?_; rintro e w' ⟨rfl, hw'⟩; obtain rfl := hw'.symm))
                    exact ⟨⟨i + 1, by omega, by go_num, DY⟩, by simp [intOf]; omega⟩
              · have i1 : ¬ (i : Int) < (Wd.length : Int) := by omega
                go_wp2
                refine bodyPost_ret (results_tmp rfl _ _ _) rfl ?_
                exact ⟨rfl, D0.out.trans (HW0.out.mono D0.out.size)⟩)
end Go.Proofs.YtfoahpideglghaaGreatDoor
