import Derived.Test.YtfoahpideglghaaGreatDoorIm
import Derived.Deep.RegionHeld3
namespace Go.Proofs.YtfoahpideglghaaGreatDoor
open Go.RowKit Go.Maps Go.Shelf
attribute [local go_sem] Oper.semAt_some

set_option maxRecDepth 100000 in
set_option maxHeartbeats 8000000 in
theorem images_bad (w : World) (n m nb mb sym kk : Int) (a1 a2 a3 b1 b2 b3 q1 p1 u1 o1 : Option Addr) (c1 c2 c3 l1 d1 l2 d2 l3 d3 cq lp cp cw lo co : Nat) (St Fi Q Wd : List Int) (Ed : List EdT) (hT : Hid (TabAt w ∧ 0 < w.heap.size)) (hA : Hid (RdA w a1 a2 a3 St Fi Ed)) (hQ : Hid (RdN w q1 Q)) (hU : Hid (RdN w u1 Wd)) (h1 : St.length ≤ 1048576) (h2 : Fi.length ≤ 1048576) (h3 : Ed.length ≤ 1048576) (h4 : Q.length ≤ 1048576) (h5 : Wd.length ≤ 1048576) (hbad : imgErr n m St Fi Ed Q sym ≠ 0) :
    Calls Tryz.prog 4 #[.agg #[.int .i64 n, .int .i64 m, .slice a1 St.length c1, .slice a2 Fi.length c2, .slice a3 Ed.length c3, .int .i64 nb, .int .i64 mb, .slice b1 l1 d1, .slice b2 l2 d2, .slice b3 l3 d3, .slice q1 Q.length cq, .slice p1 lp cp, .int .i64 sym, .slice u1 Wd.length cw, .int .i64 kk, .slice o1 lo co]] w fun e w' => e = .returned (.bool true) ∧ Below w.heap.size w w' := by
  obtain ⟨W0, hW0⟩ : ∃ W0, w.alloc (.cells #[.int .i64 n, .int .i64 m, .slice a1 St.length c1, .slice a2 Fi.length c2, .slice a3 Ed.length c3, .int .i64 nb, .int .i64 mb, .slice b1 l1 d1, .slice b2 l2 d2, .slice b3 l3 d3, .slice q1 Q.length cq, .slice p1 lp cp, .int .i64 sym, .slice u1 Wd.length cw, .int .i64 kk, .slice o1 lo co] 27) = W0 := ⟨_, rfl⟩
  have D0 : Hid (Below w.heap.size w W0) := hide (by rw [← hW0]; exact alloc_below _ _)
  have B0 : Hid (W0.heap[w.heap.size]? = some (.cells #[.int .i64 n, .int .i64 m, .slice a1 St.length c1, .slice a2 Fi.length c2, .slice a3 Ed.length c3, .int .i64 nb, .int .i64 mb, .slice b1 l1 d1, .slice b2 l2 d2, .slice b3 l3 d3, .slice q1 Q.length cq, .slice p1 lp cp, .int .i64 sym, .slice u1 Wd.length cw, .int .i64 kk, .slice o1 lo co] 27 (0, 0))) := hide (by rw [← hW0]; exact World.alloc_heap_new _ _)
  have SK : Hid (∀ W, Below W0.heap.size W0 W → (fun W => (W.cell? ⟨w.heap.size, 0, none⟩ = some (.int .i64 n) ∧ W.cell? ⟨w.heap.size, 1, none⟩ = some (.int .i64 m) ∧ W.cell? ⟨w.heap.size, 2, none⟩ = some (.slice a1 St.length c1) ∧ W.cell? ⟨w.heap.size, 3, none⟩ = some (.slice a2 Fi.length c2) ∧ W.cell? ⟨w.heap.size, 4, none⟩ = some (.slice a3 Ed.length c3) ∧ W.cell? ⟨w.heap.size, 10, none⟩ = some (.slice q1 Q.length cq) ∧ W.cell? ⟨w.heap.size, 12, none⟩ = some (.int .i64 sym) ∧ W.cell? ⟨w.heap.size, 13, none⟩ = some (.slice u1 Wd.length cw) ∧ Hid (Below W0.heap.size W0 W))) W) := hide (fun W d => by
    have e := blk_on B0.out d
    exact ⟨cell_of e rfl, cell_of e rfl, cell_of e rfl, cell_of e rfl, cell_of e rfl, cell_of e rfl, cell_of e rfl, cell_of e rfl, hide d⟩)
  have SD : Hid (∀ W, (fun W => (W.cell? ⟨w.heap.size, 0, none⟩ = some (.int .i64 n) ∧ W.cell? ⟨w.heap.size, 1, none⟩ = some (.int .i64 m) ∧ W.cell? ⟨w.heap.size, 2, none⟩ = some (.slice a1 St.length c1) ∧ W.cell? ⟨w.heap.size, 3, none⟩ = some (.slice a2 Fi.length c2) ∧ W.cell? ⟨w.heap.size, 4, none⟩ = some (.slice a3 Ed.length c3) ∧ W.cell? ⟨w.heap.size, 10, none⟩ = some (.slice q1 Q.length cq) ∧ W.cell? ⟨w.heap.size, 12, none⟩ = some (.int .i64 sym) ∧ W.cell? ⟨w.heap.size, 13, none⟩ = some (.slice u1 Wd.length cw) ∧ Hid (Below W0.heap.size W0 W))) W → Below W0.heap.size W0 W) := hide (fun W h => h.2.2.2.2.2.2.2.2.out)
  have T10 : Hid (∀ W, Below W0.heap.size W0 W → Calls Tryz.prog 10 #[.agg #[.int .i64 n, .int .i64 m, .slice a1 St.length c1, .slice a2 Fi.length c2, .slice a3 Ed.length c3]] W fun e w' => ∃ g1 k1 g2 k2 g3 k3, e = .returned (.agg #[.int .i64 n, .int .i64 m, .slice (some ⟨g1, 0, none⟩) St.length k1, .slice (some ⟨g2, 0, none⟩) Fi.length k2, .slice (some ⟨g3, 0, none⟩) Ed.length k3]) ∧ Hid (RdA w' (some ⟨g1, 0, none⟩) (some ⟨g2, 0, none⟩) (some ⟨g3, 0, none⟩) St Fi Ed) ∧ Below W0.heap.size W0 w' ∧ Below W.heap.size W w') := hide (fun W d => by
    refine (twin_any W n m a1 a2 a3 c1 c2 c3 St Fi Ed (hide (hA.out.on (D0.out.trans (d.mono D0.out.size)))) (by omega) (by omega) (by omega)).mono ?_
    rintro e w' ⟨g1, k1, g2, k2, g3, k3, he, ht, dd⟩
    exact ⟨g1, k1, g2, k2, g3, k3, he, hide ht.out.rd, d.trans (dd.mono d.size), dd⟩)
  have T11q : Hid (∀ W, Below W0.heap.size W0 W → Calls Tryz.prog 11 #[.slice q1 Q.length cq] W fun e w' => ∃ g c, e = .returned (.slice (some ⟨g, 0, none⟩) Q.length c) ∧ Hid (RdN w' (some ⟨g, 0, none⟩) Q) ∧ Below W0.heap.size W0 w' ∧ Below W.heap.size W w') := hide (fun W d => by
    refine (ints_any W q1 Q cq (hide (hQ.out.on (D0.out.trans (d.mono D0.out.size)))) (by omega)).mono ?_
    rintro e w' ⟨g, c, he, hm, dd⟩
    exact ⟨g, c, he, hide hm.out.rd, d.trans (dd.mono d.size), dd⟩)
  have T11u : Hid (∀ W, Below W0.heap.size W0 W → Calls Tryz.prog 11 #[.slice u1 Wd.length cw] W fun e w' => ∃ g c, e = .returned (.slice (some ⟨g, 0, none⟩) Wd.length c) ∧ Hid (RdN w' (some ⟨g, 0, none⟩) Wd) ∧ Below W0.heap.size W0 w' ∧ Below W.heap.size W w') := hide (fun W d => by
    refine (ints_any W u1 Wd cw (hide (hU.out.on (D0.out.trans (d.mono D0.out.size)))) (by omega)).mono ?_
    rintro e w' ⟨g, c, he, hm, dd⟩
    exact ⟨g, c, he, hide hm.out.rd, d.trans (dd.mono d.size), dd⟩)
  have TA : Hid (∀ W, Below W0.heap.size W0 W → TabAt W ∧ 0 < W.heap.size) := hide (fun W d => by
    have d2 := D0.out.trans (d.mono D0.out.size)
    exact ⟨hT.out.1.below d2 hT.out.2, Nat.lt_of_lt_of_le hT.out.2 d2.size⟩)
  have T8 : Calls Tryz.prog 8 #[] W0 fun e w' => e = .returned (.bool true) ∧ Below W0.heap.size W0 w' := works_any W0 (hide (TA.out W0 (Below.refl _ _)))
  go_enter Tryz.func4, Tryz.ntmps4
  go_upto_region 3 with (go_at_call 8; refine T8.mono ?_; rintro e w1 ⟨rfl, d1⟩)
  have D1 := hide d1
  clear T8 d1
  obtain ⟨r, hr⟩ : ∃ r, imgErr n m St Fi Ed Q sym = r := ⟨_, rfl⟩
  have TP : Hid (∀ (W : World) (g1 k1 g2 k2 g3 k3 gq kq : Nat), Below W0.heap.size W0 W → RdA W (some ⟨g1, 0, none⟩) (some ⟨g2, 0, none⟩) (some ⟨g3, 0, none⟩) St Fi Ed → RdN W (some ⟨gq, 0, none⟩) Q → Calls Tryz.prog 15 #[.agg #[.int .i64 n, .int .i64 m, .slice (some ⟨g1, 0, none⟩) St.length k1, .slice (some ⟨g2, 0, none⟩) Fi.length k2, .slice (some ⟨g3, 0, none⟩) Ed.length k3], .slice (some ⟨gq, 0, none⟩) Q.length kq, .int .i64 sym] W fun e w' => e = .returned (.tuple #[.slice none 0 0, .int .i64 r]) ∧ Below W0.heap.size W0 w') := hide (fun W g1 k1 g2 k2 g3 k3 gq kq d hA hQ => by
    have t := post_bad W n m (some ⟨g1, 0, none⟩) (some ⟨g2, 0, none⟩) (some ⟨g3, 0, none⟩) (some ⟨gq, 0, none⟩) k1 k2 k3 kq St Fi Ed Q sym (hide hA) (hide hQ) (by omega) (by omega) (by omega) (by omega) (hide hbad)
    rw [hr] at t
    exact t.mono fun e w' ⟨h, dd⟩ => ⟨h, d.trans (dd.mono d.size)⟩)
  have TR : Hid (∀ (W : World) (g1 k1 g2 k2 g3 k3 gq kq : Nat), Below W0.heap.size W0 W → RdA W (some ⟨g1, 0, none⟩) (some ⟨g2, 0, none⟩) (some ⟨g3, 0, none⟩) St Fi Ed → RdN W (some ⟨gq, 0, none⟩) Q → Calls Tryz.prog 16 #[.agg #[.int .i64 n, .int .i64 m, .slice (some ⟨g1, 0, none⟩) St.length k1, .slice (some ⟨g2, 0, none⟩) Fi.length k2, .slice (some ⟨g3, 0, none⟩) Ed.length k3], .slice (some ⟨gq, 0, none⟩) Q.length kq, .int .i64 sym] W fun e w' => e = .returned (.tuple #[.slice none 0 0, .int .i64 r]) ∧ Below W0.heap.size W0 w') := hide (fun W g1 k1 g2 k2 g3 k3 gq kq d hA hQ => by
    have t := pre_bad W n m (some ⟨g1, 0, none⟩) (some ⟨g2, 0, none⟩) (some ⟨g3, 0, none⟩) (some ⟨gq, 0, none⟩) k1 k2 k3 kq St Fi Ed Q sym (hide hA) (hide hQ) (by omega) (by omega) (by omega) (by omega) (hide hbad)
    rw [hr] at t
    exact t.mono fun e w' ⟨h, dd⟩ => ⟨h, d.trans (dd.mono d.size)⟩)
  have hr0 : r ≠ 0 := by rw [← hr]; exact hbad
  have hr1 : (r != 0) = true := by simpa using hr0
  have hr2 : (r == r) = true := by simp
  clear hr hbad
  go_cut [3, 4] from 3 to 28 (fun pv ev W => pv = .slice none 0 0 ∧ ev = .int .i64 r ∧ Hid (Below W0.heap.size W0 W))
  case first =>
    have S0 := SK.out w1.drew D1.out.drew
    go_region_held3 (fun W => (W.cell? ⟨w.heap.size, 0, none⟩ = some (.int .i64 n) ∧ W.cell? ⟨w.heap.size, 1, none⟩ = some (.int .i64 m) ∧ W.cell? ⟨w.heap.size, 2, none⟩ = some (.slice a1 St.length c1) ∧ W.cell? ⟨w.heap.size, 3, none⟩ = some (.slice a2 Fi.length c2) ∧ W.cell? ⟨w.heap.size, 4, none⟩ = some (.slice a3 Ed.length c3) ∧ W.cell? ⟨w.heap.size, 10, none⟩ = some (.slice q1 Q.length cq) ∧ W.cell? ⟨w.heap.size, 12, none⟩ = some (.int .i64 sym) ∧ W.cell? ⟨w.heap.size, 13, none⟩ = some (.slice u1 Wd.length cw) ∧ Hid (Below W0.heap.size W0 W)))
      (with_reducible assumption)
      ((first
        | (go_at_call 10; refine (T10.out _ (SD.out _ (by with_reducible assumption))).mono ?_; rintro e wa ⟨g1, k1, g2, k2, g3, k3, rfl, hA1, Da, da⟩; have Sa := SK.out wa Da)
        | (go_at_call 11; refine (T11q.out _ (SD.out _ (by with_reducible assumption))).mono ?_; rintro e wb ⟨gq, kq, rfl, hQ1, Db, db⟩; have Sb := SK.out wb Db; have hA2 := hide (hA1.out.on db))
        | (go_at_call 15; refine (TP.out _ _ _ _ _ _ _ _ _ (SD.out _ (by with_reducible assumption)) hA2.out hQ1.out).mono ?_; rintro e wc ⟨rfl, Dc⟩; have Sc := SK.out wc Dc)))
    all_goals (
      go_wp2_with fail
      go_meet
      exact ⟨rfl, rfl, hide Dc⟩)
  case rest =>
    obtain ⟨rfl, rfl, HB⟩ := hcut
    rename World => wx
    clear D1 w1
    go_upto_region 4 with fail
    go_cut [5, 6] from 5 to 40 (fun pv ev W => pv = .slice none 0 0 ∧ ev = .int .i64 r ∧ Hid (Below W0.heap.size W0 W))
    case first =>
      have S0 := SK.out wx.drew HB.out.drew
      go_region_held3 (fun W => (W.cell? ⟨w.heap.size, 0, none⟩ = some (.int .i64 n) ∧ W.cell? ⟨w.heap.size, 1, none⟩ = some (.int .i64 m) ∧ W.cell? ⟨w.heap.size, 2, none⟩ = some (.slice a1 St.length c1) ∧ W.cell? ⟨w.heap.size, 3, none⟩ = some (.slice a2 Fi.length c2) ∧ W.cell? ⟨w.heap.size, 4, none⟩ = some (.slice a3 Ed.length c3) ∧ W.cell? ⟨w.heap.size, 10, none⟩ = some (.slice q1 Q.length cq) ∧ W.cell? ⟨w.heap.size, 12, none⟩ = some (.int .i64 sym) ∧ W.cell? ⟨w.heap.size, 13, none⟩ = some (.slice u1 Wd.length cw) ∧ Hid (Below W0.heap.size W0 W)))
        (with_reducible assumption)
        ((first
          | (go_at_call 10; refine (T10.out _ (SD.out _ (by with_reducible assumption))).mono ?_; rintro e wa ⟨g1, k1, g2, k2, g3, k3, rfl, hA1, Da, da⟩; have Sa := SK.out wa Da)
          | (go_at_call 11; refine (T11q.out _ (SD.out _ (by with_reducible assumption))).mono ?_; rintro e wb ⟨gq, kq, rfl, hQ1, Db, db⟩; have Sb := SK.out wb Db; have hA2 := hide (hA1.out.on db))
          | (go_at_call 16; refine (TR.out _ _ _ _ _ _ _ _ _ (SD.out _ (by with_reducible assumption)) hA2.out hQ1.out).mono ?_; rintro e wc ⟨rfl, Dc⟩; have Sc := SK.out wc Dc)))
      all_goals (
        go_wp2_with fail
        go_meet
        exact ⟨rfl, rfl, hide Dc⟩)
    case rest =>
      obtain ⟨rfl, rfl, HC⟩ := hcut
      go_wp2
      refine bodyPost_ret (results_tmp rfl _ _ _) rfl ?_
      exact ⟨rfl, D0.out.trans (HC.out.mono D0.out.size)⟩
end Go.Proofs.YtfoahpideglghaaGreatDoor
