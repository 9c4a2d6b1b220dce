import Derived.Test.YtfoahpideglghaaGreatDoorRs
import Derived.Test.YtfoahpideglghaaGreatDoorWS
import Derived.Test.YtfoahpideglghaaGreatDoorIb
import Derived.Deep.RegionHeld3
namespace Go.Proofs.YtfoahpideglghaaGreatDoor
open Go.RowKit Go.Maps Go.Shelf
attribute [local go_sem] Oper.semAt_some

/-! ### NfaMakesWords -/
set_option maxRecDepth 100000 in
set_option maxHeartbeats 4000000 in
theorem words_bad (w : World) (n : Int) (m nb mb sym kk : Int) (a1 a2 a3 b1 b2 b3 q1 p1 u1 o1 : Option Addr) (c1 c2 c3 d1 d2 d3 lq cq lp cp cw co : Nat) (St Fi Sb Fb Wd To : List Int) (Ed Eb : List EdT) (hT : Hid (TabAt w ∧ 0 < w.heap.size)) (hA : Hid (RdA w a1 a2 a3 St Fi Ed)) (h1 : St.length ≤ 1048576) (h2 : Fi.length ≤ 1048576) (h3 : Ed.length ≤ 1048576) (em : mayA n m St Fi Ed = false) :
    Calls Tryz.prog 5 #[.agg #[.int .i64 n, .int .i64 m, .slice a1 St.length c1, .slice a2 Fi.length c2, .slice a3 Ed.length c3, .int .i64 nb, .int .i64 mb, .slice b1 Sb.length d1, .slice b2 Fb.length d2, .slice b3 Eb.length d3, .slice q1 lq cq, .slice p1 lp cp, .int .i64 sym, .slice u1 Wd.length cw, .int .i64 kk, .slice o1 To.length co]] w fun e w' => e = .returned (.bool true) ∧ Below w.heap.size w w' := by
  obtain ⟨W0, hW0⟩ : ∃ W0, w.alloc (.cells #[.int .i64 n, .int .i64 m, .slice a1 St.length c1, .slice a2 Fi.length c2, .slice a3 Ed.length c3, .int .i64 nb, .int .i64 mb, .slice b1 Sb.length d1, .slice b2 Fb.length d2, .slice b3 Eb.length d3, .slice q1 lq cq, .slice p1 lp cp, .int .i64 sym, .slice u1 Wd.length cw, .int .i64 kk, .slice o1 To.length co] 27) = W0 := ⟨_, rfl⟩
  have D0 : Hid (Below w.heap.size w W0) := hide (by rw [← hW0]; exact alloc_below _ _)
  have B0 : Hid (W0.heap[w.heap.size]? = some (.cells #[.int .i64 n, .int .i64 m, .slice a1 St.length c1, .slice a2 Fi.length c2, .slice a3 Ed.length c3, .int .i64 nb, .int .i64 mb, .slice b1 Sb.length d1, .slice b2 Fb.length d2, .slice b3 Eb.length d3, .slice q1 lq cq, .slice p1 lp cp, .int .i64 sym, .slice u1 Wd.length cw, .int .i64 kk, .slice o1 To.length co] 27 (0, 0))) := hide (by rw [← hW0]; exact World.alloc_heap_new _ _)
  have KW : Hid (∀ W, Below W0.heap.size W0 W → Below w.heap.size w W) := hide (fun W d => D0.out.trans (d.mono D0.out.size))
  have T10 : Hid (∀ W, Below W0.heap.size W0 W → Calls Tryz.prog 10 #[.agg #[.int .i64 n, .int .i64 m, .slice a1 St.length c1, .slice a2 Fi.length c2, .slice a3 Ed.length c3]] W fun e w' => ∃ s1 ks1 s2 ks2 s3 ks3, e = .returned (.agg #[.int .i64 n, .int .i64 m, .slice (some ⟨s1, 0, none⟩) (St).length ks1, .slice (some ⟨s2, 0, none⟩) (Fi).length ks2, .slice (some ⟨s3, 0, none⟩) (Ed).length ks3]) ∧ Hid (RdA w' (some ⟨s1, 0, none⟩) (some ⟨s2, 0, none⟩) (some ⟨s3, 0, none⟩) (St) (Fi) (Ed)) ∧ Below W0.heap.size W0 w' ∧ Below W.heap.size W w') := hide (fun W d => by
    refine (twin_any W n m a1 a2 a3 c1 c2 c3 St Fi Ed (hide (hA.out.on (KW.out W d))) (by omega) (by omega) (by omega)).mono ?_
    rintro e w' ⟨g1, k1, g2, k2, g3, k3, he, ht, dd⟩
    exact ⟨g1, k1, g2, k2, g3, k3, he, hide ht.out.rd, d.trans (dd.mono d.size), dd⟩)
  have T8 : Calls Tryz.prog 8 #[] W0 fun e w' => e = .returned (.bool true) ∧ Below W0.heap.size W0 w' := works_any W0 (hide ⟨hT.out.1.below D0.out hT.out.2, Nat.lt_of_lt_of_le hT.out.2 D0.out.size⟩)
  have SK : Hid (∀ W, Below W0.heap.size W0 W → (fun W => (W.cell? ⟨w.heap.size, 0, none⟩ = some (.int .i64 n) ∧ W.cell? ⟨w.heap.size, 1, none⟩ = some (.int .i64 m) ∧ W.cell? ⟨w.heap.size, 2, none⟩ = some (.slice a1 St.length c1) ∧ W.cell? ⟨w.heap.size, 3, none⟩ = some (.slice a2 Fi.length c2) ∧ W.cell? ⟨w.heap.size, 4, none⟩ = some (.slice a3 Ed.length c3) ∧ Hid (Below W0.heap.size W0 W))) W) := hide (fun W d => by
    have e0 := blk_on B0.out d
    exact ⟨cell_of e0 rfl, cell_of e0 rfl, cell_of e0 rfl, cell_of e0 rfl, cell_of e0 rfl, hide d⟩)
  have SD : Hid (∀ W, (fun W => (W.cell? ⟨w.heap.size, 0, none⟩ = some (.int .i64 n) ∧ W.cell? ⟨w.heap.size, 1, none⟩ = some (.int .i64 m) ∧ W.cell? ⟨w.heap.size, 2, none⟩ = some (.slice a1 St.length c1) ∧ W.cell? ⟨w.heap.size, 3, none⟩ = some (.slice a2 Fi.length c2) ∧ W.cell? ⟨w.heap.size, 4, none⟩ = some (.slice a3 Ed.length c3) ∧ Hid (Below W0.heap.size W0 W))) W → Below W0.heap.size W0 W) := hide (fun W h => h.2.2.2.2.2.out)
  have TN : Hid (∀ (W : World) (s1 ks1 s2 ks2 s3 ks3 : Nat), Below W0.heap.size W0 W → RdA W (some ⟨s1, 0, none⟩) (some ⟨s2, 0, none⟩) (some ⟨s3, 0, none⟩) (St) (Fi) (Ed) → Calls Tryz.prog 21 #[.agg #[.int .i64 n, .int .i64 m, .slice (some ⟨s1, 0, none⟩) (St).length ks1, .slice (some ⟨s2, 0, none⟩) (Fi).length ks2, .slice (some ⟨s3, 0, none⟩) (Ed).length ks3]] W fun e w' => e = .returned (.tuple #[.agg #[.int .i64 0, .int .i64 0, .slice none 0 0, .slice none 0 0, .slice none 0 0], .int .i64 2]) ∧ Below W0.heap.size W0 w') := hide (fun W s1 ks1 s2 ks2 s3 ks3 d hR =>
    (normal_bad W n m (some ⟨s1, 0, none⟩) (some ⟨s2, 0, none⟩) (some ⟨s3, 0, none⟩) ks1 ks2 ks3 St Fi Ed (hide hR) (by omega) (by omega) (by omega) em).mono fun e w' ⟨h, dd⟩ => ⟨h, d.trans (dd.mono d.size)⟩)
  have TV : Hid (∀ (W : World) (s1 ks1 s2 ks2 s3 ks3 : Nat), Below W0.heap.size W0 W → RdA W (some ⟨s1, 0, none⟩) (some ⟨s2, 0, none⟩) (some ⟨s3, 0, none⟩) (St) (Fi) (Ed) → Calls Tryz.prog 22 #[.agg #[.int .i64 n, .int .i64 m, .slice (some ⟨s1, 0, none⟩) (St).length ks1, .slice (some ⟨s2, 0, none⟩) (Fi).length ks2, .slice (some ⟨s3, 0, none⟩) (Ed).length ks3]] W fun e w' => e = .returned (.int .i64 2) ∧ Below W0.heap.size W0 w') := hide (fun W s1 ks1 s2 ks2 s3 ks3 d hR => by
    have t := valid_any W n m (some ⟨s1, 0, none⟩) (some ⟨s2, 0, none⟩) (some ⟨s3, 0, none⟩) ks1 ks2 ks3 St Fi Ed (hide hR) (by omega) (by omega) (by omega)
    rw [em] at t
    exact t.mono fun e w' ⟨h, dd⟩ => ⟨h, d.trans (dd.mono d.size)⟩)
  clear em
  go_enter Tryz.func5, Tryz.ntmps5
  go_upto_region 3 with (go_at_call 8; refine T8.mono ?_; rintro e w1 ⟨rfl, D1⟩)
  obtain ⟨y0, y1, y2, y3, y4, _⟩ := SK.out w1 D1
  go_upto_region 5 with (first
    | (go_at_call 10; refine (T10.out _ D1).mono ?_; rintro e w2 ⟨s1, ks1, s2, ks2, s3, ks3, rfl, hA1, D2, d2⟩)
    | (go_at_call 21; refine (TN.out _ _ _ _ _ _ _ D2 hA1.out).mono ?_; rintro e w3 ⟨rfl, D3⟩; have D4 : Below W0.heap.size W0 (w3.alloc (.cells #[.int .i64 0, .int .i64 0, .slice none 0 0, .slice none 0 0, .slice none 0 0] 25)) := D3.alloc D3.size _; have Sz := SK.out _ D4))
  obtain ⟨X, hX⟩ : ∃ X, w3.alloc (.cells #[.int .i64 0, .int .i64 0, .slice none 0 0, .slice none 0 0, .slice none 0 0] 25) = X := ⟨_, rfl⟩
  rw [hX] at D4 Sz
  clear y0 y1 y2 y3 y4
  obtain ⟨y0, y1, y2, y3, y4, _⟩ := Sz
  go_wp2_with (first
    | (go_at_call 10; refine (T10.out _ D4).mono ?_; rintro e w5 ⟨t1, kt1, t2, kt2, t3, kt3, rfl, hA2, D5, d5⟩)
    | (go_at_call 22; refine (TV.out _ _ _ _ _ _ _ D5 hA2.out).mono ?_; rintro e w6 ⟨rfl, D6⟩))
  refine bodyPost_ret (results_tmp rfl _ _ _) rfl ?_
  exact ⟨rfl, KW.out _ D6⟩
end Go.Proofs.YtfoahpideglghaaGreatDoor
