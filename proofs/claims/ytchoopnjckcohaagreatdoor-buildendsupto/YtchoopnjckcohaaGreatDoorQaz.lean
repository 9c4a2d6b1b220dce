import Derived.Test.YtchoopnjckcohaaGreatDoorQay
namespace Go.Proofs.YtchoopnjckcohaaGreatDoor
open Go.RowKit Go.Maps Go.Shelf
attribute [local go_sem] Oper.semAt_some

/-! ### BuildEnds of what is no automaton -/
set_option maxRecDepth 100000 in
set_option maxHeartbeats 4000000 in
theorem tends_bad (w : World) (n m n' m' at' : Int) (a1 a2 a3 b1 b2 b3 aw av : Option Addr) (n1 n2 n3 l1 l2 l3 nw nv c1 c2 c3 d1 d2 d3 cw cv : Nat) (St Fi Wd : List Int) (Ed : List EdT) (en : Hid (St.length = n1 ∧ Fi.length = n2 ∧ Ed.length = n3 ∧ Wd.length = nw)) (hA : Hid (RdA w a1 a2 a3 St Fi Ed)) (h1 : n1 ≤ 4194304) (h2 : n2 ≤ 4194304) (h3 : n3 ≤ 4194304) (hT : Hid (TabAt w)) (h0 : 0 < w.heap.size) (em : mayA n m St Fi Ed = false) :
    Calls Tryz.prog 3 #[.agg #[.int .i64 n, .int .i64 m, .slice a1 n1 c1, .slice a2 n2 c2, .slice a3 n3 c3, .int .i64 n', .int .i64 m', .slice b1 l1 d1, .slice b2 l2 d2, .slice b3 l3 d3, .slice aw nw cw, .slice av nv cv], .int .i64 at'] w fun e w' => e = .returned (.bool true) ∧ Below w.heap.size w w' := by
  obtain ⟨W0, hW0⟩ : ∃ W0, w.alloc (.cells #[.int .i64 n, .int .i64 m, .slice a1 n1 c1, .slice a2 n2 c2, .slice a3 n3 c3, .int .i64 n', .int .i64 m', .slice b1 l1 d1, .slice b2 l2 d2, .slice b3 l3 d3, .slice aw nw cw, .slice av nv cv] 27) = W0 := ⟨_, rfl⟩
  have HB : Hid (W0.heap[w.heap.size]? = some (.cells #[.int .i64 n, .int .i64 m, .slice a1 n1 c1, .slice a2 n2 c2, .slice a3 n3 c3, .int .i64 n', .int .i64 m', .slice b1 l1 d1, .slice b2 l2 d2, .slice b3 l3 d3, .slice aw nw cw, .slice av nv cv] 27 (0, 0)) ∧ Below w.heap.size w W0 ∧ W0.heap.size = w.heap.size + 1) := hide (by rw [← hW0]; exact ⟨World.alloc_heap_new _ _, (Below.refl _ _).alloc (Nat.le_refl _) _, by simp⟩)
  have TL := lives_any W0
  go_enter Tryz.func3, Tryz.ntmps3
  go_upto_region 3 with (go_at_call 7; refine TL.mono ?_; rintro e w1 ⟨rfl, D1⟩; have H1 : Hid (w1.heap[w.heap.size]? = some (.cells #[.int .i64 n, .int .i64 m, .slice a1 n1 c1, .slice a2 n2 c2, .slice a3 n3 c3, .int .i64 n', .int .i64 m', .slice b1 l1 d1, .slice b2 l2 d2, .slice b3 l3 d3, .slice aw nw cw, .slice av nv cv] 27 (0, 0)) ∧ Below w.heap.size w w1) := hide ⟨blk_on HB.out.1 D1, HB.out.2.1.trans (D1.mono HB.out.2.1.size)⟩; clear D1)
  clear TL hW0 HB
  have T8 := prefixes_bad w1 n m a1 a2 a3 c1 c2 c3 St Fi Ed (hide (hA.out.on H1.out.2)) (by rw [en.out.1]; exact h1) (by rw [en.out.2.1]; exact h2) (by rw [en.out.2.2.1]; exact h3) (hide ⟨hT.out.below H1.out.2 h0, Nat.lt_of_lt_of_le h0 H1.out.2.size⟩) em
  rw [en.out.1, en.out.2.1, en.out.2.2.1] at T8
  have y0 : w1.cell? ⟨w.heap.size, 0, none⟩ = some (.int .i64 n) := cell_of H1.out.1 rfl
  have y1 : w1.cell? ⟨w.heap.size, 1, none⟩ = some (.int .i64 m) := cell_of H1.out.1 rfl
  have y2 : w1.cell? ⟨w.heap.size, 2, none⟩ = some (.slice a1 n1 c1) := cell_of H1.out.1 rfl
  have y3 : w1.cell? ⟨w.heap.size, 3, none⟩ = some (.slice a2 n2 c2) := cell_of H1.out.1 rfl
  have y4 : w1.cell? ⟨w.heap.size, 4, none⟩ = some (.slice a3 n3 c3) := cell_of H1.out.1 rfl
  have y5 : w1.cell? ⟨w.heap.size, 5, none⟩ = some (.int .i64 n') := cell_of H1.out.1 rfl
  have y6 : w1.cell? ⟨w.heap.size, 6, none⟩ = some (.int .i64 m') := cell_of H1.out.1 rfl
  have y7 : w1.cell? ⟨w.heap.size, 7, none⟩ = some (.slice b1 l1 d1) := cell_of H1.out.1 rfl
  have y8 : w1.cell? ⟨w.heap.size, 8, none⟩ = some (.slice b2 l2 d2) := cell_of H1.out.1 rfl
  have y9 : w1.cell? ⟨w.heap.size, 9, none⟩ = some (.slice b3 l3 d3) := cell_of H1.out.1 rfl
  have y10 : w1.cell? ⟨w.heap.size, 10, none⟩ = some (.slice aw nw cw) := cell_of H1.out.1 rfl
  have y11 : w1.cell? ⟨w.heap.size, 11, none⟩ = some (.slice av nv cv) := cell_of H1.out.1 rfl
  go_upto_region 4 with (go_at_call 8; refine T8.mono ?_; rintro e w2 ⟨rfl, D2⟩; have H2 := hide D2; clear D2)
  clear T8 y0 y1 y2 y3 y4 y5 y6 y7 y8 y9 y10 y11
  obtain ⟨w3, hw3⟩ : ∃ W, w2.alloc (.cells #[.int .i64 0, .int .i64 0, .slice none 0 0, .slice none 0 0, .slice none 0 0] 25) = W := ⟨_, rfl⟩
  have H3 : Hid (w3.heap[w.heap.size]? = some (.cells #[.int .i64 n, .int .i64 m, .slice a1 n1 c1, .slice a2 n2 c2, .slice a3 n3 c3, .int .i64 n', .int .i64 m', .slice b1 l1 d1, .slice b2 l2 d2, .slice b3 l3 d3, .slice aw nw cw, .slice av nv cv] 27 (0, 0)) ∧ Below w.heap.size w w3) := hide (by
    have k : Below w2.heap.size w2 w3 := by rw [← hw3]; exact (Below.refl _ _).alloc (Nat.le_refl _) _
    have d := H2.out.trans (k.mono H2.out.size)
    exact ⟨blk_on H1.out.1 d, H1.out.2.trans (d.mono H1.out.2.size)⟩)
  rw [hw3]
  clear hw3 H2 H1
  have T9 := suffixes_bad w3 n m a1 a2 a3 c1 c2 c3 St Fi Ed (hide (hA.out.on H3.out.2)) (by rw [en.out.1]; exact h1) (by rw [en.out.2.1]; exact h2) (by rw [en.out.2.2.1]; exact h3) (hide ⟨hT.out.below H3.out.2 h0, Nat.lt_of_lt_of_le h0 H3.out.2.size⟩) em
  rw [en.out.1, en.out.2.1, en.out.2.2.1] at T9
  have y0 : w3.cell? ⟨w.heap.size, 0, none⟩ = some (.int .i64 n) := cell_of H3.out.1 rfl
  have y1 : w3.cell? ⟨w.heap.size, 1, none⟩ = some (.int .i64 m) := cell_of H3.out.1 rfl
  have y2 : w3.cell? ⟨w.heap.size, 2, none⟩ = some (.slice a1 n1 c1) := cell_of H3.out.1 rfl
  have y3 : w3.cell? ⟨w.heap.size, 3, none⟩ = some (.slice a2 n2 c2) := cell_of H3.out.1 rfl
  have y4 : w3.cell? ⟨w.heap.size, 4, none⟩ = some (.slice a3 n3 c3) := cell_of H3.out.1 rfl
  have y5 : w3.cell? ⟨w.heap.size, 5, none⟩ = some (.int .i64 n') := cell_of H3.out.1 rfl
  have y6 : w3.cell? ⟨w.heap.size, 6, none⟩ = some (.int .i64 m') := cell_of H3.out.1 rfl
  have y7 : w3.cell? ⟨w.heap.size, 7, none⟩ = some (.slice b1 l1 d1) := cell_of H3.out.1 rfl
  have y8 : w3.cell? ⟨w.heap.size, 8, none⟩ = some (.slice b2 l2 d2) := cell_of H3.out.1 rfl
  have y9 : w3.cell? ⟨w.heap.size, 9, none⟩ = some (.slice b3 l3 d3) := cell_of H3.out.1 rfl
  have y10 : w3.cell? ⟨w.heap.size, 10, none⟩ = some (.slice aw nw cw) := cell_of H3.out.1 rfl
  have y11 : w3.cell? ⟨w.heap.size, 11, none⟩ = some (.slice av nv cv) := cell_of H3.out.1 rfl
  go_upto_region 5 with (go_at_call 9; refine T9.mono ?_; rintro e w4 ⟨rfl, D4⟩; have H4 := hide D4; clear D4)
  clear T9 y0 y1 y2 y3 y4 y5 y6 y7 y8 y9 y10 y11
  obtain ⟨w5, hw5⟩ : ∃ W, w4.alloc (.cells #[.int .i64 0, .int .i64 0, .slice none 0 0, .slice none 0 0, .slice none 0 0] 25) = W := ⟨_, rfl⟩
  have H5 : Hid (w5.heap[w.heap.size]? = some (.cells #[.int .i64 n, .int .i64 m, .slice a1 n1 c1, .slice a2 n2 c2, .slice a3 n3 c3, .int .i64 n', .int .i64 m', .slice b1 l1 d1, .slice b2 l2 d2, .slice b3 l3 d3, .slice aw nw cw, .slice av nv cv] 27 (0, 0)) ∧ Below w.heap.size w w5) := hide (by
    have k : Below w4.heap.size w4 w5 := by rw [← hw5]; exact (Below.refl _ _).alloc (Nat.le_refl _) _
    have d := H4.out.trans (k.mono H4.out.size)
    exact ⟨blk_on H3.out.1 d, H3.out.2.trans (d.mono H3.out.2.size)⟩)
  rw [hw5]
  clear hw5 H4 H3
  have TV : Hid (∀ W, Below w.heap.size w W → Calls Tryz.prog 10 #[.agg #[.int .i64 n, .int .i64 m, .slice a1 n1 c1, .slice a2 n2 c2, .slice a3 n3 c3]] W fun e w' => e = .returned (.int .i64 2) ∧ Below W.heap.size W w') := hide (fun W d => by
    have q := rvalid_any W n m a1 a2 a3 c1 c2 c3 St Fi Ed (hide (hA.out.on d)) (by rw [en.out.1]; exact h1) (by rw [en.out.2.1]; exact h2) (by rw [en.out.2.2.1]; exact h3)
    rw [en.out.1, en.out.2.1, en.out.2.2.1, em] at q
    exact q)
  clear em
  have y0 : w5.cell? ⟨w.heap.size, 0, none⟩ = some (.int .i64 n) := cell_of H5.out.1 rfl
  have y1 : w5.cell? ⟨w.heap.size, 1, none⟩ = some (.int .i64 m) := cell_of H5.out.1 rfl
  have y2 : w5.cell? ⟨w.heap.size, 2, none⟩ = some (.slice a1 n1 c1) := cell_of H5.out.1 rfl
  have y3 : w5.cell? ⟨w.heap.size, 3, none⟩ = some (.slice a2 n2 c2) := cell_of H5.out.1 rfl
  have y4 : w5.cell? ⟨w.heap.size, 4, none⟩ = some (.slice a3 n3 c3) := cell_of H5.out.1 rfl
  have y5 : w5.cell? ⟨w.heap.size, 5, none⟩ = some (.int .i64 n') := cell_of H5.out.1 rfl
  have y6 : w5.cell? ⟨w.heap.size, 6, none⟩ = some (.int .i64 m') := cell_of H5.out.1 rfl
  have y7 : w5.cell? ⟨w.heap.size, 7, none⟩ = some (.slice b1 l1 d1) := cell_of H5.out.1 rfl
  have y8 : w5.cell? ⟨w.heap.size, 8, none⟩ = some (.slice b2 l2 d2) := cell_of H5.out.1 rfl
  have y9 : w5.cell? ⟨w.heap.size, 9, none⟩ = some (.slice b3 l3 d3) := cell_of H5.out.1 rfl
  have y10 : w5.cell? ⟨w.heap.size, 10, none⟩ = some (.slice aw nw cw) := cell_of H5.out.1 rfl
  have y11 : w5.cell? ⟨w.heap.size, 11, none⟩ = some (.slice av nv cv) := cell_of H5.out.1 rfl
  go_upto_region 6 with (go_at_call 10; refine (TV.out _ H5.out.2).mono ?_; rintro e w6 ⟨rfl, D6⟩; have H6 : Hid (w6.heap[w.heap.size]? = some (.cells #[.int .i64 n, .int .i64 m, .slice a1 n1 c1, .slice a2 n2 c2, .slice a3 n3 c3, .int .i64 n', .int .i64 m', .slice b1 l1 d1, .slice b2 l2 d2, .slice b3 l3 d3, .slice aw nw cw, .slice av nv cv] 27 (0, 0)) ∧ Below w.heap.size w w6) := hide ⟨blk_on H5.out.1 D6, H5.out.2.trans (D6.mono H5.out.2.size)⟩; clear D6)
  clear y0 y1 y2 y3 y4 y5 y6 y7 y8 y9 y10 y11
  have y0 : w6.cell? ⟨w.heap.size, 0, none⟩ = some (.int .i64 n) := cell_of H6.out.1 rfl
  have y1 : w6.cell? ⟨w.heap.size, 1, none⟩ = some (.int .i64 m) := cell_of H6.out.1 rfl
  have y2 : w6.cell? ⟨w.heap.size, 2, none⟩ = some (.slice a1 n1 c1) := cell_of H6.out.1 rfl
  have y3 : w6.cell? ⟨w.heap.size, 3, none⟩ = some (.slice a2 n2 c2) := cell_of H6.out.1 rfl
  have y4 : w6.cell? ⟨w.heap.size, 4, none⟩ = some (.slice a3 n3 c3) := cell_of H6.out.1 rfl
  have y5 : w6.cell? ⟨w.heap.size, 5, none⟩ = some (.int .i64 n') := cell_of H6.out.1 rfl
  have y6 : w6.cell? ⟨w.heap.size, 6, none⟩ = some (.int .i64 m') := cell_of H6.out.1 rfl
  have y7 : w6.cell? ⟨w.heap.size, 7, none⟩ = some (.slice b1 l1 d1) := cell_of H6.out.1 rfl
  have y8 : w6.cell? ⟨w.heap.size, 8, none⟩ = some (.slice b2 l2 d2) := cell_of H6.out.1 rfl
  have y9 : w6.cell? ⟨w.heap.size, 9, none⟩ = some (.slice b3 l3 d3) := cell_of H6.out.1 rfl
  have y10 : w6.cell? ⟨w.heap.size, 10, none⟩ = some (.slice aw nw cw) := cell_of H6.out.1 rfl
  have y11 : w6.cell? ⟨w.heap.size, 11, none⟩ = some (.slice av nv cv) := cell_of H6.out.1 rfl
  go_wp2_with (go_at_call 10; refine (TV.out _ H6.out.2).mono ?_; rintro e w7 ⟨rfl, D7⟩; have H7 : Hid (Below w.heap.size w w7) := hide (H6.out.2.trans (D7.mono H6.out.2.size)); clear D7)
  go_ret
  exact ⟨rfl, H7.out⟩
end Go.Proofs.YtchoopnjckcohaaGreatDoor
