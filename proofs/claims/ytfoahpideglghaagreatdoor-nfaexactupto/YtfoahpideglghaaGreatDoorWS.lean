import Derived.Test.YtfoahpideglghaaGreatDoorEq
namespace Go.Proofs.YtfoahpideglghaaGreatDoor
open Go.RowKit Go.Maps Go.Shelf
attribute [local go_sem] Oper.semAt_some

/-! ### The small automaton's answers -/
theorem smE_rise : riseE smE = smE := ss_eq _ _ (riseE_ss smE) (by unfold SsE smE; decide) (riseE_iff smE)
theorem rise_one (x : Int) : riseL [x] = [x] := by
  unfold riseL sortI
  rw [List.mergeSort_singleton]
  apply Lib.compact_all
  intro j hj
  obtain rfl : j = 0 := by simpa using hj
  simp [Lib.keeps]
theorem small_acc0 (w : World) (g1 g2 g3 : Nat) (hA : Hid (RdA w (some ⟨g1, 0, none⟩) (some ⟨g2, 0, none⟩) (some ⟨g3, 0, none⟩) [0] [2] smE)) (hT : Hid (TabAt w ∧ 0 < w.heap.size)) (h : Nat) (hr : Hid (RdN w (some ⟨h, 0, none⟩) [1, 1, 0])) : Calls Tryz.prog 9 #[.agg #[.int .i64 3, .int .i64 2, .slice (some ⟨g1, 0, none⟩) 1 1, .slice (some ⟨g2, 0, none⟩) 1 1, .slice (some ⟨g3, 0, none⟩) 4 4], .slice (some ⟨h, 0, none⟩) 3 3] w fun e w' => e = .returned (.tuple #[.bool true, .int .i64 0]) ∧ Below w.heap.size w w' := by
  have t := Accepts_ok w 3 2 (some ⟨g1, 0, none⟩) (some ⟨g2, 0, none⟩) (some ⟨g3, 0, none⟩) (some ⟨h, 0, none⟩) 1 1 4 3 [0] [2] smE [1, 1, 0] hA hr hT (by decide) (by decide) (by decide) (by decide) (by decide)
  rw [show (!decide (wordF smE (setI 3 [0]) [1, 1, 0] &&& setI 3 [2] = 0)) = true by decide] at t
  exact t
theorem small_acc1 (w : World) (g1 g2 g3 : Nat) (hA : Hid (RdA w (some ⟨g1, 0, none⟩) (some ⟨g2, 0, none⟩) (some ⟨g3, 0, none⟩) [0] [2] smE)) (hT : Hid (TabAt w ∧ 0 < w.heap.size)) (h : Nat) (hr : Hid (RdN w (some ⟨h, 0, none⟩) [1])) : Calls Tryz.prog 9 #[.agg #[.int .i64 3, .int .i64 2, .slice (some ⟨g1, 0, none⟩) 1 1, .slice (some ⟨g2, 0, none⟩) 1 1, .slice (some ⟨g3, 0, none⟩) 4 4], .slice (some ⟨h, 0, none⟩) 1 1] w fun e w' => e = .returned (.tuple #[.bool false, .int .i64 0]) ∧ Below w.heap.size w w' := by
  have t := Accepts_ok w 3 2 (some ⟨g1, 0, none⟩) (some ⟨g2, 0, none⟩) (some ⟨g3, 0, none⟩) (some ⟨h, 0, none⟩) 1 1 4 1 [0] [2] smE [1] hA hr hT (by decide) (by decide) (by decide) (by decide) (by decide)
  rw [show (!decide (wordF smE (setI 3 [0]) [1] &&& setI 3 [2] = 0)) = false by decide] at t
  exact t
theorem small_path (w : World) (g1 g2 g3 : Nat) (hA : Hid (RdA w (some ⟨g1, 0, none⟩) (some ⟨g2, 0, none⟩) (some ⟨g3, 0, none⟩) [0] [2] smE)) (hT : Hid (TabAt w ∧ 0 < w.heap.size)) (h : Nat) (hr : Hid (RdN w (some ⟨h, 0, none⟩) [1, 0])) : Calls Tryz.prog 12 #[.agg #[.int .i64 3, .int .i64 2, .slice (some ⟨g1, 0, none⟩) 1 1, .slice (some ⟨g2, 0, none⟩) 1 1, .slice (some ⟨g3, 0, none⟩) 4 4], .slice (some ⟨h, 0, none⟩) 2 2] w fun e w' => ∃ g c, e = .returned (.tuple #[.slice (some ⟨g, 0, none⟩) 3 c, .int .i64 0]) ∧ Hid (w'.ownsRow w.heap.size 3 1 (.slice (some ⟨g, 0, none⟩) 3 c) 3 (intV [0, 1, 2])) ∧ Below w.heap.size w w' := by
  have t := Path_ok w 3 2 (some ⟨g1, 0, none⟩) (some ⟨g2, 0, none⟩) (some ⟨g3, 0, none⟩) (some ⟨h, 0, none⟩) 1 1 4 2 [0] [2] smE [1, 0] hA hr hT (by decide) (by decide) (by decide) (by decide) (by decide) 0 (hide (by decide)) (by decide)
  rw [smE_rise, show pathF smE (restF smE (setI 3 [2]) [1, 0]) [1, 0] 0 (([1, 0] : List Int).length + 1) = [0, 1, 2] by decide] at t
  exact t
theorem small_post (w : World) (g1 g2 g3 : Nat) (hA : Hid (RdA w (some ⟨g1, 0, none⟩) (some ⟨g2, 0, none⟩) (some ⟨g3, 0, none⟩) [0] [2] smE)) (hT : Hid (TabAt w ∧ 0 < w.heap.size)) (h : Nat) (hr : Hid (RdN w (some ⟨h, 0, none⟩) [0])) : Calls Tryz.prog 15 #[.agg #[.int .i64 3, .int .i64 2, .slice (some ⟨g1, 0, none⟩) 1 1, .slice (some ⟨g2, 0, none⟩) 1 1, .slice (some ⟨g3, 0, none⟩) 4 4], .slice (some ⟨h, 0, none⟩) 1 1, .int .i64 1] w fun e w' => ∃ g c, e = .returned (.tuple #[.slice (some ⟨g, 0, none⟩) 2 c, .int .i64 0]) ∧ Hid (w'.ownsRow w.heap.size 3 1 (.slice (some ⟨g, 0, none⟩) 2 c) 2 (intV [0, 1])) ∧ Below w.heap.size w w' := by
  have t := post_ok w 3 2 (some ⟨g1, 0, none⟩) (some ⟨g2, 0, none⟩) (some ⟨g3, 0, none⟩) (some ⟨h, 0, none⟩) 1 1 4 1 [0] [2] smE [0] 1 hT hA hr (by decide) (by decide) (by decide) (by decide) (hide (by decide)) (hide (by decide)) (hide (by decide))
  rw [show elems 3 (imgF false (setI 3 [0]) 1 smE) = [0, 1] by decide] at t
  exact t
theorem small_normal (w : World) (g1 g2 g3 : Nat) (hA : Hid (RdA w (some ⟨g1, 0, none⟩) (some ⟨g2, 0, none⟩) (some ⟨g3, 0, none⟩) [0] [2] smE)) : Calls Tryz.prog 21 #[.agg #[.int .i64 3, .int .i64 2, .slice (some ⟨g1, 0, none⟩) 1 1, .slice (some ⟨g2, 0, none⟩) 1 1, .slice (some ⟨g3, 0, none⟩) 4 4]] w fun e w' => ∃ f1 k1 f2 k2 f3 k3, e = .returned (.tuple #[.agg #[.int .i64 3, .int .i64 2, .slice (some ⟨f1, 0, none⟩) 1 k1, .slice (some ⟨f2, 0, none⟩) 1 k2, .slice (some ⟨f3, 0, none⟩) 4 k3], .int .i64 0]) ∧ Hid (Own w.heap.size w' f1 k1 f2 k2 f3 k3 [0] [2] smE) ∧ Below w.heap.size w w' := by
  have t := normal_ok w 3 2 (some ⟨g1, 0, none⟩) (some ⟨g2, 0, none⟩) (some ⟨g3, 0, none⟩) 1 1 4 [0] [2] smE hA (by decide) (by decide) (by decide) (by decide)
  rw [smE_rise, rise_one, rise_one] at t
  exact t
end Go.Proofs.YtfoahpideglghaaGreatDoor
namespace Go.Proofs.YtfoahpideglghaaGreatDoor
open Go.RowKit Go.Maps Go.Shelf
attribute [local go_sem] Oper.semAt_some

theorem rd_lit (w : World) (L : List Int) : RdN (w.alloc (.cells (L.map (Value.int .i64)).toArray 3)) (some ⟨w.heap.size, 0, none⟩) L := fun j hj => by
  refine ⟨_, _, rfl, ?_⟩
  rw [Nat.zero_add]
  exact cell_of (World.alloc_heap_new _ _) (by simp [hj])
theorem alloc_below (w : World) (o : Obj) : Below w.heap.size w (w.alloc o) := (Below.refl _ _).alloc (Nat.le_refl _) _
/-- What has been drawn is nothing. -/
theorem below_same {W U V X : World} (d : Below V.heap.size V X) (h : Below W.heap.size W U) (h1 : V.heap = U.heap) (h2 : V.os = U.os) (h3 : V.tape = U.tape) (h4 : V.output = U.output) : Below W.heap.size W X := by
  have hs := h.size
  have ds := d.size
  rw [h1] at ds
  refine ⟨(d.os.trans h2).trans h.os, (d.tape.trans h3).trans h.tape, (d.output.trans h4).trans h.output, Nat.le_trans hs ds, fun k hk => ?_⟩
  have e := d.block k (by rw [h1]; omega)
  rw [e, h1]
  exact h.block k hk
theorem below_al {W U V : World} (h : Below W.heap.size W U) (o : Obj) (h1 : V.heap = (U.alloc o).heap) (h2 : V.os = U.os) (h3 : V.tape = U.tape) (h4 : V.output = U.output) : Below W.heap.size W V := by
  have d := h.alloc h.size o
  exact ⟨h2.trans h.os, h3.trans h.tape, h4.trans h.output, by rw [h1]; exact d.size, fun k hk => by rw [h1]; exact d.block k hk⟩
set_option maxRecDepth 100000 in
set_option maxHeartbeats 4000000 in
theorem works_any (w : World) (hT : Hid (TabAt w ∧ 0 < w.heap.size)) : Calls Tryz.prog 8 #[] w fun e w' => e = .returned (.bool true) ∧ Below w.heap.size w w' := by
  have TA : Hid (∀ W, Below w.heap.size w W → TabAt W ∧ 0 < W.heap.size) := hide (fun W d => ⟨hT.out.1.below d hT.out.2, Nat.lt_of_lt_of_le hT.out.2 d.size⟩)
  have D0 : Hid (Below w.heap.size w w) := hide (Below.refl _ _)
  go_enter Tryz.func8, Tryz.ntmps8
  go_upto_region 2 with (first
    | (go_at_call 50; refine (small_any _).mono ?_; rintro e wA1 ⟨g1, g2, g3, rfl, hA, dA⟩; have dB := alloc_below wA1 (.cells #[.int .i64 1, .int .i64 1, .int .i64 0] 3); have DB : Below w.heap.size w (wA1.alloc (.cells #[.int .i64 1, .int .i64 1, .int .i64 0] 3)) := D0.out.trans ((dA.mono D0.out.size).trans (dB.mono (Nat.le_trans D0.out.size dA.size))); have T := small_acc0 (wA1.alloc (.cells #[.int .i64 1, .int .i64 1, .int .i64 0] 3)) g1 g2 g3 (hide (hA.out.on dB)) (hide (TA.out _ DB)) wA1.heap.size (hide (rd_lit wA1 [1, 1, 0])))
    | (go_at_call 9; refine T.mono ?_; rintro e w1 ⟨rfl, d⟩))
  have D1 : Hid (Below w.heap.size w w1) := hide (DB.trans (d.mono DB.size))
  clear T d DB dB dA hA
  go_upto_region 3 with (first
    | (go_at_call 50; refine (small_any _).mono ?_; rintro e wA2 ⟨g1, g2, g3, rfl, hA, dA⟩; have dB := alloc_below wA2 (.cells #[.int .i64 1] 3); have DB : Below w.heap.size w (wA2.alloc (.cells #[.int .i64 1] 3)) := D1.out.trans ((dA.mono D1.out.size).trans (dB.mono (Nat.le_trans D1.out.size dA.size))); have T := small_acc1 (wA2.alloc (.cells #[.int .i64 1] 3)) g1 g2 g3 (hide (hA.out.on dB)) (hide (TA.out _ DB)) wA2.heap.size (hide (rd_lit wA2 [1])))
    | (go_at_call 9; refine T.mono ?_; rintro e w2 ⟨rfl, d⟩))
  have D2 : Hid (Below w.heap.size w w2) := hide (DB.trans (d.mono DB.size))
  clear T d DB dB dA hA
  go_upto_region 4 with (first
    | (go_at_call 50; refine (small_any _).mono ?_; rintro e wA3 ⟨g1, g2, g3, rfl, hA, dA⟩; have dB := alloc_below wA3 (.cells #[.int .i64 1, .int .i64 0] 3); have DB : Below w.heap.size w (wA3.alloc (.cells #[.int .i64 1, .int .i64 0] 3)) := D2.out.trans ((dA.mono D2.out.size).trans (dB.mono (Nat.le_trans D2.out.size dA.size))); have T := small_path (wA3.alloc (.cells #[.int .i64 1, .int .i64 0] 3)) g1 g2 g3 (hide (hA.out.on dB)) (hide (TA.out _ DB)) wA3.heap.size (hide (rd_lit wA3 [1, 0])))
    | (go_at_call 12; refine T.mono ?_; rintro e w3 ⟨gp, cp, rfl, hr, d⟩))
  have D3 : Hid (Below w.heap.size w w3) := hide (DB.trans (d.mono DB.size))
  have HP : Hid (w3.ownsRow w.heap.size 3 1 (.slice (some ⟨gp, 0, none⟩) 3 cp) 3 (intV [0, 1, 2])) := hide (owns_down hr.out DB.size)
  clear hr
  clear T d DB dB dA hA
  go_upto_region 5 with (first
    | (go_at_call 50; refine (small_any _).mono ?_; rintro e wA4 ⟨g1, g2, g3, rfl, hA, dA⟩; have dB := alloc_below wA4 (.cells #[.int .i64 0] 3); have DB : Below w.heap.size w (wA4.alloc (.cells #[.int .i64 0] 3)) := D3.out.trans ((dA.mono D3.out.size).trans (dB.mono (Nat.le_trans D3.out.size dA.size))); have T := small_post (wA4.alloc (.cells #[.int .i64 0] 3)) g1 g2 g3 (hide (hA.out.on dB)) (hide (TA.out _ DB)) wA4.heap.size (hide (rd_lit wA4 [0])))
    | (go_at_call 15; refine T.mono ?_; rintro e w4 ⟨gq, cq, rfl, hr, d⟩))
  have D4 : Hid (Below w.heap.size w w4) := hide (DB.trans (d.mono DB.size))
  have D3s : Below w3.heap.size w3 w4 := dA.trans ((dB.mono dA.size).trans (d.mono (Nat.le_trans dA.size dB.size)))
  have HS : Hid (w4.ownsRow w.heap.size 3 1 (.slice (some ⟨gq, 0, none⟩) 2 cq) 2 (intV [0, 1])) := hide (owns_down hr.out DB.size)
  clear hr
  clear T d DB dB dA hA
  go_upto_region 6 with (first
    | (go_at_call 50; refine (small_any _).mono ?_; rintro e wA5 ⟨g1, g2, g3, rfl, hA, dA⟩; have DB : Below w.heap.size w wA5 := D4.out.trans (dA.mono D4.out.size); have T := small_normal wA5 g1 g2 g3 hA)
    | (go_at_call 21; refine T.mono ?_; rintro e w5 ⟨f1, k1, f2, k2, f3, k3, rfl, hO, d⟩))
  obtain ⟨W6, hW6⟩ : ∃ W6, w5.alloc (.cells #[.int .i64 3, .int .i64 2, .slice (some ⟨f1, 0, none⟩) 1 k1, .slice (some ⟨f2, 0, none⟩) 1 k2, .slice (some ⟨f3, 0, none⟩) 4 k3] 25) = W6 := ⟨_, rfl⟩
  rw [hW6]
  have d6 : Below w5.heap.size w5 W6 := by rw [← hW6]; exact alloc_below _ _
  have b6 : W6.heap[w5.heap.size]? = some (.cells #[.int .i64 3, .int .i64 2, .slice (some ⟨f1, 0, none⟩) 1 k1, .slice (some ⟨f2, 0, none⟩) 1 k2, .slice (some ⟨f3, 0, none⟩) 4 k3] 25 (0, 0)) := by rw [← hW6]; exact World.alloc_heap_new _ _
  have D5 := DB.trans (d.mono DB.size)
  have D6 : Hid (Below w.heap.size w W6) := hide (D5.trans (d6.mono D5.size))
  have d36 : Below w4.heap.size w4 W6 := (dA.trans (d.mono dA.size)).trans (d6.mono (Nat.le_trans dA.size d.size))
  have RA : Hid (RdN W6 (some ⟨gp, 0, none⟩) [0, 1, 2]) := hide ((rdN_own (X := [0, 1, 2]) HP.out (List.prefix_refl _)).on (D3s.trans (d36.mono D3s.size)))
  have RB : Hid (RdN W6 (some ⟨gq, 0, none⟩) [0, 1]) := hide ((rdN_own (X := [0, 1]) HS.out (List.prefix_refl _)).on d36)
  have RC : Hid (RdA W6 (some ⟨f1, 0, none⟩) (some ⟨f2, 0, none⟩) (some ⟨f3, 0, none⟩) [0] [2] smE) := hide ⟨(rdN_own (X := [0]) hO.out.s (List.prefix_refl _)).on d6, (rdN_own (X := [2]) hO.out.f (List.prefix_refl _)).on d6, (rdE_own hO.out.e).on d6⟩
  have T1 : Hid (∀ (W : World) (h : Nat), Below W6.heap.size W6 W → RdN W (some ⟨h, 0, none⟩) [0, 1, 2] → Calls Tryz.prog 20 #[.slice (some ⟨gp, 0, none⟩) 3 cp, .slice (some ⟨h, 0, none⟩) 3 3] W fun e w' => e = .returned (.bool true) ∧ Below W.heap.size W w') := hide (fun W h dW hr => sameInts_any W (some ⟨gp, 0, none⟩) (some ⟨h, 0, none⟩) [0, 1, 2] [0, 1, 2] cp 3 (hide (RA.out.on dW)) (hide hr) (by decide) (by decide))
  have T2 : Hid (∀ (W : World) (h : Nat), Below W6.heap.size W6 W → RdN W (some ⟨h, 0, none⟩) [0, 1] → Calls Tryz.prog 20 #[.slice (some ⟨gq, 0, none⟩) 2 cq, .slice (some ⟨h, 0, none⟩) 2 2] W fun e w' => e = .returned (.bool true) ∧ Below W.heap.size W w') := hide (fun W h dW hr => sameInts_any W (some ⟨gq, 0, none⟩) (some ⟨h, 0, none⟩) [0, 1] [0, 1] cq 2 (hide (RB.out.on dW)) (hide hr) (by decide) (by decide))
  have SK : Hid (∀ W, Below W6.heap.size W6 W → W.cell? ⟨w5.heap.size, 0, none⟩ = some (.int .i64 3) ∧ W.cell? ⟨w5.heap.size, 1, none⟩ = some (.int .i64 2) ∧ W.cell? ⟨w5.heap.size, 2, none⟩ = some (.slice (some ⟨f1, 0, none⟩) 1 k1) ∧ W.cell? ⟨w5.heap.size, 3, none⟩ = some (.slice (some ⟨f2, 0, none⟩) 1 k2) ∧ W.cell? ⟨w5.heap.size, 4, none⟩ = some (.slice (some ⟨f3, 0, none⟩) 4 k3)) := hide (fun W dW => by
    have e := blk_on b6 dW
    exact ⟨cell_of e rfl, cell_of e rfl, cell_of e rfl, cell_of e rfl, cell_of e rfl⟩)
  have S0 := SK.out W6 (Below.refl _ _)
  clear hA dA DB T hO d b6 d6 D5 d36 hW6 HP HS
  go_region_held3 (fun W => W.cell? ⟨w5.heap.size, 0, none⟩ = some (.int .i64 3) ∧ W.cell? ⟨w5.heap.size, 1, none⟩ = some (.int .i64 2) ∧ W.cell? ⟨w5.heap.size, 2, none⟩ = some (.slice (some ⟨f1, 0, none⟩) 1 k1) ∧ W.cell? ⟨w5.heap.size, 3, none⟩ = some (.slice (some ⟨f2, 0, none⟩) 1 k2) ∧ W.cell? ⟨w5.heap.size, 4, none⟩ = some (.slice (some ⟨f3, 0, none⟩) 4 k3))
    (first | go_keep | assumption)
    ((first
      | (go_at_call_of 20 gp; refine (T1.out _ _ (by exact below_al (Below.refl _ W6) (.cells #[.int .i64 0, .int .i64 1, .int .i64 2] 3) rfl rfl rfl rfl) (by exact rd_lit W6 [0, 1, 2])).mono ?_; rintro e w7 ⟨rfl, d7⟩; have D7 : Below W6.heap.size W6 w7 := below_same d7 (alloc_below W6 (.cells #[.int .i64 0, .int .i64 1, .int .i64 2] 3)) rfl rfl rfl rfl; have S7 := SK.out w7 D7)
      | (go_at_call_of 20 gq; refine (T2.out _ _ (by exact below_al D7 (.cells #[.int .i64 0, .int .i64 1] 3) rfl rfl rfl rfl) (by exact rd_lit w7 [0, 1])).mono ?_; rintro e w8 ⟨rfl, d8⟩; have D8 : Below W6.heap.size W6 w8 := below_same d8 (D7.alloc D7.size (.cells #[.int .i64 0, .int .i64 1] 3)) rfl rfl rfl rfl; have S8 := SK.out w8 D8)
      | (go_at_call 50; refine (small_any _).mono ?_; rintro e w9 ⟨h1, h2, h3, rfl, hA9, d9⟩; have D9 : Below W6.heap.size W6 w9 := below_same d9 D8 rfl rfl rfl rfl; have S9 := SK.out w9 D9)
      | (go_at_call 25; refine (equal_yes _ 3 2 (some ⟨f1, 0, none⟩) (some ⟨f2, 0, none⟩) (some ⟨f3, 0, none⟩) (some ⟨h1, 0, none⟩) (some ⟨h2, 0, none⟩) (some ⟨h3, 0, none⟩) k1 k2 k3 1 1 4 [0] [2] smE (by exact hide (RC.out.on D9)) (by exact hide hA9.out) (by decide) (by decide) (by decide)).mono ?_; rintro e wq ⟨rfl, dq⟩; have Dq : Below W6.heap.size W6 wq := below_same dq D9 rfl rfl rfl rfl; have Sq := SK.out wq Dq)))
  all_goals (
    go_wp2_with fail
    refine bodyPost_ret (results_tmp rfl _ _ _) rfl ?_
    exact ⟨rfl, D6.out.trans (Dq.mono D6.out.size)⟩)
end Go.Proofs.YtfoahpideglghaaGreatDoor
