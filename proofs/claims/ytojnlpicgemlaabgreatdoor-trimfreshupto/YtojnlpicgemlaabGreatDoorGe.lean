import Derived.Test.YtojnlpicgemlaabGreatDoorGd
namespace Go.Proofs.YtojnlpicgemlaabGreatDoor
open Go.RowKit Go.Maps Go.Shelf
attribute [local go_sem] Oper.semAt_some

/-! ### TrimFresh -/
set_option maxRecDepth 100000 in
set_option maxHeartbeats 16000000 in
theorem tfresh_bad (w : World) (n : Int) (mv : Int) (a1 a2 a3 : Option Addr) (c1 c2 c3 : Nat) (St Fi : List Int) (Ed : List EdT) (hA0 : Hid (RdA w a1 a2 a3 St Fi Ed)) (h1 : St.length ≤ 1048576) (h2 : Fi.length ≤ 1048576) (h3 : Ed.length ≤ 1048576) (hT : Hid (TabAt w)) (h0 : 0 < w.heap.size) (hm : mayA n mv St Fi Ed = false) :
    Calls Tryz.prog 3 #[.agg #[.int .i64 n, .int .i64 mv, .slice a1 St.length c1, .slice a2 Fi.length c2, .slice a3 Ed.length c3]] w fun e w' => e = .returned (.bool true) ∧ Below w.heap.size w w' := by
  obtain ⟨n1, e1⟩ : ∃ n, St.length = n := ⟨_, rfl⟩
  obtain ⟨n2, e2⟩ : ∃ n, Fi.length = n := ⟨_, rfl⟩
  obtain ⟨n3, e3⟩ : ∃ n, Ed.length = n := ⟨_, rfl⟩
  rw [e1, e2, e3]
  obtain ⟨kk1, hk1⟩ : ∃ k, n1 + 64 = k := ⟨_, rfl⟩
  obtain ⟨kk2, hk2⟩ : ∃ k, n2 + 64 = k := ⟨_, rfl⟩
  obtain ⟨kk3, hk3⟩ : ∃ k, n3 + 64 = k := ⟨_, rfl⟩
  have HE := hide (And.intro e1 (And.intro e2 e3))
  have HL := hide (And.intro (show St.length ≤ 4194304 by omega) (And.intro (show Fi.length ≤ 4194304 by omega) (show Ed.length ≤ 4194304 by omega)))
  have HLS := hide (And.intro h1 (And.intro h2 h3))
  have HK0 := hide (And.intro hk1 (And.intro hk2 hk3))
  have HM := hide hm
  obtain ⟨W0, hW0⟩ : ∃ W0, w.alloc (.cells #[.int .i64 n, .int .i64 mv, .slice a1 n1 c1, .slice a2 n2 c2, .slice a3 n3 c3] 25) = W0 := ⟨_, rfl⟩
  have HB : Hid (W0.heap[w.heap.size]? = some (.cells #[.int .i64 n, .int .i64 mv, .slice a1 n1 c1, .slice a2 n2 c2, .slice a3 n3 c3] 25 (0, 0)) ∧ Below w.heap.size w W0) := hide (by rw [← hW0]; exact ⟨World.alloc_heap_new _ _, (Below.refl _ _).alloc (Nat.le_refl _) _⟩)
  have TW := twinA_any W0 n mv St Fi Ed a1 a2 a3 c1 c2 c3 (hide ⟨hA0.out.s.on HB.out.2, hA0.out.f.on HB.out.2, hA0.out.e.on HB.out.2⟩) HL.out.1 HL.out.2.1 HL.out.2.2
  rw [e1, e2, e3, hk1, hk2, hk3] at TW
  have q0 : W0.cell? ⟨w.heap.size, 0, none⟩ = some (.int .i64 n) := cell_of HB.out.1 rfl
  have q1 : W0.cell? ⟨w.heap.size, 1, none⟩ = some (.int .i64 mv) := cell_of HB.out.1 rfl
  have q2 : W0.cell? ⟨w.heap.size, 2, none⟩ = some (.slice a1 n1 c1) := cell_of HB.out.1 rfl
  have q3 : W0.cell? ⟨w.heap.size, 3, none⟩ = some (.slice a2 n2 c2) := cell_of HB.out.1 rfl
  have q4 : W0.cell? ⟨w.heap.size, 4, none⟩ = some (.slice a3 n3 c3) := cell_of HB.out.1 rfl
  clear e1 e2 e3 hk1 hk2 hk3 h1 h2 h3 hm
  go_enter Tryz.func3, Tryz.ntmps3
  go_wp2_with fail
  refine TW.mono ?_
  rintro e w1 ⟨x1, x2, x3, rfl, hTw, _, d1⟩
  have H1 : Hid (w1.heap[w.heap.size]? = some (.cells #[.int .i64 n, .int .i64 mv, .slice a1 n1 c1, .slice a2 n2 c2, .slice a3 n3 c3] 25 (0, 0)) ∧ TwA w1 x1 x2 x3 St Fi Ed ∧ Below w.heap.size w w1) := hide ⟨blk_on HB.out.1 d1, hTw, HB.out.2.trans (d1.mono HB.out.2.size)⟩
  clear TW hTw d1 hW0 HB q0 q1 q2 q3 q4
  go_upto_region 2 with fail
  obtain ⟨bX, hbX⟩ : ∃ k, w1.heap.size = k := ⟨_, rfl⟩
  rw [hbX]
  obtain ⟨wX, hwX⟩ : ∃ W, w1.alloc (.cells #[.int .i64 n, .int .i64 mv, .slice (some ⟨x1, 0, none⟩) n1 kk1, .slice (some ⟨x2, 0, none⟩) n2 kk2, .slice (some ⟨x3, 0, none⟩) n3 kk3] 25) = W := ⟨_, rfl⟩
  rw [hwX]
  have HX : Hid (wX.heap[w.heap.size]? = some (.cells #[.int .i64 n, .int .i64 mv, .slice a1 n1 c1, .slice a2 n2 c2, .slice a3 n3 c3] 25 (0, 0)) ∧ wX.heap[bX]? = some (.cells #[.int .i64 n, .int .i64 mv, .slice (some ⟨x1, 0, none⟩) n1 kk1, .slice (some ⟨x2, 0, none⟩) n2 kk2, .slice (some ⟨x3, 0, none⟩) n3 kk3] 25 (0, 0)) ∧ TwA wX x1 x2 x3 St Fi Ed ∧ Below w.heap.size w wX) := hide (by
    have d : Below w1.heap.size w1 wX := by rw [← hwX]; exact (Below.refl _ _).alloc (Nat.le_refl _) _
    exact ⟨blk_on H1.out.1 d, by rw [← hwX, ← hbX]; exact World.alloc_heap_new _ _, H1.out.2.1.on d, H1.out.2.2.trans (d.mono H1.out.2.2.size)⟩)
  have GX : Hid (∀ W, Below wX.heap.size wX W → TwA W x1 x2 x3 St Fi Ed ∧ RdA W a1 a2 a3 St Fi Ed ∧ TabAt W ∧ 0 < W.heap.size ∧ (W.cell? ⟨w.heap.size, 0, none⟩ = some (.int .i64 n) ∧ W.cell? ⟨w.heap.size, 1, none⟩ = some (.int .i64 mv) ∧ W.cell? ⟨w.heap.size, 2, none⟩ = some (.slice a1 n1 c1) ∧ W.cell? ⟨w.heap.size, 3, none⟩ = some (.slice a2 n2 c2) ∧ W.cell? ⟨w.heap.size, 4, none⟩ = some (.slice a3 n3 c3)) ∧ (W.cell? ⟨bX, 0, none⟩ = some (.int .i64 n) ∧ W.cell? ⟨bX, 1, none⟩ = some (.int .i64 mv) ∧ W.cell? ⟨bX, 2, none⟩ = some (.slice (some ⟨x1, 0, none⟩) n1 kk1) ∧ W.cell? ⟨bX, 3, none⟩ = some (.slice (some ⟨x2, 0, none⟩) n2 kk2) ∧ W.cell? ⟨bX, 4, none⟩ = some (.slice (some ⟨x3, 0, none⟩) n3 kk3)) ∧ Below w.heap.size w W) := hide (fun W d => by
    have dw := HX.out.2.2.2.trans (d.mono HX.out.2.2.2.size)
    exact ⟨HX.out.2.2.1.on d, ⟨hA0.out.s.on dw, hA0.out.f.on dw, hA0.out.e.on dw⟩, hT.out.below dw h0, Nat.lt_of_lt_of_le h0 dw.size, ⟨cell_of (blk_on HX.out.1 d) rfl, cell_of (blk_on HX.out.1 d) rfl, cell_of (blk_on HX.out.1 d) rfl, cell_of (blk_on HX.out.1 d) rfl, cell_of (blk_on HX.out.1 d) rfl⟩, ⟨cell_of (blk_on HX.out.2.1 d) rfl, cell_of (blk_on HX.out.2.1 d) rfl, cell_of (blk_on HX.out.2.1 d) rfl, cell_of (blk_on HX.out.2.1 d) rfl, cell_of (blk_on HX.out.2.1 d) rfl⟩, dw⟩)
  clear hwX hbX H1
  obtain ⟨_, _, _, _, _, ⟨q0, q1, q2, q3, q4⟩, _⟩ := GX.out wX (Below.refl _ _)
  have T5 : Calls Tryz.prog 5 #[.agg #[.int .i64 n, .int .i64 mv, .slice (some ⟨x1, 0, none⟩) n1 kk1, .slice (some ⟨x2, 0, none⟩) n2 kk2, .slice (some ⟨x3, 0, none⟩) n3 kk3]] wX fun e w' => e = .returned (.tuple #[.agg #[.int .i64 0, .int .i64 0, .slice none 0 0, .slice none 0 0, .slice none 0 0], .slice none 0 0, .int .i64 2]) ∧ Below wX.heap.size wX w' := by
    obtain ⟨tx, _⟩ := GX.out wX (Below.refl _ _)
    have t := trim_bad wX n mv (some ⟨x1, 0, none⟩) (some ⟨x2, 0, none⟩) (some ⟨x3, 0, none⟩) kk1 kk2 kk3 St Fi Ed (hide ⟨padN_reads tx.s, padN_reads tx.f, edPad_reads tx.e⟩) HL.out.1 HL.out.2.1 HL.out.2.2 HM.out
    rw [HE.out.1, HE.out.2.1, HE.out.2.2] at t
    exact t
  go_upto_region 3 with (go_at_call 5; refine T5.mono ?_; rintro e w2 ⟨rfl, d2⟩)
  obtain ⟨wT, hwT⟩ : ∃ W, w2.alloc (.cells #[.int .i64 0, .int .i64 0, .slice none 0 0, .slice none 0 0, .slice none 0 0] 25) = W := ⟨_, rfl⟩
  rw [hwT]
  have DT : Hid (Below wX.heap.size wX wT) := hide (by
    have d : Below w2.heap.size w2 wT := by rw [← hwT]; exact (Below.refl _ _).alloc (Nat.le_refl _) _
    exact d2.trans (d.mono d2.size))
  clear T5 d2 hwT q0 q1 q2 q3 q4
  obtain ⟨_, _, g3, g4, _, _, dw⟩ := GX.out wT DT.out
  have TK := known_any wT (hide g3) g4
  have HDw := hide dw
  clear g3 g4 dw
  go_wp2_with fail
  refine TK.mono ?_
  rintro e w4 ⟨rfl, d4⟩
  have HZ := hide (HDw.out.trans (d4.mono HDw.out.size))
  clear d4 TK
  go_wp2_with fail
  go_ret
  exact ⟨rfl, HZ.out⟩
set_option maxRecDepth 100000 in
set_option maxHeartbeats 16000000 in
theorem tfresh_ok (w : World) (N : Nat) (mv : Int) (a1 a2 a3 : Option Addr) (c1 c2 c3 : Nat) (St Fi : List Int) (Ed : List EdT) (hA0 : Hid (RdA w a1 a2 a3 St Fi Ed)) (h1 : St.length ≤ 1048576) (h2 : Fi.length ≤ 1048576) (h3 : Ed.length ≤ 1048576) (hT : Hid (TabAt w)) (h0 : 0 < w.heap.size) (hm : mayA (N : Int) mv St Fi Ed = true) :
    Calls Tryz.prog 3 #[.agg #[.int .i64 (N : Int), .int .i64 mv, .slice a1 St.length c1, .slice a2 Fi.length c2, .slice a3 Ed.length c3]] w fun e w' => e = .returned (.bool true) ∧ Below w.heap.size w w' := by
  obtain ⟨n1, e1⟩ : ∃ n, St.length = n := ⟨_, rfl⟩
  obtain ⟨n2, e2⟩ : ∃ n, Fi.length = n := ⟨_, rfl⟩
  obtain ⟨n3, e3⟩ : ∃ n, Ed.length = n := ⟨_, rfl⟩
  rw [e1, e2, e3]
  obtain ⟨kk1, hk1⟩ : ∃ k, n1 + 64 = k := ⟨_, rfl⟩
  obtain ⟨kk2, hk2⟩ : ∃ k, n2 + 64 = k := ⟨_, rfl⟩
  obtain ⟨kk3, hk3⟩ : ∃ k, n3 + 64 = k := ⟨_, rfl⟩
  have HE := hide (And.intro e1 (And.intro e2 e3))
  have HL := hide (And.intro (show St.length ≤ 4194304 by omega) (And.intro (show Fi.length ≤ 4194304 by omega) (show Ed.length ≤ 4194304 by omega)))
  have HLS := hide (And.intro h1 (And.intro h2 h3))
  have HK0 := hide (And.intro hk1 (And.intro hk2 hk3))
  have HM := hide hm
  obtain ⟨W0, hW0⟩ : ∃ W0, w.alloc (.cells #[.int .i64 (N : Int), .int .i64 mv, .slice a1 n1 c1, .slice a2 n2 c2, .slice a3 n3 c3] 25) = W0 := ⟨_, rfl⟩
  have HB : Hid (W0.heap[w.heap.size]? = some (.cells #[.int .i64 (N : Int), .int .i64 mv, .slice a1 n1 c1, .slice a2 n2 c2, .slice a3 n3 c3] 25 (0, 0)) ∧ Below w.heap.size w W0) := hide (by rw [← hW0]; exact ⟨World.alloc_heap_new _ _, (Below.refl _ _).alloc (Nat.le_refl _) _⟩)
  have TW := twinA_any W0 (N : Int) mv St Fi Ed a1 a2 a3 c1 c2 c3 (hide ⟨hA0.out.s.on HB.out.2, hA0.out.f.on HB.out.2, hA0.out.e.on HB.out.2⟩) HL.out.1 HL.out.2.1 HL.out.2.2
  rw [e1, e2, e3, hk1, hk2, hk3] at TW
  have q0 : W0.cell? ⟨w.heap.size, 0, none⟩ = some (.int .i64 (N : Int)) := cell_of HB.out.1 rfl
  have q1 : W0.cell? ⟨w.heap.size, 1, none⟩ = some (.int .i64 mv) := cell_of HB.out.1 rfl
  have q2 : W0.cell? ⟨w.heap.size, 2, none⟩ = some (.slice a1 n1 c1) := cell_of HB.out.1 rfl
  have q3 : W0.cell? ⟨w.heap.size, 3, none⟩ = some (.slice a2 n2 c2) := cell_of HB.out.1 rfl
  have q4 : W0.cell? ⟨w.heap.size, 4, none⟩ = some (.slice a3 n3 c3) := cell_of HB.out.1 rfl
  clear e1 e2 e3 hk1 hk2 hk3 h1 h2 h3 hm
  go_enter Tryz.func3, Tryz.ntmps3
  go_wp2_with fail
  refine TW.mono ?_
  rintro e w1 ⟨x1, x2, x3, rfl, hTw, _, d1⟩
  have H1 : Hid (w1.heap[w.heap.size]? = some (.cells #[.int .i64 (N : Int), .int .i64 mv, .slice a1 n1 c1, .slice a2 n2 c2, .slice a3 n3 c3] 25 (0, 0)) ∧ TwA w1 x1 x2 x3 St Fi Ed ∧ Below w.heap.size w w1) := hide ⟨blk_on HB.out.1 d1, hTw, HB.out.2.trans (d1.mono HB.out.2.size)⟩
  clear TW hTw d1 hW0 HB q0 q1 q2 q3 q4
  go_upto_region 2 with fail
  obtain ⟨bX, hbX⟩ : ∃ k, w1.heap.size = k := ⟨_, rfl⟩
  rw [hbX]
  obtain ⟨wX, hwX⟩ : ∃ W, w1.alloc (.cells #[.int .i64 (N : Int), .int .i64 mv, .slice (some ⟨x1, 0, none⟩) n1 kk1, .slice (some ⟨x2, 0, none⟩) n2 kk2, .slice (some ⟨x3, 0, none⟩) n3 kk3] 25) = W := ⟨_, rfl⟩
  rw [hwX]
  have HX : Hid (wX.heap[w.heap.size]? = some (.cells #[.int .i64 (N : Int), .int .i64 mv, .slice a1 n1 c1, .slice a2 n2 c2, .slice a3 n3 c3] 25 (0, 0)) ∧ wX.heap[bX]? = some (.cells #[.int .i64 (N : Int), .int .i64 mv, .slice (some ⟨x1, 0, none⟩) n1 kk1, .slice (some ⟨x2, 0, none⟩) n2 kk2, .slice (some ⟨x3, 0, none⟩) n3 kk3] 25 (0, 0)) ∧ TwA wX x1 x2 x3 St Fi Ed ∧ Below w.heap.size w wX) := hide (by
    have d : Below w1.heap.size w1 wX := by rw [← hwX]; exact (Below.refl _ _).alloc (Nat.le_refl _) _
    exact ⟨blk_on H1.out.1 d, by rw [← hwX, ← hbX]; exact World.alloc_heap_new _ _, H1.out.2.1.on d, H1.out.2.2.trans (d.mono H1.out.2.2.size)⟩)
  have GX : Hid (∀ W, Below wX.heap.size wX W → TwA W x1 x2 x3 St Fi Ed ∧ RdA W a1 a2 a3 St Fi Ed ∧ TabAt W ∧ 0 < W.heap.size ∧ (W.cell? ⟨w.heap.size, 0, none⟩ = some (.int .i64 (N : Int)) ∧ W.cell? ⟨w.heap.size, 1, none⟩ = some (.int .i64 mv) ∧ W.cell? ⟨w.heap.size, 2, none⟩ = some (.slice a1 n1 c1) ∧ W.cell? ⟨w.heap.size, 3, none⟩ = some (.slice a2 n2 c2) ∧ W.cell? ⟨w.heap.size, 4, none⟩ = some (.slice a3 n3 c3)) ∧ (W.cell? ⟨bX, 0, none⟩ = some (.int .i64 (N : Int)) ∧ W.cell? ⟨bX, 1, none⟩ = some (.int .i64 mv) ∧ W.cell? ⟨bX, 2, none⟩ = some (.slice (some ⟨x1, 0, none⟩) n1 kk1) ∧ W.cell? ⟨bX, 3, none⟩ = some (.slice (some ⟨x2, 0, none⟩) n2 kk2) ∧ W.cell? ⟨bX, 4, none⟩ = some (.slice (some ⟨x3, 0, none⟩) n3 kk3)) ∧ Below w.heap.size w W) := hide (fun W d => by
    have dw := HX.out.2.2.2.trans (d.mono HX.out.2.2.2.size)
    exact ⟨HX.out.2.2.1.on d, ⟨hA0.out.s.on dw, hA0.out.f.on dw, hA0.out.e.on dw⟩, hT.out.below dw h0, Nat.lt_of_lt_of_le h0 dw.size, ⟨cell_of (blk_on HX.out.1 d) rfl, cell_of (blk_on HX.out.1 d) rfl, cell_of (blk_on HX.out.1 d) rfl, cell_of (blk_on HX.out.1 d) rfl, cell_of (blk_on HX.out.1 d) rfl⟩, ⟨cell_of (blk_on HX.out.2.1 d) rfl, cell_of (blk_on HX.out.2.1 d) rfl, cell_of (blk_on HX.out.2.1 d) rfl, cell_of (blk_on HX.out.2.1 d) rfl, cell_of (blk_on HX.out.2.1 d) rfl⟩, dw⟩)
  clear hwX hbX H1
  obtain ⟨_, _, _, _, _, ⟨q0, q1, q2, q3, q4⟩, _⟩ := GX.out wX (Below.refl _ _)
  obtain ⟨TS, hTS⟩ : ∃ L, renL (useX N St Fi Ed) (numT (elems N (useX N St Fi Ed))) (riseL St) = L := ⟨_, rfl⟩
  obtain ⟨TF, hTF⟩ : ∃ L, renL (useX N St Fi Ed) (numT (elems N (useX N St Fi Ed))) (riseL Fi) = L := ⟨_, rfl⟩
  obtain ⟨TE, hTE⟩ : ∃ L, renE (useX N St Fi Ed) (numT (elems N (useX N St Fi Ed))) (riseE Ed) = L := ⟨_, rfl⟩
  obtain ⟨TO, hTO⟩ : ∃ L, natL (elems N (useX N St Fi Ed)) = L := ⟨_, rfl⟩
  obtain ⟨K, hK⟩ : ∃ K, (elems N (useX N St Fi Ed)).length = K := ⟨_, rfl⟩
  obtain ⟨m1, hm1⟩ : ∃ n, TS.length = n := ⟨_, rfl⟩
  obtain ⟨m2, hm2⟩ : ∃ n, TF.length = n := ⟨_, rfl⟩
  obtain ⟨m3, hm3⟩ : ∃ n, TE.length = n := ⟨_, rfl⟩
  obtain ⟨mo, hmo⟩ : ∃ n, TO.length = n := ⟨_, rfl⟩
  have hbd : m1 ≤ 1048576 ∧ m2 ≤ 1048576 ∧ m3 ≤ 1048576 ∧ mo ≤ 1048576 := by
    have b := HLS.out
    have hN : N ≤ 4096 := by have := (may_parts HM.out).1; omega
    refine ⟨?_, ?_, ?_, ?_⟩
    · rw [← hm1, ← hTS]; exact Nat.le_trans (renL_len _ _ _) (Nat.le_trans (riseL_len St) b.1)
    · rw [← hm2, ← hTF]; exact Nat.le_trans (renL_len _ _ _) (Nat.le_trans (riseL_len Fi) b.2.1)
    · rw [← hm3, ← hTE]; exact Nat.le_trans (renE_len _ _ _) (Nat.le_trans (riseE_len Ed) b.2.2)
    · rw [← hmo, ← hTO, natL_len]
      unfold elems
      exact Nat.le_trans (List.length_filter_le _ _) (by rw [List.length_range]; omega)
  have P5 : Hid (∀ W, Below wX.heap.size wX W → Calls Tryz.prog 5 #[.agg #[.int .i64 (N : Int), .int .i64 mv, .slice (some ⟨x1, 0, none⟩) n1 kk1, .slice (some ⟨x2, 0, none⟩) n2 kk2, .slice (some ⟨x3, 0, none⟩) n3 kk3]] W fun e w' => ∃ p1 p2 p3 po k1 k2 k3 ko, e = .returned (.tuple #[.agg #[.int .i64 (K : Int), .int .i64 mv, .slice p1 m1 k1, .slice p2 m2 k2, .slice p3 m3 k3], .slice po mo ko, .int .i64 0]) ∧ Hid ((OwnL W.heap.size w' (.slice p1 m1 k1) TS ∧ OwnL W.heap.size w' (.slice p2 m2 k2) TF ∧ w'.ownsRow W.heap.size 35 3 (.slice p3 m3 k3) m3 (TE.flatMap encE) ∧ OwnL W.heap.size w' (.slice po mo ko) TO) ∧ Apt3 (.slice p1 m1 k1) (.slice p2 m2 k2) (.slice po mo ko)) ∧ Below W.heap.size W w') := hide (fun W d => by
    obtain ⟨tx, ra, gt, g0, _⟩ := GX.out W d
    have t := trim_q W N mv (some ⟨x1, 0, none⟩) (some ⟨x2, 0, none⟩) (some ⟨x3, 0, none⟩) kk1 kk2 kk3 St Fi Ed (hide ⟨padN_reads tx.s, padN_reads tx.f, edPad_reads tx.e⟩) HL.out.1 HL.out.2.1 HL.out.2.2 (hide gt) g0 HM.out
    rw [HE.out.1, HE.out.2.1, HE.out.2.2] at t
    refine t.mono ?_
    rintro e w' ⟨v1, v2, v3, vo, he, o1, o2, o3, o4, dd, ap⟩
    rw [hTS] at o1
    rw [hTF] at o2
    rw [hTE] at o3
    rw [hTO] at o4
    rw [hK] at he
    obtain ⟨p1, k1, rfl⟩ := own_slice o1
    obtain ⟨p2, k2, rfl⟩ := own_slice o2
    obtain ⟨p3, k3, rfl⟩ := own_slice o3
    obtain ⟨po, ko, rfl⟩ := own_slice o4
    rw [hm1] at he o1 ap
    rw [hm2] at he o2 ap
    rw [hm3] at he o3
    rw [hmo] at he o4 ap
    exact ⟨p1, p2, p3, po, k1, k2, k3, ko, he, hide ⟨⟨o1, o2, o3, o4⟩, ap⟩, dd⟩)
  have Hm := hide (And.intro hm1 (And.intro hm2 (And.intro hm3 hmo)))
  have HBd := hide hbd
  have HLx : Hid (TS.length ≤ 4194304 ∧ TF.length ≤ 4194304 ∧ TE.length ≤ 4194304 ∧ TO.length ≤ 4194304) := hide (by omega)
  have DX := hide (Below.refl wX.heap.size wX)
  clear hTS hTF hTE hTO hK hm1 hm2 hm3 hmo hbd
  go_upto_region 3 with (go_at_call 5; refine (P5.out wX DX.out).mono ?_; rintro e w2 ⟨p1, p2, p3, po, k1, k2, k3, ko, rfl, HO1, dd⟩)
  obtain ⟨bT, hbT⟩ : ∃ k, w2.heap.size = k := ⟨_, rfl⟩
  rw [hbT]
  obtain ⟨wT, hwT⟩ : ∃ W, w2.alloc (.cells #[.int .i64 (K : Int), .int .i64 mv, .slice p1 m1 k1, .slice p2 m2 k2, .slice p3 m3 k3] 25) = W := ⟨_, rfl⟩
  rw [hwT]
  have HTt : Hid (wT.heap[bT]? = some (.cells #[.int .i64 (K : Int), .int .i64 mv, .slice p1 m1 k1, .slice p2 m2 k2, .slice p3 m3 k3] 25 (0, 0)) ∧ (OwnL wX.heap.size wT (.slice p1 m1 k1) TS ∧ OwnL wX.heap.size wT (.slice p2 m2 k2) TF ∧ wT.ownsRow wX.heap.size 35 3 (.slice p3 m3 k3) m3 (TE.flatMap encE) ∧ OwnL wX.heap.size wT (.slice po mo ko) TO) ∧ Below wX.heap.size wX wT ∧ wT.heap.size = bT + 1) := hide (by
    have d : Below w2.heap.size w2 wT := by rw [← hwT]; exact (Below.refl _ _).alloc (Nat.le_refl _) _
    exact ⟨by rw [← hwT, ← hbT]; exact World.alloc_heap_new _ _, ⟨own_below HO1.out.1.1 d, own_below HO1.out.1.2.1 d, own_below HO1.out.1.2.2.1 d, own_below HO1.out.1.2.2.2 d⟩, dd.trans (d.mono dd.size), by rw [← hwT, ← hbT]; simp⟩)
  have HUP : Hid ((∀ k, (Value.slice p1 m1 k1).ownBlock = some k → wX.heap.size ≤ k ∧ k < bT) ∧ (∀ k, (Value.slice p2 m2 k2).ownBlock = some k → wX.heap.size ≤ k ∧ k < bT) ∧ (∀ k, (Value.slice p3 m3 k3).ownBlock = some k → wX.heap.size ≤ k ∧ k < bT) ∧ (∀ k, (Value.slice po mo ko).ownBlock = some k → wX.heap.size ≤ k ∧ k < bT)) := hide (by
    rw [← hbT]
    exact ⟨fun k hk => World.ownsRow.lt HO1.out.1.1 k hk, fun k hk => World.ownsRow.lt HO1.out.1.2.1 k hk, fun k hk => World.ownsRow.lt HO1.out.1.2.2.1 k hk, fun k hk => World.ownsRow.lt HO1.out.1.2.2.2 k hk⟩)
  have HAP := hide HO1.out.2
  clear dd hwT hbT HO1 q0 q1 q2 q3 q4
  obtain ⟨_, _, _, _, _, ⟨q0, q1, q2, q3, q4⟩, _⟩ := GX.out wT HTt.out.2.2.1
  go_upto_region 6 with (go_at_call 5; refine (P5.out wT HTt.out.2.2.1).mono ?_; rintro e w3 ⟨r1, r2, r3, ro, l1, l2, l3, lo, rfl, HO2, dd⟩)
  obtain ⟨bU, hbU⟩ : ∃ k, w3.heap.size = k := ⟨_, rfl⟩
  rw [hbU]
  obtain ⟨wU, hwU⟩ : ∃ W, w3.alloc (.cells #[.int .i64 (K : Int), .int .i64 mv, .slice r1 m1 l1, .slice r2 m2 l2, .slice r3 m3 l3] 25) = W := ⟨_, rfl⟩
  rw [hwU]
  have HU : Hid (wU.heap[bU]? = some (.cells #[.int .i64 (K : Int), .int .i64 mv, .slice r1 m1 l1, .slice r2 m2 l2, .slice r3 m3 l3] 25 (0, 0)) ∧ (OwnL wT.heap.size wU (.slice r1 m1 l1) TS ∧ OwnL wT.heap.size wU (.slice r2 m2 l2) TF ∧ wU.ownsRow wT.heap.size 35 3 (.slice r3 m3 l3) m3 (TE.flatMap encE) ∧ OwnL wT.heap.size wU (.slice ro mo lo) TO) ∧ Below wT.heap.size wT wU ∧ wT.heap.size ≤ bU) := hide (by
    have d : Below w3.heap.size w3 wU := by rw [← hwU]; exact (Below.refl _ _).alloc (Nat.le_refl _) _
    exact ⟨by rw [← hwU, ← hbU]; exact World.alloc_heap_new _ _, ⟨own_below HO2.out.1.1 d, own_below HO2.out.1.2.1 d, own_below HO2.out.1.2.2.1 d, own_below HO2.out.1.2.2.2 d⟩, dd.trans (d.mono dd.size), by rw [← hbU]; exact dd.size⟩)
  clear dd hwU hbU HO2 q0 q1 q2 q3 q4
  have DU := hide (HTt.out.2.2.1.trans (HU.out.2.2.1.mono HTt.out.2.2.1.size))
  obtain ⟨tx, ra, gt, g0, ⟨q0, q1, q2, q3, q4⟩, ⟨s0, s1, s2, s3, s4⟩, _⟩ := GX.out wU DU.out
  have T7 := freshLists_ok wU N mv x1 x2 x3 a1 a2 a3 c1 c2 c3 St Fi Ed (hide tx) (hide ra) HL.out.1 HL.out.2.1 HL.out.2.2 (hide gt) g0 HM.out
  rw [HE.out.1, HE.out.2.1, HE.out.2.2, HK0.out.1, HK0.out.2.1, HK0.out.2.2] at T7
  clear tx ra gt g0
  go_upto_region 8 with (go_at_call 7; refine T7.mono ?_; rintro e w4 ⟨rfl, d4⟩)
  have H4 : Hid (Below wU.heap.size wU w4) := hide d4
  clear T7 d4 q0 q1 q2 q3 q4 s0 s1 s2 s3 s4
  have D4 : Hid (Below wT.heap.size wT w4) := hide (HU.out.2.2.1.trans (H4.out.mono HU.out.2.2.1.size))
  have HT4 : Hid (w4.heap[bT]? = some (.cells #[.int .i64 (K : Int), .int .i64 mv, .slice p1 m1 k1, .slice p2 m2 k2, .slice p3 m3 k3] 25 (0, 0)) ∧ (OwnL wX.heap.size w4 (.slice p1 m1 k1) TS ∧ OwnL wX.heap.size w4 (.slice p2 m2 k2) TF ∧ w4.ownsRow wX.heap.size 35 3 (.slice p3 m3 k3) m3 (TE.flatMap encE) ∧ OwnL wX.heap.size w4 (.slice po mo ko) TO)) := hide ⟨blk_on HTt.out.1 D4.out, own_below HTt.out.2.1.1 D4.out, own_below HTt.out.2.1.2.1 D4.out, own_below HTt.out.2.1.2.2.1 D4.out, own_below HTt.out.2.1.2.2.2 D4.out⟩
  obtain ⟨g1, hg1⟩ : ∃ k, m1 + 64 = k := ⟨_, rfl⟩
  obtain ⟨g2, hg2⟩ : ∃ k, m2 + 64 = k := ⟨_, rfl⟩
  obtain ⟨g3, hg3⟩ : ∃ k, m3 + 64 = k := ⟨_, rfl⟩
  obtain ⟨go, hgo⟩ : ∃ k, mo + 64 = k := ⟨_, rfl⟩
  have T8 : Calls Tryz.prog 4 #[.agg #[.int .i64 (K : Int), .int .i64 mv, .slice p1 m1 k1, .slice p2 m2 k2, .slice p3 m3 k3]] w4 fun e w' => ∃ y1 y2 y3, e = .returned (.agg #[.int .i64 (K : Int), .int .i64 mv, .slice (some ⟨y1, 0, none⟩) m1 g1, .slice (some ⟨y2, 0, none⟩) m2 g2, .slice (some ⟨y3, 0, none⟩) m3 g3]) ∧ Hid (TwA w' y1 y2 y3 TS TF TE ∧ w4.heap.size ≤ y1 ∧ w4.heap.size ≤ y2 ∧ w4.heap.size ≤ y3) ∧ Below w4.heap.size w4 w' := by
    have r1 := HT4.out.2.1
    have r2 := HT4.out.2.2.1
    have r3 := HT4.out.2.2.2.1
    rw [← Hm.out.1] at r1
    rw [← Hm.out.2.1] at r2
    rw [← Hm.out.2.2.1] at r3
    have b := HBd.out
    have t := twinA_any w4 (K : Int) mv TS TF TE p1 p2 p3 k1 k2 k3 (hide ⟨own_rdN r1, own_rdN r2, own_rdE r3⟩) (by have := Hm.out.1; omega) (by have := Hm.out.2.1; omega) (by have := Hm.out.2.2.1; omega)
    rw [Hm.out.1, Hm.out.2.1, Hm.out.2.2.1, hg1, hg2, hg3] at t
    refine t.mono ?_
    rintro e w' ⟨y1, y2, y3, he, tw, hb, dd⟩
    exact ⟨y1, y2, y3, he, hide ⟨tw, hb⟩, dd⟩
  obtain ⟨q0, q1, q2, q3, q4⟩ : (w4.cell? ⟨bT, 0, none⟩ = some (.int .i64 (K : Int)) ∧ w4.cell? ⟨bT, 1, none⟩ = some (.int .i64 mv) ∧ w4.cell? ⟨bT, 2, none⟩ = some (.slice p1 m1 k1) ∧ w4.cell? ⟨bT, 3, none⟩ = some (.slice p2 m2 k2) ∧ w4.cell? ⟨bT, 4, none⟩ = some (.slice p3 m3 k3)) := ⟨cell_of HT4.out.1 rfl, cell_of HT4.out.1 rfl, cell_of HT4.out.1 rfl, cell_of HT4.out.1 rfl, cell_of HT4.out.1 rfl⟩
  go_upto_region 9 with (go_at_call 4; refine T8.mono ?_; rintro e w5 ⟨y1, y2, y3, rfl, HTw, dd⟩)
  obtain ⟨bK, hbK⟩ : ∃ k, w5.heap.size = k := ⟨_, rfl⟩
  rw [hbK]
  obtain ⟨wK, hwK⟩ : ∃ W, w5.alloc (.cells #[.int .i64 (K : Int), .int .i64 mv, .slice (some ⟨y1, 0, none⟩) m1 g1, .slice (some ⟨y2, 0, none⟩) m2 g2, .slice (some ⟨y3, 0, none⟩) m3 g3] 25) = W := ⟨_, rfl⟩
  rw [hwK]
  have HKk : Hid (wK.heap[bK]? = some (.cells #[.int .i64 (K : Int), .int .i64 mv, .slice (some ⟨y1, 0, none⟩) m1 g1, .slice (some ⟨y2, 0, none⟩) m2 g2, .slice (some ⟨y3, 0, none⟩) m3 g3] 25 (0, 0)) ∧ TwA wK y1 y2 y3 TS TF TE ∧ Below w4.heap.size w4 wK ∧ w4.heap.size ≤ bK) := hide (by
    have d : Below w5.heap.size w5 wK := by rw [← hwK]; exact (Below.refl _ _).alloc (Nat.le_refl _) _
    exact ⟨by rw [← hwK, ← hbK]; exact World.alloc_heap_new _ _, HTw.out.1.on d, dd.trans (d.mono dd.size), by rw [← hbK]; exact dd.size⟩)
  have HYb := hide HTw.out.2
  clear dd hwK hbK HTw T8 q0 q1 q2 q3 q4
  have T9 : Calls Tryz.prog 8 #[.slice po mo ko] wK fun e w' => e = .returned (.slice (some ⟨wK.heap.size, 0, none⟩) mo go) ∧ Hid (Mrw w' wK.heap.size 3 (TO.length + 64) (padN TO) (TO.length + 64)) ∧ Below wK.heap.size wK w' := by
    have r4 := own_below HT4.out.2.2.2.2 HKk.out.2.2.1
    rw [← Hm.out.2.2.2] at r4
    have t := numbersP_any po ko TO wK (hide (own_rdN r4)) (by have := Hm.out.2.2.2; have := HBd.out; omega)
    rw [Hm.out.2.2.2, hgo] at t
    refine t.mono ?_
    rintro e w' ⟨he, hM, dd⟩
    exact ⟨he, hide (by rw [Hm.out.2.2.2, hgo]; exact hM), dd⟩
  go_upto_region 10 with (go_at_call 8; refine T9.mono ?_; rintro e wB ⟨rfl, HWas, dB⟩)
  have DB : Hid (Below wK.heap.size wK wB) := hide dB
  clear T9 dB hg1 hg2 hg3 hgo
  -- everything at wB
  have D4B : Hid (Below w4.heap.size w4 wB) := hide (HKk.out.2.2.1.trans (DB.out.mono HKk.out.2.2.1.size))
  have DXB : Hid (Below wX.heap.size wX wB) := hide (by
    have e1 := DU.out.trans (H4.out.mono DU.out.size)
    exact e1.trans (D4B.out.mono e1.size))
  have HBB : Hid (wB.heap[bT]? = some (.cells #[.int .i64 (K : Int), .int .i64 mv, .slice p1 m1 k1, .slice p2 m2 k2, .slice p3 m3 k3] 25 (0, 0)) ∧ (OwnL wX.heap.size wB (.slice p1 m1 k1) TS ∧ OwnL wX.heap.size wB (.slice p2 m2 k2) TF ∧ wB.ownsRow wX.heap.size 35 3 (.slice p3 m3 k3) m3 (TE.flatMap encE) ∧ OwnL wX.heap.size wB (.slice po mo ko) TO) ∧ wB.heap[bU]? = some (.cells #[.int .i64 (K : Int), .int .i64 mv, .slice r1 m1 l1, .slice r2 m2 l2, .slice r3 m3 l3] 25 (0, 0)) ∧ (OwnL wT.heap.size wB (.slice r1 m1 l1) TS ∧ OwnL wT.heap.size wB (.slice r2 m2 l2) TF ∧ wB.ownsRow wT.heap.size 35 3 (.slice r3 m3 l3) m3 (TE.flatMap encE) ∧ OwnL wT.heap.size wB (.slice ro mo lo) TO) ∧ wB.heap[bK]? = some (.cells #[.int .i64 (K : Int), .int .i64 mv, .slice (some ⟨y1, 0, none⟩) m1 g1, .slice (some ⟨y2, 0, none⟩) m2 g2, .slice (some ⟨y3, 0, none⟩) m3 g3] 25 (0, 0)) ∧ TwA wB y1 y2 y3 TS TF TE ∧ Mrw wB wK.heap.size 3 (TO.length + 64) (padN TO) (TO.length + 64)) := hide (by
    have dUB := H4.out.trans (D4B.out.mono H4.out.size)
    exact ⟨blk_on HT4.out.1 D4B.out, ⟨own_below HT4.out.2.1 D4B.out, own_below HT4.out.2.2.1 D4B.out, own_below HT4.out.2.2.2.1 D4B.out, own_below HT4.out.2.2.2.2 D4B.out⟩, blk_on HU.out.1 dUB, ⟨own_below HU.out.2.1.1 dUB, own_below HU.out.2.1.2.1 dUB, own_below HU.out.2.1.2.2.1 dUB, own_below HU.out.2.1.2.2.2 dUB⟩, blk_on HKk.out.1 DB.out, HKk.out.2.1.on DB.out, HWas.out⟩)
  have HSz : Hid (wT.heap.size = bT + 1 ∧ wT.heap.size ≤ bU ∧ wT.heap.size ≤ w4.heap.size ∧ w4.heap.size ≤ bK ∧ w4.heap.size ≤ wK.heap.size ∧ bT < wB.heap.size ∧ (w4.heap.size ≤ y1 ∧ w4.heap.size ≤ y2 ∧ w4.heap.size ≤ y3) ∧ wX.heap.size ≤ wT.heap.size) := hide (by
    have a1 := HTt.out.2.2.2
    have a2 := D4.out.size
    have a3 := D4B.out.size
    exact ⟨a1, HU.out.2.2.2, a2, HKk.out.2.2.2, HKk.out.2.2.1.size, by omega, HYb.out, HTt.out.2.2.1.size⟩)
  clear HTt HU DU H4 D4 HT4 HKk DB D4B HWas HYb
  obtain ⟨q0, q1, q2, q3, q4⟩ : (wB.cell? ⟨bT, 0, none⟩ = some (.int .i64 (K : Int)) ∧ wB.cell? ⟨bT, 1, none⟩ = some (.int .i64 mv) ∧ wB.cell? ⟨bT, 2, none⟩ = some (.slice p1 m1 k1) ∧ wB.cell? ⟨bT, 3, none⟩ = some (.slice p2 m2 k2) ∧ wB.cell? ⟨bT, 4, none⟩ = some (.slice p3 m3 k3)) := ⟨cell_of HBB.out.1 rfl, cell_of HBB.out.1 rfl, cell_of HBB.out.1 rfl, cell_of HBB.out.1 rfl, cell_of HBB.out.1 rfl⟩
  go_upto_region 11 with fail
  clear q0 q1 q2 q3 q4
  obtain ⟨gL, hgL⟩ : ∃ g, wB.heap.size = g := ⟨_, rfl⟩
  rw [hgL]
  obtain ⟨wC, hwC⟩ : ∃ W, wB.alloc (.cells #[.slice po mo ko, .slice p1 m1 k1, .slice p2 m2 k2] 33) = W := ⟨_, rfl⟩
  rw [hwC]
  obtain ⟨vF, hvF⟩ : ∃ f, g4 (Value.slice po mo ko) (.slice p1 m1 k1) (.slice p2 m2 k2) (.slice p3 m3 k3) = f := ⟨_, rfl⟩
  obtain ⟨nF, hnF⟩ : ∃ f, g4 mo m1 m2 m3 = f := ⟨_, rfl⟩
  obtain ⟨xF, hxF⟩ : ∃ f, g4 (TO.map (Value.int .i64)) (TS.map (Value.int .i64)) (TF.map (Value.int .i64)) (TE.flatMap encE) = f := ⟨_, rfl⟩
  obtain ⟨eF, heF⟩ : ∃ f : Nat → Nat, g4 3 3 3 35 = f := ⟨_, rfl⟩
  obtain ⟨zF, hzF⟩ : ∃ f : Nat → Nat, g4 1 1 1 3 = f := ⟨_, rfl⟩
  obtain ⟨mkF, hmkF⟩ : ∃ f : Nat → Nat → Value, (fun k i => if k = 3 then (if i % 3 = 0 then .int .i64 (-((i / 3 : Nat) : Int) - 1) else .int .i64 0) else .int .i64 (-1000 * (k : Int) - (i : Int) - 1)) = f := ⟨_, rfl⟩
  obtain ⟨yF, hyF⟩ : ∃ f : Nat → List Value, (fun i => (List.range (nF i * zF i)).map (mkF i)) = f := ⟨_, rfl⟩
  have h3F : Hid (vF 3 = .slice p3 m3 k3 ∧ nF 3 = m3 ∧ zF 3 = 3 ∧ eF 3 = 35) := hide (by subst hvF hnF hzF heF; exact ⟨rfl, rfl, rfl, rfl⟩)
  have hA : Hid (∀ k, k < 3 → ∃ ao cp, vF k = .slice ao (nF k) cp ∧ (#[.slice po mo ko, .slice p1 m1 k1, .slice p2 m2 k2] : Array Value)[k]? = some (.slice ao (nF k) cp) ∧ nF k ≤ 1048576) := hide (by
    subst hvF hnF
    intro k hk
    match k, hk with
    | 0, _ => exact ⟨po, ko, rfl, rfl, HBd.out.2.2.2⟩
    | 1, _ => exact ⟨p1, k1, rfl, rfl, HBd.out.1⟩
    | 2, _ => exact ⟨p2, k2, rfl, rfl, HBd.out.2.1⟩)
  have hz1 : Hid (∀ k, k < 3 → zF k = 1) := hide (by
    subst hzF
    intro k hk
    match k, hk with
    | 0, _ => rfl
    | 1, _ => rfl
    | 2, _ => rfl)
  have he1 : Hid (∀ k, k < 3 → eF k = 3) := hide (by
    subst heF
    intro k hk
    match k, hk with
    | 0, _ => rfl
    | 1, _ => rfl
    | 2, _ => rfl)
  have hmk : Hid (∀ k i, k < 3 → mkF k i = .int .i64 (-1000 * (k : Int) - (i : Int) - 1)) := hide (fun k i hk => by rw [← hmkF]; exact if_neg (by omega))
  have hmk3 : Hid (∀ i : Nat, mkF 3 (i * 3) = .int .i64 (-(i : Int) - 1) ∧ mkF 3 (i * 3 + 1) = .int .i64 0 ∧ mkF 3 (i * 3 + 2) = .int .i64 0) := hide (fun i => by
    rw [← hmkF]
    have e0 : i * 3 % 3 = 0 := by omega
    have e1 : i * 3 / 3 = i := by omega
    have e2 : ¬ (i * 3 + 1) % 3 = 0 := by omega
    have e3 : ¬ (i * 3 + 2) % 3 = 0 := by omega
    simp only [if_true, e0, e1, e2, e3, if_false]
    exact ⟨trivial, trivial, trivial⟩)
  have hyl : Hid (∀ k, k < 3 → (yF k).length = nF k) := hide (fun k hk => by rw [← hyF]; simp [hz1.out k hk])
  have hya : Hid (∀ k, k < 3 → ∀ i, i < nF k → ∀ h : i < (yF k).length, some (yF k)[i] = some (Value.int .i64 (-1000 * (k : Int) - (i : Int) - 1))) := hide (fun k hk i hi h => by subst hyF; simp only [List.getElem_map, List.getElem_range]; rw [hmk.out k i hk])
  have hya3 : Hid (∀ i, i < m3 * 3 → ∃ h : i < (yF 3).length, (yF 3)[i] = mkF 3 i) := hide (fun i hi => by subst hyF; exact ⟨by simp [h3F.out.2.1, h3F.out.2.2.1]; exact hi, by simp⟩)
  have hRk : Hid (∀ k, (∃ i, i < 4 ∧ (vF i).ownBlock = some k) → wX.heap.size ≤ k ∧ k < bT) := hide (by
    subst hvF
    rintro k ⟨i, hi, hq⟩
    match i, hi, hq with
    | 0, _, hq => exact HUP.out.2.2.2 k hq
    | 1, _, hq => exact HUP.out.1 k hq
    | 2, _, hq => exact HUP.out.2.1 k hq
    | 3, _, hq => exact HUP.out.2.2.1 k hq)
  have HS : Hid (Gst wB 4 vF [(gL, #[.slice po mo ko, .slice p1 m1 k1, .slice p2 m2 k2], 33)]) := hide ⟨fun i hi k hk => by
      have := hRk.out k ⟨i, hi, hk⟩
      have := HSz.out.2.2.2.2.2.1
      omega, (by
      obtain ⟨o1, o2, o3, o4⟩ := HBB.out.2.1
      obtain ⟨ap1, ap2⟩ := HAP.out
      subst hvF
      intro i j hi hj hij k hk hq
      match i, j, hi, hj, hij, hk, hq with
      | 0, 1, _, _, _, hk, hq => exact (ap2 k hk).1 hq
      | 0, 2, _, _, _, hk, hq => exact (ap2 k hk).2 hq
      | 0, 3, _, _, _, hk, hq => exact tag_ne2 o4 o3 (by decide) hk hq
      | 1, 0, _, _, _, hk, hq => exact (ap2 k hq).1 hk
      | 1, 2, _, _, _, hk, hq => exact ap1 k hk hq
      | 1, 3, _, _, _, hk, hq => exact tag_ne2 o1 o3 (by decide) hk hq
      | 2, 0, _, _, _, hk, hq => exact (ap2 k hq).2 hk
      | 2, 1, _, _, _, hk, hq => exact ap1 k hq hk
      | 2, 3, _, _, _, hk, hq => exact tag_ne2 o2 o3 (by decide) hk hq
      | 3, 0, _, _, _, hk, hq => exact tag_ne2 o4 o3 (by decide) hq hk
      | 3, 1, _, _, _, hk, hq => exact tag_ne2 o1 o3 (by decide) hq hk
      | 3, 2, _, _, _, hk, hq => exact tag_ne2 o2 o3 (by decide) hq hk
      | 0, 0, _, _, h, _, _ => exact absurd rfl h
      | 1, 1, _, _, h, _, _ => exact absurd rfl h
      | 2, 2, _, _, h, _, _ => exact absurd rfl h
      | 3, 3, _, _, h, _, _ => exact absurd rfl h), fun q hq => by rw [List.mem_singleton.1 hq]; exact Nat.le_of_eq hgL⟩
  have HF : Hid (Gf wB wC 4 vF [(gL, #[.slice po mo ko, .slice p1 m1 k1, .slice p2 m2 k2], 33)] eF zF nF mkF xF (aW nF 0)) := hide (by
    have dC : Below wB.heap.size wB wC := by rw [← hwC]; exact (Below.refl _ _).alloc (Nat.le_refl _) _
    refine ⟨fun q hq => by rw [List.mem_singleton.1 hq]; show wC.heap[gL]? = _; rw [← hwC, ← hgL]; exact World.alloc_heap_new _ _, Only.ofBelow dC, ?_⟩
    intro i hi
    have e0 : aW nF 0 i = 0 := by unfold aW; rw [if_neg (by omega)]
    rw [e0, gx_zero]
    obtain ⟨o1, o2, o3, o4⟩ := HBB.out.2.1
    subst hvF hnF hxF heF hzF
    match i, hi with
    | 0, _ => have t := owns_down (own_below o4 dC) (Nat.zero_le _); rw [Hm.out.2.2.2] at t; exact t
    | 1, _ => have t := owns_down (own_below o1 dC) (Nat.zero_le _); rw [Hm.out.1] at t; exact t
    | 2, _ => have t := owns_down (own_below o2 dC) (Nat.zero_le _); rw [Hm.out.2.1] at t; exact t
    | 3, _ => exact owns_down (own_below o3 dC) (Nat.zero_le _))
  have hA2 : Hid (∀ k, k < 3 → 0 < nF k → ∀ ao cp, vF k = .slice ao (nF k) cp → ∃ g, ao = some ⟨g, 0, none⟩) := hide (fun k hk h0 ao cp hv => by
    have t := HF.out.r k (by omega)
    rw [hv] at t
    obtain ⟨g, c, e, _, _⟩ := t.form h0
    cases e
    exact ⟨g, rfl⟩)
  have hA3 : Hid (0 < m3 → ∃ g, p3 = some ⟨g, 0, none⟩) := hide (fun h => by
    have t := HF.out.r 3 (by omega)
    rw [h3F.out.1, h3F.out.2.1] at t
    obtain ⟨g, c, e, _, _⟩ := t.form h
    cases e
    exact ⟨g, rfl⟩)
  have HFull : Hid (∀ W, Gf wB W 4 vF [(gL, #[.slice po mo ko, .slice p1 m1 k1, .slice p2 m2 k2], 33)] eF zF nF mkF xF (upd (aW nF 3) 3 (m3 * 3)) → Gg wB W 4 vF [(gL, #[.slice po mo ko, .slice p1 m1 k1, .slice p2 m2 k2], 33)] yF ∧ (∀ r, r < 4 → 0 ≤ r → W.ownsRow 0 (eF r) (zF r) (vF r) (nF r) (yF r))) := hide (fun W h => by
    have q := Gf.full (z := fun i => nF i * zF i) h (fun i hi => ⟨by have t := (h.r i hi).1; rw [gx_len] at t; exact t, by
      by_cases e : i = 3
      · subst e
        rw [upd_at, h3F.out.2.1, h3F.out.2.2.1]
        exact Nat.le_refl _
      · rw [show upd (aW nF 3) 3 (m3 * 3) i = aW nF 3 i from if_neg e]
        unfold aW
        rw [if_pos (by omega), hz1.out i (by omega), Nat.mul_one]
        exact Nat.le_refl _⟩)
    subst hyF
    exact ⟨q.1, fun r hr _ => q.2 r hr⟩)
  have HKO : Hid (∀ W, Only wB W (fun k => ∃ i, i < 4 ∧ (vF i).ownBlock = some k) → (W.cell? ⟨bT, 0, none⟩ = some (.int .i64 (K : Int)) ∧ W.cell? ⟨bT, 1, none⟩ = some (.int .i64 mv) ∧ W.cell? ⟨bT, 2, none⟩ = some (.slice p1 m1 k1) ∧ W.cell? ⟨bT, 3, none⟩ = some (.slice p2 m2 k2) ∧ W.cell? ⟨bT, 4, none⟩ = some (.slice p3 m3 k3)) ∧ (W.cell? ⟨bU, 0, none⟩ = some (.int .i64 (K : Int)) ∧ W.cell? ⟨bU, 1, none⟩ = some (.int .i64 mv) ∧ W.cell? ⟨bU, 2, none⟩ = some (.slice r1 m1 l1) ∧ W.cell? ⟨bU, 3, none⟩ = some (.slice r2 m2 l2) ∧ W.cell? ⟨bU, 4, none⟩ = some (.slice r3 m3 l3)) ∧ (W.cell? ⟨bK, 0, none⟩ = some (.int .i64 (K : Int)) ∧ W.cell? ⟨bK, 1, none⟩ = some (.int .i64 mv) ∧ W.cell? ⟨bK, 2, none⟩ = some (.slice (some ⟨y1, 0, none⟩) m1 g1) ∧ W.cell? ⟨bK, 3, none⟩ = some (.slice (some ⟨y2, 0, none⟩) m2 g2) ∧ W.cell? ⟨bK, 4, none⟩ = some (.slice (some ⟨y3, 0, none⟩) m3 g3)) ∧ RdA W r1 r2 r3 TS TF TE ∧ RdN W ro TO ∧ TwA W y1 y2 y3 TS TF TE ∧ RdN W (some ⟨wK.heap.size, 0, none⟩) TO ∧ Below wX.heap.size wX W) := hide (fun W o => by
    obtain ⟨z1, z2, z3, z4, z5, z6, ⟨z7, z8, z9⟩, z0⟩ := HSz.out
    have hn : ∀ k, bT ≤ k → ¬ (fun k => ∃ i, i < 4 ∧ (vF i).ownBlock = some k) k := fun k hk hr => by have := hRk.out k hr; omega
    obtain ⟨f1, _, f2, ⟨u1, u2, u3, u4⟩, f3, tw, mw⟩ := HBB.out
    have keep : ∀ {k : Nat} {o' : Obj}, wB.heap[k]? = some o' → bT ≤ k → W.heap[k]? = some o' := fun h hk => (o.block _ (Array.getElem?_eq_some_iff.1 h).1 (hn _ hk)).trans h
    have v1 := row_only u1 o (fun k hk => hn k (by have := (World.ownsRow.lt u1 k hk).1; omega))
    have v2 := row_only u2 o (fun k hk => hn k (by have := (World.ownsRow.lt u2 k hk).1; omega))
    have v3 := row_only u3 o (fun k hk => hn k (by have := (World.ownsRow.lt u3 k hk).1; omega))
    have v4 := row_only u4 o (fun k hk => hn k (by have := (World.ownsRow.lt u4 k hk).1; omega))
    rw [← Hm.out.1] at v1
    rw [← Hm.out.2.1] at v2
    rw [← Hm.out.2.2.1] at v3
    rw [← Hm.out.2.2.2] at v4
    exact ⟨⟨cell_of (keep f1 (Nat.le_refl _)) rfl, cell_of (keep f1 (Nat.le_refl _)) rfl, cell_of (keep f1 (Nat.le_refl _)) rfl, cell_of (keep f1 (Nat.le_refl _)) rfl, cell_of (keep f1 (Nat.le_refl _)) rfl⟩, ⟨cell_of (keep f2 (by omega)) rfl, cell_of (keep f2 (by omega)) rfl, cell_of (keep f2 (by omega)) rfl, cell_of (keep f2 (by omega)) rfl, cell_of (keep f2 (by omega)) rfl⟩, ⟨cell_of (keep f3 (by omega)) rfl, cell_of (keep f3 (by omega)) rfl, cell_of (keep f3 (by omega)) rfl, cell_of (keep f3 (by omega)) rfl, cell_of (keep f3 (by omega)) rfl⟩, ⟨own_rdN v1, own_rdN v2, own_rdE v3⟩, own_rdN v4, ⟨tw.s.only o (hn _ (by omega)), tw.f.only o (hn _ (by omega)), tw.e.only o (hn _ (by omega)), tw.ne⟩, padN_reads (mw.only o (hn _ (by omega))), DXB.out.trans (o.toBelow DXB.out.size (fun k hk => (hRk.out k hk).1))⟩)
  obtain ⟨i3, hi3, hz30, hz31, hz32⟩ := info_parts info3
  obtain ⟨i5, hi5, hz50, hz51, hz52⟩ := info_parts info59
  have hb3 : m3 ≤ 1048576 := HBd.out.2.2.1
  clear hvF hnF hxF heF hzF hmkF hyF hwC hgL hRk HBB HSz HUP HAP DXB HBd
  go_wp2_with fail
  go_loopw [13] (fun kv wr => ∃ k : Nat, k ≤ 3 ∧ kv = .int .i64 (k : Int) ∧ Hid (Gf wB wr 4 vF [(gL, #[.slice po mo ko, .slice p1 m1 k1, .slice p2 m2 k2], 33)] eF zF nF mkF xF (aW nF k))) (fun kv _ => 3 - (intOf kv).toNat)
  case atStart => exact ⟨0, Nat.zero_le _, rfl, HF⟩
  case round =>
    obtain ⟨k, hk, rfl, HX⟩ := hrel
    clear HF
    by_cases hlt : k < 3
    · have i1 : (k : Int) < 3 := by omega
      have i0 : (0 : Int) ≤ (k : Int) := by omega
      obtain ⟨ao, cp, hkv, hkc, hm⟩ := hA.out k hlt
      obtain ⟨m, hmm⟩ : ∃ m, nF k = m := ⟨_, rfl⟩
      rw [hmm] at hkv hkc hm
      have HK := hide (And.intro hkv (And.intro hmm hkc))
      have HX2 := hide (show Gf wB wr 4 vF [(gL, #[.slice po mo ko, .slice p1 m1 k1, .slice p2 m2 k2], 33)] eF zF nF mkF xF (upd (aW nF k) k 0) by rw [aW_zero]; exact HX.out)
      clear hkv hmm hkc HX
      rename World => wo
      go_wp2_with fail
      go_loopw [14] (fun iv wr => ∃ i : Nat, i ≤ m ∧ iv = .int .i64 (i : Int) ∧ Hid (Gf wB wr 4 vF [(gL, #[.slice po mo ko, .slice p1 m1 k1, .slice p2 m2 k2], 33)] eF zF nF mkF xF (upd (aW nF k) k i))) (fun iv _ => m - (intOf iv).toNat)
      case atStart => exact ⟨0, Nat.zero_le _, rfl, HX2⟩
      case round =>
        obtain ⟨i, hi, rfl, HY⟩ := hrel
        clear HX2
        have q0 : wr.cell? ⟨gL, k, none⟩ = some (.slice ao m cp) := cell_of (HY.out.b (gL, #[.slice po mo ko, .slice p1 m1 k1, .slice p2 m2 k2], 33) (by simp)) HK.out.2.2
        have i2 : (0 : Int) ≤ (i : Int) := by omega
        by_cases hil : i < m
        · have i3 : (i : Int) < (m : Int) := by omega
          obtain ⟨g, rfl, hcs⟩ := HY.out.cell k (by omega) (z := 1) HK.out.1 HK.out.2.1 (hz1.out k hlt) i (by omega)
          obtain ⟨⟨u, q1⟩, f1⟩ := hcs i (by omega)
          clear hcs
          have e1 : IntKind.i64.wrap (-1000 * (k : Int)) = -1000 * (k : Int) := by rw [IntKind.wrap_i64]; omega
          have e2 : IntKind.i64.wrap (-1000 * (k : Int) - (i : Int)) = -1000 * (k : Int) - (i : Int) := by rw [IntKind.wrap_i64]; omega
          have e3 : IntKind.i64.wrap (-1000 * (k : Int) - (i : Int) - 1) = -1000 * (k : Int) - (i : Int) - 1 := by rw [IntKind.wrap_i64]; omega
          have J := hide (Gf.puti HS.out k i HY.out (by omega) HK.out.1 HK.out.2.1 (.int .i64 (-1000 * (k : Int) - (i : Int) - 1)) (hmk.out k i hlt))
          clear HY
          go_wp2_with fail
          go_roundw
          case rel => exact ⟨i + 1, by omega, by go_num, J⟩
          case measure => simp [intOf]; omega
        · obtain rfl : i = m := by omega
          have i3 : ¬ (i : Int) < (i : Int) := by omega
          have J : Hid (Gf wB wr 4 vF [(gL, #[.slice po mo ko, .slice p1 m1 k1, .slice p2 m2 k2], 33)] eF zF nF mkF xF (aW nF (k + 1))) := hide (by have q := HY.out; rw [← HK.out.2.1, aW_next] at q; exact q)
          clear HY
          go_wp2_with fail
          go_roundw
          case rel => exact ⟨k + 1, by omega, by go_num, J⟩
          case measure => simp [intOf]; omega
    · obtain rfl : k = 3 := by omega
      have i1 : ¬ ((3 : Nat) : Int) < 3 := by omega
      have HX0 := hide (show Gf wB wr 4 vF [(gL, #[.slice po mo ko, .slice p1 m1 k1, .slice p2 m2 k2], 33)] eF zF nF mkF xF (upd (aW nF 3) 3 (0 * 3)) by rw [Nat.zero_mul, aW_zero]; exact HX.out)
      clear HX
      go_upto_region 18 with fail
      go_wp2_with fail
      go_loopw [15] (fun iv wr => ∃ i : Nat, i ≤ m3 ∧ iv = .int .i64 (i : Int) ∧ Hid (Gf wB wr 4 vF [(gL, #[.slice po mo ko, .slice p1 m1 k1, .slice p2 m2 k2], 33)] eF zF nF mkF xF (upd (aW nF 3) 3 (i * 3)))) (fun iv _ => m3 - (intOf iv).toNat)
      case atStart => exact ⟨0, Nat.zero_le _, rfl, HX0⟩
      case round =>
        obtain ⟨i, hi, rfl, HY⟩ := hrel
        clear HX0
        obtain ⟨⟨q0, q1, q2, q3, q4⟩, _⟩ := HKO.out wr HY.out.on
        have j0 : (0 : Int) ≤ (i : Int) := by omega
        by_cases hil : i < m3
        · have j1 : (i : Int) < (m3 : Int) := by omega
          obtain ⟨g, hg, hcs⟩ := HY.out.cell 3 (by omega) (z := 3) h3F.out.1 h3F.out.2.1 h3F.out.2.2.1 (i * 3) (by omega)
          subst hg
          obtain ⟨⟨u0, f0⟩, z0⟩ := hcs (i * 3) (by omega)
          obtain ⟨⟨u1, f1⟩, z1⟩ := hcs (i * 3 + 1) (by omega)
          obtain ⟨⟨u2, f2⟩, z2⟩ := hcs (i * 3 + 2) (by omega)
          have e1 : IntKind.i64.wrap (-(i : Int)) = -(i : Int) := by rw [IntKind.wrap_i64]; omega
          have e2 : IntKind.i64.wrap (-(i : Int) - 1) = -(i : Int) - 1 := by rw [IntKind.wrap_i64]; omega
          have J1 := Gf.puti HS.out 3 (i * 3) HY.out (by omega) h3F.out.1 h3F.out.2.1 (.int .i64 (-(i : Int) - 1)) (hmk3.out i).1
          have J2 := Gf.puti HS.out 3 (i * 3 + 1) J1 (by omega) h3F.out.1 h3F.out.2.1 (.int .i64 0) (hmk3.out i).2.1
          have J := hide (Gf.puti HS.out 3 (i * 3 + 2) J2 (by omega) h3F.out.1 h3F.out.2.1 (.int .i64 0) (hmk3.out i).2.2)
          clear hcs HY J1 J2
          go_wp2_with fail
          go_roundw
          case rel => exact ⟨i + 1, by omega, by go_num, hide (by have t := J.out; rw [show (i + 1) * 3 = i * 3 + 2 + 1 by omega]; exact t)⟩
          case measure => simp [intOf]; omega
        · obtain rfl : m3 = i := by omega
          have j1 : ¬ (m3 : Int) < (m3 : Int) := by omega
          have HO := hide (HFull.out wr HY.out)
          clear HY
          go_upto_region 22 with fail
          clear q0 q1 q2 q3 q4
          go_wp2_with fail
          go_loopw [16, 17] (fun nv kv wr => ∃ k : Nat, k ≤ 3 ∧ nv = .int .i64 (64 * (k : Int)) ∧ kv = .int .i64 (k : Int) ∧ Hid (Gg wB wr 4 vF [(gL, #[.slice po mo ko, .slice p1 m1 k1, .slice p2 m2 k2], 33)] yF ∧ (∀ r, r < 4 → k ≤ r → wr.ownsRow 0 (eF r) (zF r) (vF r) (nF r) (yF r)))) (fun _ kv _ => 3 - (intOf kv).toNat)
          case atStart => exact ⟨0, Nat.zero_le _, rfl, rfl, HO⟩
          case round =>
            obtain ⟨k, hk, rfl, rfl, HX⟩ := hrel
            clear HO
            by_cases hlt : k < 3
            · have i1 : (k : Int) < 3 := by omega
              have i0 : (0 : Int) ≤ (k : Int) := by omega
              obtain ⟨ao, cp, hkv, hkc, hm⟩ := hA.out k hlt
              obtain ⟨m, hmm⟩ : ∃ m, nF k = m := ⟨_, rfl⟩
              rw [hmm] at hkv hkc hm
              have q0 : wr.cell? ⟨gL, k, none⟩ = some (.slice ao m cp) := cell_of (HX.out.1.b (gL, #[.slice po mo ko, .slice p1 m1 k1, .slice p2 m2 k2], 33) (by simp)) hkc
              have HK := hide (And.intro hkv (And.intro hmm hkc))
              have HZ : Hid (Gg wB wr 4 vF [(gL, #[.slice po mo ko, .slice p1 m1 k1, .slice p2 m2 k2], 33)] yF ∧ (∀ r, r < 4 → k + 1 ≤ r → wr.ownsRow 0 (eF r) (zF r) (vF r) (nF r) (yF r)) ∧ Gx wB wr (vF k) [(gL, #[.slice po mo ko, .slice p1 m1 k1, .slice p2 m2 k2], 33)] 3 1 (nF k) (yF k) [.int .i64 7] (.slice ao (m + 0) cp) 0) := hide ⟨HX.out.1, fun r hr hc => HX.out.2 r hr (by omega), Gx.zero' hkv (by have t := HX.out.2 k (by omega) (Nat.le_refl _); rw [he1.out k hlt, hz1.out k hlt] at t; exact t)⟩
              clear hkv hmm hkc HX
              rename World => wo
              go_wp2_with fail
              go_loopw [18, 19] (fun mv jv wr => ∃ j av cv, j ≤ 64 ∧ mv = .slice av (m + j) cv ∧ jv = .int .i64 (j : Nat) ∧ Hid (Gg wB wr 4 vF [(gL, #[.slice po mo ko, .slice p1 m1 k1, .slice p2 m2 k2], 33)] yF ∧ (∀ r, r < 4 → k + 1 ≤ r → wr.ownsRow 0 (eF r) (zF r) (vF r) (nF r) (yF r)) ∧ Gx wB wr (vF k) [(gL, #[.slice po mo ko, .slice p1 m1 k1, .slice p2 m2 k2], 33)] 3 1 (nF k) (yF k) [.int .i64 7] (.slice av (m + j) cv) j)) (fun _ jv _ => 64 - (intOf jv).toNat)
              case atStart => exact ⟨0, ao, cp, Nat.zero_le _, rfl, rfl, HZ⟩
              case round =>
                obtain ⟨j, av, cv, hj, rfl, rfl, HY⟩ := hrel
                clear HZ
                by_cases hjl : j < 64
                · have i2 : (j : Int) < 64 := by omega
                  have dA : Below wr.heap.size wr (wr.alloc (.cells #[.int .i64 7] 3)) := (Below.refl _ _).alloc (Nat.le_refl _) _
                  have HB := hide (And.intro (HY.out.1.below dA) (And.intro (fun (r : Nat) (hr : r < 4) (hc : k + 1 ≤ r) => own_below (HY.out.2.1 r hr hc) dA) (HY.out.2.2.below dA)))
                  clear dA HY q0
                  go_wp2_with (at_builtin; refine wpList_gx Tryz.underlying22 hi3 hz30 hz31 hz32 rfl (by omega) (by omega) HS.out HB.out.1 k (by omega) HB.out.2.2 rfl _ _ rfl rfl ⟨wr.heap.size, 0, none⟩ rfl rfl (cnewL wr [.int .i64 7] 3) (fun u hu => by rw [List.mem_singleton.1 hu]; rfl) (by have := HK.out.2.1; omega) ?_)
                  intro gv cw w9 H9
                  have J : Hid (Gg wB w9 4 vF [(gL, #[.slice po mo ko, .slice p1 m1 k1, .slice p2 m2 k2], 33)] yF ∧ (∀ r, r < 4 → k + 1 ≤ r → w9.ownsRow 0 (eF r) (zF r) (vF r) (nF r) (yF r)) ∧ Gx wB w9 (vF k) [(gL, #[.slice po mo ko, .slice p1 m1 k1, .slice p2 m2 k2], 33)] 3 1 (nF k) (yF k) [.int .i64 7] (.slice (some ⟨gv, 0, none⟩) (m + (j + 1)) cw) (j + 1)) := hide ⟨H9.out.2.1, fun r hr hc => H9.out.2.2.2 r hr (by omega) _ _ _ _ _ (HB.out.2.1 r hr hc), by have t := H9.out.1; rw [HK.out.2.1] at t ⊢; exact t⟩
                  clear H9 HB
                  rw [HK.out.2.1]
                  go_wp2_with fail
                  go_roundw
                  case rel => exact ⟨j + 1, some ⟨gv, 0, none⟩, cw, by omega, rfl, by go_num, J⟩
                  case measure => simp [intOf]; omega
                · obtain rfl : j = 64 := by omega
                  have i2 : ¬ ((64 : Nat) : Int) < 64 := by omega
                  have q1 : wr.cell? ⟨gL, k, none⟩ = some (.slice ao m cp) := cell_of (HY.out.1.b (gL, #[.slice po mo ko, .slice p1 m1 k1, .slice p2 m2 k2], 33) (by simp)) HK.out.2.2
                  have e1 : IntKind.i64.wrap (64 * (k : Int) + ((m + 64 : Nat) : Int)) = 64 * (k : Int) + (m : Int) + 64 := by rw [IntKind.wrap_i64]; omega
                  have e1' : IntKind.i64.wrap (64 * (k : Int) + ((m : Int) + 64)) = 64 * (k : Int) + (m : Int) + 64 := by rw [IntKind.wrap_i64]; omega
                  have e2 : IntKind.i64.wrap (64 * (k : Int) + (m : Int) + 64 - (m : Int)) = 64 * ((k + 1 : Nat) : Int) := by rw [IntKind.wrap_i64]; omega
                  have J : Hid (Gg wB wr 4 vF [(gL, #[.slice po mo ko, .slice p1 m1 k1, .slice p2 m2 k2], 33)] yF ∧ (∀ r, r < 4 → k + 1 ≤ r → wr.ownsRow 0 (eF r) (zF r) (vF r) (nF r) (yF r))) := hide ⟨HY.out.1, HY.out.2.1⟩
                  clear HY q0
                  go_wp2_with fail
                  go_roundw
                  case rel => exact ⟨k + 1, by omega, by first | rfl | (simp only [e1, e1', e2]) | go_num, by go_num, J⟩
                  case measure => simp [intOf]; omega
            · obtain rfl : k = 3 := by omega
              have i1 : ¬ ((3 : Nat) : Int) < 3 := by omega
              have HX1 := hide (And.intro HX.out.1 (HX.out.2 3 (by omega) (Nat.le_refl _)))
              clear HX
              obtain ⟨⟨q0, q1, q2, q3, q4⟩, _⟩ := HKO.out wr HX1.out.1.on
              go_upto_region 33 with fail
              clear q0 q1 q2 q3 q4
              have HZ : Hid (Gg wB wr 4 vF [(gL, #[.slice po mo ko, .slice p1 m1 k1, .slice p2 m2 k2], 33)] yF ∧ Gx wB wr (vF 3) [(gL, #[.slice po mo ko, .slice p1 m1 k1, .slice p2 m2 k2], 33)] 35 3 (nF 3) (yF 3) [.int .i64 0, .int .i64 9, .int .i64 0] (.slice p3 (m3 + 0) k3) 0) := hide ⟨HX1.out.1, Gx.zero' h3F.out.1 (by have t := HX1.out.2; rw [h3F.out.2.2.1, h3F.out.2.2.2] at t; exact t)⟩
              clear HX1
              go_wp2_with fail
              go_loopw [20, 21] (fun mv jv wr => ∃ j av cv, j ≤ 64 ∧ mv = .slice av (m3 + j) cv ∧ jv = .int .i64 (j : Nat) ∧ Hid (Gg wB wr 4 vF [(gL, #[.slice po mo ko, .slice p1 m1 k1, .slice p2 m2 k2], 33)] yF ∧ Gx wB wr (vF 3) [(gL, #[.slice po mo ko, .slice p1 m1 k1, .slice p2 m2 k2], 33)] 35 3 (nF 3) (yF 3) [.int .i64 0, .int .i64 9, .int .i64 0] (.slice av (m3 + j) cv) j)) (fun _ jv _ => 64 - (intOf jv).toNat)
              case atStart => exact ⟨0, p3, k3, Nat.zero_le _, rfl, rfl, HZ⟩
              case round =>
                obtain ⟨j, av, cv, hj, rfl, rfl, HY⟩ := hrel
                clear HZ
                by_cases hjl : j < 64
                · have i2 : (j : Int) < 64 := by omega
                  have dA : Below wr.heap.size wr (wr.alloc (.cells #[.int .i64 0, .int .i64 9, .int .i64 0] 35)) := (Below.refl _ _).alloc (Nat.le_refl _) _
                  have HB := hide (And.intro (HY.out.1.below dA) (HY.out.2.below dA))
                  clear dA HY
                  go_wp2_with (at_builtin; refine wpList_gx Tryz.underlying23 hi5 hz50 hz51 hz52 rfl (by omega) (by omega) HS.out HB.out.1 3 (by omega) HB.out.2 rfl _ _ rfl rfl ⟨wr.heap.size, 0, none⟩ rfl rfl (cnewL wr [.int .i64 0, .int .i64 9, .int .i64 0] 35) (fun u hu => by simp only [List.mem_cons, List.not_mem_nil, or_false] at hu; rcases hu with rfl | rfl | rfl <;> rfl) (by have := h3F.out.2.1; omega) ?_)
                  intro gv cw w9 H9
                  have J : Hid (Gg wB w9 4 vF [(gL, #[.slice po mo ko, .slice p1 m1 k1, .slice p2 m2 k2], 33)] yF ∧ Gx wB w9 (vF 3) [(gL, #[.slice po mo ko, .slice p1 m1 k1, .slice p2 m2 k2], 33)] 35 3 (nF 3) (yF 3) [.int .i64 0, .int .i64 9, .int .i64 0] (.slice (some ⟨gv, 0, none⟩) (m3 + (j + 1)) cw) (j + 1)) := hide ⟨H9.out.2.1, by have t := H9.out.1; rw [h3F.out.2.1] at t ⊢; exact t⟩
                  clear H9 HB
                  rw [h3F.out.2.1]
                  go_wp2_with fail
                  go_roundw
                  case rel => exact ⟨j + 1, some ⟨gv, 0, none⟩, cw, by omega, rfl, by go_num, J⟩
                  case measure => simp [intOf]; omega
                · obtain rfl : j = 64 := by omega
                  have i2 : ¬ ((64 : Nat) : Int) < 64 := by omega
                  have HG : Hid (Gg wB wr 4 vF [(gL, #[.slice po mo ko, .slice p1 m1 k1, .slice p2 m2 k2], 33)] yF) := hide HY.out.1
                  clear HY
                  obtain ⟨me, hme⟩ : ∃ k, m3 + 64 = k := ⟨_, rfl⟩
                  rw [hme]
                  have HMe := hide hme
                  clear hme
                  obtain ⟨ws, hws⟩ : ∃ z, wr = z := ⟨_, rfl⟩
                  rw [hws] at HG ⊢
                  go_upto_region 37 with fail
                  go_wp2_with fail
                  go_loopw [22] (fun kv wr => ∃ k : Nat, k ≤ 3 ∧ kv = .int .i64 (k : Int) ∧ wr = ws) (fun kv _ => 3 - (intOf kv).toNat)
                  case atStart => exact ⟨0, Nat.zero_le _, rfl, rfl⟩
                  case round =>
                    obtain ⟨k, hk, rfl, hws⟩ := hrel
                    subst hws
                    by_cases hlt : k < 3
                    · have i1 : (k : Int) < 3 := by omega
                      have i0 : (0 : Int) ≤ (k : Int) := by omega
                      obtain ⟨ao, cp, hkv, hkc, hm⟩ := hA.out k hlt
                      have HP := hide (fun h => hA2.out k hlt h ao cp hkv)
                      obtain ⟨m, hmm⟩ : ∃ m, nF k = m := ⟨_, rfl⟩
                      rw [hmm] at hkv hkc hm HP
                      have q0 : wr.cell? ⟨gL, k, none⟩ = some (.slice ao m cp) := cell_of (HG.out.b (gL, #[.slice po mo ko, .slice p1 m1 k1, .slice p2 m2 k2], 33) (by simp)) hkc
                      have HK := hide (And.intro hkv (And.intro hmm hkc))
                      clear hkv hmm hkc
                      rename World => wo
                      go_wp2_with fail
                      go_loopw [23] (fun iv wr => ∃ i : Nat, i ≤ m ∧ iv = .int .i64 (i : Int) ∧ wr = wo) (fun iv _ => m - (intOf iv).toNat)
                      case atStart => exact ⟨0, Nat.zero_le _, rfl, rfl⟩
                      case round =>
                        obtain ⟨i, hi, rfl, hwo⟩ := hrel
                        subst hwo
                        have i2 : (0 : Int) ≤ (i : Int) := by omega
                        by_cases hil : i < m
                        · have i3 : (i : Int) < (m : Int) := by omega
                          obtain ⟨g, hg⟩ := HP.out (by omega)
                          subst hg
                          have q1 : wr.cell? ⟨g, i, none⟩ = some (.int .i64 (-1000 * (k : Int) - (i : Int) - 1)) := by
                            have t := HG.out.r k (by omega) g (by rw [HK.out.1]; rfl) i (by rw [hyl.out k hlt, HK.out.2.1]; exact hil)
                            rw [t]
                            exact hya.out k hlt i (by rw [HK.out.2.1]; exact hil) _
                          have e1 : IntKind.i64.wrap (-1000 * (k : Int)) = -1000 * (k : Int) := by rw [IntKind.wrap_i64]; omega
                          have e2 : IntKind.i64.wrap (-1000 * (k : Int) - (i : Int)) = -1000 * (k : Int) - (i : Int) := by rw [IntKind.wrap_i64]; omega
                          have e3 : IntKind.i64.wrap (-1000 * (k : Int) - (i : Int) - 1) = -1000 * (k : Int) - (i : Int) - 1 := by rw [IntKind.wrap_i64]; omega
                          have e4 : ((-1000 * (k : Int) - (i : Int) - 1) != (-1000 * (k : Int) - (i : Int) - 1)) = false := by simp
                          go_wp2_with fail
                          go_roundw
                          case rel => exact ⟨i + 1, by omega, by go_num, by trivial⟩
                          case measure => simp [intOf]; omega
                        · obtain rfl : i = m := by omega
                          have i3 : ¬ (i : Int) < (i : Int) := by omega
                          go_wp2_with fail
                          go_roundw
                          case rel => exact ⟨k + 1, by omega, by go_num, by trivial⟩
                          case measure => simp [intOf]; omega
                    · obtain rfl : k = 3 := by omega
                      have i1 : ¬ ((3 : Nat) : Int) < 3 := by omega
                      go_upto_region 45 with fail
                      go_wp2_with fail
                      rename World => wv
                      go_loopw [24] (fun iv wr => ∃ i : Nat, i ≤ m3 ∧ iv = .int .i64 (i : Int) ∧ wr = wv) (fun iv _ => m3 - (intOf iv).toNat)
                      case atStart => exact ⟨0, Nat.zero_le _, rfl, rfl⟩
                      case round =>
                        obtain ⟨i, hi, rfl, hwv⟩ := hrel
                        subst hwv
                        have i2 : (0 : Int) ≤ (i : Int) := by omega
                        obtain ⟨⟨q0, q1, q2, q3, q4⟩, _⟩ := HKO.out wr HG.out.on
                        by_cases hil : i < m3
                        · have i3 : (i : Int) < (m3 : Int) := by omega
                          obtain ⟨g, hg⟩ := hA3.out (by omega)
                          subst hg
                          have f0 : wr.cell? ⟨g, i * 3, none⟩ = some (.int .i64 (-(i : Int) - 1)) := by
                            obtain ⟨hl, e⟩ := hya3.out (i * 3) (by omega)
                            have t := HG.out.r 3 (by omega) g (by rw [h3F.out.1]; rfl) (i * 3) hl
                            rw [t, e, (hmk3.out i).1]
                          have e1 : IntKind.i64.wrap (-(i : Int)) = -(i : Int) := by rw [IntKind.wrap_i64]; omega
                          have e2 : IntKind.i64.wrap (-(i : Int) - 1) = -(i : Int) - 1 := by rw [IntKind.wrap_i64]; omega
                          have e4 : ((-(i : Int) - 1) != (-(i : Int) - 1)) = false := by simp
                          go_wp2_with fail
                          go_roundw
                          case rel => exact ⟨i + 1, by omega, by go_num, by trivial⟩
                          case measure => simp [intOf]; omega
                        · obtain rfl : m3 = i := by omega
                          have i3 : ¬ (m3 : Int) < (m3 : Int) := by omega
                          go_upto_region 50 with fail
                          clear q0 q1 q2 q3 q4
                          have HO1 := hide HG.out.on
                          have HMx := hide (And.intro Hm.out.1 (And.intro Hm.out.2.1 (And.intro Hm.out.2.2.1 Hm.out.2.2.2)))
                          have HLm : Hid (TS.length ≤ 4194304 ∧ TF.length ≤ 4194304 ∧ TE.length ≤ 4194304 ∧ TO.length ≤ 4194304) := hide HLx.out
                          have HAll : Hid (∀ W, Below wr.heap.size wr W → (W.cell? ⟨bT, 0, none⟩ = some (.int .i64 (K : Int)) ∧ W.cell? ⟨bT, 1, none⟩ = some (.int .i64 mv) ∧ W.cell? ⟨bT, 2, none⟩ = some (.slice p1 m1 k1) ∧ W.cell? ⟨bT, 3, none⟩ = some (.slice p2 m2 k2) ∧ W.cell? ⟨bT, 4, none⟩ = some (.slice p3 m3 k3)) ∧ (W.cell? ⟨bU, 0, none⟩ = some (.int .i64 (K : Int)) ∧ W.cell? ⟨bU, 1, none⟩ = some (.int .i64 mv) ∧ W.cell? ⟨bU, 2, none⟩ = some (.slice r1 m1 l1) ∧ W.cell? ⟨bU, 3, none⟩ = some (.slice r2 m2 l2) ∧ W.cell? ⟨bU, 4, none⟩ = some (.slice r3 m3 l3)) ∧ (W.cell? ⟨bK, 0, none⟩ = some (.int .i64 (K : Int)) ∧ W.cell? ⟨bK, 1, none⟩ = some (.int .i64 mv) ∧ W.cell? ⟨bK, 2, none⟩ = some (.slice (some ⟨y1, 0, none⟩) m1 g1) ∧ W.cell? ⟨bK, 3, none⟩ = some (.slice (some ⟨y2, 0, none⟩) m2 g2) ∧ W.cell? ⟨bK, 4, none⟩ = some (.slice (some ⟨y3, 0, none⟩) m3 g3)) ∧ RdA W r1 r2 r3 TS TF TE ∧ RdN W ro TO ∧ (RdN W (some ⟨y1, 0, none⟩) TS ∧ RdN W (some ⟨y2, 0, none⟩) TF ∧ RdE W (some ⟨y3, 0, none⟩) TE) ∧ RdN W (some ⟨wK.heap.size, 0, none⟩) TO ∧ Below wX.heap.size wX W) := hide (fun W d => by
                            have o : Only wB W (fun k => ∃ i, i < 4 ∧ (vF i).ownBlock = some k) := HO1.out.trans (Only.ofBelow d)
                            obtain ⟨c1, c2, c3, c4, c5, c6, c7, c8⟩ := HKO.out W o
                            exact ⟨c1, c2, c3, c4, c5, ⟨padN_reads c6.s, padN_reads c6.f, edPad_reads c6.e⟩, c7, c8⟩)
                          have HSA : Hid (∀ W (b1 b2 b3 : Option Addr) (d1 d2 d3 : Nat), Below wr.heap.size wr W → RdA W b1 b2 b3 TS TF TE → Calls Tryz.prog 9 #[.agg #[.int .i64 (K : Int), .int .i64 mv, .slice b1 m1 d1, .slice b2 m2 d2, .slice b3 m3 d3], .agg #[.int .i64 (K : Int), .int .i64 mv, .slice (some ⟨y1, 0, none⟩) m1 g1, .slice (some ⟨y2, 0, none⟩) m2 g2, .slice (some ⟨y3, 0, none⟩) m3 g3]] W fun e w' => e = .returned (.bool true) ∧ Below W.heap.size W w') := hide (fun W b1 b2 b3 d1 d2 d3 d hr => by
                            obtain ⟨_, _, _, _, _, c6, _, _⟩ := HAll.out W d
                            have t := sameAutoZ_eq W (K : Int) mv TS TF TE b1 b2 b3 (some ⟨y1, 0, none⟩) (some ⟨y2, 0, none⟩) (some ⟨y3, 0, none⟩) d1 d2 d3 g1 g2 g3 (hide ⟨hr.s, hr.f, hr.e⟩) (hide c6) HLm.out.1 HLm.out.2.1 HLm.out.2.2.1
                            rw [HMx.out.1, HMx.out.2.1, HMx.out.2.2.1] at t
                            exact t)
                          have HSI : Hid (∀ W (b : Option Addr) (d1 : Nat), Below wr.heap.size wr W → RdN W b TO → Calls Tryz.prog 10 #[.slice b mo d1, .slice (some ⟨wK.heap.size, 0, none⟩) mo go] W fun e w' => e = .returned (.bool true) ∧ Below W.heap.size W w') := hide (fun W b d1 d hr => by
                            obtain ⟨_, _, _, _, _, _, c7, _⟩ := HAll.out W d
                            have t := same7_any W b (some ⟨wK.heap.size, 0, none⟩) d1 go TO TO hr c7 HLm.out.2.2.2
                            rw [HMx.out.2.2.2, decide_eq_true rfl] at t
                            exact t)
                          clear hA hA2 hA3 hyl hya hya3 hmk hmk3 HS hz1 he1 HFull HG h3F HKO
                          obtain ⟨⟨q0, q1, q2, q3, q4⟩, ⟨s0, s1, s2, s3, s4⟩, ⟨t0, t1, t2, t3, t4⟩, RU, RUo, _, _, _⟩ := HAll.out wr (Below.refl _ _)
                          have HRU := hide (And.intro RU RUo)
                          clear RU RUo
                          have TS1 := HSA.out wr r1 r2 r3 l1 l2 l3 (Below.refl _ _) HRU.out.1
                          go_upto_region 52 with (first
                            | (go_at_call 9; refine TS1.mono ?_; rintro e wa ⟨rfl, da⟩; have TI1 := HSI.out wa ro lo da (HRU.out.2.on da))
                            | (go_at_call 10; refine TI1.mono ?_; rintro e wb ⟨rfl, db⟩))
                          have DBb := hide (da.trans (db.mono da.size))
                          clear TS1 TI1 da db q0 q1 q2 q3 q4 s0 s1 s2 s3 s4 t0 t1 t2 t3 t4
                          obtain ⟨⟨q0, q1, q2, q3, q4⟩, _, _, _, _, _, _, DXb⟩ := HAll.out wb DBb.out
                          have HDXb := hide DXb
                          obtain ⟨_, _, _, _, _, ⟨s0, s1, s2, s3, s4⟩, _⟩ := GX.out wb DXb
                          clear DXb
                          go_upto_region 53 with (go_at_call 5; refine (P5.out wb HDXb.out).mono ?_; rintro e wc ⟨v1, v2, v3, vo, j1, j2, j3, jo, rfl, HO3, dc⟩)
                          obtain ⟨bV, hbV⟩ : ∃ k, wc.heap.size = k := ⟨_, rfl⟩
                          rw [hbV]
                          obtain ⟨wd, hwd⟩ : ∃ W, wc.alloc (.cells #[.int .i64 (K : Int), .int .i64 mv, .slice v1 m1 j1, .slice v2 m2 j2, .slice v3 m3 j3] 25) = W := ⟨_, rfl⟩
                          rw [hwd]
                          have HV : Hid (wd.heap[bV]? = some (.cells #[.int .i64 (K : Int), .int .i64 mv, .slice v1 m1 j1, .slice v2 m2 j2, .slice v3 m3 j3] 25 (0, 0)) ∧ RdA wd v1 v2 v3 TS TF TE ∧ RdN wd vo TO ∧ Below wr.heap.size wr wd) := hide (by
                            have d : Below wc.heap.size wc wd := by rw [← hwd]; exact (Below.refl _ _).alloc (Nat.le_refl _) _
                            obtain ⟨⟨o1, o2, o3, o4⟩, _⟩ := HO3.out
                            rw [← HMx.out.1] at o1
                            rw [← HMx.out.2.1] at o2
                            rw [← HMx.out.2.2.1] at o3
                            rw [← HMx.out.2.2.2] at o4
                            have e := DBb.out.trans (dc.mono DBb.out.size)
                            exact ⟨by rw [← hwd, ← hbV]; exact World.alloc_heap_new _ _, ⟨(own_rdN o1).on d, (own_rdN o2).on d, (own_rdE o3).on d⟩, (own_rdN o4).on d, e.trans (d.mono e.size)⟩)
                          clear dc hwd hbV HO3 q0 q1 q2 q3 q4 s0 s1 s2 s3 s4 HDXb DBb HRU P5
                          obtain ⟨⟨q0, q1, q2, q3, q4⟩, _, ⟨t0, t1, t2, t3, t4⟩, _, _, _, _, DXd⟩ := HAll.out wd HV.out.2.2.2
                          obtain ⟨tx, ra, gt, g0, ⟨s0, s1, s2, s3, s4⟩, ⟨u0, u1, u2, u3, u4⟩, _⟩ := GX.out wd DXd
                          obtain ⟨z0, z1, z2, z3, z4⟩ : (wd.cell? ⟨bV, 0, none⟩ = some (.int .i64 (K : Int)) ∧ wd.cell? ⟨bV, 1, none⟩ = some (.int .i64 mv) ∧ wd.cell? ⟨bV, 2, none⟩ = some (.slice v1 m1 j1) ∧ wd.cell? ⟨bV, 3, none⟩ = some (.slice v2 m2 j2) ∧ wd.cell? ⟨bV, 4, none⟩ = some (.slice v3 m3 j3)) := ⟨cell_of HV.out.1 rfl, cell_of HV.out.1 rfl, cell_of HV.out.1 rfl, cell_of HV.out.1 rfl, cell_of HV.out.1 rfl⟩
                          have TL := autoLeft_any wd (N : Int) mv St Fi Ed x1 x2 x3 a1 a2 a3 c1 c2 c3 (hide tx) (hide ⟨ra.s, ra.f, ra.e⟩) HL.out.1 HL.out.2.1 HL.out.2.2
                          rw [HE.out.1, HE.out.2.1, HE.out.2.2, HK0.out.1, HK0.out.2.1, HK0.out.2.2] at TL
                          have ww : IntKind.i64.wrap ((m3 : Int) + 64) = (me : Int) := by have := HMe.out; rw [IntKind.wrap_i64]; omega
                          have wq : ((me : Int) == (me : Int)) = true := by simp
                          clear tx ra gt g0 DXd
                          go_wp2_with (first
                            | (go_at_call 11; refine TL.mono ?_; rintro e we ⟨rfl, de⟩; have De := hide (HV.out.2.2.2.trans (de.mono HV.out.2.2.2.size)); have TA := HSA.out we v1 v2 v3 j1 j2 j3 De.out (HV.out.2.1.on de); have HVo := hide (HV.out.2.2.1.on de); have BV := hide (blk_on HV.out.1 de); clear q0 q1 q2 q3 q4 t0 t1 t2 t3 t4 s0 s1 s2 s3 s4 u0 u1 u2 u3 u4 z0 z1 z2 z3 z4 de; obtain ⟨_, _, ⟨t0, t1, t2, t3, t4⟩, _, _, _, _, _⟩ := HAll.out we De.out; obtain ⟨z0, z1, z2, z3, z4⟩ : (we.cell? ⟨bV, 0, none⟩ = some (.int .i64 (K : Int)) ∧ we.cell? ⟨bV, 1, none⟩ = some (.int .i64 mv) ∧ we.cell? ⟨bV, 2, none⟩ = some (.slice v1 m1 j1) ∧ we.cell? ⟨bV, 3, none⟩ = some (.slice v2 m2 j2) ∧ we.cell? ⟨bV, 4, none⟩ = some (.slice v3 m3 j3)) := ⟨cell_of BV.out rfl, cell_of BV.out rfl, cell_of BV.out rfl, cell_of BV.out rfl, cell_of BV.out rfl⟩)
                            | (go_at_call 9; refine TA.mono ?_; rintro e wf ⟨rfl, df⟩; have Df := hide (De.out.trans (df.mono De.out.size)); have TI := HSI.out wf vo jo Df.out (HVo.out.on df))
                            | (go_at_call 10; refine TI.mono ?_; rintro e wg ⟨rfl, dg⟩; have Dg := hide (Df.out.trans (dg.mono Df.out.size)); have TK := (show Calls Tryz.prog 6 #[] wg fun e w' => e = .returned (.bool true) ∧ Below wg.heap.size wg w' from (by obtain ⟨_, _, gt, g0, _⟩ := GX.out wg (HAll.out wg Dg.out).2.2.2.2.2.2.2; exact known_any wg (hide gt) g0)))
                            | (go_at_call 6; refine TK.mono ?_; rintro e wh ⟨rfl, dh⟩; have Dh := hide (Dg.out.trans (dh.mono Dg.out.size))))
                          go_ret
                          refine ⟨rfl, ?_⟩
                          obtain ⟨_, _, _, _, _, _, dw⟩ := GX.out wh (HAll.out wh Dh.out).2.2.2.2.2.2.2
                          exact dw
theorem tfresh_any (w : World) (n mv : Int) (a1 a2 a3 : Option Addr) (c1 c2 c3 : Nat) (St Fi : List Int) (Ed : List EdT) (hA : Hid (RdA w a1 a2 a3 St Fi Ed)) (h1 : St.length ≤ 1048576) (h2 : Fi.length ≤ 1048576) (h3 : Ed.length ≤ 1048576) (hT : Hid (TabAt w)) (h0 : 0 < w.heap.size) :
    Calls Tryz.prog 3 #[.agg #[.int .i64 n, .int .i64 mv, .slice a1 St.length c1, .slice a2 Fi.length c2, .slice a3 Ed.length c3]] w fun e w' => e = .returned (.bool true) ∧ Below w.heap.size w w' := by
  by_cases hm : mayA n mv St Fi Ed = true
  · obtain ⟨N, rfl, _⟩ := arg_of hA.out (Nat.le_trans h1 (by decide)) (Nat.le_trans h2 (by decide)) hm
    exact tfresh_ok w N mv a1 a2 a3 c1 c2 c3 St Fi Ed hA h1 h2 h3 hT h0 hm
  · exact tfresh_bad w n mv a1 a2 a3 c1 c2 c3 St Fi Ed hA h1 h2 h3 hT h0 (by simpa using hm)
end Go.Proofs.YtojnlpicgemlaabGreatDoor
