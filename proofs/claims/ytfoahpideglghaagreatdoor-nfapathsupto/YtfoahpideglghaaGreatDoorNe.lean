import Derived.Test.YtfoahpideglghaaGreatDoorNd
namespace Go.Proofs.YtfoahpideglghaaGreatDoor
open Go.RowKit
attribute [local go_sem] Oper.semAt_some

/-! ### Post and Pre -/
set_option maxRecDepth 100000 in
set_option maxHeartbeats 1000000 in
theorem post_bad (w : World) (n m : Int) (a1 a2 a3 aq : Option Addr) (c1 c2 c3 cq : Nat) (St Fi : List Int) (Ed : List EdT) (Q : List Int) (sym : Int) (hA : Hid (RdA w a1 a2 a3 St Fi Ed)) (hQ : Hid (RdN w aq Q)) (h1 : St.length ≤ 4194304) (h2 : Fi.length ≤ 4194304) (h3 : Ed.length ≤ 4194304) (hq : Q.length ≤ 4194304) (hbad : Hid (imgErr n m St Fi Ed Q sym ≠ 0)) :
    Calls Tryz.prog 15 #[.agg #[.int .i64 n, .int .i64 m, .slice a1 St.length c1, .slice a2 Fi.length c2, .slice a3 Ed.length c3], .slice aq Q.length cq, .int .i64 sym] w fun e w' => e = .returned (.tuple #[.slice none 0 0, .int .i64 (imgErr n m St Fi Ed Q sym)]) ∧ Below w.heap.size w w' := by
  obtain ⟨W0, hW0⟩ : ∃ W0, w.alloc (.cells #[.int .i64 n, .int .i64 m, .slice a1 St.length c1, .slice a2 Fi.length c2, .slice a3 Ed.length c3] 25) = W0 := ⟨_, rfl⟩
  have d0 : Below w.heap.size w W0 := by rw [← hW0]; exact (Below.refl _ _).alloc (Nat.le_refl _) _
  have B0 : W0.heap[w.heap.size]? = some (.cells #[.int .i64 n, .int .i64 m, .slice a1 St.length c1, .slice a2 Fi.length c2, .slice a3 Ed.length c3] 25 (0, 0)) := by rw [← hW0]; exact World.alloc_heap_new _ _
  have k0 : W0.cell? ⟨w.heap.size, 0, none⟩ = some (.int .i64 n) := cell_of B0 rfl
  have k1 : W0.cell? ⟨w.heap.size, 1, none⟩ = some (.int .i64 m) := cell_of B0 rfl
  have k2 : W0.cell? ⟨w.heap.size, 2, none⟩ = some (.slice a1 St.length c1) := cell_of B0 rfl
  have k3 : W0.cell? ⟨w.heap.size, 3, none⟩ = some (.slice a2 Fi.length c2) := cell_of B0 rfl
  have k4 : W0.cell? ⟨w.heap.size, 4, none⟩ = some (.slice a3 Ed.length c3) := cell_of B0 rfl
  have T := image_bad W0 n m a1 a2 a3 aq c1 c2 c3 cq St Fi Ed Q sym (hide (hA.out.on d0)) (hide (hQ.out.on d0)) h1 h2 h3 hq hbad.out
  have HD := hide d0
  clear d0 B0
  obtain ⟨r, hr⟩ : ∃ r, imgErr n m St Fi Ed Q sym = r := ⟨_, rfl⟩
  rw [hr] at T
  rw [hr]
  clear hr hbad
  go_enter Tryz.func15, Tryz.ntmps15
  go_wp2_with (go_at_call 57; refine T.mono ?_; rintro e w1 ⟨rfl, d1⟩; have H1 := hide d1; clear d1)
  go_ret2
  exact ⟨rfl, HD.out.trans (H1.out.mono HD.out.size)⟩
set_option maxRecDepth 100000 in
set_option maxHeartbeats 1000000 in
theorem post_ok (w : World) (N : Nat) (m : Int) (a1 a2 a3 aq : Option Addr) (c1 c2 c3 cq : Nat) (St Fi : List Int) (Ed : List EdT) (Q : List Int) (sym : Int) (hT : Hid (TabAt w ∧ 0 < w.heap.size)) (hA : Hid (RdA w a1 a2 a3 St Fi Ed)) (hQ : Hid (RdN w aq Q)) (h1 : St.length ≤ 4194304) (h2 : Fi.length ≤ 4194304) (h3 : Ed.length ≤ 4194304) (hq : Q.length ≤ 4194304) (em : Hid (mayA N m St Fi Ed = true)) (e4 : Hid (Q.all (inB N) = true)) (e5 : Hid (inB m sym = true)) :
    Calls Tryz.prog 15 #[.agg #[.int .i64 (N : Nat), .int .i64 m, .slice a1 St.length c1, .slice a2 Fi.length c2, .slice a3 Ed.length c3], .slice aq Q.length cq, .int .i64 sym] w fun e w' => ∃ gl capl, e = .returned (.tuple #[.slice (some ⟨gl, 0, none⟩) (elems N (imgF false (setI N Q) sym Ed)).length capl, .int .i64 0]) ∧ w'.ownsRow w.heap.size 3 1 (.slice (some ⟨gl, 0, none⟩) (elems N (imgF false (setI N Q) sym Ed)).length capl) (elems N (imgF false (setI N Q) sym Ed)).length (intV (elems N (imgF false (setI N Q) sym Ed))) ∧ Below w.heap.size w w' := by
  obtain ⟨W0, hW0⟩ : ∃ W0, w.alloc (.cells #[.int .i64 (N : Nat), .int .i64 m, .slice a1 St.length c1, .slice a2 Fi.length c2, .slice a3 Ed.length c3] 25) = W0 := ⟨_, rfl⟩
  have d0 : Below w.heap.size w W0 := by rw [← hW0]; exact (Below.refl _ _).alloc (Nat.le_refl _) _
  have B0 : W0.heap[w.heap.size]? = some (.cells #[.int .i64 (N : Nat), .int .i64 m, .slice a1 St.length c1, .slice a2 Fi.length c2, .slice a3 Ed.length c3] 25 (0, 0)) := by rw [← hW0]; exact World.alloc_heap_new _ _
  have k0 : W0.cell? ⟨w.heap.size, 0, none⟩ = some (.int .i64 (N : Nat)) := cell_of B0 rfl
  have k1 : W0.cell? ⟨w.heap.size, 1, none⟩ = some (.int .i64 m) := cell_of B0 rfl
  have k2 : W0.cell? ⟨w.heap.size, 2, none⟩ = some (.slice a1 St.length c1) := cell_of B0 rfl
  have k3 : W0.cell? ⟨w.heap.size, 3, none⟩ = some (.slice a2 Fi.length c2) := cell_of B0 rfl
  have k4 : W0.cell? ⟨w.heap.size, 4, none⟩ = some (.slice a3 Ed.length c3) := cell_of B0 rfl
  have T := image_ok W0 N m a1 a2 a3 aq c1 c2 c3 cq St Fi Ed Q sym (hide ⟨hT.out.1.below d0 hT.out.2, Nat.lt_of_lt_of_le hT.out.2 d0.size⟩) (hide (hA.out.on d0)) (hide (hQ.out.on d0)) h1 h2 h3 hq em.out e4.out e5.out
  have HD := hide d0
  clear d0 B0
  obtain ⟨I, hI⟩ : ∃ I, (elems N (imgF false (setI N Q) sym Ed)) = I := ⟨_, rfl⟩
  rw [hI] at T
  rw [hI]
  clear hI
  go_enter Tryz.func15, Tryz.ntmps15
  go_wp2_with (go_at_call 57; refine T.mono ?_; rintro e w1 ⟨gl, capl, rfl, ho, d1⟩; have H1 := hide (And.intro ho d1); clear ho d1)
  go_ret2
  exact ⟨gl, capl, rfl, ownsRow_base H1.out.1 HD.out.size, HD.out.trans (H1.out.2.mono HD.out.size)⟩
set_option maxRecDepth 100000 in
set_option maxHeartbeats 1000000 in
theorem pre_bad (w : World) (n m : Int) (a1 a2 a3 aq : Option Addr) (c1 c2 c3 cq : Nat) (St Fi : List Int) (Ed : List EdT) (Q : List Int) (sym : Int) (hA : Hid (RdA w a1 a2 a3 St Fi Ed)) (hQ : Hid (RdN w aq Q)) (h1 : St.length ≤ 4194304) (h2 : Fi.length ≤ 4194304) (h3 : Ed.length ≤ 4194304) (hq : Q.length ≤ 4194304) (hbad : Hid (imgErr n m St Fi Ed Q sym ≠ 0)) :
    Calls Tryz.prog 16 #[.agg #[.int .i64 n, .int .i64 m, .slice a1 St.length c1, .slice a2 Fi.length c2, .slice a3 Ed.length c3], .slice aq Q.length cq, .int .i64 sym] w fun e w' => e = .returned (.tuple #[.slice none 0 0, .int .i64 (imgErr n m St Fi Ed Q sym)]) ∧ Below w.heap.size w w' := by
  obtain ⟨W0, hW0⟩ : ∃ W0, w.alloc (.cells #[.int .i64 n, .int .i64 m, .slice a1 St.length c1, .slice a2 Fi.length c2, .slice a3 Ed.length c3] 25) = W0 := ⟨_, rfl⟩
  have d0 : Below w.heap.size w W0 := by rw [← hW0]; exact (Below.refl _ _).alloc (Nat.le_refl _) _
  have B0 : W0.heap[w.heap.size]? = some (.cells #[.int .i64 n, .int .i64 m, .slice a1 St.length c1, .slice a2 Fi.length c2, .slice a3 Ed.length c3] 25 (0, 0)) := by rw [← hW0]; exact World.alloc_heap_new _ _
  have k0 : W0.cell? ⟨w.heap.size, 0, none⟩ = some (.int .i64 n) := cell_of B0 rfl
  have k1 : W0.cell? ⟨w.heap.size, 1, none⟩ = some (.int .i64 m) := cell_of B0 rfl
  have k2 : W0.cell? ⟨w.heap.size, 2, none⟩ = some (.slice a1 St.length c1) := cell_of B0 rfl
  have k3 : W0.cell? ⟨w.heap.size, 3, none⟩ = some (.slice a2 Fi.length c2) := cell_of B0 rfl
  have k4 : W0.cell? ⟨w.heap.size, 4, none⟩ = some (.slice a3 Ed.length c3) := cell_of B0 rfl
  have T := image_badB W0 n m a1 a2 a3 aq c1 c2 c3 cq St Fi Ed Q sym (hide (hA.out.on d0)) (hide (hQ.out.on d0)) h1 h2 h3 hq hbad.out
  have HD := hide d0
  clear d0 B0
  obtain ⟨r, hr⟩ : ∃ r, imgErr n m St Fi Ed Q sym = r := ⟨_, rfl⟩
  rw [hr] at T
  rw [hr]
  clear hr hbad
  go_enter Tryz.func16, Tryz.ntmps16
  go_wp2_with (go_at_call 57; refine T.mono ?_; rintro e w1 ⟨rfl, d1⟩; have H1 := hide d1; clear d1)
  go_ret2
  exact ⟨rfl, HD.out.trans (H1.out.mono HD.out.size)⟩
set_option maxRecDepth 100000 in
set_option maxHeartbeats 1000000 in
theorem pre_ok (w : World) (N : Nat) (m : Int) (a1 a2 a3 aq : Option Addr) (c1 c2 c3 cq : Nat) (St Fi : List Int) (Ed : List EdT) (Q : List Int) (sym : Int) (hT : Hid (TabAt w ∧ 0 < w.heap.size)) (hA : Hid (RdA w a1 a2 a3 St Fi Ed)) (hQ : Hid (RdN w aq Q)) (h1 : St.length ≤ 4194304) (h2 : Fi.length ≤ 4194304) (h3 : Ed.length ≤ 4194304) (hq : Q.length ≤ 4194304) (em : Hid (mayA N m St Fi Ed = true)) (e4 : Hid (Q.all (inB N) = true)) (e5 : Hid (inB m sym = true)) :
    Calls Tryz.prog 16 #[.agg #[.int .i64 (N : Nat), .int .i64 m, .slice a1 St.length c1, .slice a2 Fi.length c2, .slice a3 Ed.length c3], .slice aq Q.length cq, .int .i64 sym] w fun e w' => ∃ gl capl, e = .returned (.tuple #[.slice (some ⟨gl, 0, none⟩) (elems N (imgF true (setI N Q) sym Ed)).length capl, .int .i64 0]) ∧ w'.ownsRow w.heap.size 3 1 (.slice (some ⟨gl, 0, none⟩) (elems N (imgF true (setI N Q) sym Ed)).length capl) (elems N (imgF true (setI N Q) sym Ed)).length (intV (elems N (imgF true (setI N Q) sym Ed))) ∧ Below w.heap.size w w' := by
  obtain ⟨W0, hW0⟩ : ∃ W0, w.alloc (.cells #[.int .i64 (N : Nat), .int .i64 m, .slice a1 St.length c1, .slice a2 Fi.length c2, .slice a3 Ed.length c3] 25) = W0 := ⟨_, rfl⟩
  have d0 : Below w.heap.size w W0 := by rw [← hW0]; exact (Below.refl _ _).alloc (Nat.le_refl _) _
  have B0 : W0.heap[w.heap.size]? = some (.cells #[.int .i64 (N : Nat), .int .i64 m, .slice a1 St.length c1, .slice a2 Fi.length c2, .slice a3 Ed.length c3] 25 (0, 0)) := by rw [← hW0]; exact World.alloc_heap_new _ _
  have k0 : W0.cell? ⟨w.heap.size, 0, none⟩ = some (.int .i64 (N : Nat)) := cell_of B0 rfl
  have k1 : W0.cell? ⟨w.heap.size, 1, none⟩ = some (.int .i64 m) := cell_of B0 rfl
  have k2 : W0.cell? ⟨w.heap.size, 2, none⟩ = some (.slice a1 St.length c1) := cell_of B0 rfl
  have k3 : W0.cell? ⟨w.heap.size, 3, none⟩ = some (.slice a2 Fi.length c2) := cell_of B0 rfl
  have k4 : W0.cell? ⟨w.heap.size, 4, none⟩ = some (.slice a3 Ed.length c3) := cell_of B0 rfl
  have T := image_okB W0 N m a1 a2 a3 aq c1 c2 c3 cq St Fi Ed Q sym (hide ⟨hT.out.1.below d0 hT.out.2, Nat.lt_of_lt_of_le hT.out.2 d0.size⟩) (hide (hA.out.on d0)) (hide (hQ.out.on d0)) h1 h2 h3 hq em.out e4.out e5.out
  have HD := hide d0
  clear d0 B0
  obtain ⟨I, hI⟩ : ∃ I, (elems N (imgF true (setI N Q) sym Ed)) = I := ⟨_, rfl⟩
  rw [hI] at T
  rw [hI]
  clear hI
  go_enter Tryz.func16, Tryz.ntmps16
  go_wp2_with (go_at_call 57; refine T.mono ?_; rintro e w1 ⟨gl, capl, rfl, ho, d1⟩; have H1 := hide (And.intro ho d1); clear ho d1)
  go_ret2
  exact ⟨gl, capl, rfl, ownsRow_base H1.out.1 HD.out.size, HD.out.trans (H1.out.2.mono HD.out.size)⟩
end Go.Proofs.YtfoahpideglghaaGreatDoor
