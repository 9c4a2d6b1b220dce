import Derived.Test.YtchoopnjckcohaaGreatDoorQat
import Derived.Test.YtchoopnjckcohaaGreatDoorQau
import Derived.Test.YtchoopnjckcohaaGreatDoorQam
import Derived.Test.YtchoopnjckcohaaGreatDoorQao
namespace Go.Proofs.YtchoopnjckcohaaGreatDoor
open Go.RowKit Go.Maps Go.Shelf
attribute [local go_sem] Oper.semAt_some

/-! ### lives: the small automata that every statement asks about -/
theorem rd_one {W : World} {b : Nat} {x : Int} {t : TypeId} {fr : Nat × Nat} (h : W.heap[b]? = some (.cells #[.int .i64 x] t fr)) : RdN W (some ⟨b, 0, none⟩) [x] := fun j hj => by
  obtain rfl : j = 0 := by simpa using hj
  exact ⟨b, 0, rfl, cell_of h rfl⟩
theorem rdE_want {W : World} {b : Nat} {t : TypeId} {fr : Nat × Nat} (h : W.heap[b]? = some (.cells #[.int .i64 0, .int .i64 0, .int .i64 1, .int .i64 0, .int .i64 0, .int .i64 2, .int .i64 2, .int .i64 1, .int .i64 3] t fr)) : RdE W (some ⟨b, 0, none⟩) [(0, 0, 1), (0, 0, 2), (2, 1, 3)] := fun j hj => by
  have hj' : j < 3 := by simpa using hj
  obtain rfl | rfl | rfl : j = 0 ∨ j = 1 ∨ j = 2 := by omega
  · exact ⟨b, 0, rfl, cell_of h rfl, cell_of h rfl, cell_of h rfl⟩
  · exact ⟨b, 0, rfl, cell_of h rfl, cell_of h rfl, cell_of h rfl⟩
  · exact ⟨b, 0, rfl, cell_of h rfl, cell_of h rfl, cell_of h rfl⟩
theorem box33 (w : World) (A B C : Array Value) (t u v : TypeId) : Below w.heap.size w (((w.alloc (.cells A t)).alloc (.cells B u)).alloc (.cells C v)) ∧ (((w.alloc (.cells A t)).alloc (.cells B u)).alloc (.cells C v)).heap[w.heap.size]? = some (.cells A t (0, 0)) ∧ (((w.alloc (.cells A t)).alloc (.cells B u)).alloc (.cells C v)).heap[w.heap.size + 1]? = some (.cells B u (0, 0)) ∧ (((w.alloc (.cells A t)).alloc (.cells B u)).alloc (.cells C v)).heap[w.heap.size + 2]? = some (.cells C v (0, 0)) ∧ (((w.alloc (.cells A t)).alloc (.cells B u)).alloc (.cells C v)).heap.size = w.heap.size + 3 := by
  have z1 : (w.alloc (.cells A t)).heap.size = w.heap.size + 1 := by simp
  have z2 : ((w.alloc (.cells A t)).alloc (.cells B u)).heap.size = w.heap.size + 2 := by simp
  refine ⟨((((Below.refl _ _).alloc (Nat.le_refl _) _).alloc (by omega) _).alloc (by omega) _), ?_, ?_, ?_, by simp⟩
  · exact ((Below.heap_alloc _ _ _ (by omega)).trans (Below.heap_alloc _ _ _ (by omega))).trans (World.alloc_heap_new _ _)
  · have := World.alloc_heap_new (w.alloc (.cells A t)) (.cells B u)
    rw [z1] at this
    exact (Below.heap_alloc _ _ _ (by omega)).trans this
  · have := World.alloc_heap_new ((w.alloc (.cells A t)).alloc (.cells B u)) (.cells C v)
    rw [z2] at this
    exact this
theorem rise_up {L : List Int} (h : L.Pairwise (· < ·)) : riseL L = L := ssL_eq _ _ (riseL_ss L) h fun x => riseL_iff L x
theorem l_may (s : Int) (h : 0 ≤ s ∧ s < 2) : mayA 2 2 [0] [1] [(0, s, 1)] = true := by
  obtain rfl | rfl : s = 0 ∨ s = 1 := by omega
  · decide
  · decide
theorem l_br : brL [(0, 0, 1)] [1] (movN [0] 2) 2 2 = [(0, 0, 1), (0, 0, 2)] := by
  have r1 : riseL [(1 : Int), 2] = [1, 2] := rise_up (by simp)
  have r0 := rise_nil
  have e00 : celL [(0, 0, 1)] [1] (movN [0] 2) 0 0 = [(0, 0, 1), (0, 0, 2)] := by
    unfold celL
    rw [show endL [(0, 0, 1)] [1] (movN [0] 2) 0 0 = [1, 2] by decide, r1]
    rfl
  have e01 : celL [(0, 0, 1)] [1] (movN [0] 2) 0 1 = [] := by
    unfold celL
    rw [show endL [(0, 0, 1)] [1] (movN [0] 2) 0 1 = [] by decide, r0]
    rfl
  have e10 : celL [(0, 0, 1)] [1] (movN [0] 2) 1 0 = [] := by
    unfold celL
    rw [show endL [(0, 0, 1)] [1] (movN [0] 2) 1 0 = [] by decide, r0]
    rfl
  have e11 : celL [(0, 0, 1)] [1] (movN [0] 2) 1 1 = [] := by
    unfold celL
    rw [show endL [(0, 0, 1)] [1] (movN [0] 2) 1 1 = [] by decide, r0]
    rfl
  rw [show (2 : Nat) = 0 + 1 + 1 from rfl, brL_next, brL_next]
  simp [brL, rowL, List.range_succ, e00, e01, e10, e11]
theorem one_sym (w : World) (g : Nat) (s : Int) (hs : 0 ≤ s ∧ s < 2) (h : w.heap[g]? = some (.cells #[.int .i64 s] 3 (0, 0))) :
    Calls Tryz.prog 20 #[.slice (some ⟨g, 0, none⟩) 1 1, .int .i64 2] w fun e w' => ∃ b1 k1 b2 k2 b3 k3, e = .returned (.tuple #[.agg #[.int .i64 2, .int .i64 2, .slice b1 1 k1, .slice b2 1 k2, .slice b3 1 k3], .int .i64 0]) ∧ Hid (OwnO w.heap.size w' (.slice b1 1 k1) (.slice b2 1 k2) (.slice b3 1 k3) [0] [1] [(0, s, 1)] ∧ Below w.heap.size w w') :=
  one_ok w (some ⟨g, 0, none⟩) 1 1 2 [s] (hide rfl) (hide (rd_one h)) (by omega) (by omega) (hide (fun x hx => by rw [List.mem_singleton] at hx; subst hx; exact hs))
set_option maxRecDepth 100000 in
set_option maxHeartbeats 4000000 in
theorem concat_two (w : World) (a1 a2 a3 b1 b2 b3 : Option Addr) (c1 c2 c3 d1 d2 d3 : Nat) (hA : Hid (RdA w a1 a2 a3 [0] [1] [(0, 0, 1)])) (hB : Hid (RdA w b1 b2 b3 [0] [1] [(0, 1, 1)])) :
    Calls Tryz.prog 21 #[.agg #[.int .i64 2, .int .i64 2, .slice a1 1 c1, .slice a2 1 c2, .slice a3 1 c3], .agg #[.int .i64 2, .int .i64 2, .slice b1 1 d1, .slice b2 1 d2, .slice b3 1 d3]] w fun e w' => ∃ g1 k1 t2 u2 z5 d5, e = .returned (.tuple #[.agg #[.int .i64 4, .int .i64 2, .slice (some ⟨g1, 0, none⟩) 1 k1, .slice t2 1 u2, .slice z5 3 d5], .int .i64 0]) ∧ Hid (RdA w' (some ⟨g1, 0, none⟩) t2 z5 [0] [3] [(0, 0, 1), (0, 0, 2), (2, 1, 3)] ∧ Below w.heap.size w w') := by
  have T := concat_no w 2 2 2 a1 a2 a3 b1 b2 b3 c1 c2 c3 d1 d2 d3 [0] [1] [0] [1] [(0, 0, 1)] [(0, 1, 1)] hA hB (by decide) (by decide) (by decide) (by decide) (by decide) (by decide) (l_may 0 (by omega)) (l_may 1 (by omega)) (by decide) (by decide)
  rw [rise_one, rise_one, riseE_one (L := [(0, 0, 1)]) (by decide), riseE_one (L := [(0, 1, 1)]) (by decide)] at T
  have T2 := T (hide (by decide)) (hide (by have q := riseE_ss [((0 : Int), (0 : Int), (1 : Int))]; rwa [riseE_one (by decide)] at q)) (hide (by decide)) (hide (fun x hx => ⟨0, by omega, by simpa using hx⟩)) (hide (fun x hx => ⟨1, by omega, by simpa using hx⟩)) (hide (fun x hx => ⟨0, by omega, by simpa using hx⟩)) (hide (fun x hx => ⟨1, by omega, by simpa using hx⟩)) (hide (by decide))
  rw [show ((2 : Nat) : Int) = 2 from rfl, l_br] at T2
  exact T2 (by decide) (hide (by decide)) (hide (by decide))
set_option maxRecDepth 100000 in
set_option maxHeartbeats 4000000 in
theorem lives_any (w : World) : Calls Tryz.prog 7 #[] w fun e w' => e = .returned (.bool true) ∧ Below w.heap.size w w' := by
  obtain ⟨A, hA⟩ : ∃ A, w.alloc (.cells #[.int .i64 0] 3) = A := ⟨_, rfl⟩
  have HA : Hid (A.heap[w.heap.size]? = some (.cells #[.int .i64 0] 3 (0, 0)) ∧ Below w.heap.size w A) := hide (by rw [← hA]; exact ⟨World.alloc_heap_new _ _, (Below.refl _ _).alloc (Nat.le_refl _) _⟩)
  have TA := one_sym A w.heap.size 0 (by omega) HA.out.1
  go_enter Tryz.func7, Tryz.ntmps7
  go_upto_region 2 with (go_at_call 20; refine TA.mono ?_; rintro e w1 ⟨x1, k1, x2, k2, x3, k3, rfl, H1⟩)
  clear TA
  obtain ⟨B, hB⟩ : ∃ B, (w1.alloc (.cells #[.int .i64 2, .int .i64 2, .slice x1 1 k1, .slice x2 1 k2, .slice x3 1 k3] 25)).alloc (.cells #[.int .i64 1] 3) = B := ⟨_, rfl⟩
  have HB : Hid (B.heap[w1.heap.size]? = some (.cells #[.int .i64 2, .int .i64 2, .slice x1 1 k1, .slice x2 1 k2, .slice x3 1 k3] 25 (0, 0)) ∧ B.heap[w1.heap.size + 1]? = some (.cells #[.int .i64 1] 3 (0, 0)) ∧ Below w1.heap.size w1 B) := hide (by
    have hk1 := (Below.refl w1.heap.size w1).alloc (Nat.le_refl _) (.cells #[.int .i64 2, .int .i64 2, .slice x1 1 k1, .slice x2 1 k2, .slice x3 1 k3] 25)
    have z1 := World.alloc_heap_new w1 (.cells #[.int .i64 2, .int .i64 2, .slice x1 1 k1, .slice x2 1 k2, .slice x3 1 k3] 25)
    have s1 : (w1.alloc (.cells #[.int .i64 2, .int .i64 2, .slice x1 1 k1, .slice x2 1 k2, .slice x3 1 k3] 25)).heap.size = w1.heap.size + 1 := by simp
    generalize w1.alloc (.cells #[.int .i64 2, .int .i64 2, .slice x1 1 k1, .slice x2 1 k2, .slice x3 1 k3] 25) = Z at hk1 z1 s1 hB
    have hk2 := (Below.refl Z.heap.size Z).alloc (Nat.le_refl _) (.cells #[.int .i64 1] 3)
    have z2 := World.alloc_heap_new Z (.cells #[.int .i64 1] 3)
    rw [hB] at hk2 z2
    rw [s1] at z2
    exact ⟨blk_on z1 hk2, z2, hk1.trans (hk2.mono hk1.size)⟩)
  have TB := one_sym B (w1.heap.size + 1) 1 (by omega) HB.out.2.1
  go_upto_region 3 with (go_at_call 20; refine TB.mono ?_; rintro e w2 ⟨y1, j1, y2, j2, y3, j3, rfl, H2⟩)
  clear TB hB hA
  obtain ⟨Cw, hC⟩ : ∃ C, w2.alloc (.cells #[.int .i64 2, .int .i64 2, .slice y1 1 j1, .slice y2 1 j2, .slice y3 1 j3] 25) = C := ⟨_, rfl⟩
  have HC : Hid (Cw.heap[w2.heap.size]? = some (.cells #[.int .i64 2, .int .i64 2, .slice y1 1 j1, .slice y2 1 j2, .slice y3 1 j3] 25 (0, 0)) ∧ Below w2.heap.size w2 Cw) := hide (by rw [← hC]; exact ⟨World.alloc_heap_new _ _, (Below.refl _ _).alloc (Nat.le_refl _) _⟩)
  rw [hC]
  clear hC
  have HX : Hid (Cw.heap[w1.heap.size]? = some (.cells #[.int .i64 2, .int .i64 2, .slice x1 1 k1, .slice x2 1 k2, .slice x3 1 k3] 25 (0, 0)) ∧ RdA Cw x1 x2 x3 [0] [1] [(0, 0, 1)] ∧ RdA Cw y1 y2 y3 [0] [1] [(0, 1, 1)] ∧ Below w.heap.size w Cw) := hide (by
    have dA := HA.out.2.trans (H1.out.2.mono HA.out.2.size)
    have dB := HB.out.2.2.trans (H2.out.2.mono HB.out.2.2.size)
    have dC := dB.trans (HC.out.2.mono dB.size)
    refine ⟨blk_on (blk_on HB.out.1 H2.out.2) HC.out.2, ?_, ?_, dA.trans (dC.mono dA.size)⟩
    · exact (OwnO.rd H1.out.1).on dC
    · exact (OwnO.rd H2.out.1).on HC.out.2)
  have TC := concat_two Cw x1 x2 x3 y1 y2 y3 k1 k2 k3 j1 j2 j3 (hide HX.out.2.1) (hide HX.out.2.2.1)
  have p0 : Cw.cell? ⟨w1.heap.size, 0, none⟩ = some (.int .i64 2) := cell_of HX.out.1 rfl
  have p1 : Cw.cell? ⟨w1.heap.size, 1, none⟩ = some (.int .i64 2) := cell_of HX.out.1 rfl
  have p2 : Cw.cell? ⟨w1.heap.size, 2, none⟩ = some (.slice x1 1 k1) := cell_of HX.out.1 rfl
  have p3 : Cw.cell? ⟨w1.heap.size, 3, none⟩ = some (.slice x2 1 k2) := cell_of HX.out.1 rfl
  have p4 : Cw.cell? ⟨w1.heap.size, 4, none⟩ = some (.slice x3 1 k3) := cell_of HX.out.1 rfl
  have q0 : Cw.cell? ⟨w2.heap.size, 0, none⟩ = some (.int .i64 2) := cell_of HC.out.1 rfl
  have q1 : Cw.cell? ⟨w2.heap.size, 1, none⟩ = some (.int .i64 2) := cell_of HC.out.1 rfl
  have q2 : Cw.cell? ⟨w2.heap.size, 2, none⟩ = some (.slice y1 1 j1) := cell_of HC.out.1 rfl
  have q3 : Cw.cell? ⟨w2.heap.size, 3, none⟩ = some (.slice y2 1 j2) := cell_of HC.out.1 rfl
  have q4 : Cw.cell? ⟨w2.heap.size, 4, none⟩ = some (.slice y3 1 j3) := cell_of HC.out.1 rfl
  go_upto_region 4 with (go_at_call 21; refine TC.mono ?_; rintro e w3 ⟨g1, e1, t2, u2, z5, d5, rfl, H3⟩)
  clear TC p0 q0 p1 q1 p2 q2 p3 q3 p4 q4
  have HD3 : Hid (Below w.heap.size w w3) := hide (HX.out.2.2.2.trans (H3.out.2.mono HX.out.2.2.2.size))
  clear HX HC HB HA H1 H2
  go_upto_region 5 with fail
  obtain ⟨W5, hW5⟩ : ∃ W, ((((w3.alloc (.cells #[.int .i64 4, .int .i64 2, .slice (some ⟨g1, 0, none⟩) 1 e1, .slice t2 1 u2, .slice z5 3 d5] 25)).alloc (.cells #[.int .i64 0] 3)).alloc (.cells #[.int .i64 3] 3)).alloc (.cells #[.int .i64 0, .int .i64 0, .int .i64 1, .int .i64 0, .int .i64 0, .int .i64 2, .int .i64 2, .int .i64 1, .int .i64 3] 61)).alloc (.cells #[.int .i64 4, .int .i64 2, .slice (some ⟨w3.heap.size + 1, 0, none⟩) 1 1, .slice (some ⟨w3.heap.size + 1 + 1, 0, none⟩) 1 1, .slice (some ⟨w3.heap.size + 1 + 1 + 1, 0, none⟩) 3 3] 25) = W := ⟨_, rfl⟩
  rw [hW5]
  have HW : Hid (W5.heap[w3.heap.size]? = some (.cells #[.int .i64 4, .int .i64 2, .slice (some ⟨g1, 0, none⟩) 1 e1, .slice t2 1 u2, .slice z5 3 d5] 25 (0, 0)) ∧ W5.heap[w3.heap.size + 1 + 1 + 1 + 1]? = some (.cells #[.int .i64 4, .int .i64 2, .slice (some ⟨w3.heap.size + 1, 0, none⟩) 1 1, .slice (some ⟨w3.heap.size + 1 + 1, 0, none⟩) 1 1, .slice (some ⟨w3.heap.size + 1 + 1 + 1, 0, none⟩) 3 3] 25 (0, 0)) ∧ RdA W5 (some ⟨w3.heap.size + 1, 0, none⟩) (some ⟨w3.heap.size + 1 + 1, 0, none⟩) (some ⟨w3.heap.size + 1 + 1 + 1, 0, none⟩) [0] [3] [(0, 0, 1), (0, 0, 2), (2, 1, 3)] ∧ Below w3.heap.size w3 W5) := hide (by
    have h1 := (Below.refl w3.heap.size w3).alloc (Nat.le_refl _) (.cells #[.int .i64 4, .int .i64 2, .slice (some ⟨g1, 0, none⟩) 1 e1, .slice t2 1 u2, .slice z5 3 d5] 25)
    have z1 := World.alloc_heap_new w3 (.cells #[.int .i64 4, .int .i64 2, .slice (some ⟨g1, 0, none⟩) 1 e1, .slice t2 1 u2, .slice z5 3 d5] 25)
    have s1 : (w3.alloc (.cells #[.int .i64 4, .int .i64 2, .slice (some ⟨g1, 0, none⟩) 1 e1, .slice t2 1 u2, .slice z5 3 d5] 25)).heap.size = w3.heap.size + 1 := by simp
    generalize w3.alloc (.cells #[.int .i64 4, .int .i64 2, .slice (some ⟨g1, 0, none⟩) 1 e1, .slice t2 1 u2, .slice z5 3 d5] 25) = Z at h1 z1 s1 hW5
    have hb := box33 Z #[.int .i64 0] #[.int .i64 3] #[.int .i64 0, .int .i64 0, .int .i64 1, .int .i64 0, .int .i64 0, .int .i64 2, .int .i64 2, .int .i64 1, .int .i64 3] 3 3 61
    generalize ((Z.alloc (.cells #[.int .i64 0] 3)).alloc (.cells #[.int .i64 3] 3)).alloc (.cells #[.int .i64 0, .int .i64 0, .int .i64 1, .int .i64 0, .int .i64 0, .int .i64 2, .int .i64 2, .int .i64 1, .int .i64 3] 61) = V at hb hW5
    have h2 := (Below.refl V.heap.size V).alloc (Nat.le_refl _) (.cells #[.int .i64 4, .int .i64 2, .slice (some ⟨w3.heap.size + 1, 0, none⟩) 1 1, .slice (some ⟨w3.heap.size + 1 + 1, 0, none⟩) 1 1, .slice (some ⟨w3.heap.size + 1 + 1 + 1, 0, none⟩) 3 3] 25)
    have z2 := World.alloc_heap_new V (.cells #[.int .i64 4, .int .i64 2, .slice (some ⟨w3.heap.size + 1, 0, none⟩) 1 1, .slice (some ⟨w3.heap.size + 1 + 1, 0, none⟩) 1 1, .slice (some ⟨w3.heap.size + 1 + 1 + 1, 0, none⟩) 3 3] 25)
    rw [hW5] at h2 z2
    rw [hb.2.2.2.2, s1] at z2
    rw [s1] at hb
    have dZ : Below Z.heap.size Z W5 := by
      have q := hb.1
      rw [← s1] at q
      exact q.trans (h2.mono q.size)
    exact ⟨blk_on z1 dZ, z2, ⟨rd_one (blk_on hb.2.1 h2), rd_one (blk_on hb.2.2.1 h2), rdE_want (blk_on hb.2.2.2.1 h2)⟩, h1.trans (dZ.mono h1.size)⟩)
  clear hW5
  have TE := requal_any W5 4 2 4 2 (some ⟨g1, 0, none⟩) t2 z5 (some ⟨w3.heap.size + 1, 0, none⟩) (some ⟨w3.heap.size + 1 + 1, 0, none⟩) (some ⟨w3.heap.size + 1 + 1 + 1, 0, none⟩) e1 u2 d5 1 1 3 [0] [3] [(0, 0, 1), (0, 0, 2), (2, 1, 3)] [0] [3] [(0, 0, 1), (0, 0, 2), (2, 1, 3)] (hide (H3.out.1.on HW.out.2.2.2)) (hide HW.out.2.2.1) (by decide) (by decide) (by decide) (by decide) (by decide) (by decide)
  rw [show eqB 4 2 4 2 [0] [3] [(0, 0, 1), (0, 0, 2), (2, 1, 3)] [0] [3] [(0, 0, 1), (0, 0, 2), (2, 1, 3)] = true by decide] at TE
  have p0 : W5.cell? ⟨w3.heap.size, 0, none⟩ = some (.int .i64 4) := cell_of HW.out.1 rfl
  have p1 : W5.cell? ⟨w3.heap.size, 1, none⟩ = some (.int .i64 2) := cell_of HW.out.1 rfl
  have p2 : W5.cell? ⟨w3.heap.size, 2, none⟩ = some (.slice (some ⟨g1, 0, none⟩) 1 e1) := cell_of HW.out.1 rfl
  have p3 : W5.cell? ⟨w3.heap.size, 3, none⟩ = some (.slice t2 1 u2) := cell_of HW.out.1 rfl
  have p4 : W5.cell? ⟨w3.heap.size, 4, none⟩ = some (.slice z5 3 d5) := cell_of HW.out.1 rfl
  have q0 : W5.cell? ⟨w3.heap.size + 1 + 1 + 1 + 1, 0, none⟩ = some (.int .i64 4) := cell_of HW.out.2.1 rfl
  have q1 : W5.cell? ⟨w3.heap.size + 1 + 1 + 1 + 1, 1, none⟩ = some (.int .i64 2) := cell_of HW.out.2.1 rfl
  have q2 : W5.cell? ⟨w3.heap.size + 1 + 1 + 1 + 1, 2, none⟩ = some (.slice (some ⟨w3.heap.size + 1, 0, none⟩) 1 1) := cell_of HW.out.2.1 rfl
  have q3 : W5.cell? ⟨w3.heap.size + 1 + 1 + 1 + 1, 3, none⟩ = some (.slice (some ⟨w3.heap.size + 1 + 1, 0, none⟩) 1 1) := cell_of HW.out.2.1 rfl
  have q4 : W5.cell? ⟨w3.heap.size + 1 + 1 + 1 + 1, 4, none⟩ = some (.slice (some ⟨w3.heap.size + 1 + 1 + 1, 0, none⟩) 3 3) := cell_of HW.out.2.1 rfl
  go_wp2_with (go_at_call 19; refine TE.mono ?_; rintro e w6 ⟨rfl, D6⟩; have H6 := hide D6; clear D6)
  go_ret
  have d5 := HD3.out.trans (HW.out.2.2.2.mono HD3.out.size)
  exact ⟨rfl, d5.trans (H6.out.mono d5.size)⟩
end Go.Proofs.YtchoopnjckcohaaGreatDoor
