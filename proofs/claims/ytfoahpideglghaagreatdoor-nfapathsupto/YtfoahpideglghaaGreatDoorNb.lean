import Derived.Test.YtfoahpideglghaaGreatDoorNa
namespace Go.Proofs.YtfoahpideglghaaGreatDoor
open Go.RowKit
attribute [local go_sem] Oper.semAt_some

/-! ### Sets of states; Post and Pre -/
theorem readsI_of {W : World} {ao : Option Addr} {L : List Int} (h : RdN W ao L) : ReadsI W ao L := fun k hk => by
  obtain ⟨g, o, e, c⟩ := h k hk
  exact ⟨g, o, e, by rw [c, List.getD_eq_getElem?_getD, List.getElem?_eq_getElem hk]; rfl⟩
theorem okI_of {n : Nat} {L : List Int} (h : L.all (inB n) = true) : okI n L = true := by
  unfold okI
  rw [List.all_eq_true] at h ⊢
  intro x hx
  have := h x hx
  simpa [inB] using this
theorem own_blk {w w' : World} {B e sz n g cap : Nat} {xs : List Value} (h : w.ownsRow B e sz (.slice (some ⟨g, 0, none⟩) n cap) n xs) (hg : w'.heap[g]? = w.heap[g]?) : w'.ownsRow B e sz (.slice (some ⟨g, 0, none⟩) n cap) n xs := by
  refine ⟨h.1, ?_⟩
  rcases h.2 with z | ⟨g', cap', cur, e1, hb, hc, rest⟩
  · exact .inl z
  · cases e1
    exact .inr ⟨g, cap, cur, rfl, hb, hg.trans hc, rest⟩
theorem IsSet.keep {w w' : World} {b g cap n X : Nat} (h : IsSet w b g cap n X) (h1 : w'.heap[b]? = w.heap[b]?) (h2 : w'.heap[g]? = w.heap[g]?) : IsSet w' b g cap n X := ⟨h.hn, h.hX, h1.trans h.blk, own_blk h.own h2⟩
theorem IsSet.belowB {w w' : World} {b g cap n X B : Nat} (h : IsSet w b g cap n X) (d : Below B w w') (hb : b < B) (hg : g < B) : IsSet w' b g cap n X := h.keep (d.block b hb) (d.block g hg)
set_option maxRecDepth 100000 in
set_option maxHeartbeats 1000000 in
theorem setOf_any (w : World) (N : Nat) (m : Int) (a1 a2 a3 ao : Option Addr) (n1 n2 n3 c1 c2 c3 cp : Nat) (L : List Int) (hr : Hid (RdN w ao L)) (hl : L.length ≤ 4194304) (hN : N ≤ 4096) (hin : Hid (L.all (inB N) = true)) :
    Calls Tryz.prog 54 #[.agg #[.int .i64 (N : Nat), .int .i64 m, .slice a1 n1 c1, .slice a2 n2 c2, .slice a3 n3 c3], .slice ao L.length cp] w fun e w' => ∃ b g cap, e = .returned (.pointer (some ⟨b, 0, none⟩)) ∧ IsSet w' b g cap N (setI N L) ∧ w.heap.size ≤ b ∧ w.heap.size ≤ g ∧ b ≠ g ∧ Below w.heap.size w w' := by
  obtain ⟨W0, hW0⟩ : ∃ W0, w.alloc (.cells #[.int .i64 (N : Nat), .int .i64 m, .slice a1 n1 c1, .slice a2 n2 c2, .slice a3 n3 c3] 25) = W0 := ⟨_, rfl⟩
  have d0 : Below w.heap.size w W0 := by rw [← hW0]; exact (Below.refl _ _).alloc (Nat.le_refl _) _
  have B0 : W0.heap[w.heap.size]? = some (.cells #[.int .i64 (N : Nat), .int .i64 m, .slice a1 n1 c1, .slice a2 n2 c2, .slice a3 n3 c3] 25 (0, 0)) := by rw [← hW0]; exact World.alloc_heap_new _ _
  have k0 : W0.cell? ⟨w.heap.size, 0, none⟩ = some (.int .i64 (N : Nat)) := cell_of B0 rfl
  have T : Calls Tryz.prog 69 #[.int .i64 N, .slice ao L.length cp] W0 fun e w' => ∃ b g cap, e = .returned (.tuple #[.pointer (some ⟨b, 0, none⟩), .int .i64 0]) ∧ IsSet w' b g cap N (setI N L) ∧ W0.heap.size ≤ b ∧ W0.heap.size ≤ g ∧ b ≠ g ∧ Below W0.heap.size W0 w' := (of81_any ao cp N L W0 (by omega) (readsI_of (hr.out.on d0)) (by omega)).mono fun e w' h => by
    rcases h with ⟨_, h⟩ | ⟨hf, _⟩
    · exact h
    · rw [okI_of hin.out] at hf
      cases hf
  have HD := hide d0
  clear d0 B0
  go_enter Tryz.func54, Tryz.ntmps54
  go_upto_region 2 with (go_at_call 69; refine T.mono ?_; rintro e w1 ⟨b, g, cap, rfl, hs, hb, hg, hbg, d1⟩)
  have HS := hide (And.intro hs (And.intro hb (And.intro hg (And.intro hbg d1))))
  clear hs hb hg hbg d1
  go_wp2
  go_ret
  obtain ⟨hs, hb, hg, hbg, d1⟩ := HS.out
  have z := HD.out.size
  exact ⟨b, g, cap, rfl, hs, by omega, by omega, hbg, HD.out.trans (d1.mono HD.out.size)⟩
/-- An edge's ends. -/
def ends (back : Bool) (e : EdT) : Int × Int := if back then (e.2.2, e.1) else (e.1, e.2.2)
def fnE (back : Bool) : FuncId := if back then 59 else 58
set_option maxRecDepth 100000 in
theorem post1_any (w : World) (x1 x2 x3 : Int) : Calls Tryz.prog 58 #[.agg #[.int .i64 x1, .int .i64 x2, .int .i64 x3]] w fun e w' => e = .returned (.tuple #[.int .i64 x1, .int .i64 x3]) ∧ Below w.heap.size w w' := by
  obtain ⟨W0, hW0⟩ : ∃ W0, w.alloc (.cells #[.int .i64 x1, .int .i64 x2, .int .i64 x3] 59) = W0 := ⟨_, rfl⟩
  have d0 : Below w.heap.size w W0 := by rw [← hW0]; exact (Below.refl _ _).alloc (Nat.le_refl _) _
  have B0 : W0.heap[w.heap.size]? = some (.cells #[.int .i64 x1, .int .i64 x2, .int .i64 x3] 59 (0, 0)) := by rw [← hW0]; exact World.alloc_heap_new _ _
  have k0 : W0.cell? ⟨w.heap.size, 0, none⟩ = some (.int .i64 x1) := cell_of B0 rfl
  have k2 : W0.cell? ⟨w.heap.size, 2, none⟩ = some (.int .i64 x3) := cell_of B0 rfl
  have HD := hide d0
  clear d0 B0
  go_enter Tryz.func58, Tryz.ntmps58
  go_wp2
  go_region
  go_wp2
  go_ret2
  exact ⟨rfl, HD.out.drew⟩
set_option maxRecDepth 100000 in
theorem pre1_any (w : World) (x1 x2 x3 : Int) : Calls Tryz.prog 59 #[.agg #[.int .i64 x1, .int .i64 x2, .int .i64 x3]] w fun e w' => e = .returned (.tuple #[.int .i64 x3, .int .i64 x1]) ∧ Below w.heap.size w w' := by
  obtain ⟨W0, hW0⟩ : ∃ W0, w.alloc (.cells #[.int .i64 x1, .int .i64 x2, .int .i64 x3] 59) = W0 := ⟨_, rfl⟩
  have d0 : Below w.heap.size w W0 := by rw [← hW0]; exact (Below.refl _ _).alloc (Nat.le_refl _) _
  have B0 : W0.heap[w.heap.size]? = some (.cells #[.int .i64 x1, .int .i64 x2, .int .i64 x3] 59 (0, 0)) := by rw [← hW0]; exact World.alloc_heap_new _ _
  have k0 : W0.cell? ⟨w.heap.size, 0, none⟩ = some (.int .i64 x1) := cell_of B0 rfl
  have k2 : W0.cell? ⟨w.heap.size, 2, none⟩ = some (.int .i64 x3) := cell_of B0 rfl
  have HD := hide d0
  clear d0 B0
  go_enter Tryz.func59, Tryz.ntmps59
  go_wp2
  go_region
  go_wp2
  go_ret2
  exact ⟨rfl, HD.out.drew⟩
theorem ends_any (back : Bool) (w : World) (x1 x2 x3 : Int) : Calls Tryz.prog (fnE back) #[.agg #[.int .i64 x1, .int .i64 x2, .int .i64 x3]] w fun e w' => e = .returned (.tuple #[.int .i64 (ends back (x1, x2, x3)).1, .int .i64 (ends back (x1, x2, x3)).2]) ∧ Below w.heap.size w w' := by
  cases back
  · exact post1_any w x1 x2 x3
  · exact pre1_any w x1 x2 x3
end Go.Proofs.YtfoahpideglghaaGreatDoor
