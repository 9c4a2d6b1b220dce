import Derived.Test.YtdgmokelmocejabDoorPkm
namespace Go.Proofs.YtdgmokelmocejabDoor
open Go.RowKit

/-- What ref.pick holds: the two sets and the table in its boxes, its result's place, its own set with the numbers l gathered. -/
structure RPk (w : World) (P1 P2 P3 P4 : Nat) (n : Nat) (va : Value) (nb : Int) (vb : Value) (y0 y1 y2 y3 : Bool) (l : List Nat) (ao : Option Addr) (cap : Nat) (wx : World) : Prop where
  lt : w.heap.size < P1 ∧ P1 < P2 ∧ P2 < P3 ∧ P3 < P4
  a : wx.heap[w.heap.size]? = some (.cells #[.int .i64 n, va] 42 (0, 0))
  b : wx.heap[P1]? = some (.cells #[.int .i64 nb, vb] 42 (0, 0))
  y : wx.heap[P2]? = some (.cells #[.bool y0, .bool y1, .bool y2, .bool y3] 94 (0, 0))
  res : wx.heap[P3]? = some (.cells #[.int .i64 0, .slice none 0 0] 42 (0, 0))
  set : wx.heap[P4]? = some (.cells #[.int .i64 n, .slice ao l.length cap] 42 (0, 0))
  own : wx.ownsRow w.heap.size 3 1 (.slice ao l.length cap) l.length (intV l)
  below : Below w.heap.size w wx
theorem rpk_start (w : World) (n : Nat) (va : Value) (nb : Int) (vb : Value) (y0 y1 y2 y3 : Bool) :
    RPk w (w.heap.size + 1) (w.heap.size + 1 + 1) (w.heap.size + 1 + 1 + 1) (w.heap.size + 1 + 1 + 1 + 1) n va nb vb y0 y1 y2 y3 [] none 0
      (((((w.alloc (.cells #[.int .i64 n, va] 42)).alloc (.cells #[.int .i64 nb, vb] 42)).alloc (.cells #[.bool y0, .bool y1, .bool y2, .bool y3] 94)).alloc (.cells #[.int .i64 0, .slice none 0 0] 42)).alloc (.cells #[.int .i64 n, .slice none 0 0] 42)) := by
  generalize e1 : w.alloc (.cells #[.int .i64 n, va] 42) = w1
  generalize e2 : w1.alloc (.cells #[.int .i64 nb, vb] 42) = w2
  generalize e3 : w2.alloc (.cells #[.bool y0, .bool y1, .bool y2, .bool y3] 94) = w3
  generalize e4 : w3.alloc (.cells #[.int .i64 0, .slice none 0 0] 42) = w4
  generalize e5 : w4.alloc (.cells #[.int .i64 n, .slice none 0 0] 42) = w5
  have s1 : w1.heap.size = w.heap.size + 1 := by rw [← e1]; exact World.size_alloc _ _
  have s2 : w2.heap.size = w.heap.size + 1 + 1 := by rw [← e2, World.size_alloc, s1]
  have s3 : w3.heap.size = w.heap.size + 1 + 1 + 1 := by rw [← e3, World.size_alloc, s2]
  have s4 : w4.heap.size = w.heap.size + 1 + 1 + 1 + 1 := by rw [← e4, World.size_alloc, s3]
  have d2 : ∀ k, k < w1.heap.size → w2.heap[k]? = w1.heap[k]? := fun k hk => by rw [← e2]; exact Below.heap_alloc _ _ _ hk
  have d3 : ∀ k, k < w2.heap.size → w3.heap[k]? = w2.heap[k]? := fun k hk => by rw [← e3]; exact Below.heap_alloc _ _ _ hk
  have d4 : ∀ k, k < w3.heap.size → w4.heap[k]? = w3.heap[k]? := fun k hk => by rw [← e4]; exact Below.heap_alloc _ _ _ hk
  have d5 : ∀ k, k < w4.heap.size → w5.heap[k]? = w4.heap[k]? := fun k hk => by rw [← e5]; exact Below.heap_alloc _ _ _ hk
  have n1 : w1.heap[w.heap.size]? = some (.cells #[.int .i64 n, va] 42 (0, 0)) := by rw [← e1]; exact heap_alloc_new _ _
  have n2 : w2.heap[w1.heap.size]? = some (.cells #[.int .i64 nb, vb] 42 (0, 0)) := by rw [← e2]; exact heap_alloc_new _ _
  have n3 : w3.heap[w2.heap.size]? = some (.cells #[.bool y0, .bool y1, .bool y2, .bool y3] 94 (0, 0)) := by rw [← e3]; exact heap_alloc_new _ _
  have n4 : w4.heap[w3.heap.size]? = some (.cells #[.int .i64 0, .slice none 0 0] 42 (0, 0)) := by rw [← e4]; exact heap_alloc_new _ _
  have n5 : w5.heap[w4.heap.size]? = some (.cells #[.int .i64 n, .slice none 0 0] 42 (0, 0)) := by rw [← e5]; exact heap_alloc_new _ _
  refine ⟨by omega, ?_, ?_, ?_, ?_, ?_, World.ownsRow_nil _ _ _ _, ?_⟩
  · rw [d5 _ (by omega), d4 _ (by omega), d3 _ (by omega), d2 _ (by omega)]; exact n1
  · rw [← s1, d5 _ (by omega), d4 _ (by omega), d3 _ (by omega)]; exact n2
  · rw [← s2, d5 _ (by omega), d4 _ (by omega)]; exact n3
  · rw [← s3, d5 _ (by omega)]; exact n4
  · rw [← s4]; exact n5
  · rw [← e5, ← e4, ← e3, ← e2, ← e1]
    exact (((((Below.refl _ _).alloc (Nat.le_refl _) _).alloc (by simp) _).alloc (by simp; omega) _).alloc (by simp; omega) _).alloc (by simp; omega) _
theorem reads_b {w w' : World} {ao : Option Addr} {l : List Nat} (h : Reads w ao l) (hb : Below w.heap.size w w') : Reads w' ao l := fun k hk => by
  obtain ⟨g, e, c⟩ := h k hk
  exact ⟨g, e, (hb.cell (p := ⟨g, k, none⟩) (World.block_lt_of_cell? w _ c)).trans c⟩
theorem own_neT {w : World} {base c t : Nat} {v : Value} {n : Nat} {xs : List Value} {r : Array Value} (ht : t ≠ 3) (h : w.ownsRow base 3 1 v n xs) (hc : w.heap[c]? = some (.cells r t (0, 0))) : v.ownBlock ≠ some c := by
  rcases h.2 with ⟨rfl, _⟩ | ⟨g, cap, cur, rfl, _, hg, _⟩
  · simp [Value.ownBlock]
  · intro e
    simp [Value.ownBlock] at e
    subst e
    rw [hg] at hc
    simp at hc
    exact ht hc.2.symm
section
variable {w : World} {P1 P2 P3 P4 n : Nat} {va : Value} {nb : Int} {vb : Value} {y0 y1 y2 y3 : Bool} {l : List Nat} {ao : Option Addr} {cap : Nat} {wx : World}
theorem rpk_put {w1 : World} {g capn j : Nat} (h : RPk w P1 P2 P3 P4 n va nb vb y0 y1 y2 y3 l ao cap wx) (hgr : (wx.alloc (.cells #[.int .i64 (j : Int)] 3)).grownBy w1 (Value.slice ao l.length cap).ownBlock)
    (hown : w1.ownsRow w.heap.size 3 1 (.slice (some ⟨g, 0, none⟩) (l.length + 1) capn) (l.length + 1) (intV l ++ [.int .i64 (j : Int)])) :
    RPk w P1 P2 P3 P4 n va nb vb y0 y1 y2 y3 (l ++ [j]) (some ⟨g, 0, none⟩) capn (w1.setCell ⟨P4, 1, none⟩ (.slice (some ⟨g, 0, none⟩) (l.length + 1) capn)) ∧ w1.cell? ⟨P4, 1, none⟩ = some (.slice ao l.length cap) ∧ w1.frozen? ⟨P4, 1, none⟩ = false := by
  have hlt := h.lt
  have kp : ∀ c (o : Obj), wx.heap[c]? = some o → (Value.slice ao l.length cap).ownBlock ≠ some c → w1.heap[c]? = some o := fun c o ho hne => by
    have := cell_lt ho
    rw [hgr.block _ (by simp; omega) (Ne.symm hne), Below.heap_alloc _ _ _ this]; exact ho
  have ka := kp _ _ h.a (own_neT (by decide) h.own h.a)
  have kb := kp _ _ h.b (own_neT (by decide) h.own h.b)
  have ky := kp _ _ h.y (own_neT (by decide) h.own h.y)
  have kr := kp _ _ h.res (own_neT (by decide) h.own h.res)
  have ks := kp _ _ h.set (own_neT (by decide) h.own h.set)
  have hsz := cell_lt h.a
  have hb1 : Below w.heap.size w w1 := (h.below.alloc (by omega) _).grown hgr (by simp; omega) (fun k hk => (h.own.lt k hk).1)
  have hL : (l ++ [j]).length = l.length + 1 := by simp
  have hV : intV (l ++ [j]) = intV l ++ [.int .i64 (j : Int)] := by simp [intV]
  refine ⟨⟨hlt, ?_, ?_, ?_, ?_, ?_, ?_, hb1.setCell (by simp; omega) _⟩, by rw [cell_of_row w1 _ 1 _ 42 (0, 0) ks]; rfl, frozen_of_row w1 _ 1 _ 42 ks⟩
  · rw [heap_setCell_other _ _ _ _ (by simp; omega)]; exact ka
  · rw [heap_setCell_other _ _ _ _ (by simp; omega)]; exact kb
  · rw [heap_setCell_other _ _ _ _ (by simp; omega)]; exact ky
  · rw [heap_setCell_other _ _ _ _ (by simp; omega)]; exact kr
  · rw [hL]; exact heap_setCell_same w1 P4 1 _ 42 _ ks
  · rw [hL, hV]; exact ownsRow_setCell_other hown (own_neT (by decide) hown ks) _
theorem rpk_cells (h : RPk w P1 P2 P3 P4 n va nb vb y0 y1 y2 y3 l ao cap wx) :
    wx.cell? ⟨w.heap.size, 0, none⟩ = some (.int .i64 n) ∧ wx.cell? ⟨w.heap.size, 1, none⟩ = some va ∧ wx.cell? ⟨P1, 1, none⟩ = some vb ∧ wx.cell? ⟨P2, 0, none⟩ = some (.bool y0) ∧ wx.cell? ⟨P2, 1, none⟩ = some (.bool y1) ∧ wx.cell? ⟨P2, 2, none⟩ = some (.bool y2) ∧ wx.cell? ⟨P2, 3, none⟩ = some (.bool y3) ∧ wx.cell? ⟨P4, 0, none⟩ = some (.int .i64 n) ∧ wx.cell? ⟨P4, 1, none⟩ = some (.slice ao l.length cap) ∧ wx.cell? ⟨P3, 0, none⟩ = some (.int .i64 0) ∧ wx.cell? ⟨P3, 1, none⟩ = some (.slice none 0 0) ∧ (∀ j, wx.frozen? ⟨P3, j, none⟩ = false) ∧ ∀ j, wx.frozen? ⟨P4, j, none⟩ = false := by
  refine ⟨?_, ?_, ?_, ?_, ?_, ?_, ?_, ?_, ?_, ?_, ?_, fun j => frozen_of_row wx _ j _ 42 h.res, fun j => frozen_of_row wx _ j _ 42 h.set⟩
  · rw [cell_of_row wx _ 0 _ 42 (0, 0) h.a]; rfl
  · rw [cell_of_row wx _ 1 _ 42 (0, 0) h.a]; rfl
  · rw [cell_of_row wx _ 1 _ 42 (0, 0) h.b]; rfl
  · rw [cell_of_row wx _ 0 _ 94 (0, 0) h.y]; rfl
  · rw [cell_of_row wx _ 1 _ 94 (0, 0) h.y]; rfl
  · rw [cell_of_row wx _ 2 _ 94 (0, 0) h.y]; rfl
  · rw [cell_of_row wx _ 3 _ 94 (0, 0) h.y]; rfl
  · rw [cell_of_row wx _ 0 _ 42 (0, 0) h.set]; rfl
  · rw [cell_of_row wx _ 1 _ 42 (0, 0) h.set]; rfl
  · rw [cell_of_row wx _ 0 _ 42 (0, 0) h.res]; rfl
  · rw [cell_of_row wx _ 1 _ 42 (0, 0) h.res]; rfl
end
end Go.Proofs.YtdgmokelmocejabDoor
