import Derived.Test.YtnfdifkcchciaaaDoorMrg
namespace Go.Proofs.YtnfdifkcchciaaaDoor
open Go.RowKit Go.Maps

theorem OwnS.below {w w' : World} {B : Nat} {v : Value} {l : List ByteArray} (h : OwnS w B v l) (hb : Below w.heap.size w w') : OwnS w' B v l :=
  World.ownsRow.kept h (row := none) ⟨hb.os, hb.tape, hb.output, hb.size, fun k hk _ => hb.block k hk⟩ (by cases v.ownBlock <;> simp)
theorem OwnN.below {w w' : World} {B : Nat} {v : Value} {l : List Nat} (h : OwnN w B v l) (hb : Below w.heap.size w w') : OwnN w' B v l :=
  World.ownsRow.kept h (row := none) ⟨hb.os, hb.tape, hb.output, hb.size, fun k hk _ => hb.block k hk⟩ (by cases v.ownBlock <;> simp)
theorem OwnS.mono {w : World} {B B' : Nat} {v : Value} {l : List ByteArray} (h : OwnS w B v l) (hb : B' ≤ B) : OwnS w B' v l :=
  ⟨h.1, h.2.imp id fun ⟨g, cap, cur, h1, h2, h3⟩ => ⟨g, cap, cur, h1, by omega, h3⟩⟩
theorem row_mono {w : World} {B B' : Nat} {e : TypeId} {n : Nat} {v : Value} {xs : List Value} (h : w.ownsRow B e 1 v n xs) (hb : B' ≤ B) : w.ownsRow B' e 1 v n xs :=
  ⟨h.1, h.2.imp id fun ⟨g, cap, cur, h1, h2, h3⟩ => ⟨g, cap, cur, h1, by omega, h3⟩⟩
theorem row_below {w w' : World} {B : Nat} {e : TypeId} {n : Nat} {v : Value} {xs : List Value} (h : w.ownsRow B e 1 v n xs) (hb : Below w.heap.size w w') : w'.ownsRow B e 1 v n xs :=
  World.ownsRow.kept h (row := none) ⟨hb.os, hb.tape, hb.output, hb.size, fun k hk _ => hb.block k hk⟩ (by cases v.ownBlock <;> simp)

/-- What Merge holds in the round k of its second loop. -/
structure Mg (w : World) (a b : List ByteArray) (bm gp gq n m k : Nat) (v : Value) (wr : World) : Prop where
  all : OwnS wr w.heap.size v (mrg a (b.take k))
  np : v.ownBlock ≠ some gp
  nq : v.ownBlock ≠ some gq
  nm : v.ownBlock ≠ some bm
  p : wr.ownsRow w.heap.size 3 1 (.slice (some ⟨gp, 0, none⟩) n n) n (intV (List.range n))
  q : wr.ownsRow w.heap.size 3 1 (.slice (some ⟨gq, 0, none⟩) m m) m (intV (fillTo (qOf a b) k))
  pl : Pls wr bm n a
  below : Below w.heap.size w wr
  pq : gp ≠ gq
  mq : bm ≠ gq
  lt : gp < wr.heap.size ∧ gq < wr.heap.size ∧ bm < wr.heap.size

theorem Mg.stored {w : World} {a b : List ByteArray} {bm gp gq n m k : Nat} {v : Value} {wr : World} (h : Mg w a b bm gp gq n m k v wr) (hk : k < b.length) (_hm : m = b.length)
    (v' : Value) (wx : World) (x : Int) (hx : x = ((mrg a b).idxOf b[k] : Nat)) (hx' : Mg w a b bm gp gq n m k v wr → OwnS wx w.heap.size v' (mrg a (b.take (k + 1))) ∧ v'.ownBlock ≠ some gp ∧ v'.ownBlock ≠ some gq ∧ v'.ownBlock ≠ some bm ∧
      wx.ownsRow w.heap.size 3 1 (.slice (some ⟨gp, 0, none⟩) n n) n (intV (List.range n)) ∧ wx.ownsRow w.heap.size 3 1 (.slice (some ⟨gq, 0, none⟩) m m) m (intV (fillTo (qOf a b) k)) ∧ Pls wx bm n a ∧ Below w.heap.size w wx ∧ wr.heap.size ≤ wx.heap.size) :
    Mg w a b bm gp gq n m (k + 1) v' (wx.setCell ⟨gq, k, none⟩ (.int .i64 x)) := by
  obtain ⟨o1, o2, o3, o4, o5, o6, ⟨D, o7, o7'⟩, o8, o9⟩ := hx' h
  have st := o6.stored k (.int .i64 x)
  have hgq := (o6.lt gq rfl).1
  refine ⟨World.ownsRow.kept o1 st.2 (.inr o3), o2, o3, o4, World.ownsRow.kept o5 st.2 (.inr (by simp [Value.ownBlock]; exact h.pq)), ?_, ⟨D, o7.setCell h.mq _, o7'⟩, o8.setCell hgq _, h.pq, h.mq, ?_⟩
  · have := st.1
    rwa [fillTo_set (qOf a b) k (by rw [qOf_length]; exact hk) x (by rw [hx]; simp [qOf])] at this
  · have := st.2.size
    have := h.lt
    omega

theorem Mg.old {w : World} {a b : List ByteArray} {bm gp gq n m k : Nat} {v : Value} {wr : World} (h : Mg w a b bm gp gq n m k v wr) (hk : k < b.length) (hm : m = b.length) (hs : b[k] ∈ a) (x : Int) (hx : x = (a.idxOf b[k] : Nat)) :
    Mg w a b bm gp gq n m (k + 1) v (wr.setCell ⟨gq, k, none⟩ (.int .i64 x)) :=
  h.stored hk hm v wr x (by rw [hx, q_old hs]) fun h => ⟨by rw [List.take_succ_eq_append_getElem hk, mrg_snoc_old hs]; exact h.all, h.np, h.nq, h.nm, h.p, h.q, h.pl, h.below, Nat.le_refl _⟩

theorem Mg.new {w : World} {a b : List ByteArray} {bm gp gq n m k : Nat} {v : Value} {wr : World} (h : Mg w a b bm gp gq n m k v wr) (hk : k < b.length) (hm : m = b.length) (hs : b[k] ∉ a) (nb : b.Nodup) (t : TypeId) (v' : Value) (w1 : World)
    (ho : w1.ownsRow w.heap.size 9 1 v' ((mrg a (b.take k)).length + 1) (strV (mrg a (b.take k)) ++ [.string b[k]]))
    (hg : (wr.alloc (.cells #[.string b[k]] t)).grownBy w1 v.ownBlock) (hloc : v'.ownBlock = v.ownBlock ∨ v'.ownBlock = some (wr.alloc (.cells #[.string b[k]] t)).heap.size) (x : Int) (hx : x = ((mrg a (b.take k)).length : Nat)) :
    Mg w a b bm gp gq n m (k + 1) v' (w1.setCell ⟨gq, k, none⟩ (.int .i64 x)) := by
  have hsz : (wr.alloc (.cells #[.string b[k]] t)).heap.size = wr.heap.size + 1 := by simp
  have hlt := h.lt
  refine h.stored hk hm v' w1 x (by rw [hx, q_new hk nb hs]) fun h => ⟨?_, ?_, ?_, ?_, ?_, ?_, ?_, ?_, ?_⟩
  · rw [List.take_succ_eq_append_getElem hk, mrg_snoc_new hs]
    show w1.ownsRow w.heap.size 9 1 v' (mrg a (b.take k) ++ [b[k]]).length (strV (mrg a (b.take k) ++ [b[k]]))
    rw [List.length_append, List.length_singleton]
    simpa [strV] using ho
  · rcases hloc with e | e
    · rw [e]; exact h.np
    · rw [e, hsz]; simp; omega
  · rcases hloc with e | e
    · rw [e]; exact h.nq
    · rw [e, hsz]; simp; omega
  · rcases hloc with e | e
    · rw [e]; exact h.nm
    · rw [e, hsz]; simp; omega
  · exact World.ownsRow.kept (h.p.alloc _) hg (.inr (fun e => h.np (by simpa [Value.ownBlock] using e.symm)))
  · exact World.ownsRow.kept (h.q.alloc _) hg (.inr (fun e => h.nq (by simpa [Value.ownBlock] using e.symm)))
  · obtain ⟨D, o, hp⟩ := h.pl
    exact ⟨D, (o.alloc _).kept hg (fun e => h.nm e.symm), hp⟩
  · exact (h.below.alloc h.below.size _).grown hg (by rw [hsz]; have := h.below.size; omega) (fun j hj => (World.ownsRow.lt h.all j hj).1)
  · have := hg.size; omega

end Go.Proofs.YtnfdifkcchciaaaDoor
