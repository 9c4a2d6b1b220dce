import Derived.Test.YtmagchclmmphaabGreatDoorFr
import Derived.Test.YtmagchclmmphaabGreatDoorEK
namespace Go.Proofs.YtmagchclmmphaabGreatDoor
open Go.RowKit Go.Maps
attribute [local go_sem] Oper.semAt_some

/-! ### The box of a content while it is made -/
theorem own_ne {W : World} {B e sz n g : Nat} {v : Value} {xs : List Value} {c : Array Value} {t : TypeId} {fr : Nat × Nat} (h : W.ownsRow B e sz v n xs) (hb : W.heap[g]? = some (.cells c t fr)) (hne : e ≠ t) : v.ownBlock ≠ some g := by
  intro q
  rcases h.2 with ⟨rfl, _⟩ | ⟨g', cap, cur, rfl, _, hg, _⟩
  · cases q
  · cases q
    rw [hg] at hb
    cases hb
    exact hne rfl
theorem rowB_set {W : World} {B e sz n g : Nat} {v : Value} {xs : List Value} {c : Array Value} {t : TypeId} {fr : Nat × Nat} (h : W.ownsRow B e sz v n xs) (hb : W.heap[g]? = some (.cells c t fr)) (hne : e ≠ t) (i : Nat) (u : Value) : (W.setCell ⟨g, i, none⟩ u).ownsRow B e sz v n xs :=
  row_only h (only_set W g i u) fun k q z => own_ne h hb hne (by rw [q, z])
structure FB (w : World) (g : Nat) (ti : ByteArray) (bx : Array Value) (W : World) (v1 v2 v3 v4 : Value) (O : List OpT) (S F : List ByteArray) (R : List RuT) : Prop where
  blk : W.heap[g]? = some (.cells #[.string ti, v1, v2, v3, v4] 32 (0, 0))
  ba : W.heap[w.heap.size]? = some (.cells bx 25 (0, 0))
  bo : W.heap[w.heap.size + 1]? = some (.cells #[.string ⟨#[]⟩, .slice none 0 0, .slice none 0 0, .slice none 0 0, .slice none 0 0] 32 (0, 0))
  hg : w.heap.size + 2 ≤ g
  o : W.ownsRow (w.heap.size + 2) 66 2 v1 O.length (O.flatMap kOps.cs)
  s : W.ownsRow (w.heap.size + 2) 9 1 v2 S.length (strV S)
  f : W.ownsRow (w.heap.size + 2) 9 1 v3 F.length (strV F)
  r : W.ownsRow (w.heap.size + 2) 68 3 v4 R.length (R.flatMap kRules.cs)
  ne : ∀ b, v2.ownBlock = some b → v3.ownBlock ≠ some b
  dw : Below w.heap.size w W
section
variable {w W : World} {g : Nat} {ti : ByteArray} {bx : Array Value} {v1 v2 v3 v4 : Value} {O : List OpT} {S F : List ByteArray} {R : List RuT}
theorem FB.drewN (h : FB w g ti bx W v1 v2 v3 v4 O S F R) (d : Nat) : FB w g ti bx (W.drewN d) v1 v2 v3 v4 O S F R := ⟨h.blk, h.ba, h.bo, h.hg, h.o, h.s, h.f, h.r, h.ne, below_drewN2 h.dw d⟩
theorem FB.lt (h : FB w g ti bx W v1 v2 v3 v4 O S F R) : g < W.heap.size := (Array.getElem?_eq_some_iff.1 h.blk).1
theorem FB.below (h : FB w g ti bx W v1 v2 v3 v4 O S F R) {W' : World} (d : Below W.heap.size W W') : FB w g ti bx W' v1 v2 v3 v4 O S F R :=
  ⟨(d.block _ h.lt).trans h.blk, (d.block _ (Array.getElem?_eq_some_iff.1 h.ba).1).trans h.ba, (d.block _ (Array.getElem?_eq_some_iff.1 h.bo).1).trans h.bo, h.hg, owns_below h.o d, owns_below h.s d, owns_below h.f d, owns_below h.r d, h.ne, h.dw.trans (d.mono h.dw.size)⟩
/-- What a step leaves that writes but a row. -/
theorem FB.keep (h : FB w g ti bx W v1 v2 v3 v4 O S F R) {W' : World} {P : Nat → Prop} (ho : Only W W' P) (hP : ∀ k, P k → w.heap.size + 2 ≤ k ∧ k ≠ g) :
    W'.heap[g]? = some (.cells #[.string ti, v1, v2, v3, v4] 32 (0, 0)) ∧ W'.heap[w.heap.size]? = some (.cells bx 25 (0, 0)) ∧ W'.heap[w.heap.size + 1]? = some (.cells #[.string ⟨#[]⟩, .slice none 0 0, .slice none 0 0, .slice none 0 0, .slice none 0 0] 32 (0, 0)) ∧ Below w.heap.size w W' :=
  ⟨(ho.block _ h.lt fun z => (hP g z).2 rfl).trans h.blk, (ho.block _ (Array.getElem?_eq_some_iff.1 h.ba).1 fun z => by have := (hP _ z).1; omega).trans h.ba, (ho.block _ (Array.getElem?_eq_some_iff.1 h.bo).1 fun z => by have := (hP _ z).1; omega).trans h.bo, h.dw.trans (ho.toBelow h.dw.size fun k z => by have := (hP k z).1; omega)⟩
/-- The box's cells set anew. -/
theorem far_set {X : World} {i g b : Nat} {u : Value} {c : Array Value} {t : TypeId} (h : X.heap[b]? = some (.cells c t (0, 0))) (hb : b ≠ g) : (X.setCell ⟨g, i, none⟩ u).heap[b]? = some (.cells c t (0, 0)) :=
  ((only_set X g i u).block b (Array.getElem?_eq_some_iff.1 h).1 hb).trans h
theorem tag_ne {W : World} {B C e d sz tz n m k : Nat} {u v : Value} {xs ys : List Value} (h : W.ownsRow B e sz u n xs) (h' : W.ownsRow C d tz v m ys) (hed : e ≠ d) (q : u.ownBlock = some k) (z : v.ownBlock = some k) : False := by
  rcases h'.2 with ⟨rfl, _⟩ | ⟨g', cap, cur, rfl, _, hg, _⟩
  · cases z
  · cases z
    exact own_ne h hg hed q
theorem FB.set1 (h : FB w g ti bx W v1 v2 v3 v4 O S F R) {w3 : World} {v1' : Value} {O' : List OpT} (hG : Grw W w3 v1 v1') (ho : w3.ownsRow (w.heap.size + 2) 66 2 v1' O'.length (O'.flatMap kOps.cs)) :
    w3.heap[g]? = some (.cells #[.string ti, v1, v2, v3, v4] 32 (0, 0)) ∧ FB w g ti bx (w3.setCell ⟨g, 1, none⟩ v1') v1' v2 v3 v4 O' S F R := by
  obtain ⟨b0, b1, b2, dd⟩ := h.keep hG.1 fun k z => ⟨(h.o.lt k z).1, fun e => own_ne h.o h.blk (by omega) (by rw [z, e])⟩
  have hg := h.hg
  exact ⟨b0, heap_setCell_same _ _ 1 _ 32 _ b0, far_set b1 (by omega), far_set b2 (by omega), h.hg, rowB_set ho b0 (by omega) _ _, rowB_set (row_only h.s hG.1 fun k q z => tag_ne h.s h.o (by omega) q z) b0 (by omega) _ _, rowB_set (row_only h.f hG.1 fun k q z => tag_ne h.f h.o (by omega) q z) b0 (by omega) _ _, rowB_set (row_only h.r hG.1 fun k q z => tag_ne h.r h.o (by omega) q z) b0 (by omega) _ _, h.ne, dd.trans ((only_set w3 g 1 v1').toBelow dd.size fun k z => by omega)⟩
theorem FB.set3 (h : FB w g ti bx W v1 v2 v3 v4 O S F R) {w3 : World} {v3' : Value} {F' : List ByteArray} (hG : Grw W w3 v3 v3') (ho : w3.ownsRow (w.heap.size + 2) 9 1 v3' F'.length (strV F')) :
    w3.heap[g]? = some (.cells #[.string ti, v1, v2, v3, v4] 32 (0, 0)) ∧ FB w g ti bx (w3.setCell ⟨g, 3, none⟩ v3') v1 v2 v3' v4 O S F' R := by
  obtain ⟨b0, b1, b2, dd⟩ := h.keep hG.1 fun k z => ⟨(h.f.lt k z).1, fun e => own_ne h.f h.blk (by omega) (by rw [z, e])⟩
  have hg := h.hg
  exact ⟨b0, heap_setCell_same _ _ 3 _ 32 _ b0, far_set b1 (by omega), far_set b2 (by omega), h.hg, rowB_set (row_only h.o hG.1 fun k q z => tag_ne h.o h.f (by omega) q z) b0 (by omega) _ _, rowB_set (row_only h.s hG.1 fun k q z => h.ne k q z) b0 (by omega) _ _, rowB_set ho b0 (by omega) _ _, rowB_set (row_only h.r hG.1 fun k q z => tag_ne h.r h.f (by omega) q z) b0 (by omega) _ _, fun b q z => by
    rcases hG.2 b z with z | z
    · exact h.ne b q z
    · have := (h.s.lt b q).2; omega, dd.trans ((only_set w3 g 3 v3').toBelow dd.size fun k z => by omega)⟩
theorem FB.set4 (h : FB w g ti bx W v1 v2 v3 v4 O S F R) {w3 : World} {v4' : Value} {R' : List RuT} (hG : Grw W w3 v4 v4') (ho : w3.ownsRow (w.heap.size + 2) 68 3 v4' R'.length (R'.flatMap kRules.cs)) :
    w3.heap[g]? = some (.cells #[.string ti, v1, v2, v3, v4] 32 (0, 0)) ∧ FB w g ti bx (w3.setCell ⟨g, 4, none⟩ v4') v1 v2 v3 v4' O S F R' := by
  obtain ⟨b0, b1, b2, dd⟩ := h.keep hG.1 fun k z => ⟨(h.r.lt k z).1, fun e => own_ne h.r h.blk (by omega) (by rw [z, e])⟩
  have hg := h.hg
  exact ⟨b0, heap_setCell_same _ _ 4 _ 32 _ b0, far_set b1 (by omega), far_set b2 (by omega), h.hg, rowB_set (row_only h.o hG.1 fun k q z => tag_ne h.o h.r (by omega) q z) b0 (by omega) _ _, rowB_set (row_only h.s hG.1 fun k q z => tag_ne h.s h.r (by omega) q z) b0 (by omega) _ _, rowB_set (row_only h.f hG.1 fun k q z => tag_ne h.f h.r (by omega) q z) b0 (by omega) _ _, rowB_set ho b0 (by omega) _ _, h.ne, dd.trans ((only_set w3 g 4 v4').toBelow dd.size fun k z => by omega)⟩
theorem FB.set2 (h : FB w g ti bx W v1 (.slice none 0 0) (.slice none 0 0) v4 O [] [] R) {w3 : World} {v2' : Value} {S' : List ByteArray} (ho : w3.ownsRow W.heap.size 9 1 v2' S'.length (strV S')) (d : Below W.heap.size W w3) :
    w3.heap[g]? = some (.cells #[.string ti, v1, .slice none 0 0, .slice none 0 0, v4] 32 (0, 0)) ∧ FB w g ti bx (w3.setCell ⟨g, 2, none⟩ v2') v1 v2' (.slice none 0 0) v4 O S' [] R := by
  have h3 := h.below d
  have hg := h.hg
  have hl := h.lt
  refine ⟨h3.blk, heap_setCell_same _ _ 2 _ 32 _ h3.blk, far_set h3.ba (by omega), far_set h3.bo (by omega), h.hg, rowB_set h3.o h3.blk (by omega) _ _, rowB_set (own_wide ho (by omega)) h3.blk (by omega) _ _, rowB_set h3.f h3.blk (by omega) _ _, rowB_set h3.r h3.blk (by omega) _ _, fun b _ z => (by cases z), h3.dw.trans ((only_set w3 g 2 v2').toBelow h3.dw.size fun k z => by omega)⟩
theorem FB.done (h : FB w g ti bx W v1 v2 v3 v4 O S F R) {W' : World} (ho : Only W W' (fun k => k = w.heap.size + 1)) : FrO w W' ⟨ti, O, S, F, R, 0⟩ v1 v2 v3 v4 := by
  have k : ∀ {e sz n : Nat} {v : Value} {xs : List Value}, W.ownsRow (w.heap.size + 2) e sz v n xs → W'.ownsRow w.heap.size e sz v n xs := fun h => own_wide (row_only h ho fun k q z => by have := (h.lt k q).1; omega) (by omega)
  exact ⟨k h.o, k h.s, k h.f, k h.r, h.ne, h.dw.trans (ho.toBelow h.dw.size fun k z => by omega)⟩
end
/-- One more text. -/
theorem app_S {W : World} {B : Nat} {v : Value} {O : List ByteArray} (h : W.ownsRow B 9 1 v O.length (strV O)) (hB : B ≤ W.heap.size) (x : ByteArray) {ops : Array Oper} {rest : List Oper} {o : Oper} {a : Act} {Q : Exit → Act → World → Prop} (hgd : o.guard = none) (s y : Operand)
    (ho : o.op = .call { callee := .builtin .append, args := #[s, y], argTypes := #[26, 26] }) (hs : a.eval s = v) (hy : a.eval y = .slice (some ⟨W.heap.size, 0, none⟩) 1 1) (hl : O.length ≤ 8388608)
    (hK : ∀ a5 c5 w3, w3.ownsRow B 9 1 (.slice a5 (O.length + 1) c5) (O ++ [x]).length (strV (O ++ [x])) → Grw W w3 v (.slice a5 (O.length + 1) c5) → wpList Tryz.prog ops Q rest (a.put o.dst (.slice a5 (O.length + 1) c5)) w3) :
    wpList Tryz.prog ops Q (o :: rest) a (W.alloc (.cells #[.string x] 9)) := by
  obtain ⟨i9, hi9, hz90, hz91, hz92⟩ := info_parts info9
  refine wpList_append_own_at _ hgd s y _ ho B 9 i9 _ 1 16 Tryz.underlying26 hi9 hz90 hz91 hz92 rfl (by omega) v O.length (strV O) hs (owns_below h ((Below.refl _ W).alloc (Nat.le_refl _) _)) ⟨W.heap.size, 0, none⟩ 1 1 [.string x] hy rfl (cell_one_new W (.string x) 9) (fun u hu => by rw [List.mem_singleton.1 hu]; rfl) (by unfold maxLen; omega) (by omega) (by simp; omega) ?_
  intro v' w3 how hgr hnil hloc
  have hG := grw_append hgr hloc
  obtain ⟨a5, c5, rfl⟩ := rowForm how
  exact hK a5 c5 w3 (by simpa [strV] using how) hG
end Go.Proofs.YtmagchclmmphaabGreatDoor
