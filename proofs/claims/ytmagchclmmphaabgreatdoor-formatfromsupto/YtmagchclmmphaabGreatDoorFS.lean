import Derived.Test.YtmagchclmmphaabGreatDoorFr
import Derived.Test.YtmagchclmmphaabGreatDoorEK
import Derived.Test.YtmagchclmmphaabGreatDoorFA
namespace Go.Proofs.YtmagchclmmphaabGreatDoor
open Go.RowKit Go.Maps
attribute [local go_sem] Oper.semAt_some

/-! ### The box of a content while it is made -/
theorem own_ne {W : World} {B e sz n g : Nat} {v : Value} {xs : List Value} {c : Array Value} {t : TypeId} {fr : Nat × Nat} (h : W.ownsRow B e sz v n xs) (hb : W.heap[g]? = some (.cells c t fr)) (hne : e ≠ t) : v.ownBlock ≠ some g := by
  intro q
  rcases h.2 with ⟨rfl, _⟩ | ⟨g', cap, cur, rfl, _, hg, _⟩
  · cases q
  · cases q
    rw [hg] at hb
    cases hb
    exact hne rfl
theorem rowB_set {W : World} {B e sz n g : Nat} {v : Value} {xs : List Value} {c : Array Value} {t : TypeId} {fr : Nat × Nat} (h : W.ownsRow B e sz v n xs) (hb : W.heap[g]? = some (.cells c t fr)) (hne : e ≠ t) (i : Nat) (u : Value) : (W.setCell ⟨g, i, none⟩ u).ownsRow B e sz v n xs :=
  row_only h (only_set W g i u) fun k q z => own_ne h hb hne (by rw [q, z])
structure FB (w : World) (g : Nat) (ti : ByteArray) (bx : Array Value) (W : World) (v1 v2 v3 v4 : Value) (O : List OpT) (S F : List ByteArray) (R : List RuT) : Prop where
  blk : W.heap[g]? = some (.cells #[.string ti, v1, v2, v3, v4] 32 (0, 0))
  ba : W.heap[w.heap.size]? = some (.cells bx 25 (0, 0))
  bo : W.heap[w.heap.size + 1]? = some (.cells #[.string ⟨#[]⟩, .slice none 0 0, .slice none 0 0, .slice none 0 0, .slice none 0 0] 32 (0, 0))
  hg : w.heap.size + 2 ≤ g
  o : W.ownsRow (w.heap.size + 2) 66 2 v1 O.length (O.flatMap kOps.cs)
  s : W.ownsRow (w.heap.size + 2) 9 1 v2 S.length (strV S)
  f : W.ownsRow (w.heap.size + 2) 9 1 v3 F.length (strV F)
  r : W.ownsRow (w.heap.size + 2) 68 3 v4 R.length (R.flatMap kRules.cs)
  ne : ∀ b, v2.ownBlock = some b → v3.ownBlock ≠ some b
  dw : Below w.heap.size w W
section
variable {w W : World} {g : Nat} {ti : ByteArray} {bx : Array Value} {v1 v2 v3 v4 : Value} {O : List OpT} {S F : List ByteArray} {R : List RuT}
theorem FB.drewN (h : FB w g ti bx W v1 v2 v3 v4 O S F R) (d : Nat) : FB w g ti bx (W.drewN d) v1 v2 v3 v4 O S F R := ⟨h.blk, h.ba, h.bo, h.hg, h.o, h.s, h.f, h.r, h.ne, below_drewN2 h.dw d⟩
theorem FB.lt (h : FB w g ti bx W v1 v2 v3 v4 O S F R) : g < W.heap.size := (Array.getElem?_eq_some_iff.1 h.blk).1
theorem FB.below (h : FB w g ti bx W v1 v2 v3 v4 O S F R) {W' : World} (d : Below W.heap.size W W') : FB w g ti bx W' v1 v2 v3 v4 O S F R :=
  ⟨(d.block _ h.lt).trans h.blk, (d.block _ (Array.getElem?_eq_some_iff.1 h.ba).1).trans h.ba, (d.block _ (Array.getElem?_eq_some_iff.1 h.bo).1).trans h.bo, h.hg, owns_below h.o d, owns_below h.s d, owns_below h.f d, owns_below h.r d, h.ne, h.dw.trans (d.mono h.dw.size)⟩
/-- What a step leaves that writes but a row. -/
theorem FB.keep (h : FB w g ti bx W v1 v2 v3 v4 O S F R) {W' : World} {P : Nat → Prop} (ho : Only W W' P) (hP : ∀ k, P k → w.heap.size + 2 ≤ k ∧ k ≠ g) :
    W'.heap[g]? = some (.cells #[.string ti, v1, v2, v3, v4] 32 (0, 0)) ∧ W'.heap[w.heap.size]? = some (.cells bx 25 (0, 0)) ∧ W'.heap[w.heap.size + 1]? = some (.cells #[.string ⟨#[]⟩, .slice none 0 0, .slice none 0 0, .slice none 0 0, .slice none 0 0] 32 (0, 0)) ∧ Below w.heap.size w W' :=
  ⟨(ho.block _ h.lt fun z => (hP g z).2 rfl).trans h.blk, (ho.block _ (Array.getElem?_eq_some_iff.1 h.ba).1 fun z => by have := (hP _ z).1; omega).trans h.ba, (ho.block _ (Array.getElem?_eq_some_iff.1 h.bo).1 fun z => by have := (hP _ z).1; omega).trans h.bo, h.dw.trans (ho.toBelow h.dw.size fun k z => by have := (hP k z).1; omega)⟩
/-- The box's cells set anew. -/
theorem far_set {X : World} {i g b : Nat} {u : Value} {c : Array Value} {t : TypeId} (h : X.heap[b]? = some (.cells c t (0, 0))) (hb : b ≠ g) : (X.setCell ⟨g, i, none⟩ u).heap[b]? = some (.cells c t (0, 0)) :=
  ((only_set X g i u).block b (Array.getElem?_eq_some_iff.1 h).1 hb).trans h
theorem tag_ne {W : World} {B C e d sz tz n m k : Nat} {u v : Value} {xs ys : List Value} (h : W.ownsRow B e sz u n xs) (h' : W.ownsRow C d tz v m ys) (hed : e ≠ d) (q : u.ownBlock = some k) (z : v.ownBlock = some k) : False := by
  rcases h'.2 with ⟨rfl, _⟩ | ⟨g', cap, cur, rfl, _, hg, _⟩
  · cases z
  · cases z
    exact own_ne h hg hed q
theorem FB.set1 (h : FB w g ti bx W v1 v2 v3 v4 O S F R) {w3 : World} {v1' : Value} {O' : List OpT} (hG : Grw W w3 v1 v1') (ho : w3.ownsRow (w.heap.size + 2) 66 2 v1' O'.length (O'.flatMap kOps.cs)) :
    w3.heap[g]? = some (.cells #[.string ti, v1, v2, v3, v4] 32 (0, 0)) ∧ FB w g ti bx (w3.setCell ⟨g, 1, none⟩ v1') v1' v2 v3 v4 O' S F R := by
  obtain ⟨b0, b1, b2, dd⟩ := h.keep hG.1 fun k z => ⟨(h.o.lt k z).1, fun e => own_ne h.o h.blk (by omega) (by rw [z, e])⟩
  have hg := h.hg
  exact ⟨b0, heap_setCell_same _ _ 1 _ 32 _ b0, far_set b1 (by omega), far_set b2 (by omega), h.hg, rowB_set ho b0 (by omega) _ _, rowB_set (row_only h.s hG.1 fun k q z => tag_ne h.s h.o (by omega) q z) b0 (by omega) _ _, rowB_set (row_only h.f hG.1 fun k q z => tag_ne h.f h.o (by omega) q z) b0 (by omega) _ _, rowB_set (row_only h.r hG.1 fun k q z => tag_ne h.r h.o (by omega) q z) b0 (by omega) _ _, h.ne, dd.trans ((only_set w3 g 1 v1').toBelow dd.size fun k z => by omega)⟩
theorem FB.set3 (h : FB w g ti bx W v1 v2 v3 v4 O S F R) {w3 : World} {v3' : Value} {F' : List ByteArray} (hG : Grw W w3 v3 v3') (ho : w3.ownsRow (w.heap.size + 2) 9 1 v3' F'.length (strV F')) :
    w3.heap[g]? = some (.cells #[.string ti, v1, v2, v3, v4] 32 (0, 0)) ∧ FB w g ti bx (w3.setCell ⟨g, 3, none⟩ v3') v1 v2 v3' v4 O S F' R := by
  obtain ⟨b0, b1, b2, dd⟩ := h.keep hG.1 fun k z => ⟨(h.f.lt k z).1, fun e => own_ne h.f h.blk (by omega) (by rw [z, e])⟩
  have hg := h.hg
  exact ⟨b0, heap_setCell_same _ _ 3 _ 32 _ b0, far_set b1 (by omega), far_set b2 (by omega), h.hg, rowB_set (row_only h.o hG.1 fun k q z => tag_ne h.o h.f (by omega) q z) b0 (by omega) _ _, rowB_set (row_only h.s hG.1 fun k q z => h.ne k q z) b0 (by omega) _ _, rowB_set ho b0 (by omega) _ _, rowB_set (row_only h.r hG.1 fun k q z => tag_ne h.r h.f (by omega) q z) b0 (by omega) _ _, fun b q z => by
    rcases hG.2 b z with z | z
    · exact h.ne b q z
    · have := (h.s.lt b q).2; omega, dd.trans ((only_set w3 g 3 v3').toBelow dd.size fun k z => by omega)⟩
theorem FB.set4 (h : FB w g ti bx W v1 v2 v3 v4 O S F R) {w3 : World} {v4' : Value} {R' : List RuT} (hG : Grw W w3 v4 v4') (ho : w3.ownsRow (w.heap.size + 2) 68 3 v4' R'.length (R'.flatMap kRules.cs)) :
    w3.heap[g]? = some (.cells #[.string ti, v1, v2, v3, v4] 32 (0, 0)) ∧ FB w g ti bx (w3.setCell ⟨g, 4, none⟩ v4') v1 v2 v3 v4' O S F R' := by
  obtain ⟨b0, b1, b2, dd⟩ := h.keep hG.1 fun k z => ⟨(h.r.lt k z).1, fun e => own_ne h.r h.blk (by omega) (by rw [z, e])⟩
  have hg := h.hg
  exact ⟨b0, heap_setCell_same _ _ 4 _ 32 _ b0, far_set b1 (by omega), far_set b2 (by omega), h.hg, rowB_set (row_only h.o hG.1 fun k q z => tag_ne h.o h.r (by omega) q z) b0 (by omega) _ _, rowB_set (row_only h.s hG.1 fun k q z => tag_ne h.s h.r (by omega) q z) b0 (by omega) _ _, rowB_set (row_only h.f hG.1 fun k q z => tag_ne h.f h.r (by omega) q z) b0 (by omega) _ _, rowB_set ho b0 (by omega) _ _, h.ne, dd.trans ((only_set w3 g 4 v4').toBelow dd.size fun k z => by omega)⟩
theorem FB.set2 (h : FB w g ti bx W v1 (.slice none 0 0) (.slice none 0 0) v4 O [] [] R) {w3 : World} {v2' : Value} {S' : List ByteArray} (ho : w3.ownsRow W.heap.size 9 1 v2' S'.length (strV S')) (d : Below W.heap.size W w3) :
    w3.heap[g]? = some (.cells #[.string ti, v1, .slice none 0 0, .slice none 0 0, v4] 32 (0, 0)) ∧ FB w g ti bx (w3.setCell ⟨g, 2, none⟩ v2') v1 v2' (.slice none 0 0) v4 O S' [] R := by
  have h3 := h.below d
  have hg := h.hg
  have hl := h.lt
  refine ⟨h3.blk, heap_setCell_same _ _ 2 _ 32 _ h3.blk, far_set h3.ba (by omega), far_set h3.bo (by omega), h.hg, rowB_set h3.o h3.blk (by omega) _ _, rowB_set (own_wide ho (by omega)) h3.blk (by omega) _ _, rowB_set h3.f h3.blk (by omega) _ _, rowB_set h3.r h3.blk (by omega) _ _, fun b _ z => (by cases z), h3.dw.trans ((only_set w3 g 2 v2').toBelow h3.dw.size fun k z => by omega)⟩
theorem FB.done (h : FB w g ti bx W v1 v2 v3 v4 O S F R) {W' : World} (ho : Only W W' (fun k => k = w.heap.size + 1)) : FrO w W' ⟨ti, O, S, F, R, 0⟩ v1 v2 v3 v4 := by
  have k : ∀ {e sz n : Nat} {v : Value} {xs : List Value}, W.ownsRow (w.heap.size + 2) e sz v n xs → W'.ownsRow w.heap.size e sz v n xs := fun h => own_wide (row_only h ho fun k q z => by have := (h.lt k q).1; omega) (by omega)
  exact ⟨k h.o, k h.s, k h.f, k h.r, h.ne, h.dw.trans (ho.toBelow h.dw.size fun k z => by omega)⟩
end
/-- One more text. -/
theorem app_S {W : World} {B : Nat} {v : Value} {O : List ByteArray} (h : W.ownsRow B 9 1 v O.length (strV O)) (hB : B ≤ W.heap.size) (x : ByteArray) {ops : Array Oper} {rest : List Oper} {o : Oper} {a : Act} {Q : Exit → Act → World → Prop} (hgd : o.guard = none) (s y : Operand)
    (ho : o.op = .call { callee := .builtin .append, args := #[s, y], argTypes := #[26, 26] }) (hs : a.eval s = v) (hy : a.eval y = .slice (some ⟨W.heap.size, 0, none⟩) 1 1) (hl : O.length ≤ 8388608)
    (hK : ∀ a5 c5 w3, w3.ownsRow B 9 1 (.slice a5 (O.length + 1) c5) (O ++ [x]).length (strV (O ++ [x])) → Grw W w3 v (.slice a5 (O.length + 1) c5) → wpList Tryz.prog ops Q rest (a.put o.dst (.slice a5 (O.length + 1) c5)) w3) :
    wpList Tryz.prog ops Q (o :: rest) a (W.alloc (.cells #[.string x] 9)) := by
  obtain ⟨i9, hi9, hz90, hz91, hz92⟩ := info_parts info9
  refine wpList_append_own_at _ hgd s y _ ho B 9 i9 _ 1 16 Tryz.underlying26 hi9 hz90 hz91 hz92 rfl (by omega) v O.length (strV O) hs (owns_below h ((Below.refl _ W).alloc (Nat.le_refl _) _)) ⟨W.heap.size, 0, none⟩ 1 1 [.string x] hy rfl (cell_one_new W (.string x) 9) (fun u hu => by rw [List.mem_singleton.1 hu]; rfl) (by unfold maxLen; omega) (by omega) (by simp; omega) ?_
  intro v' w3 how hgr hnil hloc
  have hG := grw_append hgr hloc
  obtain ⟨a5, c5, rfl⟩ := rowForm how
  exact hK a5 c5 w3 (by simpa [strV] using how) hG
end Go.Proofs.YtmagchclmmphaabGreatDoor
namespace Go.Proofs.YtmagchclmmphaabGreatDoor
open Go.RowKit Go.Maps
attribute [local go_sem] Oper.semAt_some

/-! ### The document's From -/
theorem nameT (ti : ByteArray) (w : World) : Calls Tryz.prog 87 #[.string ti] w fun e w' => e = .returned (.bool (vld ti)) ∧ w' = w := by
  have := rf.name_any ti w
  rwa [nmF_vld] at this
set_option maxRecDepth 100000 in
set_option maxHeartbeats 4000000 in
theorem rfrom_auto (w : World) (ti : ByteArray) (n m : Int) (St Fi : List Int) (Ed : List EdT) (a1 a2 a3 asx ay : Option Addr) (c1 c2 c3 cs cy : Nat) (S Y : List ByteArray) (hA : Hid (RdN w a1 St ∧ RdN w a2 Fi ∧ RdE w a3 Ed ∧ ReadsS w asx S ∧ ReadsS w ay Y)) (hcs : Hid (S.length ≤ cs)) (hcy : Hid (Y.length ≤ cy)) (h1 : St.length ≤ 4194304) (h2 : Fi.length ≤ 4194304) (h3 : Ed.length ≤ 4194304) (hs : S.length ≤ 4194304) (hy : Y.length ≤ 4194304) (hm : mayF n m St Fi Ed = false) :
    Calls Tryz.prog 50 #[.agg #[.int .i64 n, .int .i64 m, .slice a1 St.length c1, .slice a2 Fi.length c2, .slice a3 Ed.length c3], .slice asx S.length cs, .slice ay Y.length cy, .string ti] w fun e w' => FrA w w' (noF 2) e := by
  have HU := hide (And.intro hcs.out (And.intro hcy.out (And.intro hs hy)))
  clear HU
  obtain ⟨W0, hW0⟩ : ∃ W0, (w.alloc (.cells #[.int .i64 n, .int .i64 m, .slice a1 St.length c1, .slice a2 Fi.length c2, .slice a3 Ed.length c3] 25)).alloc (.cells #[.string ⟨#[]⟩, .slice none 0 0, .slice none 0 0, .slice none 0 0, .slice none 0 0] 32) = W0 := ⟨_, rfl⟩
  have d0 : Below w.heap.size w W0 := by rw [← hW0]; exact ((Below.refl _ _).alloc (Nat.le_refl _) _).alloc (by simp) _
  have B0 : W0.heap[w.heap.size]? = some (.cells #[.int .i64 n, .int .i64 m, .slice a1 St.length c1, .slice a2 Fi.length c2, .slice a3 Ed.length c3] 25 (0, 0)) := by rw [← hW0]; exact (Below.heap_alloc _ _ _ (by simp)).trans (World.alloc_heap_new _ _)
  have B1 : W0.heap[w.heap.size + 1]? = some (.cells #[.string ⟨#[]⟩, .slice none 0 0, .slice none 0 0, .slice none 0 0, .slice none 0 0] 32 (0, 0)) := by rw [← hW0]; exact heap_alloc2_new w _ _
  have z0 : W0.heap.size = w.heap.size + 2 := by rw [← hW0]; simp
  have T1 := rmay_any W0 n m St Fi Ed a1 a2 a3 c1 c2 c3 (hide ⟨hA.out.1.on d0, hA.out.2.1.on d0, hA.out.2.2.1.on d0⟩) h1 h2 h3
  rw [hm] at T1
  have HD := hide (And.intro d0 (And.intro B0 (And.intro B1 z0)))
  have x0 : W0.cell? ⟨w.heap.size, 0, none⟩ = some (.int .i64 n) := cell_of B0 rfl
  have x1 : W0.cell? ⟨w.heap.size, 1, none⟩ = some (.int .i64 m) := cell_of B0 rfl
  have x2 : W0.cell? ⟨w.heap.size, 2, none⟩ = some (.slice a1 St.length c1) := cell_of B0 rfl
  have x3 : W0.cell? ⟨w.heap.size, 3, none⟩ = some (.slice a2 Fi.length c2) := cell_of B0 rfl
  have x4 : W0.cell? ⟨w.heap.size, 4, none⟩ = some (.slice a3 Ed.length c3) := cell_of B0 rfl
  clear d0 B0 B1 z0
  go_enter Tryz.func50, Tryz.ntmps50
  go_upto_region 3 with (go_at_call 85; refine T1.mono ?_; rintro e w1 ⟨rfl, d1⟩)
  have HW := hide (HD.out.1.trans (d1.mono HD.out.1.size))
  have HX : Hid (w1.heap[w.heap.size + 1]? = some (.cells #[.string ⟨#[]⟩, .slice none 0 0, .slice none 0 0, .slice none 0 0, .slice none 0 0] 32 (0, 0))) := hide ((d1.block _ (by have := HD.out.2.2.2; omega)).trans HD.out.2.2.1)
  clear T1 x0 x1 x2 x3 x4
  have z0 : w1.cell? ⟨w.heap.size + 1, 0, none⟩ = some (.string ⟨#[]⟩) := cell_of HX.out rfl
  have z1 : w1.cell? ⟨w.heap.size + 1, 1, none⟩ = some (.slice none 0 0) := cell_of HX.out rfl
  have z2 : w1.cell? ⟨w.heap.size + 1, 2, none⟩ = some (.slice none 0 0) := cell_of HX.out rfl
  have z3 : w1.cell? ⟨w.heap.size + 1, 3, none⟩ = some (.slice none 0 0) := cell_of HX.out rfl
  have z4 : w1.cell? ⟨w.heap.size + 1, 4, none⟩ = some (.slice none 0 0) := cell_of HX.out rfl
  have f0 : w1.frozen? ⟨w.heap.size + 1, 0, none⟩ = false := fz_of HX.out
  have f1 : w1.frozen? ⟨w.heap.size + 1, 1, none⟩ = false := fz_of HX.out
  have f2 : w1.frozen? ⟨w.heap.size + 1, 2, none⟩ = false := fz_of HX.out
  have f3 : w1.frozen? ⟨w.heap.size + 1, 3, none⟩ = false := fz_of HX.out
  have f4 : w1.frozen? ⟨w.heap.size + 1, 4, none⟩ = false := fz_of HX.out
  have HZ := hide (set5 w1 (w.heap.size + 1) _ _ _ _ _ (.string ⟨#[]⟩) (.slice none 0 0) (.slice none 0 0) (.slice none 0 0) (.slice none 0 0) 32 HX.out)
  go_wp2
  refine bodyPost_ret (results_c1 (p := 8) (q := 9) (ty := 32) rfl _ _ (w.heap.size + 1) 32 _ (0, 0) _ _ rfl rfl HZ.out.1 Tryz.underlying32 rfl (by kernel_rfl)) rfl ?_
  exact FrA.nil 2 (HW.out.trans (HZ.out.2.toBelow HW.out.size fun k z => by omega))
set_option maxRecDepth 100000 in
set_option maxHeartbeats 4000000 in
theorem rfrom_len1 (w : World) (ti : ByteArray) (n m : Int) (St Fi : List Int) (Ed : List EdT) (a1 a2 a3 asx ay : Option Addr) (c1 c2 c3 cs cy : Nat) (S Y : List ByteArray) (hA : Hid (RdN w a1 St ∧ RdN w a2 Fi ∧ RdE w a3 Ed ∧ ReadsS w asx S ∧ ReadsS w ay Y)) (hcs : Hid (S.length ≤ cs)) (hcy : Hid (Y.length ≤ cy)) (h1 : St.length ≤ 4194304) (h2 : Fi.length ≤ 4194304) (h3 : Ed.length ≤ 4194304) (hs : S.length ≤ 4194304) (hy : Y.length ≤ 4194304) (hm : mayF n m St Fi Ed = true) (hn : ¬ (S.length : Int) = n) :
    Calls Tryz.prog 50 #[.agg #[.int .i64 n, .int .i64 m, .slice a1 St.length c1, .slice a2 Fi.length c2, .slice a3 Ed.length c3], .slice asx S.length cs, .slice ay Y.length cy, .string ti] w fun e w' => FrA w w' (noF 1) e := by
  have HU := hide (And.intro hcs.out (And.intro hcy.out (And.intro hs hy)))
  clear HU
  obtain ⟨W0, hW0⟩ : ∃ W0, (w.alloc (.cells #[.int .i64 n, .int .i64 m, .slice a1 St.length c1, .slice a2 Fi.length c2, .slice a3 Ed.length c3] 25)).alloc (.cells #[.string ⟨#[]⟩, .slice none 0 0, .slice none 0 0, .slice none 0 0, .slice none 0 0] 32) = W0 := ⟨_, rfl⟩
  have d0 : Below w.heap.size w W0 := by rw [← hW0]; exact ((Below.refl _ _).alloc (Nat.le_refl _) _).alloc (by simp) _
  have B0 : W0.heap[w.heap.size]? = some (.cells #[.int .i64 n, .int .i64 m, .slice a1 St.length c1, .slice a2 Fi.length c2, .slice a3 Ed.length c3] 25 (0, 0)) := by rw [← hW0]; exact (Below.heap_alloc _ _ _ (by simp)).trans (World.alloc_heap_new _ _)
  have B1 : W0.heap[w.heap.size + 1]? = some (.cells #[.string ⟨#[]⟩, .slice none 0 0, .slice none 0 0, .slice none 0 0, .slice none 0 0] 32 (0, 0)) := by rw [← hW0]; exact heap_alloc2_new w _ _
  have z0 : W0.heap.size = w.heap.size + 2 := by rw [← hW0]; simp
  have T1 := rmay_any W0 n m St Fi Ed a1 a2 a3 c1 c2 c3 (hide ⟨hA.out.1.on d0, hA.out.2.1.on d0, hA.out.2.2.1.on d0⟩) h1 h2 h3
  rw [hm] at T1
  have HD := hide (And.intro d0 (And.intro B0 (And.intro B1 z0)))
  have x0 : W0.cell? ⟨w.heap.size, 0, none⟩ = some (.int .i64 n) := cell_of B0 rfl
  have x1 : W0.cell? ⟨w.heap.size, 1, none⟩ = some (.int .i64 m) := cell_of B0 rfl
  have x2 : W0.cell? ⟨w.heap.size, 2, none⟩ = some (.slice a1 St.length c1) := cell_of B0 rfl
  have x3 : W0.cell? ⟨w.heap.size, 3, none⟩ = some (.slice a2 Fi.length c2) := cell_of B0 rfl
  have x4 : W0.cell? ⟨w.heap.size, 4, none⟩ = some (.slice a3 Ed.length c3) := cell_of B0 rfl
  clear d0 B0 B1 z0
  go_enter Tryz.func50, Tryz.ntmps50
  go_upto_region 5 with (go_at_call 85; refine T1.mono ?_; rintro e w1 ⟨rfl, d1⟩; have y0 : w1.cell? ⟨w.heap.size, 0, none⟩ = some (.int .i64 n) := (d1.cell (p := ⟨w.heap.size, 0, none⟩) (by have := HD.out.2.2.2; show w.heap.size < _; omega)).trans x0; have y1 : w1.cell? ⟨w.heap.size, 1, none⟩ = some (.int .i64 m) := (d1.cell (p := ⟨w.heap.size, 1, none⟩) (by have := HD.out.2.2.2; show w.heap.size < _; omega)).trans x1)
  have HW := hide (HD.out.1.trans (d1.mono HD.out.1.size))
  have HX : Hid (w1.heap[w.heap.size + 1]? = some (.cells #[.string ⟨#[]⟩, .slice none 0 0, .slice none 0 0, .slice none 0 0, .slice none 0 0] 32 (0, 0))) := hide ((d1.block _ (by have := HD.out.2.2.2; omega)).trans HD.out.2.2.1)
  clear T1 x0 x1 x2 x3 x4 y0 y1
  have z0 : w1.cell? ⟨w.heap.size + 1, 0, none⟩ = some (.string ⟨#[]⟩) := cell_of HX.out rfl
  have z1 : w1.cell? ⟨w.heap.size + 1, 1, none⟩ = some (.slice none 0 0) := cell_of HX.out rfl
  have z2 : w1.cell? ⟨w.heap.size + 1, 2, none⟩ = some (.slice none 0 0) := cell_of HX.out rfl
  have z3 : w1.cell? ⟨w.heap.size + 1, 3, none⟩ = some (.slice none 0 0) := cell_of HX.out rfl
  have z4 : w1.cell? ⟨w.heap.size + 1, 4, none⟩ = some (.slice none 0 0) := cell_of HX.out rfl
  have f0 : w1.frozen? ⟨w.heap.size + 1, 0, none⟩ = false := fz_of HX.out
  have f1 : w1.frozen? ⟨w.heap.size + 1, 1, none⟩ = false := fz_of HX.out
  have f2 : w1.frozen? ⟨w.heap.size + 1, 2, none⟩ = false := fz_of HX.out
  have f3 : w1.frozen? ⟨w.heap.size + 1, 3, none⟩ = false := fz_of HX.out
  have f4 : w1.frozen? ⟨w.heap.size + 1, 4, none⟩ = false := fz_of HX.out
  have HZ := hide (set5 w1 (w.heap.size + 1) _ _ _ _ _ (.string ⟨#[]⟩) (.slice none 0 0) (.slice none 0 0) (.slice none 0 0) (.slice none 0 0) 32 HX.out)
  go_wp2
  refine bodyPost_ret (results_c1 (p := 8) (q := 9) (ty := 32) rfl _ _ (w.heap.size + 1) 32 _ (0, 0) _ _ rfl rfl HZ.out.1 Tryz.underlying32 rfl (by kernel_rfl)) rfl ?_
  exact FrA.nil 1 (HW.out.trans (HZ.out.2.toBelow HW.out.size fun k z => by omega))
set_option maxRecDepth 100000 in
set_option maxHeartbeats 4000000 in
theorem rfrom_len2 (w : World) (ti : ByteArray) (n m : Int) (St Fi : List Int) (Ed : List EdT) (a1 a2 a3 asx ay : Option Addr) (c1 c2 c3 cs cy : Nat) (S Y : List ByteArray) (hA : Hid (RdN w a1 St ∧ RdN w a2 Fi ∧ RdE w a3 Ed ∧ ReadsS w asx S ∧ ReadsS w ay Y)) (hcs : Hid (S.length ≤ cs)) (hcy : Hid (Y.length ≤ cy)) (h1 : St.length ≤ 4194304) (h2 : Fi.length ≤ 4194304) (h3 : Ed.length ≤ 4194304) (hs : S.length ≤ 4194304) (hy : Y.length ≤ 4194304) (hm : mayF n m St Fi Ed = true) (hn : (S.length : Int) = n) (hn2 : ¬ (Y.length : Int) = m) :
    Calls Tryz.prog 50 #[.agg #[.int .i64 n, .int .i64 m, .slice a1 St.length c1, .slice a2 Fi.length c2, .slice a3 Ed.length c3], .slice asx S.length cs, .slice ay Y.length cy, .string ti] w fun e w' => FrA w w' (noF 1) e := by
  subst hn
  have HU := hide (And.intro hcs.out (And.intro hcy.out (And.intro hs hy)))
  clear HU
  obtain ⟨W0, hW0⟩ : ∃ W0, (w.alloc (.cells #[.int .i64 (S.length : Int), .int .i64 m, .slice a1 St.length c1, .slice a2 Fi.length c2, .slice a3 Ed.length c3] 25)).alloc (.cells #[.string ⟨#[]⟩, .slice none 0 0, .slice none 0 0, .slice none 0 0, .slice none 0 0] 32) = W0 := ⟨_, rfl⟩
  have d0 : Below w.heap.size w W0 := by rw [← hW0]; exact ((Below.refl _ _).alloc (Nat.le_refl _) _).alloc (by simp) _
  have B0 : W0.heap[w.heap.size]? = some (.cells #[.int .i64 (S.length : Int), .int .i64 m, .slice a1 St.length c1, .slice a2 Fi.length c2, .slice a3 Ed.length c3] 25 (0, 0)) := by rw [← hW0]; exact (Below.heap_alloc _ _ _ (by simp)).trans (World.alloc_heap_new _ _)
  have B1 : W0.heap[w.heap.size + 1]? = some (.cells #[.string ⟨#[]⟩, .slice none 0 0, .slice none 0 0, .slice none 0 0, .slice none 0 0] 32 (0, 0)) := by rw [← hW0]; exact heap_alloc2_new w _ _
  have z0 : W0.heap.size = w.heap.size + 2 := by rw [← hW0]; simp
  have T1 := rmay_any W0 (S.length : Int) m St Fi Ed a1 a2 a3 c1 c2 c3 (hide ⟨hA.out.1.on d0, hA.out.2.1.on d0, hA.out.2.2.1.on d0⟩) h1 h2 h3
  rw [hm] at T1
  have HD := hide (And.intro d0 (And.intro B0 (And.intro B1 z0)))
  have x0 : W0.cell? ⟨w.heap.size, 0, none⟩ = some (.int .i64 (S.length : Int)) := cell_of B0 rfl
  have x1 : W0.cell? ⟨w.heap.size, 1, none⟩ = some (.int .i64 m) := cell_of B0 rfl
  have x2 : W0.cell? ⟨w.heap.size, 2, none⟩ = some (.slice a1 St.length c1) := cell_of B0 rfl
  have x3 : W0.cell? ⟨w.heap.size, 3, none⟩ = some (.slice a2 Fi.length c2) := cell_of B0 rfl
  have x4 : W0.cell? ⟨w.heap.size, 4, none⟩ = some (.slice a3 Ed.length c3) := cell_of B0 rfl
  clear d0 B0 B1 z0
  go_enter Tryz.func50, Tryz.ntmps50
  go_upto_region 5 with (go_at_call 85; refine T1.mono ?_; rintro e w1 ⟨rfl, d1⟩; have y0 : w1.cell? ⟨w.heap.size, 0, none⟩ = some (.int .i64 (S.length : Int)) := (d1.cell (p := ⟨w.heap.size, 0, none⟩) (by have := HD.out.2.2.2; show w.heap.size < _; omega)).trans x0; have y1 : w1.cell? ⟨w.heap.size, 1, none⟩ = some (.int .i64 m) := (d1.cell (p := ⟨w.heap.size, 1, none⟩) (by have := HD.out.2.2.2; show w.heap.size < _; omega)).trans x1)
  have HW := hide (HD.out.1.trans (d1.mono HD.out.1.size))
  have HX : Hid (w1.heap[w.heap.size + 1]? = some (.cells #[.string ⟨#[]⟩, .slice none 0 0, .slice none 0 0, .slice none 0 0, .slice none 0 0] 32 (0, 0))) := hide ((d1.block _ (by have := HD.out.2.2.2; omega)).trans HD.out.2.2.1)
  clear T1 x0 x1 x2 x3 x4 y0 y1
  have z0 : w1.cell? ⟨w.heap.size + 1, 0, none⟩ = some (.string ⟨#[]⟩) := cell_of HX.out rfl
  have z1 : w1.cell? ⟨w.heap.size + 1, 1, none⟩ = some (.slice none 0 0) := cell_of HX.out rfl
  have z2 : w1.cell? ⟨w.heap.size + 1, 2, none⟩ = some (.slice none 0 0) := cell_of HX.out rfl
  have z3 : w1.cell? ⟨w.heap.size + 1, 3, none⟩ = some (.slice none 0 0) := cell_of HX.out rfl
  have z4 : w1.cell? ⟨w.heap.size + 1, 4, none⟩ = some (.slice none 0 0) := cell_of HX.out rfl
  have f0 : w1.frozen? ⟨w.heap.size + 1, 0, none⟩ = false := fz_of HX.out
  have f1 : w1.frozen? ⟨w.heap.size + 1, 1, none⟩ = false := fz_of HX.out
  have f2 : w1.frozen? ⟨w.heap.size + 1, 2, none⟩ = false := fz_of HX.out
  have f3 : w1.frozen? ⟨w.heap.size + 1, 3, none⟩ = false := fz_of HX.out
  have f4 : w1.frozen? ⟨w.heap.size + 1, 4, none⟩ = false := fz_of HX.out
  have HZ := hide (set5 w1 (w.heap.size + 1) _ _ _ _ _ (.string ⟨#[]⟩) (.slice none 0 0) (.slice none 0 0) (.slice none 0 0) (.slice none 0 0) 32 HX.out)
  go_wp2
  refine bodyPost_ret (results_c1 (p := 8) (q := 9) (ty := 32) rfl _ _ (w.heap.size + 1) 32 _ (0, 0) _ _ rfl rfl HZ.out.1 Tryz.underlying32 rfl (by kernel_rfl)) rfl ?_
  exact FrA.nil 1 (HW.out.trans (HZ.out.2.toBelow HW.out.size fun k z => by omega))
set_option maxRecDepth 100000 in
set_option maxHeartbeats 4000000 in
theorem rfrom_name1 (w : World) (ti : ByteArray) (n m : Int) (St Fi : List Int) (Ed : List EdT) (a1 a2 a3 asx ay : Option Addr) (c1 c2 c3 cs cy : Nat) (S Y : List ByteArray) (hA : Hid (RdN w a1 St ∧ RdN w a2 Fi ∧ RdE w a3 Ed ∧ ReadsS w asx S ∧ ReadsS w ay Y)) (hcs : Hid (S.length ≤ cs)) (hcy : Hid (Y.length ≤ cy)) (h1 : St.length ≤ 4194304) (h2 : Fi.length ≤ 4194304) (h3 : Ed.length ≤ 4194304) (hs : S.length ≤ 4194304) (hy : Y.length ≤ 4194304) (hm : mayF n m St Fi Ed = true) (hn : (S.length : Int) = n) (hn2 : (Y.length : Int) = m) (b2v b3v : Bool) (hv1 : S.all vld = false) (hv2 : Y.all vld = b2v) (hv : vld ti = b3v) :
    Calls Tryz.prog 50 #[.agg #[.int .i64 n, .int .i64 m, .slice a1 St.length c1, .slice a2 Fi.length c2, .slice a3 Ed.length c3], .slice asx S.length cs, .slice ay Y.length cy, .string ti] w fun e w' => FrA w w' (noF 20) e := by
  subst hn hn2
  have HU := hide (And.intro hcs.out (And.intro hcy.out (And.intro hs hy)))
  clear HU
  obtain ⟨W0, hW0⟩ : ∃ W0, (w.alloc (.cells #[.int .i64 (S.length : Int), .int .i64 (Y.length : Int), .slice a1 St.length c1, .slice a2 Fi.length c2, .slice a3 Ed.length c3] 25)).alloc (.cells #[.string ⟨#[]⟩, .slice none 0 0, .slice none 0 0, .slice none 0 0, .slice none 0 0] 32) = W0 := ⟨_, rfl⟩
  have d0 : Below w.heap.size w W0 := by rw [← hW0]; exact ((Below.refl _ _).alloc (Nat.le_refl _) _).alloc (by simp) _
  have B0 : W0.heap[w.heap.size]? = some (.cells #[.int .i64 (S.length : Int), .int .i64 (Y.length : Int), .slice a1 St.length c1, .slice a2 Fi.length c2, .slice a3 Ed.length c3] 25 (0, 0)) := by rw [← hW0]; exact (Below.heap_alloc _ _ _ (by simp)).trans (World.alloc_heap_new _ _)
  have B1 : W0.heap[w.heap.size + 1]? = some (.cells #[.string ⟨#[]⟩, .slice none 0 0, .slice none 0 0, .slice none 0 0, .slice none 0 0] 32 (0, 0)) := by rw [← hW0]; exact heap_alloc2_new w _ _
  have z0 : W0.heap.size = w.heap.size + 2 := by rw [← hW0]; simp
  have T1 := rmay_any W0 (S.length : Int) (Y.length : Int) St Fi Ed a1 a2 a3 c1 c2 c3 (hide ⟨hA.out.1.on d0, hA.out.2.1.on d0, hA.out.2.2.1.on d0⟩) h1 h2 h3
  rw [hm] at T1
  have HD := hide (And.intro d0 (And.intro B0 (And.intro B1 z0)))
  have x0 : W0.cell? ⟨w.heap.size, 0, none⟩ = some (.int .i64 (S.length : Int)) := cell_of B0 rfl
  have x1 : W0.cell? ⟨w.heap.size, 1, none⟩ = some (.int .i64 (Y.length : Int)) := cell_of B0 rfl
  have x2 : W0.cell? ⟨w.heap.size, 2, none⟩ = some (.slice a1 St.length c1) := cell_of B0 rfl
  have x3 : W0.cell? ⟨w.heap.size, 3, none⟩ = some (.slice a2 Fi.length c2) := cell_of B0 rfl
  have x4 : W0.cell? ⟨w.heap.size, 4, none⟩ = some (.slice a3 Ed.length c3) := cell_of B0 rfl
  clear d0 B0 B1 z0
  go_enter Tryz.func50, Tryz.ntmps50
  have HRS : Hid (∀ W, Below W0.heap.size W0 W → ReadsS W asx S ∧ ReadsS W ay Y) := hide (fun W d => ⟨hA.out.2.2.2.1.below (HD.out.1.trans (d.mono HD.out.1.size)), hA.out.2.2.2.2.below (HD.out.1.trans (d.mono HD.out.1.size))⟩)
  go_upto_region 10 with (first
    | (go_at_call 85; refine T1.mono ?_; rintro e w1 ⟨rfl, d1⟩; have y0 : w1.cell? ⟨w.heap.size, 0, none⟩ = some (.int .i64 (S.length : Int)) := (d1.cell (p := ⟨w.heap.size, 0, none⟩) (by have := HD.out.2.2.2; show w.heap.size < _; omega)).trans x0; have y1 : w1.cell? ⟨w.heap.size, 1, none⟩ = some (.int .i64 (Y.length : Int)) := (d1.cell (p := ⟨w.heap.size, 1, none⟩) (by have := HD.out.2.2.2; show w.heap.size < _; omega)).trans x1)
    | (go_at_call_of 86 asx; refine (rnames_any _ asx cs S (hide (HRS.out _ d1).1) (by omega)).mono ?_; rintro e w2 ⟨rfl, e2⟩; obtain rfl := e2.symm; rw [hv1])
    | (go_at_call 86; refine (rnames_any _ ay cy Y (hide (HRS.out _ d1).2) (by omega)).mono ?_; rintro e w2 ⟨rfl, e2⟩; obtain rfl := e2.symm; rw [hv2])
    | (go_at_call 87; refine (nameT ti _).mono ?_; rintro e w2 ⟨rfl, e2⟩; obtain rfl := e2.symm; rw [hv]))
  have HW := hide (HD.out.1.trans (d1.mono HD.out.1.size))
  have HX : Hid (w1.heap[w.heap.size + 1]? = some (.cells #[.string ⟨#[]⟩, .slice none 0 0, .slice none 0 0, .slice none 0 0, .slice none 0 0] 32 (0, 0))) := hide ((d1.block _ (by have := HD.out.2.2.2; omega)).trans HD.out.2.2.1)
  clear T1 x0 x1 x2 x3 x4 y0 y1
  have z0 : w1.cell? ⟨w.heap.size + 1, 0, none⟩ = some (.string ⟨#[]⟩) := cell_of HX.out rfl
  have z1 : w1.cell? ⟨w.heap.size + 1, 1, none⟩ = some (.slice none 0 0) := cell_of HX.out rfl
  have z2 : w1.cell? ⟨w.heap.size + 1, 2, none⟩ = some (.slice none 0 0) := cell_of HX.out rfl
  have z3 : w1.cell? ⟨w.heap.size + 1, 3, none⟩ = some (.slice none 0 0) := cell_of HX.out rfl
  have z4 : w1.cell? ⟨w.heap.size + 1, 4, none⟩ = some (.slice none 0 0) := cell_of HX.out rfl
  have f0 : w1.frozen? ⟨w.heap.size + 1, 0, none⟩ = false := fz_of HX.out
  have f1 : w1.frozen? ⟨w.heap.size + 1, 1, none⟩ = false := fz_of HX.out
  have f2 : w1.frozen? ⟨w.heap.size + 1, 2, none⟩ = false := fz_of HX.out
  have f3 : w1.frozen? ⟨w.heap.size + 1, 3, none⟩ = false := fz_of HX.out
  have f4 : w1.frozen? ⟨w.heap.size + 1, 4, none⟩ = false := fz_of HX.out
  have HZ := hide (set5 w1 (w.heap.size + 1) _ _ _ _ _ (.string ⟨#[]⟩) (.slice none 0 0) (.slice none 0 0) (.slice none 0 0) (.slice none 0 0) 32 HX.out)
  go_wp2
  refine bodyPost_ret (results_c1 (p := 8) (q := 9) (ty := 32) rfl _ _ (w.heap.size + 1) 32 _ (0, 0) _ _ rfl rfl HZ.out.1 Tryz.underlying32 rfl (by kernel_rfl)) rfl ?_
  exact FrA.nil 20 (HW.out.trans (HZ.out.2.toBelow HW.out.size fun k z => by omega))
set_option maxRecDepth 100000 in
set_option maxHeartbeats 4000000 in
theorem rfrom_name2 (w : World) (ti : ByteArray) (n m : Int) (St Fi : List Int) (Ed : List EdT) (a1 a2 a3 asx ay : Option Addr) (c1 c2 c3 cs cy : Nat) (S Y : List ByteArray) (hA : Hid (RdN w a1 St ∧ RdN w a2 Fi ∧ RdE w a3 Ed ∧ ReadsS w asx S ∧ ReadsS w ay Y)) (hcs : Hid (S.length ≤ cs)) (hcy : Hid (Y.length ≤ cy)) (h1 : St.length ≤ 4194304) (h2 : Fi.length ≤ 4194304) (h3 : Ed.length ≤ 4194304) (hs : S.length ≤ 4194304) (hy : Y.length ≤ 4194304) (hm : mayF n m St Fi Ed = true) (hn : (S.length : Int) = n) (hn2 : (Y.length : Int) = m) (b3v : Bool) (hv1 : S.all vld = true) (hv2 : Y.all vld = false) (hv : vld ti = b3v) :
    Calls Tryz.prog 50 #[.agg #[.int .i64 n, .int .i64 m, .slice a1 St.length c1, .slice a2 Fi.length c2, .slice a3 Ed.length c3], .slice asx S.length cs, .slice ay Y.length cy, .string ti] w fun e w' => FrA w w' (noF 20) e := by
  subst hn hn2
  have HU := hide (And.intro hcs.out (And.intro hcy.out (And.intro hs hy)))
  clear HU
  obtain ⟨W0, hW0⟩ : ∃ W0, (w.alloc (.cells #[.int .i64 (S.length : Int), .int .i64 (Y.length : Int), .slice a1 St.length c1, .slice a2 Fi.length c2, .slice a3 Ed.length c3] 25)).alloc (.cells #[.string ⟨#[]⟩, .slice none 0 0, .slice none 0 0, .slice none 0 0, .slice none 0 0] 32) = W0 := ⟨_, rfl⟩
  have d0 : Below w.heap.size w W0 := by rw [← hW0]; exact ((Below.refl _ _).alloc (Nat.le_refl _) _).alloc (by simp) _
  have B0 : W0.heap[w.heap.size]? = some (.cells #[.int .i64 (S.length : Int), .int .i64 (Y.length : Int), .slice a1 St.length c1, .slice a2 Fi.length c2, .slice a3 Ed.length c3] 25 (0, 0)) := by rw [← hW0]; exact (Below.heap_alloc _ _ _ (by simp)).trans (World.alloc_heap_new _ _)
  have B1 : W0.heap[w.heap.size + 1]? = some (.cells #[.string ⟨#[]⟩, .slice none 0 0, .slice none 0 0, .slice none 0 0, .slice none 0 0] 32 (0, 0)) := by rw [← hW0]; exact heap_alloc2_new w _ _
  have z0 : W0.heap.size = w.heap.size + 2 := by rw [← hW0]; simp
  have T1 := rmay_any W0 (S.length : Int) (Y.length : Int) St Fi Ed a1 a2 a3 c1 c2 c3 (hide ⟨hA.out.1.on d0, hA.out.2.1.on d0, hA.out.2.2.1.on d0⟩) h1 h2 h3
  rw [hm] at T1
  have HD := hide (And.intro d0 (And.intro B0 (And.intro B1 z0)))
  have x0 : W0.cell? ⟨w.heap.size, 0, none⟩ = some (.int .i64 (S.length : Int)) := cell_of B0 rfl
  have x1 : W0.cell? ⟨w.heap.size, 1, none⟩ = some (.int .i64 (Y.length : Int)) := cell_of B0 rfl
  have x2 : W0.cell? ⟨w.heap.size, 2, none⟩ = some (.slice a1 St.length c1) := cell_of B0 rfl
  have x3 : W0.cell? ⟨w.heap.size, 3, none⟩ = some (.slice a2 Fi.length c2) := cell_of B0 rfl
  have x4 : W0.cell? ⟨w.heap.size, 4, none⟩ = some (.slice a3 Ed.length c3) := cell_of B0 rfl
  clear d0 B0 B1 z0
  go_enter Tryz.func50, Tryz.ntmps50
  have HRS : Hid (∀ W, Below W0.heap.size W0 W → ReadsS W asx S ∧ ReadsS W ay Y) := hide (fun W d => ⟨hA.out.2.2.2.1.below (HD.out.1.trans (d.mono HD.out.1.size)), hA.out.2.2.2.2.below (HD.out.1.trans (d.mono HD.out.1.size))⟩)
  go_upto_region 10 with (first
    | (go_at_call 85; refine T1.mono ?_; rintro e w1 ⟨rfl, d1⟩; have y0 : w1.cell? ⟨w.heap.size, 0, none⟩ = some (.int .i64 (S.length : Int)) := (d1.cell (p := ⟨w.heap.size, 0, none⟩) (by have := HD.out.2.2.2; show w.heap.size < _; omega)).trans x0; have y1 : w1.cell? ⟨w.heap.size, 1, none⟩ = some (.int .i64 (Y.length : Int)) := (d1.cell (p := ⟨w.heap.size, 1, none⟩) (by have := HD.out.2.2.2; show w.heap.size < _; omega)).trans x1)
    | (go_at_call_of 86 asx; refine (rnames_any _ asx cs S (hide (HRS.out _ d1).1) (by omega)).mono ?_; rintro e w2 ⟨rfl, e2⟩; obtain rfl := e2.symm; rw [hv1])
    | (go_at_call 86; refine (rnames_any _ ay cy Y (hide (HRS.out _ d1).2) (by omega)).mono ?_; rintro e w2 ⟨rfl, e2⟩; obtain rfl := e2.symm; rw [hv2])
    | (go_at_call 87; refine (nameT ti _).mono ?_; rintro e w2 ⟨rfl, e2⟩; obtain rfl := e2.symm; rw [hv]))
  have HW := hide (HD.out.1.trans (d1.mono HD.out.1.size))
  have HX : Hid (w1.heap[w.heap.size + 1]? = some (.cells #[.string ⟨#[]⟩, .slice none 0 0, .slice none 0 0, .slice none 0 0, .slice none 0 0] 32 (0, 0))) := hide ((d1.block _ (by have := HD.out.2.2.2; omega)).trans HD.out.2.2.1)
  clear T1 x0 x1 x2 x3 x4 y0 y1
  have z0 : w1.cell? ⟨w.heap.size + 1, 0, none⟩ = some (.string ⟨#[]⟩) := cell_of HX.out rfl
  have z1 : w1.cell? ⟨w.heap.size + 1, 1, none⟩ = some (.slice none 0 0) := cell_of HX.out rfl
  have z2 : w1.cell? ⟨w.heap.size + 1, 2, none⟩ = some (.slice none 0 0) := cell_of HX.out rfl
  have z3 : w1.cell? ⟨w.heap.size + 1, 3, none⟩ = some (.slice none 0 0) := cell_of HX.out rfl
  have z4 : w1.cell? ⟨w.heap.size + 1, 4, none⟩ = some (.slice none 0 0) := cell_of HX.out rfl
  have f0 : w1.frozen? ⟨w.heap.size + 1, 0, none⟩ = false := fz_of HX.out
  have f1 : w1.frozen? ⟨w.heap.size + 1, 1, none⟩ = false := fz_of HX.out
  have f2 : w1.frozen? ⟨w.heap.size + 1, 2, none⟩ = false := fz_of HX.out
  have f3 : w1.frozen? ⟨w.heap.size + 1, 3, none⟩ = false := fz_of HX.out
  have f4 : w1.frozen? ⟨w.heap.size + 1, 4, none⟩ = false := fz_of HX.out
  have HZ := hide (set5 w1 (w.heap.size + 1) _ _ _ _ _ (.string ⟨#[]⟩) (.slice none 0 0) (.slice none 0 0) (.slice none 0 0) (.slice none 0 0) 32 HX.out)
  go_wp2
  refine bodyPost_ret (results_c1 (p := 8) (q := 9) (ty := 32) rfl _ _ (w.heap.size + 1) 32 _ (0, 0) _ _ rfl rfl HZ.out.1 Tryz.underlying32 rfl (by kernel_rfl)) rfl ?_
  exact FrA.nil 20 (HW.out.trans (HZ.out.2.toBelow HW.out.size fun k z => by omega))
set_option maxRecDepth 100000 in
set_option maxHeartbeats 4000000 in
theorem rfrom_name3 (w : World) (ti : ByteArray) (n m : Int) (St Fi : List Int) (Ed : List EdT) (a1 a2 a3 asx ay : Option Addr) (c1 c2 c3 cs cy : Nat) (S Y : List ByteArray) (hA : Hid (RdN w a1 St ∧ RdN w a2 Fi ∧ RdE w a3 Ed ∧ ReadsS w asx S ∧ ReadsS w ay Y)) (hcs : Hid (S.length ≤ cs)) (hcy : Hid (Y.length ≤ cy)) (h1 : St.length ≤ 4194304) (h2 : Fi.length ≤ 4194304) (h3 : Ed.length ≤ 4194304) (hs : S.length ≤ 4194304) (hy : Y.length ≤ 4194304) (hm : mayF n m St Fi Ed = true) (hn : (S.length : Int) = n) (hn2 : (Y.length : Int) = m) (hv1 : S.all vld = true) (hv2 : Y.all vld = true) (hv : vld ti = false) :
    Calls Tryz.prog 50 #[.agg #[.int .i64 n, .int .i64 m, .slice a1 St.length c1, .slice a2 Fi.length c2, .slice a3 Ed.length c3], .slice asx S.length cs, .slice ay Y.length cy, .string ti] w fun e w' => FrA w w' (noF 20) e := by
  subst hn hn2
  have HU := hide (And.intro hcs.out (And.intro hcy.out (And.intro hs hy)))
  clear HU
  obtain ⟨W0, hW0⟩ : ∃ W0, (w.alloc (.cells #[.int .i64 (S.length : Int), .int .i64 (Y.length : Int), .slice a1 St.length c1, .slice a2 Fi.length c2, .slice a3 Ed.length c3] 25)).alloc (.cells #[.string ⟨#[]⟩, .slice none 0 0, .slice none 0 0, .slice none 0 0, .slice none 0 0] 32) = W0 := ⟨_, rfl⟩
  have d0 : Below w.heap.size w W0 := by rw [← hW0]; exact ((Below.refl _ _).alloc (Nat.le_refl _) _).alloc (by simp) _
  have B0 : W0.heap[w.heap.size]? = some (.cells #[.int .i64 (S.length : Int), .int .i64 (Y.length : Int), .slice a1 St.length c1, .slice a2 Fi.length c2, .slice a3 Ed.length c3] 25 (0, 0)) := by rw [← hW0]; exact (Below.heap_alloc _ _ _ (by simp)).trans (World.alloc_heap_new _ _)
  have B1 : W0.heap[w.heap.size + 1]? = some (.cells #[.string ⟨#[]⟩, .slice none 0 0, .slice none 0 0, .slice none 0 0, .slice none 0 0] 32 (0, 0)) := by rw [← hW0]; exact heap_alloc2_new w _ _
  have z0 : W0.heap.size = w.heap.size + 2 := by rw [← hW0]; simp
  have T1 := rmay_any W0 (S.length : Int) (Y.length : Int) St Fi Ed a1 a2 a3 c1 c2 c3 (hide ⟨hA.out.1.on d0, hA.out.2.1.on d0, hA.out.2.2.1.on d0⟩) h1 h2 h3
  rw [hm] at T1
  have HD := hide (And.intro d0 (And.intro B0 (And.intro B1 z0)))
  have x0 : W0.cell? ⟨w.heap.size, 0, none⟩ = some (.int .i64 (S.length : Int)) := cell_of B0 rfl
  have x1 : W0.cell? ⟨w.heap.size, 1, none⟩ = some (.int .i64 (Y.length : Int)) := cell_of B0 rfl
  have x2 : W0.cell? ⟨w.heap.size, 2, none⟩ = some (.slice a1 St.length c1) := cell_of B0 rfl
  have x3 : W0.cell? ⟨w.heap.size, 3, none⟩ = some (.slice a2 Fi.length c2) := cell_of B0 rfl
  have x4 : W0.cell? ⟨w.heap.size, 4, none⟩ = some (.slice a3 Ed.length c3) := cell_of B0 rfl
  clear d0 B0 B1 z0
  go_enter Tryz.func50, Tryz.ntmps50
  have HRS : Hid (∀ W, Below W0.heap.size W0 W → ReadsS W asx S ∧ ReadsS W ay Y) := hide (fun W d => ⟨hA.out.2.2.2.1.below (HD.out.1.trans (d.mono HD.out.1.size)), hA.out.2.2.2.2.below (HD.out.1.trans (d.mono HD.out.1.size))⟩)
  go_upto_region 10 with (first
    | (go_at_call 85; refine T1.mono ?_; rintro e w1 ⟨rfl, d1⟩; have y0 : w1.cell? ⟨w.heap.size, 0, none⟩ = some (.int .i64 (S.length : Int)) := (d1.cell (p := ⟨w.heap.size, 0, none⟩) (by have := HD.out.2.2.2; show w.heap.size < _; omega)).trans x0; have y1 : w1.cell? ⟨w.heap.size, 1, none⟩ = some (.int .i64 (Y.length : Int)) := (d1.cell (p := ⟨w.heap.size, 1, none⟩) (by have := HD.out.2.2.2; show w.heap.size < _; omega)).trans x1)
    | (go_at_call_of 86 asx; refine (rnames_any _ asx cs S (hide (HRS.out _ d1).1) (by omega)).mono ?_; rintro e w2 ⟨rfl, e2⟩; obtain rfl := e2.symm; rw [hv1])
    | (go_at_call 86; refine (rnames_any _ ay cy Y (hide (HRS.out _ d1).2) (by omega)).mono ?_; rintro e w2 ⟨rfl, e2⟩; obtain rfl := e2.symm; rw [hv2])
    | (go_at_call 87; refine (nameT ti _).mono ?_; rintro e w2 ⟨rfl, e2⟩; obtain rfl := e2.symm; rw [hv]))
  have HW := hide (HD.out.1.trans (d1.mono HD.out.1.size))
  have HX : Hid (w1.heap[w.heap.size + 1]? = some (.cells #[.string ⟨#[]⟩, .slice none 0 0, .slice none 0 0, .slice none 0 0, .slice none 0 0] 32 (0, 0))) := hide ((d1.block _ (by have := HD.out.2.2.2; omega)).trans HD.out.2.2.1)
  clear T1 x0 x1 x2 x3 x4 y0 y1
  have z0 : w1.cell? ⟨w.heap.size + 1, 0, none⟩ = some (.string ⟨#[]⟩) := cell_of HX.out rfl
  have z1 : w1.cell? ⟨w.heap.size + 1, 1, none⟩ = some (.slice none 0 0) := cell_of HX.out rfl
  have z2 : w1.cell? ⟨w.heap.size + 1, 2, none⟩ = some (.slice none 0 0) := cell_of HX.out rfl
  have z3 : w1.cell? ⟨w.heap.size + 1, 3, none⟩ = some (.slice none 0 0) := cell_of HX.out rfl
  have z4 : w1.cell? ⟨w.heap.size + 1, 4, none⟩ = some (.slice none 0 0) := cell_of HX.out rfl
  have f0 : w1.frozen? ⟨w.heap.size + 1, 0, none⟩ = false := fz_of HX.out
  have f1 : w1.frozen? ⟨w.heap.size + 1, 1, none⟩ = false := fz_of HX.out
  have f2 : w1.frozen? ⟨w.heap.size + 1, 2, none⟩ = false := fz_of HX.out
  have f3 : w1.frozen? ⟨w.heap.size + 1, 3, none⟩ = false := fz_of HX.out
  have f4 : w1.frozen? ⟨w.heap.size + 1, 4, none⟩ = false := fz_of HX.out
  have HZ := hide (set5 w1 (w.heap.size + 1) _ _ _ _ _ (.string ⟨#[]⟩) (.slice none 0 0) (.slice none 0 0) (.slice none 0 0) (.slice none 0 0) 32 HX.out)
  go_wp2
  refine bodyPost_ret (results_c1 (p := 8) (q := 9) (ty := 32) rfl _ _ (w.heap.size + 1) 32 _ (0, 0) _ _ rfl rfl HZ.out.1 Tryz.underlying32 rfl (by kernel_rfl)) rfl ?_
  exact FrA.nil 20 (HW.out.trans (HZ.out.2.toBelow HW.out.size fun k z => by omega))
set_option maxRecDepth 100000 in
set_option maxHeartbeats 4000000 in
theorem rfrom_tw1 (w : World) (ti : ByteArray) (n m : Int) (St Fi : List Int) (Ed : List EdT) (a1 a2 a3 asx ay : Option Addr) (c1 c2 c3 cs cy : Nat) (S Y : List ByteArray) (hA : Hid (RdN w a1 St ∧ RdN w a2 Fi ∧ RdE w a3 Ed ∧ ReadsS w asx S ∧ ReadsS w ay Y)) (hcs : Hid (S.length ≤ cs)) (hcy : Hid (Y.length ≤ cy)) (h1 : St.length ≤ 4194304) (h2 : Fi.length ≤ 4194304) (h3 : Ed.length ≤ 4194304) (hs : S.length ≤ 4194304) (hy : Y.length ≤ 4194304) (hm : mayF n m St Fi Ed = true) (hn : (S.length : Int) = n) (hn2 : (Y.length : Int) = m) (b2v : Bool) (hv : vld ti = true) (hv1 : S.all vld = true) (hv2 : Y.all vld = true) (hq1 : (S.all vld && decide S.Nodup) = false) (hq2 : (Y.all vld && decide Y.Nodup) = b2v) :
    Calls Tryz.prog 50 #[.agg #[.int .i64 n, .int .i64 m, .slice a1 St.length c1, .slice a2 Fi.length c2, .slice a3 Ed.length c3], .slice asx S.length cs, .slice ay Y.length cy, .string ti] w fun e w' => FrA w w' (noF 21) e := by
  subst hn hn2
  have HU := hide (And.intro hcs.out (And.intro hcy.out (And.intro hs hy)))
  clear HU
  obtain ⟨W0, hW0⟩ : ∃ W0, (w.alloc (.cells #[.int .i64 (S.length : Int), .int .i64 (Y.length : Int), .slice a1 St.length c1, .slice a2 Fi.length c2, .slice a3 Ed.length c3] 25)).alloc (.cells #[.string ⟨#[]⟩, .slice none 0 0, .slice none 0 0, .slice none 0 0, .slice none 0 0] 32) = W0 := ⟨_, rfl⟩
  have d0 : Below w.heap.size w W0 := by rw [← hW0]; exact ((Below.refl _ _).alloc (Nat.le_refl _) _).alloc (by simp) _
  have B0 : W0.heap[w.heap.size]? = some (.cells #[.int .i64 (S.length : Int), .int .i64 (Y.length : Int), .slice a1 St.length c1, .slice a2 Fi.length c2, .slice a3 Ed.length c3] 25 (0, 0)) := by rw [← hW0]; exact (Below.heap_alloc _ _ _ (by simp)).trans (World.alloc_heap_new _ _)
  have B1 : W0.heap[w.heap.size + 1]? = some (.cells #[.string ⟨#[]⟩, .slice none 0 0, .slice none 0 0, .slice none 0 0, .slice none 0 0] 32 (0, 0)) := by rw [← hW0]; exact heap_alloc2_new w _ _
  have z0 : W0.heap.size = w.heap.size + 2 := by rw [← hW0]; simp
  have T1 := rmay_any W0 (S.length : Int) (Y.length : Int) St Fi Ed a1 a2 a3 c1 c2 c3 (hide ⟨hA.out.1.on d0, hA.out.2.1.on d0, hA.out.2.2.1.on d0⟩) h1 h2 h3
  rw [hm] at T1
  have HD := hide (And.intro d0 (And.intro B0 (And.intro B1 z0)))
  have x0 : W0.cell? ⟨w.heap.size, 0, none⟩ = some (.int .i64 (S.length : Int)) := cell_of B0 rfl
  have x1 : W0.cell? ⟨w.heap.size, 1, none⟩ = some (.int .i64 (Y.length : Int)) := cell_of B0 rfl
  have x2 : W0.cell? ⟨w.heap.size, 2, none⟩ = some (.slice a1 St.length c1) := cell_of B0 rfl
  have x3 : W0.cell? ⟨w.heap.size, 3, none⟩ = some (.slice a2 Fi.length c2) := cell_of B0 rfl
  have x4 : W0.cell? ⟨w.heap.size, 4, none⟩ = some (.slice a3 Ed.length c3) := cell_of B0 rfl
  clear d0 B0 B1 z0
  go_enter Tryz.func50, Tryz.ntmps50
  have HRS : Hid (∀ W, Below W0.heap.size W0 W → ReadsS W asx S ∧ ReadsS W ay Y) := hide (fun W d => ⟨hA.out.2.2.2.1.below (HD.out.1.trans (d.mono HD.out.1.size)), hA.out.2.2.2.2.below (HD.out.1.trans (d.mono HD.out.1.size))⟩)
  go_upto_region 14 with (first
    | (go_at_call 85; refine T1.mono ?_; rintro e w1 ⟨rfl, d1⟩; have y0 : w1.cell? ⟨w.heap.size, 0, none⟩ = some (.int .i64 (S.length : Int)) := (d1.cell (p := ⟨w.heap.size, 0, none⟩) (by have := HD.out.2.2.2; show w.heap.size < _; omega)).trans x0; have y1 : w1.cell? ⟨w.heap.size, 1, none⟩ = some (.int .i64 (Y.length : Int)) := (d1.cell (p := ⟨w.heap.size, 1, none⟩) (by have := HD.out.2.2.2; show w.heap.size < _; omega)).trans x1)
    | (go_at_call_of 86 asx; refine (rnames_any _ asx cs S (hide (HRS.out _ d1).1) (by omega)).mono ?_; rintro e w2 ⟨rfl, e2⟩; obtain rfl := e2.symm; rw [hv1])
    | (go_at_call 86; refine (rnames_any _ ay cy Y (hide (HRS.out _ d1).2) (by omega)).mono ?_; rintro e w2 ⟨rfl, e2⟩; obtain rfl := e2.symm; rw [hv2])
    | (go_at_call 87; refine (nameT ti _).mono ?_; rintro e w2 ⟨rfl, e2⟩; obtain rfl := e2.symm; rw [hv])
    | (go_at_call_of 88 asx; refine (ronce_any _ asx cs S (hide (HRS.out _ d1).1) (by omega) hcs).mono ?_; rintro e w2 ⟨rfl, d2⟩; rw [hq1]; have d12 := d1.trans (d2.mono d1.size))
    | (go_at_call 88; refine (ronce_any _ ay cy Y (hide (HRS.out _ d12).2) (by omega) hcy).mono ?_; rintro e w3 ⟨rfl, d3⟩; rw [hq2]))
  have d13 := d12.trans (d3.mono d12.size)
  clear d3 d2
  have HW := hide (HD.out.1.trans (d13.mono HD.out.1.size))
  have HX : Hid (w3.heap[w.heap.size + 1]? = some (.cells #[.string ⟨#[]⟩, .slice none 0 0, .slice none 0 0, .slice none 0 0, .slice none 0 0] 32 (0, 0))) := hide ((d13.block _ (by have := HD.out.2.2.2; omega)).trans HD.out.2.2.1)
  clear T1 x0 x1 x2 x3 x4 y0 y1
  have z0 : w3.cell? ⟨w.heap.size + 1, 0, none⟩ = some (.string ⟨#[]⟩) := cell_of HX.out rfl
  have z1 : w3.cell? ⟨w.heap.size + 1, 1, none⟩ = some (.slice none 0 0) := cell_of HX.out rfl
  have z2 : w3.cell? ⟨w.heap.size + 1, 2, none⟩ = some (.slice none 0 0) := cell_of HX.out rfl
  have z3 : w3.cell? ⟨w.heap.size + 1, 3, none⟩ = some (.slice none 0 0) := cell_of HX.out rfl
  have z4 : w3.cell? ⟨w.heap.size + 1, 4, none⟩ = some (.slice none 0 0) := cell_of HX.out rfl
  have f0 : w3.frozen? ⟨w.heap.size + 1, 0, none⟩ = false := fz_of HX.out
  have f1 : w3.frozen? ⟨w.heap.size + 1, 1, none⟩ = false := fz_of HX.out
  have f2 : w3.frozen? ⟨w.heap.size + 1, 2, none⟩ = false := fz_of HX.out
  have f3 : w3.frozen? ⟨w.heap.size + 1, 3, none⟩ = false := fz_of HX.out
  have f4 : w3.frozen? ⟨w.heap.size + 1, 4, none⟩ = false := fz_of HX.out
  have HZ := hide (set5 w3 (w.heap.size + 1) _ _ _ _ _ (.string ⟨#[]⟩) (.slice none 0 0) (.slice none 0 0) (.slice none 0 0) (.slice none 0 0) 32 HX.out)
  go_wp2
  refine bodyPost_ret (results_c1 (p := 8) (q := 9) (ty := 32) rfl _ _ (w.heap.size + 1) 32 _ (0, 0) _ _ rfl rfl HZ.out.1 Tryz.underlying32 rfl (by kernel_rfl)) rfl ?_
  exact FrA.nil 21 (HW.out.trans (HZ.out.2.toBelow HW.out.size fun k z => by omega))
set_option maxRecDepth 100000 in
set_option maxHeartbeats 4000000 in
theorem rfrom_tw2 (w : World) (ti : ByteArray) (n m : Int) (St Fi : List Int) (Ed : List EdT) (a1 a2 a3 asx ay : Option Addr) (c1 c2 c3 cs cy : Nat) (S Y : List ByteArray) (hA : Hid (RdN w a1 St ∧ RdN w a2 Fi ∧ RdE w a3 Ed ∧ ReadsS w asx S ∧ ReadsS w ay Y)) (hcs : Hid (S.length ≤ cs)) (hcy : Hid (Y.length ≤ cy)) (h1 : St.length ≤ 4194304) (h2 : Fi.length ≤ 4194304) (h3 : Ed.length ≤ 4194304) (hs : S.length ≤ 4194304) (hy : Y.length ≤ 4194304) (hm : mayF n m St Fi Ed = true) (hn : (S.length : Int) = n) (hn2 : (Y.length : Int) = m) (hv : vld ti = true) (hv1 : S.all vld = true) (hv2 : Y.all vld = true) (hq1 : (S.all vld && decide S.Nodup) = true) (hq2 : (Y.all vld && decide Y.Nodup) = false) :
    Calls Tryz.prog 50 #[.agg #[.int .i64 n, .int .i64 m, .slice a1 St.length c1, .slice a2 Fi.length c2, .slice a3 Ed.length c3], .slice asx S.length cs, .slice ay Y.length cy, .string ti] w fun e w' => FrA w w' (noF 21) e := by
  subst hn hn2
  have HU := hide (And.intro hcs.out (And.intro hcy.out (And.intro hs hy)))
  clear HU
  obtain ⟨W0, hW0⟩ : ∃ W0, (w.alloc (.cells #[.int .i64 (S.length : Int), .int .i64 (Y.length : Int), .slice a1 St.length c1, .slice a2 Fi.length c2, .slice a3 Ed.length c3] 25)).alloc (.cells #[.string ⟨#[]⟩, .slice none 0 0, .slice none 0 0, .slice none 0 0, .slice none 0 0] 32) = W0 := ⟨_, rfl⟩
  have d0 : Below w.heap.size w W0 := by rw [← hW0]; exact ((Below.refl _ _).alloc (Nat.le_refl _) _).alloc (by simp) _
  have B0 : W0.heap[w.heap.size]? = some (.cells #[.int .i64 (S.length : Int), .int .i64 (Y.length : Int), .slice a1 St.length c1, .slice a2 Fi.length c2, .slice a3 Ed.length c3] 25 (0, 0)) := by rw [← hW0]; exact (Below.heap_alloc _ _ _ (by simp)).trans (World.alloc_heap_new _ _)
  have B1 : W0.heap[w.heap.size + 1]? = some (.cells #[.string ⟨#[]⟩, .slice none 0 0, .slice none 0 0, .slice none 0 0, .slice none 0 0] 32 (0, 0)) := by rw [← hW0]; exact heap_alloc2_new w _ _
  have z0 : W0.heap.size = w.heap.size + 2 := by rw [← hW0]; simp
  have T1 := rmay_any W0 (S.length : Int) (Y.length : Int) St Fi Ed a1 a2 a3 c1 c2 c3 (hide ⟨hA.out.1.on d0, hA.out.2.1.on d0, hA.out.2.2.1.on d0⟩) h1 h2 h3
  rw [hm] at T1
  have HD := hide (And.intro d0 (And.intro B0 (And.intro B1 z0)))
  have x0 : W0.cell? ⟨w.heap.size, 0, none⟩ = some (.int .i64 (S.length : Int)) := cell_of B0 rfl
  have x1 : W0.cell? ⟨w.heap.size, 1, none⟩ = some (.int .i64 (Y.length : Int)) := cell_of B0 rfl
  have x2 : W0.cell? ⟨w.heap.size, 2, none⟩ = some (.slice a1 St.length c1) := cell_of B0 rfl
  have x3 : W0.cell? ⟨w.heap.size, 3, none⟩ = some (.slice a2 Fi.length c2) := cell_of B0 rfl
  have x4 : W0.cell? ⟨w.heap.size, 4, none⟩ = some (.slice a3 Ed.length c3) := cell_of B0 rfl
  clear d0 B0 B1 z0
  go_enter Tryz.func50, Tryz.ntmps50
  have HRS : Hid (∀ W, Below W0.heap.size W0 W → ReadsS W asx S ∧ ReadsS W ay Y) := hide (fun W d => ⟨hA.out.2.2.2.1.below (HD.out.1.trans (d.mono HD.out.1.size)), hA.out.2.2.2.2.below (HD.out.1.trans (d.mono HD.out.1.size))⟩)
  go_upto_region 14 with (first
    | (go_at_call 85; refine T1.mono ?_; rintro e w1 ⟨rfl, d1⟩; have y0 : w1.cell? ⟨w.heap.size, 0, none⟩ = some (.int .i64 (S.length : Int)) := (d1.cell (p := ⟨w.heap.size, 0, none⟩) (by have := HD.out.2.2.2; show w.heap.size < _; omega)).trans x0; have y1 : w1.cell? ⟨w.heap.size, 1, none⟩ = some (.int .i64 (Y.length : Int)) := (d1.cell (p := ⟨w.heap.size, 1, none⟩) (by have := HD.out.2.2.2; show w.heap.size < _; omega)).trans x1)
    | (go_at_call_of 86 asx; refine (rnames_any _ asx cs S (hide (HRS.out _ d1).1) (by omega)).mono ?_; rintro e w2 ⟨rfl, e2⟩; obtain rfl := e2.symm; rw [hv1])
    | (go_at_call 86; refine (rnames_any _ ay cy Y (hide (HRS.out _ d1).2) (by omega)).mono ?_; rintro e w2 ⟨rfl, e2⟩; obtain rfl := e2.symm; rw [hv2])
    | (go_at_call 87; refine (nameT ti _).mono ?_; rintro e w2 ⟨rfl, e2⟩; obtain rfl := e2.symm; rw [hv])
    | (go_at_call_of 88 asx; refine (ronce_any _ asx cs S (hide (HRS.out _ d1).1) (by omega) hcs).mono ?_; rintro e w2 ⟨rfl, d2⟩; rw [hq1]; have d12 := d1.trans (d2.mono d1.size))
    | (go_at_call 88; refine (ronce_any _ ay cy Y (hide (HRS.out _ d12).2) (by omega) hcy).mono ?_; rintro e w3 ⟨rfl, d3⟩; rw [hq2]))
  have d13 := d12.trans (d3.mono d12.size)
  clear d3 d2
  have HW := hide (HD.out.1.trans (d13.mono HD.out.1.size))
  have HX : Hid (w3.heap[w.heap.size + 1]? = some (.cells #[.string ⟨#[]⟩, .slice none 0 0, .slice none 0 0, .slice none 0 0, .slice none 0 0] 32 (0, 0))) := hide ((d13.block _ (by have := HD.out.2.2.2; omega)).trans HD.out.2.2.1)
  clear T1 x0 x1 x2 x3 x4 y0 y1
  have z0 : w3.cell? ⟨w.heap.size + 1, 0, none⟩ = some (.string ⟨#[]⟩) := cell_of HX.out rfl
  have z1 : w3.cell? ⟨w.heap.size + 1, 1, none⟩ = some (.slice none 0 0) := cell_of HX.out rfl
  have z2 : w3.cell? ⟨w.heap.size + 1, 2, none⟩ = some (.slice none 0 0) := cell_of HX.out rfl
  have z3 : w3.cell? ⟨w.heap.size + 1, 3, none⟩ = some (.slice none 0 0) := cell_of HX.out rfl
  have z4 : w3.cell? ⟨w.heap.size + 1, 4, none⟩ = some (.slice none 0 0) := cell_of HX.out rfl
  have f0 : w3.frozen? ⟨w.heap.size + 1, 0, none⟩ = false := fz_of HX.out
  have f1 : w3.frozen? ⟨w.heap.size + 1, 1, none⟩ = false := fz_of HX.out
  have f2 : w3.frozen? ⟨w.heap.size + 1, 2, none⟩ = false := fz_of HX.out
  have f3 : w3.frozen? ⟨w.heap.size + 1, 3, none⟩ = false := fz_of HX.out
  have f4 : w3.frozen? ⟨w.heap.size + 1, 4, none⟩ = false := fz_of HX.out
  have HZ := hide (set5 w3 (w.heap.size + 1) _ _ _ _ _ (.string ⟨#[]⟩) (.slice none 0 0) (.slice none 0 0) (.slice none 0 0) (.slice none 0 0) 32 HX.out)
  go_wp2
  refine bodyPost_ret (results_c1 (p := 8) (q := 9) (ty := 32) rfl _ _ (w.heap.size + 1) 32 _ (0, 0) _ _ rfl rfl HZ.out.1 Tryz.underlying32 rfl (by kernel_rfl)) rfl ?_
  exact FrA.nil 21 (HW.out.trans (HZ.out.2.toBelow HW.out.size fun k z => by omega))
set_option maxRecDepth 100000 in
set_option maxHeartbeats 4000000 in
theorem rfrom_ok (w : World) (ti : ByteArray) (n m : Int) (St Fi : List Int) (Ed : List EdT) (a1 a2 a3 asx ay : Option Addr) (c1 c2 c3 cs cy : Nat) (S Y : List ByteArray) (hA : Hid (RdN w a1 St ∧ RdN w a2 Fi ∧ RdE w a3 Ed ∧ ReadsS w asx S ∧ ReadsS w ay Y)) (hcs : Hid (S.length ≤ cs)) (hcy : Hid (Y.length ≤ cy)) (h1 : St.length ≤ 4194304) (h2 : Fi.length ≤ 4194304) (h3 : Ed.length ≤ 4194304) (hs : S.length ≤ 4194304) (hy : Y.length ≤ 4194304) (hm : mayF n m St Fi Ed = true) (hn : (S.length : Int) = n) (hn2 : (Y.length : Int) = m) (hv : vld ti = true) (hv1 : S.all vld = true) (hv2 : Y.all vld = true) (hq1 : (S.all vld && decide S.Nodup) = true) (hq2 : (Y.all vld && decide Y.Nodup) = true) (hI : Hid (InF St Fi Ed S Y)) :
    Calls Tryz.prog 50 #[.agg #[.int .i64 n, .int .i64 m, .slice a1 St.length c1, .slice a2 Fi.length c2, .slice a3 Ed.length c3], .slice asx S.length cs, .slice ay Y.length cy, .string ti] w fun e w' => FrA w w' (okFr ti St Fi Ed S Y) e := by
  subst hn hn2
  have HU := hide (And.intro hcs.out (And.intro hcy.out (And.intro hs hy)))
  clear HU
  obtain ⟨W0, hW0⟩ : ∃ W0, (w.alloc (.cells #[.int .i64 (S.length : Int), .int .i64 (Y.length : Int), .slice a1 St.length c1, .slice a2 Fi.length c2, .slice a3 Ed.length c3] 25)).alloc (.cells #[.string ⟨#[]⟩, .slice none 0 0, .slice none 0 0, .slice none 0 0, .slice none 0 0] 32) = W0 := ⟨_, rfl⟩
  have d0 : Below w.heap.size w W0 := by rw [← hW0]; exact ((Below.refl _ _).alloc (Nat.le_refl _) _).alloc (by simp) _
  have B0 : W0.heap[w.heap.size]? = some (.cells #[.int .i64 (S.length : Int), .int .i64 (Y.length : Int), .slice a1 St.length c1, .slice a2 Fi.length c2, .slice a3 Ed.length c3] 25 (0, 0)) := by rw [← hW0]; exact (Below.heap_alloc _ _ _ (by simp)).trans (World.alloc_heap_new _ _)
  have B1 : W0.heap[w.heap.size + 1]? = some (.cells #[.string ⟨#[]⟩, .slice none 0 0, .slice none 0 0, .slice none 0 0, .slice none 0 0] 32 (0, 0)) := by rw [← hW0]; exact heap_alloc2_new w _ _
  have z0 : W0.heap.size = w.heap.size + 2 := by rw [← hW0]; simp
  have T1 := rmay_any W0 (S.length : Int) (Y.length : Int) St Fi Ed a1 a2 a3 c1 c2 c3 (hide ⟨hA.out.1.on d0, hA.out.2.1.on d0, hA.out.2.2.1.on d0⟩) h1 h2 h3
  rw [hm] at T1
  have HD := hide (And.intro d0 (And.intro B0 (And.intro B1 z0)))
  have x0 : W0.cell? ⟨w.heap.size, 0, none⟩ = some (.int .i64 (S.length : Int)) := cell_of B0 rfl
  have x1 : W0.cell? ⟨w.heap.size, 1, none⟩ = some (.int .i64 (Y.length : Int)) := cell_of B0 rfl
  have x2 : W0.cell? ⟨w.heap.size, 2, none⟩ = some (.slice a1 St.length c1) := cell_of B0 rfl
  have x3 : W0.cell? ⟨w.heap.size, 3, none⟩ = some (.slice a2 Fi.length c2) := cell_of B0 rfl
  have x4 : W0.cell? ⟨w.heap.size, 4, none⟩ = some (.slice a3 Ed.length c3) := cell_of B0 rfl
  clear d0 B0 B1 z0
  go_enter Tryz.func50, Tryz.ntmps50
  have HRS : Hid (∀ W, Below W0.heap.size W0 W → ReadsS W asx S ∧ ReadsS W ay Y) := hide (fun W d => ⟨hA.out.2.2.2.1.below (HD.out.1.trans (d.mono HD.out.1.size)), hA.out.2.2.2.2.below (HD.out.1.trans (d.mono HD.out.1.size))⟩)
  go_upto_region 15 with (first
    | (go_at_call 85; refine T1.mono ?_; rintro e w1 ⟨rfl, d1⟩; have y0 : w1.cell? ⟨w.heap.size, 0, none⟩ = some (.int .i64 (S.length : Int)) := (d1.cell (p := ⟨w.heap.size, 0, none⟩) (by have := HD.out.2.2.2; show w.heap.size < _; omega)).trans x0; have y1 : w1.cell? ⟨w.heap.size, 1, none⟩ = some (.int .i64 (Y.length : Int)) := (d1.cell (p := ⟨w.heap.size, 1, none⟩) (by have := HD.out.2.2.2; show w.heap.size < _; omega)).trans x1)
    | (go_at_call_of 86 asx; refine (rnames_any _ asx cs S (hide (HRS.out _ d1).1) (by omega)).mono ?_; rintro e w2 ⟨rfl, e2⟩; obtain rfl := e2.symm; rw [hv1])
    | (go_at_call 86; refine (rnames_any _ ay cy Y (hide (HRS.out _ d1).2) (by omega)).mono ?_; rintro e w2 ⟨rfl, e2⟩; obtain rfl := e2.symm; rw [hv2])
    | (go_at_call 87; refine (nameT ti _).mono ?_; rintro e w2 ⟨rfl, e2⟩; obtain rfl := e2.symm; rw [hv])
    | (go_at_call_of 88 asx; refine (ronce_any _ asx cs S (hide (HRS.out _ d1).1) (by omega) hcs).mono ?_; rintro e w2 ⟨rfl, d2⟩; rw [hq1]; have d12 := d1.trans (d2.mono d1.size))
    | (go_at_call 88; refine (ronce_any _ ay cy Y (hide (HRS.out _ d12).2) (by omega) hcy).mono ?_; rintro e w3 ⟨rfl, d3⟩; rw [hq2]))
  have d13 := d12.trans (d3.mono d12.size)
  have DW := hide (HD.out.1.trans (d13.mono HD.out.1.size))
  have HB : Hid (w3.heap[w.heap.size]? = some (.cells #[.int .i64 (S.length : Int), .int .i64 (Y.length : Int), .slice a1 St.length c1, .slice a2 Fi.length c2, .slice a3 Ed.length c3] 25 (0, 0)) ∧ w3.heap[w.heap.size + 1]? = some (.cells #[.string ⟨#[]⟩, .slice none 0 0, .slice none 0 0, .slice none 0 0, .slice none 0 0] 32 (0, 0)) ∧ w.heap.size + 2 ≤ w3.heap.size) := hide ⟨(d13.block _ (by have := HD.out.2.2.2; omega)).trans HD.out.2.1, (d13.block _ (by have := HD.out.2.2.2; omega)).trans HD.out.2.2.1, by have := HD.out.2.2.2; have := d13.size; omega⟩
  clear T1 x0 x1 x2 x3 x4 y0 y1 d1 d2 d12 d3 d13 HRS
  go_upto_region 16 with fail
  obtain ⟨Wf, hWf⟩ : ∃ Wf, (w3.alloc (.cells #[.string wStart, .int .i64 0] 66)).alloc (.cells #[.string ti, .slice (some ⟨w3.heap.size, 0, none⟩) 1 1, .slice none 0 0, .slice none 0 0, .slice none 0 0] 32) = Wf := ⟨_, rfl⟩
  rw [show (Value.string ⟨#[115, 116, 97, 114, 116]⟩) = .string wStart from rfl, hWf]
  obtain ⟨g, hg⟩ : ∃ g, w3.heap.size + 1 = g := ⟨_, rfl⟩
  have HF0 : Hid (FB w g ti #[.int .i64 (S.length : Int), .int .i64 (Y.length : Int), .slice a1 St.length c1, .slice a2 Fi.length c2, .slice a3 Ed.length c3] Wf (.slice (some ⟨w3.heap.size, 0, none⟩) 1 1) (.slice none 0 0) (.slice none 0 0) (.slice none 0 0) (opsF []) [] [] []) := hide (by
    have dw : Below w3.heap.size w3 Wf := by rw [← hWf]; exact ((Below.refl _ _).alloc (Nat.le_refl _) _).alloc (by simp) _
    have hlt := HB.out.2.2
    refine ⟨by rw [← hg, ← hWf]; exact heap_alloc2_new w3 _ _, (dw.block _ (by omega)).trans HB.out.1, (dw.block _ (by omega)).trans HB.out.2.1, by omega, ?_, ⟨rfl, .inl ⟨rfl, rfl⟩⟩, ⟨rfl, .inl ⟨rfl, rfl⟩⟩, ⟨rfl, .inl ⟨rfl, rfl⟩⟩, fun b _ z => (by cases z), DW.out.trans (dw.mono DW.out.size)⟩
    have k1 : (w3.alloc (.cells #[.string wStart, .int .i64 0] 66)).ownsRow w3.heap.size 66 2 (.slice (some ⟨w3.heap.size, 0, none⟩) 1 1) 1 [.string wStart, .int .i64 0] := World.ownsRow_lit w3 #[.string wStart, .int .i64 0] 1 (Nat.le_refl _) (by unfold maxLen; omega) rfl
    have k2 := own_wide (owns_below k1 ((Below.refl _ _).alloc (Nat.le_refl _) (.cells #[.string ti, .slice (some ⟨w3.heap.size, 0, none⟩) 1 1, .slice none 0 0, .slice none 0 0, .slice none 0 0] 32))) hlt
    rw [hWf] at k2
    simpa [opsF, kOps, wStart] using k2)
  rw [hg]
  clear hWf HB
  have k2 : Wf.cell? ⟨g, 2, none⟩ = some (.slice none 0 0) := cell_of HF0.out.blk rfl
  have KA : Hid (∀ W, Below w.heap.size w W → RdN W a1 St ∧ RdN W a2 Fi ∧ RdE W a3 Ed ∧ ReadsS W asx S ∧ ReadsS W ay Y) := hide (fun W dd => ⟨hA.out.1.on dd, hA.out.2.1.on dd, hA.out.2.2.1.on dd, hA.out.2.2.2.1.below dd, hA.out.2.2.2.2.below dd⟩)
  have HSW := hide (KA.out Wf HF0.out.dw).2.2.2.1
  go_upto_region 17 with (at_builtin; refine app_all HSW.out (by omega) rfl _ _ rfl rfl rfl ?_; intro v2 w4 ho d4; obtain ⟨a2', c2', rfl⟩ := rowForm ho; obtain ⟨bk, NX⟩ := HF0.out.set2 ho d4; have kc : w4.cell? ⟨g, 2, none⟩ = some (.slice none 0 0) := cell_of bk rfl; have fc : w4.frozen? ⟨g, 2, none⟩ = false := fz_of bk; have HF1 := hide NX; clear ho d4 bk NX)
  obtain ⟨X4, hX4⟩ : ∃ X4, w4.setCell ⟨g, 2, none⟩ (.slice a2' S.length c2') = X4 := ⟨_, rfl⟩
  rw [hX4] at HF1
  rw [hX4]
  clear hX4 kc fc k2 HSW HF0 hg
  go_wp2_with fail
  go_loopw [17] (fun i wr => ∃ (k : Nat) (v1 : Value), k ≤ Y.length ∧ i = .int .i64 k ∧ Hid (FB w g ti #[.int .i64 (S.length : Int), .int .i64 (Y.length : Int), .slice a1 St.length c1, .slice a2 Fi.length c2, .slice a3 Ed.length c3] wr v1 (.slice a2' S.length c2') (.slice none 0 0) (.slice none 0 0) (opsF (Y.take k)) S [] [])) (fun i _ => Y.length - (intOf i).toNat)
  case atStart => exact ⟨0, _, Nat.zero_le _, rfl, hide (by simpa using HF1.out)⟩
  case round =>
    obtain ⟨k, v1, hk, rfl, HH⟩ := hrel
    clear HF1
    by_cases hlt : k < Y.length
    · have i2 : (k : Int) < (Y.length : Int) := by omega
      have i3 : (0 : Int) ≤ (k : Int) := by omega
      obtain ⟨gy, oy, rfl, q0⟩ := (KA.out wr HH.out.dw).2.2.2.2 k hlt
      have HN := hide (opsF_next (List.getElem?_eq_getElem hlt))
      obtain ⟨y, hy'⟩ : ∃ y, Y[k] = y := ⟨_, rfl⟩
      rw [hy'] at q0 HN
      have hlen : (opsF (Y.take k)).length ≤ k + 1 := by rw [opsF_len, List.length_take]; omega
      obtain ⟨O, hO⟩ : ∃ O, opsF (Y.take k) = O := ⟨_, rfl⟩
      rw [hO] at HH HN hlen
      clear hy' hO
      obtain ⟨a1', c1', rfl⟩ := rowForm HH.out.o
      go_upto_region 20 with fail
      have t1 := tw_cell (show wr.cell? ⟨g, 1, none⟩ = some (.slice a1' O.length c1') from cell_of HH.out.blk rfl) (.cells #[.string y, .int .i64 1] 66)
      have t2 := tw_cell q0 (.cells #[.string y, .int .i64 1] 66)
      clear q0
      refine wp_region_alloc 7 #[true, true, true, true, true, true, true, true, false, false, false] _ (.cells #[.string y, .int .i64 1] 66) (by kernel_rfl) (by kernel_rfl) rfl ?_
      simp only [List.take_succ_cons, List.take_zero, List.drop_succ_cons, List.drop_zero]
      refine mix_take 7 (by kernel_rfl) ?_
      simp only [List.take_succ_cons, List.take_zero, List.drop_succ_cons, List.drop_zero]
      repeat (go_big_quiet_step (fail))
      refine wpQuiet_nil ?_
      refine mix_nil ?_
      refine ⟨rfl, .slice (some ⟨wr.heap.size, 0, none⟩) 1 1, fun d => ?_, fun d => ?_⟩
      · go_simp
      · refine app_O (HH.out.drewN d).o (by have := HH.out.hg; have := HH.out.lt; show _ ≤ wr.heap.size; omega) (y, 1) rfl _ _ rfl rfl rfl (by omega) ?_
        intro a5 c5 w5 ho hG
        obtain ⟨bk, NX⟩ := (HH.out.drewN d).set1 hG ho
        have kc : w5.cell? ⟨g, 1, none⟩ = some (.slice a1' O.length c1') := cell_of bk rfl
        have fc : w5.frozen? ⟨g, 1, none⟩ = false := fz_of bk
        have NX := hide NX
        clear ho hG bk
        go_wp2_with fail
        exact ⟨⟨k + 1, _, by omega, by go_num, hide (by rw [HN.out]; exact NX.out)⟩, by simp [intOf]; omega⟩
    · obtain rfl : k = Y.length := by omega
      have i2 : ¬ (Y.length : Int) < (Y.length : Int) := by omega
      rw [List.take_length] at HH
      obtain ⟨O, hO⟩ : ∃ O, opsF Y = O := ⟨_, rfl⟩
      rw [hO] at HH
      have HO := hide hO
      clear hO
      have x3 : wr.cell? ⟨w.heap.size, 3, none⟩ = some (.slice a2 Fi.length c2) := cell_of HH.out.ba rfl
      have x0 : wr.cell? ⟨w.heap.size, 0, none⟩ = some (.int .i64 (S.length : Int)) := cell_of HH.out.ba rfl
      have HBF : Hid (∀ z ∈ Fi, 0 ≤ z ∧ z < (S.length : Int)) := hide fun z hz => hI.out.fi z ((riseL_iff _ _).2 hz)
      have T48 := rrising_any wr a2 c2 S.length Fi (hide (KA.out wr HH.out.dw).2.1) HBF h2 hs
      rw [up_rise HBF.out] at T48
      have hNl := rise_le Fi
      obtain ⟨N, hN⟩ : ∃ N, riseL Fi = N := ⟨_, rfl⟩
      rw [hN] at T48 hNl
      have HN := hide hN
      clear hN
      go_upto_region 22 with (go_at_call 48; refine T48.mono ?_; rintro e w5 ⟨vn, rfl, hn5, d5⟩; obtain ⟨an, cn, rfl⟩ := rowForm hn5)
      have HF5 := hide (And.intro (HH.out.below d5) (own_wide hn5 (show w.heap.size + 2 ≤ wr.heap.size by have := HH.out.hg; have := HH.out.lt; omega)))
      clear T48 x0 x3 hn5 d5 HH HBF
      go_wp2_with fail
      go_loopw [19] (fun i wr => ∃ (k : Nat) (v3 : Value), k ≤ N.length ∧ i = .int .i64 k ∧ Hid (FB w g ti #[.int .i64 (S.length : Int), .int .i64 (Y.length : Int), .slice a1 St.length c1, .slice a2 Fi.length c2, .slice a3 Ed.length c3] wr v1 (.slice a2' S.length c2') v3 (.slice none 0 0) O S ((N.take k).map (txA S)) [] ∧ wr.ownsRow (w.heap.size + 2) 3 1 (.slice an N.length cn) N.length (N.map (Value.int .i64)))) (fun i _ => N.length - (intOf i).toNat)
      case atStart => exact ⟨0, _, Nat.zero_le _, rfl, hide (by simpa using HF5.out)⟩
      case round =>
        obtain ⟨k, v3, hk, rfl, HH⟩ := hrel
        clear HF5
        by_cases hlt : k < N.length
        · have i2 : (k : Int) < (N.length : Int) := by omega
          have i3 : (0 : Int) ≤ (k : Int) := by omega
          obtain ⟨_, _, e0, hrn⟩ := rdN_of HH.out.2
          cases e0
          obtain ⟨gn, on, rfl, q0⟩ := hrn k hlt
          have hb := hI.out.fi N[k] (by rw [HN.out]; exact List.getElem_mem hlt)
          have HX := hide (map_next (txA S) (List.getElem?_eq_getElem hlt))
          obtain ⟨q, hq⟩ : ∃ q, N[k] = q := ⟨_, rfl⟩
          rw [hq] at q0 HX hb
          obtain ⟨p, rfl⟩ : ∃ p : Nat, q = (p : Int) := ⟨q.toNat, by omega⟩
          obtain ⟨gs, os, rfl, q1⟩ := tx_cell (KA.out wr HH.out.1.dw).2.2.2.1 hb
          rw [Int.toNat_natCast] at q1
          obtain ⟨s, hs'⟩ : ∃ s, txA S p = s := ⟨_, rfl⟩
          rw [hs'] at q1 HX
          have j1 : (p : Int) < (S.length : Int) := hb.2
          have j2 : (0 : Int) ≤ (p : Int) := hb.1
          have hlen : ((N.take k).map (txA S)).length ≤ k := by rw [List.length_map, List.length_take]; omega
          obtain ⟨F, hF⟩ : ∃ F, (N.take k).map (txA S) = F := ⟨_, rfl⟩
          rw [hF] at HH HX hlen
          clear hq hs' hF hrn hb
          obtain ⟨a3', c3', rfl⟩ := rowForm HH.out.1.f
          go_upto_region 25 with fail
          have t1 := tw_cell (show wr.cell? ⟨g, 3, none⟩ = some (.slice a3' F.length c3') from cell_of HH.out.1.blk rfl) (.cells #[.string s] 9)
          have t2 := tw_cell q0 (.cells #[.string s] 9)
          have t3 := tw_cell q1 (.cells #[.string s] 9)
          clear q0 q1
          refine wp_region_alloc 9 #[true, true, true, true, true, true, true, true, true, true, false, false, false] _ (.cells #[.string s] 9) (by kernel_rfl) (by kernel_rfl) rfl ?_
          simp only [List.take_succ_cons, List.take_zero, List.drop_succ_cons, List.drop_zero]
          refine mix_take 9 (by kernel_rfl) ?_
          simp only [List.take_succ_cons, List.take_zero, List.drop_succ_cons, List.drop_zero]
          repeat (go_big_quiet_step (fail))
          refine wpQuiet_nil ?_
          refine mix_nil ?_
          refine ⟨rfl, .slice (some ⟨wr.heap.size, 0, none⟩) 1 1, fun d => ?_, fun d => ?_⟩
          · go_simp
          · refine app_S (HH.out.1.drewN d).f (by have := HH.out.1.hg; have := HH.out.1.lt; show _ ≤ wr.heap.size; omega) s rfl _ _ rfl rfl rfl (by omega) ?_
            intro a5 c5 w5 ho hG
            obtain ⟨bk, NX⟩ := (HH.out.1.drewN d).set3 hG ho
            have NI : (w5.setCell ⟨g, 3, none⟩ (.slice a5 (F.length + 1) c5)).ownsRow (w.heap.size + 2) 3 1 (.slice (some ⟨gn, on, none⟩) N.length cn) N.length (N.map (Value.int .i64)) := rowB_set (row_only (show (wr.drewN d).ownsRow _ _ _ _ _ _ from HH.out.2) hG.1 fun k q z => tag_ne (show (wr.drewN d).ownsRow _ _ _ _ _ _ from HH.out.2) (HH.out.1.drewN d).f (by omega) q z) bk (by omega) _ _
            have kc : w5.cell? ⟨g, 3, none⟩ = some (.slice a3' F.length c3') := cell_of bk rfl
            have fc : w5.frozen? ⟨g, 3, none⟩ = false := fz_of bk
            have NX := hide (And.intro NX NI)
            clear ho hG bk NI
            go_wp2_with fail
            exact ⟨⟨k + 1, _, by omega, by go_num, hide (by rw [HX.out]; exact NX.out)⟩, by simp [intOf]; omega⟩
        · obtain rfl : k = N.length := by omega
          have i2 : ¬ (N.length : Int) < (N.length : Int) := by omega
          rw [List.take_length] at HH
          have HF : Hid (N.map (txA S) = namesAt (tN (riseL Fi)) S) := hide (by rw [← HN.out]; unfold namesAt tN; rw [List.map_map]; rfl)
          obtain ⟨F, hF⟩ : ∃ F, N.map (txA S) = F := ⟨_, rfl⟩
          rw [hF] at HH HF
          clear hF
          have x2 : wr.cell? ⟨w.heap.size, 2, none⟩ = some (.slice a1 St.length c1) := cell_of HH.out.1.ba rfl
          have x0 : wr.cell? ⟨w.heap.size, 0, none⟩ = some (.int .i64 (S.length : Int)) := cell_of HH.out.1.ba rfl
          have HBF : Hid (∀ z ∈ St, 0 ≤ z ∧ z < (S.length : Int)) := hide fun z hz => hI.out.st z ((riseL_iff _ _).2 hz)
          have T48 := rrising_any wr a1 c1 S.length St (hide (KA.out wr HH.out.1.dw).1) HBF h1 hs
          rw [up_rise HBF.out] at T48
          have hMl := rise_le St
          obtain ⟨M, hM⟩ : ∃ M, riseL St = M := ⟨_, rfl⟩
          rw [hM] at T48 hMl
          have HM := hide hM
          clear hM
          go_upto_region 27 with (go_at_call 48; refine T48.mono ?_; rintro e w5 ⟨vn, rfl, hn5, d5⟩; obtain ⟨am, cm, rfl⟩ := rowForm hn5)
          have HF5 := hide (And.intro (HH.out.1.below d5) (own_wide hn5 (show w.heap.size + 2 ≤ wr.heap.size by have := HH.out.1.hg; have := HH.out.1.lt; omega)))
          clear T48 x0 x2 hn5 d5 HH HBF
          go_wp2_with fail
          go_loopw [20] (fun i wr => ∃ (k : Nat) (v4 : Value), k ≤ M.length ∧ i = .int .i64 k ∧ Hid (FB w g ti #[.int .i64 (S.length : Int), .int .i64 (Y.length : Int), .slice a1 St.length c1, .slice a2 Fi.length c2, .slice a3 Ed.length c3] wr v1 (.slice a2' S.length c2') v3 v4 O S F ((M.take k).map (ruS S)) ∧ wr.ownsRow (w.heap.size + 2) 3 1 (.slice am M.length cm) M.length (M.map (Value.int .i64)))) (fun i _ => M.length - (intOf i).toNat)
          case atStart => exact ⟨0, _, Nat.zero_le _, rfl, hide (by simpa using HF5.out)⟩
          case round =>
            obtain ⟨k, v4, hk, rfl, HH⟩ := hrel
            clear HF5
            by_cases hlt : k < M.length
            · have i2 : (k : Int) < (M.length : Int) := by omega
              have i3 : (0 : Int) ≤ (k : Int) := by omega
              obtain ⟨_, _, e0, hrn⟩ := rdN_of HH.out.2
              cases e0
              obtain ⟨gn, on, rfl, q0⟩ := hrn k hlt
              have hb := hI.out.st M[k] (by rw [HM.out]; exact List.getElem_mem hlt)
              have HX := hide (map_next (ruS S) (List.getElem?_eq_getElem hlt))
              obtain ⟨q, hq⟩ : ∃ q, M[k] = q := ⟨_, rfl⟩
              rw [hq] at q0 HX hb
              obtain ⟨p, rfl⟩ : ∃ p : Nat, q = (p : Int) := ⟨q.toNat, by omega⟩
              obtain ⟨gs, os, rfl, q1⟩ := tx_cell (KA.out wr HH.out.1.dw).2.2.2.1 hb
              rw [Int.toNat_natCast] at q1
              have HS := hide (show ruS S (p : Int) = (wStart, ⟨#[]⟩, txA S p) from rfl)
              obtain ⟨s, hs'⟩ : ∃ s, txA S p = s := ⟨_, rfl⟩
              rw [hs'] at q1 HS
              have j1 : (p : Int) < (S.length : Int) := hb.2
              have j2 : (0 : Int) ≤ (p : Int) := hb.1
              have hlen : ((M.take k).map (ruS S)).length ≤ k := by rw [List.length_map, List.length_take]; omega
              obtain ⟨R, hR⟩ : ∃ R, (M.take k).map (ruS S) = R := ⟨_, rfl⟩
              rw [hR] at HH HX hlen
              clear hq hs' hR hrn hb
              obtain ⟨a4', c4', rfl⟩ := rowForm HH.out.1.r
              go_upto_region 30 with fail
              have t1 := tw_cell (show wr.cell? ⟨g, 4, none⟩ = some (.slice a4' R.length c4') from cell_of HH.out.1.blk rfl) (.cells #[.string wStart, .string ⟨#[]⟩, .string s] 68)
              have t2 := tw_cell q0 (.cells #[.string wStart, .string ⟨#[]⟩, .string s] 68)
              have t3 := tw_cell q1 (.cells #[.string wStart, .string ⟨#[]⟩, .string s] 68)
              clear q0 q1
              refine wp_region_alloc 10 #[true, true, true, true, true, true, true, true, true, true, true, false, false, false] _ (.cells #[.string wStart, .string ⟨#[]⟩, .string s] 68) (by kernel_rfl) (by kernel_rfl) rfl ?_
              simp only [List.take_succ_cons, List.take_zero, List.drop_succ_cons, List.drop_zero]
              refine mix_take 10 (by kernel_rfl) ?_
              simp only [List.take_succ_cons, List.take_zero, List.drop_succ_cons, List.drop_zero]
              repeat (go_big_quiet_step (fail))
              refine wpQuiet_nil ?_
              refine mix_nil ?_
              refine ⟨rfl, .slice (some ⟨wr.heap.size, 0, none⟩) 1 1, fun d => ?_, fun d => ?_⟩
              · go_simp
                rfl
              · refine app_R (HH.out.1.drewN d).r (by have := HH.out.1.hg; have := HH.out.1.lt; show _ ≤ wr.heap.size; omega) (wStart, ⟨#[]⟩, s) rfl _ _ rfl rfl rfl (by omega) ?_
                intro a5 c5 w5 ho hG
                obtain ⟨bk, NX⟩ := (HH.out.1.drewN d).set4 hG ho
                have NI : (w5.setCell ⟨g, 4, none⟩ (.slice a5 (R.length + 1) c5)).ownsRow (w.heap.size + 2) 3 1 (.slice (some ⟨gn, on, none⟩) M.length cm) M.length (M.map (Value.int .i64)) := rowB_set (row_only (show (wr.drewN d).ownsRow _ _ _ _ _ _ from HH.out.2) hG.1 fun k q z => tag_ne (show (wr.drewN d).ownsRow _ _ _ _ _ _ from HH.out.2) (HH.out.1.drewN d).r (by omega) q z) bk (by omega) _ _
                have kc : w5.cell? ⟨g, 4, none⟩ = some (.slice a4' R.length c4') := cell_of bk rfl
                have fc : w5.frozen? ⟨g, 4, none⟩ = false := fz_of bk
                have NX := hide (And.intro NX NI)
                clear ho hG bk NI
                go_wp2_with fail
                exact ⟨⟨k + 1, _, by omega, by go_num, hide (by rw [HX.out, HS.out]; exact NX.out)⟩, by simp [intOf]; omega⟩
            · obtain rfl : k = M.length := by omega
              have i2 : ¬ (M.length : Int) < (M.length : Int) := by omega
              rw [List.take_length] at HH
              have hR1l : (M.map (ruS S)).length ≤ 4194304 := by rw [List.length_map]; omega
              have HR1 : Hid (M.map (ruS S) = (riseL St).map (ruS S)) := hide (by rw [HM.out])
              obtain ⟨R1, hR1⟩ : ∃ R1, M.map (ruS S) = R1 := ⟨_, rfl⟩
              rw [hR1] at HH HR1 hR1l
              clear hR1
              have x4 : wr.cell? ⟨w.heap.size, 4, none⟩ = some (.slice a3 Ed.length c3) := cell_of HH.out.1.ba rfl
              have T49 := redges_any wr a3 c3 Ed (hide (KA.out wr HH.out.1.dw).2.2.1) h3
              go_upto_region 32 with (go_at_call 49; refine T49.mono ?_; rintro e w5 ⟨ve, rfl, hep⟩; obtain ⟨D, he5, hss, hmem, hDl, d5⟩ := hep; obtain ⟨ad, cd, rfl⟩ := rowForm he5)
              have HDD := hide (dE_of hss hmem)
              have HF5 := hide (And.intro (HH.out.1.below d5) (own_wide he5 (show w.heap.size + 2 ≤ wr.heap.size by have := HH.out.1.hg; have := HH.out.1.lt; omega)))
              clear T49 x4 he5 d5 HH hss hmem
              go_wp2_with fail
              go_loopw [22] (fun i wr => ∃ (k : Nat) (v4 : Value), k ≤ D.length ∧ i = .int .i64 k ∧ Hid (FB w g ti #[.int .i64 (S.length : Int), .int .i64 (Y.length : Int), .slice a1 St.length c1, .slice a2 Fi.length c2, .slice a3 Ed.length c3] wr v1 (.slice a2' S.length c2') v3 v4 O S F (R1 ++ (D.take k).map (ruE S Y)) ∧ wr.ownsRow (w.heap.size + 2) 64 3 (.slice ad D.length cd) D.length (D.flatMap encE))) (fun i _ => D.length - (intOf i).toNat)
              case atStart => exact ⟨0, _, Nat.zero_le _, rfl, hide (by simpa using HF5.out)⟩
              case round =>
                obtain ⟨k, v4, hk, rfl, HH⟩ := hrel
                clear HF5
                by_cases hlt : k < D.length
                · have i2 : (k : Int) < (D.length : Int) := by omega
                  have i3 : (0 : Int) ≤ (k : Int) := by omega
                  obtain ⟨_, _, e0, hrn⟩ := rdE_of HH.out.2
                  cases e0
                  obtain ⟨gn, on, rfl, q0, q1, q2⟩ := hrn k hlt
                  obtain ⟨e1, e2, e3⟩ := hI.out.ed D[k] (by rw [← HDD.out]; exact List.getElem_mem hlt)
                  have HX := hide (map_next (ruE S Y) (List.getElem?_eq_getElem hlt))
                  obtain ⟨⟨p, y, q⟩, hx⟩ : ∃ x, D[k] = x := ⟨_, rfl⟩
                  rw [hx] at q0 q1 q2 e1 e2 e3 HX
                  simp only at q0 q1 q2 e1 e2 e3
                  obtain ⟨p, rfl⟩ : ∃ a : Nat, p = (a : Int) := ⟨p.toNat, by omega⟩
                  obtain ⟨y, rfl⟩ : ∃ a : Nat, y = (a : Int) := ⟨y.toNat, by omega⟩
                  obtain ⟨q, rfl⟩ : ∃ a : Nat, q = (a : Int) := ⟨q.toNat, by omega⟩
                  have HS := hide (show ruE S Y ((p : Int), (y : Int), (q : Int)) = (txA Y y, txA S p, txA S q) from rfl)
                  obtain ⟨g2, o2, rfl, r1⟩ := tx_cell (KA.out wr HH.out.1.dw).2.2.2.1 e1
                  obtain ⟨g3, o3, rfl, r2⟩ := tx_cell (KA.out wr HH.out.1.dw).2.2.2.2 e2
                  obtain ⟨_, _, e0, r3⟩ := tx_cell (KA.out wr HH.out.1.dw).2.2.2.1 e3
                  cases e0
                  rw [Int.toNat_natCast] at r1 r2 r3
                  obtain ⟨s1, hs1⟩ : ∃ s, txA S p = s := ⟨_, rfl⟩
                  obtain ⟨s2, hs2⟩ : ∃ s, txA Y y = s := ⟨_, rfl⟩
                  obtain ⟨s3, hs3⟩ : ∃ s, txA S q = s := ⟨_, rfl⟩
                  rw [hs1] at r1 HS
                  rw [hs2] at r2 HS
                  rw [hs3] at r3 HS
                  have j1 := e1.1
                  have j2 := e1.2
                  have j3 := e2.1
                  have j4 := e2.2
                  have j5 := e3.1
                  have j6 := e3.2
                  have hlen : (R1 ++ (D.take k).map (ruE S Y)).length ≤ 8388608 := by rw [List.length_append, List.length_map, List.length_take]; omega
                  have HA2 := hide (List.append_assoc R1 ((D.take k).map (ruE S Y)) [ruE S Y ((p : Int), (y : Int), (q : Int))])
                  obtain ⟨R, hR⟩ : ∃ R, R1 ++ (D.take k).map (ruE S Y) = R := ⟨_, rfl⟩
                  rw [hR] at HH hlen HA2
                  clear hR hs1 hs2 hs3 e1 e2 e3 hx hrn
                  obtain ⟨a4', c4', rfl⟩ := rowForm HH.out.1.r
                  go_upto_region 35 with fail
                  have t0 := tw_cell (show wr.cell? ⟨g, 4, none⟩ = some (.slice a4' R.length c4') from cell_of HH.out.1.blk rfl) (.cells #[.string s2, .string s1, .string s3] 68)
                  have t1 := tw_cell q0 (.cells #[.string s2, .string s1, .string s3] 68)
                  have t2 := tw_cell q1 (.cells #[.string s2, .string s1, .string s3] 68)
                  have t3 := tw_cell q2 (.cells #[.string s2, .string s1, .string s3] 68)
                  have t4 := tw_cell r1 (.cells #[.string s2, .string s1, .string s3] 68)
                  have t5 := tw_cell r2 (.cells #[.string s2, .string s1, .string s3] 68)
                  have t6 := tw_cell r3 (.cells #[.string s2, .string s1, .string s3] 68)
                  clear q0 q1 q2 r1 r2 r3
                  refine wp_region_alloc 27 #[true, true, true, true, true, true, true, true, true, true, true, true, true, true, true, true, true, true, true, true, true, true, true, true, true, true, true, true, false, false, false] _ (.cells #[.string s2, .string s1, .string s3] 68) (by kernel_rfl) (by kernel_rfl) rfl ?_
                  simp only [List.take_succ_cons, List.take_zero, List.drop_succ_cons, List.drop_zero]
                  refine mix_take 27 (by kernel_rfl) ?_
                  simp only [List.take_succ_cons, List.take_zero, List.drop_succ_cons, List.drop_zero]
                  repeat (go_big_quiet_step (fail))
                  refine wpQuiet_nil ?_
                  refine mix_nil ?_
                  refine ⟨rfl, .slice (some ⟨wr.heap.size, 0, none⟩) 1 1, fun d => ?_, fun d => ?_⟩
                  · go_simp
                  · refine app_R (HH.out.1.drewN d).r (by have := HH.out.1.hg; have := HH.out.1.lt; show _ ≤ wr.heap.size; omega) (s2, s1, s3) rfl _ _ rfl rfl rfl hlen ?_
                    intro a5 c5 w5 ho hG
                    obtain ⟨bk, NX⟩ := (HH.out.1.drewN d).set4 hG ho
                    have NI : (w5.setCell ⟨g, 4, none⟩ (.slice a5 (R.length + 1) c5)).ownsRow (w.heap.size + 2) 64 3 (.slice (some ⟨gn, on, none⟩) D.length cd) D.length (D.flatMap encE) := rowB_set (row_only (show (wr.drewN d).ownsRow _ _ _ _ _ _ from HH.out.2) hG.1 fun k q z => tag_ne (show (wr.drewN d).ownsRow _ _ _ _ _ _ from HH.out.2) (HH.out.1.drewN d).r (by omega) q z) bk (by omega) _ _
                    have kc : w5.cell? ⟨g, 4, none⟩ = some (.slice a4' R.length c4') := cell_of bk rfl
                    have fc : w5.frozen? ⟨g, 4, none⟩ = false := fz_of bk
                    have NX := hide (And.intro NX NI)
                    clear ho hG bk NI
                    go_wp2_with fail
                    exact ⟨⟨k + 1, _, by omega, by go_num, hide (by rw [HX.out, ← HA2.out, HS.out]; exact NX.out)⟩, by simp [intOf]; omega⟩
                · obtain rfl : k = D.length := by omega
                  have i2 : ¬ (D.length : Int) < (D.length : Int) := by omega
                  rw [List.take_length] at HH
                  have HR : Hid (R1 ++ D.map (ruE S Y) = rulF S Y St Ed) := hide (by unfold rulF; rw [HR1.out, HDD.out])
                  obtain ⟨R, hR⟩ : ∃ R, R1 ++ D.map (ruE S Y) = R := ⟨_, rfl⟩
                  rw [hR] at HH HR
                  clear hR
                  obtain ⟨a1', c1', rfl⟩ := rowForm HH.out.1.o
                  obtain ⟨a3', c3', rfl⟩ := rowForm HH.out.1.f
                  obtain ⟨a4', c4', rfl⟩ := rowForm HH.out.1.r
                  have k0 : wr.cell? ⟨g, 0, none⟩ = some (.string ti) := cell_of HH.out.1.blk rfl
                  have k1 : wr.cell? ⟨g, 1, none⟩ = some (.slice a1' O.length c1') := cell_of HH.out.1.blk rfl
                  have k2 : wr.cell? ⟨g, 2, none⟩ = some (.slice a2' S.length c2') := cell_of HH.out.1.blk rfl
                  have k3 : wr.cell? ⟨g, 3, none⟩ = some (.slice a3' F.length c3') := cell_of HH.out.1.blk rfl
                  have k4 : wr.cell? ⟨g, 4, none⟩ = some (.slice a4' R.length c4') := cell_of HH.out.1.blk rfl
                  have z0 : wr.cell? ⟨w.heap.size + 1, 0, none⟩ = some (.string ⟨#[]⟩) := cell_of HH.out.1.bo rfl
                  have z1 : wr.cell? ⟨w.heap.size + 1, 1, none⟩ = some (.slice none 0 0) := cell_of HH.out.1.bo rfl
                  have z2 : wr.cell? ⟨w.heap.size + 1, 2, none⟩ = some (.slice none 0 0) := cell_of HH.out.1.bo rfl
                  have z3 : wr.cell? ⟨w.heap.size + 1, 3, none⟩ = some (.slice none 0 0) := cell_of HH.out.1.bo rfl
                  have z4 : wr.cell? ⟨w.heap.size + 1, 4, none⟩ = some (.slice none 0 0) := cell_of HH.out.1.bo rfl
                  have f0 : wr.frozen? ⟨w.heap.size + 1, 0, none⟩ = false := fz_of HH.out.1.bo
                  have f1 : wr.frozen? ⟨w.heap.size + 1, 1, none⟩ = false := fz_of HH.out.1.bo
                  have f2 : wr.frozen? ⟨w.heap.size + 1, 2, none⟩ = false := fz_of HH.out.1.bo
                  have f3 : wr.frozen? ⟨w.heap.size + 1, 3, none⟩ = false := fz_of HH.out.1.bo
                  have f4 : wr.frozen? ⟨w.heap.size + 1, 4, none⟩ = false := fz_of HH.out.1.bo
                  have HZ := hide (set5 wr (w.heap.size + 1) _ _ _ _ _ (.string ti) (.slice a1' O.length c1') (.slice a2' S.length c2') (.slice a3' F.length c3') (.slice a4' R.length c4') 32 HH.out.1.bo)
                  go_wp2
                  refine bodyPost_ret (results_c1 (p := 8) (q := 9) (ty := 32) rfl _ _ (w.heap.size + 1) 32 _ (0, 0) _ _ rfl rfl HZ.out.1 Tryz.underlying32 rfl (by kernel_rfl)) rfl ?_
                  have eV : okFr ti St Fi Ed S Y = ⟨ti, O, S, F, R, 0⟩ := by unfold okFr; rw [HO.out, ← HF.out, ← HR.out]
                  rw [eV]
                  exact ⟨_, _, _, _, rfl, HH.out.1.done HZ.out.2⟩
/-- The document's From, of whatever it is handed. -/
theorem rfrom_any (w : World) (ti : ByteArray) (n m : Int) (St Fi : List Int) (Ed : List EdT) (a1 a2 a3 asx ay : Option Addr) (c1 c2 c3 cs cy : Nat) (S Y : List ByteArray) (hA : Hid (RdN w a1 St ∧ RdN w a2 Fi ∧ RdE w a3 Ed ∧ ReadsS w asx S ∧ ReadsS w ay Y)) (hcs : Hid (S.length ≤ cs)) (hcy : Hid (Y.length ≤ cy)) (h1 : St.length ≤ 4194304) (h2 : Fi.length ≤ 4194304) (h3 : Ed.length ≤ 4194304) (hs : S.length ≤ 4194304) (hy : Y.length ≤ 4194304) :
    Calls Tryz.prog 50 #[.agg #[.int .i64 n, .int .i64 m, .slice a1 St.length c1, .slice a2 Fi.length c2, .slice a3 Ed.length c3], .slice asx S.length cs, .slice ay Y.length cy, .string ti] w fun e w' => FrA w w' (frV ti n m St Fi Ed S Y) e := by
  unfold frV
  by_cases hm : mayF n m St Fi Ed = false
  · rw [if_pos hm]
    exact rfrom_auto w ti n m St Fi Ed a1 a2 a3 asx ay c1 c2 c3 cs cy S Y hA hcs hcy h1 h2 h3 hs hy hm
  · rw [if_neg hm]
    have hm' : mayF n m St Fi Ed = true := by simpa using hm
    by_cases hn : (S.length : Int) = n
    · by_cases hn2 : (Y.length : Int) = m
      · rw [if_neg (fun h => h ⟨hn, hn2⟩)]
        by_cases hb1 : S.all vld = true
        · by_cases hb2 : Y.all vld = true
          · by_cases hv : vld ti = true
            · rw [if_neg (fun h => h ⟨hv, hb1, hb2⟩)]
              by_cases hd1 : S.Nodup
              · by_cases hd2 : Y.Nodup
                · rw [if_neg (fun h => h ⟨hd1, hd2⟩)]
                  exact rfrom_ok w ti n m St Fi Ed a1 a2 a3 asx ay c1 c2 c3 cs cy S Y hA hcs hcy h1 h2 h3 hs hy hm' hn hn2 hv hb1 hb2 (by simp [hb1, hd1]) (by simp [hb2, hd2]) (hide (inF_of hm' hn hn2))
                · rw [if_pos (fun h => hd2 h.2)]
                  exact rfrom_tw2 w ti n m St Fi Ed a1 a2 a3 asx ay c1 c2 c3 cs cy S Y hA hcs hcy h1 h2 h3 hs hy hm' hn hn2 hv hb1 hb2 (by simp [hb1, hd1]) (by simp [hd2])
              · rw [if_pos (fun h => hd1 h.1)]
                exact rfrom_tw1 w ti n m St Fi Ed a1 a2 a3 asx ay c1 c2 c3 cs cy S Y hA hcs hcy h1 h2 h3 hs hy hm' hn hn2 _ hv hb1 hb2 (by simp [hd1]) rfl
            · rw [if_pos (fun h => hv h.1)]
              exact rfrom_name3 w ti n m St Fi Ed a1 a2 a3 asx ay c1 c2 c3 cs cy S Y hA hcs hcy h1 h2 h3 hs hy hm' hn hn2 hb1 hb2 (by simpa using hv)
          · rw [if_pos (fun h => hb2 h.2.2)]
            exact rfrom_name2 w ti n m St Fi Ed a1 a2 a3 asx ay c1 c2 c3 cs cy S Y hA hcs hcy h1 h2 h3 hs hy hm' hn hn2 _ hb1 (by simpa using hb2) rfl
        · rw [if_pos (fun h => hb1 h.2.1)]
          exact rfrom_name1 w ti n m St Fi Ed a1 a2 a3 asx ay c1 c2 c3 cs cy S Y hA hcs hcy h1 h2 h3 hs hy hm' hn hn2 _ _ (by simpa using hb1) rfl rfl
      · rw [if_pos (fun h => hn2 h.2)]
        exact rfrom_len2 w ti n m St Fi Ed a1 a2 a3 asx ay c1 c2 c3 cs cy S Y hA hcs hcy h1 h2 h3 hs hy hm' hn hn2
    · rw [if_pos (fun h => hn h.1)]
      exact rfrom_len1 w ti n m St Fi Ed a1 a2 a3 asx ay c1 c2 c3 cs cy S Y hA hcs hcy h1 h2 h3 hs hy hm' hn
end Go.Proofs.YtmagchclmmphaabGreatDoor
