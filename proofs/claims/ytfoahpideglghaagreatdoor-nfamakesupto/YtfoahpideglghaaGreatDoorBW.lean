import Derived.Test.YtfoahpideglghaaGreatDoorLH
import Derived.Test.YtfoahpideglghaaGreatDoorMw
import Derived.Test.YtfoahpideglghaaGreatDoorRs
namespace Go.Proofs.YtfoahpideglghaaGreatDoor
open Go.RowKit Go.Maps Go.Shelf
attribute [local go_sem] Oper.semAt_some

/-! ### Lists written over where they lie -/
/-- The first i entries turned, the others as they were. -/
def mixG {α : Type} (f : α → α) (L : List α) (i : Nat) : List α := (L.take i).map f ++ L.drop i
theorem mixG_len {α : Type} (f : α → α) (L : List α) (i : Nat) : (mixG f L i).length = L.length := by simp [mixG]; omega
theorem mixG_zero {α : Type} (f : α → α) (L : List α) : mixG f L 0 = L := by simp [mixG]
theorem mixG_full {α : Type} (f : α → α) (L : List α) : mixG f L L.length = L.map f := by simp [mixG]
theorem mixG_get {α : Type} (f : α → α) (L : List α) (i : Nat) (h : i < L.length) : (mixG f L i)[i]? = some L[i] := by
  unfold mixG
  rw [List.getElem?_append_right (by simp; omega)]
  simp [List.length_take, Nat.min_eq_left (Nat.le_of_lt h)]
theorem mixG_set {α : Type} (f : α → α) (L : List α) (i : Nat) (h : i < L.length) : (mixG f L i).set i (f L[i]) = mixG f L (i + 1) := by
  unfold mixG
  have hl : ((L.take i).map f).length = i := by simp; omega
  rw [List.drop_eq_getElem_cons h, List.set_append_right _ _ (by omega), hl, Nat.sub_self, List.set_cons_zero, ← List.take_append_getElem h, List.map_append, List.append_assoc]
  rfl
theorem row1_set {W : World} {B b n cap : Nat} {e : TypeId} {xs : List Value} (h : W.ownsRow B e 1 (.slice (some ⟨b, 0, none⟩) n cap) n xs) (j : Nat) (u : Value) :
    (W.setCell ⟨b, j, none⟩ u).ownsRow B e 1 (.slice (some ⟨b, 0, none⟩) n cap) n (xs.set j u) := by
  refine ⟨by rw [List.length_set]; exact h.1, ?_⟩
  rcases h.2 with ⟨z, _⟩ | ⟨g, cap', cur, e1, hb, hg, hn, hc, hs, ht⟩
  · cases z
  · cases e1
    refine .inr ⟨b, cap, _, rfl, hb, heap_setCell_same _ _ _ _ e _ hg, hn, hc, by simpa using hs, ?_⟩
    rw [← ht, Array.toList_setIfInBounds, List.take_set]
theorem flatE_len (X : List EdT) : (X.flatMap encE).length = X.length * 3 := by
  induction X with
  | nil => rfl
  | cons x X ih => rw [List.flatMap_cons, List.length_append, ih, encE_len, List.length_cons]; omega
theorem flatE_at (X : List EdT) (t : Nat) (h : t / 3 < X.length) : (X.flatMap encE)[t]? = (encE X[t / 3])[t % 3]? := by
  have := flat_get encE 3 encE_len X (t / 3) (t % 3) h (by omega)
  rwa [show t / 3 * 3 + t % 3 = t by omega] at this
theorem flatE_none (X : List EdT) (t : Nat) (h : ¬ t / 3 < X.length) : (X.flatMap encE)[t]? = none := List.getElem?_eq_none (by rw [flatE_len]; omega)
/-- An edge is written into a row. -/
theorem rowE_set {W : World} {B b cap : Nat} {X : List EdT} (h : W.ownsRow B 59 3 (.slice (some ⟨b, 0, none⟩) X.length cap) X.length (X.flatMap encE)) (j : Nat) (x : EdT) (hj : j < X.length) :
    (((W.setCell ⟨b, j * 3, none⟩ (.int .i64 x.1)).setCell ⟨b, j * 3 + 1, none⟩ (.int .i64 x.2.1)).setCell ⟨b, j * 3 + 2, none⟩ (.int .i64 x.2.2)).ownsRow B 59 3 (.slice (some ⟨b, 0, none⟩) (X.set j x).length cap) (X.set j x).length ((X.set j x).flatMap encE) := by
  refine ⟨by rw [flatE_len], ?_⟩
  rcases h.2 with ⟨z, _⟩ | ⟨g, cap', cur, e, hb, hg, hn, hc, hs, ht⟩
  · cases z
  · cases e
    refine .inr ⟨b, cap, _, rfl, hb, heap_setCell_same _ _ _ _ 59 _ (heap_setCell_same _ _ _ _ 59 _ (heap_setCell_same _ _ _ _ 59 _ hg)), by rw [List.length_set]; exact hn, hc, by simpa using hs, ?_⟩
    rw [List.length_set]
    apply List.ext_getElem?
    intro t
    have hcz : X.length * 3 ≤ cur.size := by rw [hs]; exact Nat.mul_le_mul_right 3 hn
    by_cases hq : t / 3 < X.length
    · have htl : t < X.length * 3 := by omega
      rw [List.getElem?_take_of_lt htl, flatE_at _ t (by rw [List.length_set]; exact hq), List.getElem_set, Array.getElem?_toList]
      simp only [Array.getElem?_setIfInBounds, Array.size_setIfInBounds]
      by_cases hjq : j = t / 3
      · rw [if_pos hjq]
        have : t = j * 3 ∨ t = j * 3 + 1 ∨ t = j * 3 + 2 := by omega
        rcases this with rfl | rfl | rfl
        · rw [if_neg (by omega), if_neg (by omega), if_pos rfl, if_pos (by omega), show j * 3 % 3 = 0 by omega]; rfl
        · rw [if_neg (by omega), if_pos rfl, if_pos (by omega), show (j * 3 + 1) % 3 = 1 by omega]; rfl
        · rw [if_pos rfl, if_pos (by omega), show (j * 3 + 2) % 3 = 2 by omega]; rfl
      · rw [if_neg hjq, if_neg (by omega), if_neg (by omega), if_neg (by omega), ← flatE_at X t hq, ← ht, List.getElem?_take_of_lt htl, Array.getElem?_toList]
    · rw [flatE_none _ t (by rw [List.length_set]; exact hq), List.getElem?_take_eq_none (by omega)]
theorem own_fz {W : World} {B g c n : Nat} {e : TypeId} {sz : Nat} {xs : List Value} (h : W.ownsRow B e sz (.slice (some ⟨g, 0, none⟩) n c) n xs) (j : Nat) : W.frozen? ⟨g, j, none⟩ = false := by
  rcases h.2 with ⟨z, _⟩ | ⟨g', cap', cur, e1, hb, hg, hn, hc, hs, ht⟩
  · cases z
  · cases e1
    exact fz_of hg
theorem own_get {W : World} {B g c n : Nat} {e : TypeId} {sz : Nat} {xs : List Value} (h : W.ownsRow B e sz (.slice (some ⟨g, 0, none⟩) n c) n xs) {j : Nat} {u : Value} (hu : xs[j]? = some u) : W.cell? ⟨g, j, none⟩ = some u := by
  have := h.cells (g := g) rfl j u hu
  rw [Addr.add_lit] at this
  simpa using this
theorem box3z (w : World) (A Z : Array Value) (O : Array Value) (t : TypeId) : Below w.heap.size w (((w.alloc (.cells A t)).alloc (.cells Z t)).alloc (.cells O t)) ∧ (((w.alloc (.cells A t)).alloc (.cells Z t)).alloc (.cells O t)).heap[w.heap.size]? = some (.cells A t (0, 0)) ∧ (((w.alloc (.cells A t)).alloc (.cells Z t)).alloc (.cells O t)).heap[w.heap.size + 1]? = some (.cells Z t (0, 0)) ∧ (((w.alloc (.cells A t)).alloc (.cells Z t)).alloc (.cells O t)).heap[w.heap.size + 1 + 1]? = some (.cells O t (0, 0)) ∧ (((w.alloc (.cells A t)).alloc (.cells Z t)).alloc (.cells O t)).heap.size = w.heap.size + 3 := by
  refine ⟨(((Below.refl _ _).alloc (Nat.le_refl _) _).alloc (by simp) _).alloc (by simp <;> omega) _, ?_, ?_, ?_, by simp⟩
  · exact (Below.heap_alloc _ _ _ (by simp <;> omega)).trans ((Below.heap_alloc _ _ _ (by simp)).trans (World.alloc_heap_new _ _))
  · have := World.alloc_heap_new (w.alloc (.cells A t)) (.cells Z t)
    rw [World.size_alloc] at this
    exact (Below.heap_alloc _ _ _ (by simp)).trans this
  · have := World.alloc_heap_new ((w.alloc (.cells A t)).alloc (.cells Z t)) (.cells O t)
    rw [World.size_alloc, World.size_alloc] at this
    exact this
theorem Only.cellK {w w' : World} {R : Nat → Prop} (h : Only w w' R) {b : Nat} {o : Obj} (hb : w.heap[b]? = some o) (hn : ¬ R b) : w'.heap[b]? = some o := (h.block b (Array.getElem?_eq_some_iff.1 hb).1 hn).trans hb

/-- What beside holds while it writes over the second automaton's lists. -/
structure BeI (W0 : World) (B : Nat) (na : Int) (h1 c1 h2 c2 h3 c3 : Nat) (S F : List Int) (E : List EdT) (i j l : Nat) (W : World) : Prop where
  o : Only W0 W (fun k => k = h1 ∨ k = h2 ∨ k = h3)
  s : W.ownsRow B 3 1 (.slice (some ⟨h1, 0, none⟩) S.length c1) S.length ((mixG (· + na) S i).map (Value.int .i64))
  f : W.ownsRow B 3 1 (.slice (some ⟨h2, 0, none⟩) F.length c2) F.length ((mixG (· + na) F j).map (Value.int .i64))
  e : W.ownsRow B 59 3 (.slice (some ⟨h3, 0, none⟩) E.length c3) E.length ((mixG (shE na) E l).flatMap encE)
  n12 : h1 ≠ h2
  n13 : h1 ≠ h3
  n23 : h2 ≠ h3
section
variable {W0 W : World} {B : Nat} {na : Int} {h1 c1 h2 c2 h3 c3 : Nat} {S F : List Int} {E : List EdT} {i j l : Nat}
theorem BeI.getS (h : BeI W0 B na h1 c1 h2 c2 h3 c3 S F E i j l W) (hi : i < S.length) : W.cell? ⟨h1, i, none⟩ = some (.int .i64 S[i]) := own_get h.s (by rw [List.getElem?_map, mixG_get _ _ _ hi]; rfl)
theorem BeI.getF (h : BeI W0 B na h1 c1 h2 c2 h3 c3 S F E i j l W) (hi : j < F.length) : W.cell? ⟨h2, j, none⟩ = some (.int .i64 F[j]) := own_get h.f (by rw [List.getElem?_map, mixG_get _ _ _ hi]; rfl)
theorem BeI.getE (h : BeI W0 B na h1 c1 h2 c2 h3 c3 S F E i j l W) (hi : l < E.length) : W.cell? ⟨h3, l * 3, none⟩ = some (.int .i64 E[l].1) ∧ W.cell? ⟨h3, l * 3 + 1, none⟩ = some (.int .i64 E[l].2.1) ∧ W.cell? ⟨h3, l * 3 + 2, none⟩ = some (.int .i64 E[l].2.2) := by
  have hr := h.e
  have hl := mixG_len (shE na) E l
  rw [← hl] at hr
  have q := rdE_cells hr l (by rw [hl]; exact hi)
  have e : (mixG (shE na) E l)[l]'(by rw [hl]; exact hi) = E[l] := by
    have := mixG_get (shE na) E l hi
    rw [List.getElem?_eq_getElem (by rw [hl]; exact hi)] at this
    exact Option.some.inj this
  rw [e] at q
  exact q
theorem BeI.putS (h : BeI W0 B na h1 c1 h2 c2 h3 c3 S F E i j l W) (hi : i < S.length) : BeI W0 B na h1 c1 h2 c2 h3 c3 S F E (i + 1) j l (W.setCell ⟨h1, i, none⟩ (.int .i64 (S[i] + na))) := by
  refine ⟨h.o.trans ((only_set W h1 i _).mono fun k _ hk => Or.inl hk), ?_, own_only h.f (only_set W h1 i _) h.n12.symm, own_only h.e (only_set W h1 i _) h.n13.symm, h.n12, h.n13, h.n23⟩
  have q := row1_set h.s i (.int .i64 (S[i] + na))
  rwa [← List.map_set, mixG_set (· + na) S i hi] at q
theorem BeI.putF (h : BeI W0 B na h1 c1 h2 c2 h3 c3 S F E i j l W) (hi : j < F.length) : BeI W0 B na h1 c1 h2 c2 h3 c3 S F E i (j + 1) l (W.setCell ⟨h2, j, none⟩ (.int .i64 (F[j] + na))) := by
  refine ⟨h.o.trans ((only_set W h2 j _).mono fun k _ hk => Or.inr (Or.inl hk)), own_only h.s (only_set W h2 j _) h.n12, ?_, own_only h.e (only_set W h2 j _) h.n23.symm, h.n12, h.n13, h.n23⟩
  have q := row1_set h.f j (.int .i64 (F[j] + na))
  rwa [← List.map_set, mixG_set (· + na) F j hi] at q
theorem BeI.putE (h : BeI W0 B na h1 c1 h2 c2 h3 c3 S F E i j l W) (hi : l < E.length) : BeI W0 B na h1 c1 h2 c2 h3 c3 S F E i j (l + 1) (((W.setCell ⟨h3, l * 3, none⟩ (.int .i64 (E[l].1 + na))).setCell ⟨h3, l * 3 + 1, none⟩ (.int .i64 E[l].2.1)).setCell ⟨h3, l * 3 + 2, none⟩ (.int .i64 (E[l].2.2 + na))) := by
  have o3 := only3 W h3 (l * 3) (l * 3 + 1) (l * 3 + 2) (.int .i64 (E[l].1 + na)) (.int .i64 E[l].2.1) (.int .i64 (E[l].2.2 + na))
  refine ⟨h.o.trans (o3.mono fun k _ hk => Or.inr (Or.inr hk)), own_only h.s o3 h.n13, own_only h.f o3 h.n23, ?_, h.n12, h.n13, h.n23⟩
  have hr := h.e
  have hl := mixG_len (shE na) E l
  rw [← hl] at hr
  have q := rowE_set hr l (shE na E[l]) (by rw [hl]; exact hi)
  rw [mixG_set (shE na) E l hi, mixG_len] at q
  exact q
theorem BeI.alloc (h : BeI W0 B na h1 c1 h2 c2 h3 c3 S F E i j l W) (o : Obj) : BeI W0 B na h1 c1 h2 c2 h3 c3 S F E i j l (W.alloc o) :=
  ⟨h.o.trans (Only.ofBelow ((Below.refl _ _).alloc (Nat.le_refl _) _)), h.s.alloc o, h.f.alloc o, h.e.alloc o, h.n12, h.n13, h.n23⟩
end
theorem grown_row {W W' : World} {B g c n q : Nat} {e : TypeId} {sz : Nat} {xs : List Value} (h : W.ownsRow B e sz (.slice (some ⟨g, 0, none⟩) n c) n xs) (hg : W.grownBy W' (some q)) (hne : g ≠ q) : W'.ownsRow B e sz (.slice (some ⟨g, 0, none⟩) n c) n xs :=
  h.kept hg (Or.inr (by simp [Value.ownBlock]; exact hne))
theorem grown_blk {W W' : World} {b q : Nat} {o : Obj} (h : W.heap[b]? = some o) (hg : W.grownBy W' (some q)) (hne : b ≠ q) : W'.heap[b]? = some o :=
  (hg.block b (Array.getElem?_eq_some_iff.1 h).1 (by simp; exact hne)).trans h
theorem own_form {W : World} {B : Nat} {e : TypeId} {sz n : Nat} {v : Value} {xs : List Value} (h : W.ownsRow B e sz v n xs) (hv : v ≠ .slice none 0 0) : ∃ g c, v = .slice (some ⟨g, 0, none⟩) n c := by
  rcases h.2 with ⟨z, _⟩ | ⟨g, cap', cur, e1, _⟩
  · exact absurd z hv
  · exact ⟨g, cap', e1⟩
/-- What beside holds behind its loops. -/
structure BeF (w : World) (B : Nat) (W : World) (v0 v1 v2 v3 v4 : Value) (bb : Array Value) : Prop where
  a : W.heap[w.heap.size]? = some (.cells #[v0, v1, v2, v3, v4] 25 (0, 0))
  b : W.heap[w.heap.size + 1]? = some (.cells bb 25 (0, 0))
  z : W.heap[w.heap.size + 1 + 1]? = some (.cells #[.int .i64 0, .int .i64 0, .slice none 0 0, .slice none 0 0, .slice none 0 0] 25 (0, 0))
  d : Below B w W
  le : w.heap.size + 3 ≤ W.heap.size
section
variable {w W W' : World} {B : Nat} {v0 v1 v2 v3 v4 : Value} {bb : Array Value}
theorem BeF.only (h : BeF w B W v0 v1 v2 v3 v4 bb) (i : Nat) (u : Value) (hB : B ≤ w.heap.size) : (W.setCell ⟨w.heap.size, i, none⟩ u).heap[w.heap.size + 1]? = some (.cells bb 25 (0, 0)) ∧ (W.setCell ⟨w.heap.size, i, none⟩ u).heap[w.heap.size + 1 + 1]? = some (.cells #[.int .i64 0, .int .i64 0, .slice none 0 0, .slice none 0 0, .slice none 0 0] 25 (0, 0)) ∧ Below B w (W.setCell ⟨w.heap.size, i, none⟩ u) ∧ w.heap.size + 3 ≤ (W.setCell ⟨w.heap.size, i, none⟩ u).heap.size := by
  have o := only_set W w.heap.size i u
  exact ⟨o.cellK h.b (by omega), o.cellK h.z (by omega), h.d.trans (o.toBelow (Nat.le_trans hB h.d.size) (fun k hk => by omega)), Nat.le_trans h.le o.size⟩
theorem BeF.set0 (h : BeF w B W v0 v1 v2 v3 v4 bb) (u : Value) (hB : B ≤ w.heap.size) : BeF w B (W.setCell ⟨w.heap.size, 0, none⟩ u) u v1 v2 v3 v4 bb := by
  have q := h.only 0 u hB
  exact ⟨heap_setCell_same _ _ 0 _ 25 _ h.a, q.1, q.2.1, q.2.2.1, q.2.2.2⟩
theorem BeF.set2 (h : BeF w B W v0 v1 v2 v3 v4 bb) (u : Value) (hB : B ≤ w.heap.size) : BeF w B (W.setCell ⟨w.heap.size, 2, none⟩ u) v0 v1 u v3 v4 bb := by
  have q := h.only 2 u hB
  exact ⟨heap_setCell_same _ _ 2 _ 25 _ h.a, q.1, q.2.1, q.2.2.1, q.2.2.2⟩
theorem BeF.set3 (h : BeF w B W v0 v1 v2 v3 v4 bb) (u : Value) (hB : B ≤ w.heap.size) : BeF w B (W.setCell ⟨w.heap.size, 3, none⟩ u) v0 v1 v2 u v4 bb := by
  have q := h.only 3 u hB
  exact ⟨heap_setCell_same _ _ 3 _ 25 _ h.a, q.1, q.2.1, q.2.2.1, q.2.2.2⟩
theorem BeF.set4 (h : BeF w B W v0 v1 v2 v3 v4 bb) (u : Value) (hB : B ≤ w.heap.size) : BeF w B (W.setCell ⟨w.heap.size, 4, none⟩ u) v0 v1 v2 v3 u bb := by
  have q := h.only 4 u hB
  exact ⟨heap_setCell_same _ _ 4 _ 25 _ h.a, q.1, q.2.1, q.2.2.1, q.2.2.2⟩
theorem BeF.grown (h : BeF w B W v0 v1 v2 v3 v4 bb) {q : Nat} (hg : W.grownBy W' (some q)) (hq : B ≤ q ∧ q < w.heap.size) : BeF w B W' v0 v1 v2 v3 v4 bb :=
  ⟨grown_blk h.a hg (by omega), grown_blk h.b hg (by omega), grown_blk h.z hg (by omega), h.d.grown hg (Nat.le_trans (Nat.le_trans hq.1 (Nat.le_of_lt hq.2)) h.d.size) (fun k hk => by cases hk; exact hq.1), Nat.le_trans h.le hg.size⟩
end
set_option maxRecDepth 100000 in
set_option maxHeartbeats 4000000 in
theorem beside_any (w : World) (B C : Nat) (na nb m mb : Int) (g1 k1 g2 k2 g3 k3 h1 c1 h2 c2 h3 c3 : Nat) (S F S' F' : List Int) (E E' : List EdT) (hA : Hid (Own B w g1 k1 g2 k2 g3 k3 S F E)) (hB : Hid (Own B w h1 c1 h2 c2 h3 c3 S' F' E')) (hC : Hid (g1 < C ∧ g2 < C ∧ g3 < C ∧ C ≤ h1 ∧ C ≤ h2 ∧ C ≤ h3)) (hBw : B ≤ w.heap.size) (hn : 0 ≤ na ∧ na ≤ 4096) (hnb : 0 ≤ nb ∧ nb ≤ 4096) (hS : Hid (∀ x ∈ S', 0 ≤ x ∧ x < 4096)) (hF : Hid (∀ x ∈ F', 0 ≤ x ∧ x < 4096)) (hE : Hid (∀ e ∈ E', (0 ≤ e.1 ∧ e.1 < 4096) ∧ 0 ≤ e.2.2 ∧ e.2.2 < 4096)) (l1 : S.length ≤ 4194304) (l2 : F.length ≤ 4194304) (l3 : E.length ≤ 4194304) (l4 : S'.length ≤ 4194304) (l5 : F'.length ≤ 4194304) (l6 : E'.length ≤ 4194304) :
    Calls Tryz.prog 68 #[.agg #[.int .i64 na, .int .i64 m, .slice (some ⟨g1, 0, none⟩) S.length k1, .slice (some ⟨g2, 0, none⟩) F.length k2, .slice (some ⟨g3, 0, none⟩) E.length k3], .agg #[.int .i64 nb, .int .i64 mb, .slice (some ⟨h1, 0, none⟩) S'.length c1, .slice (some ⟨h2, 0, none⟩) F'.length c2, .slice (some ⟨h3, 0, none⟩) E'.length c3]] w fun e w' => ∃ r1 q1 r2 q2 r3 q3, e = .returned (.agg #[.int .i64 (na + nb), .int .i64 m, .slice (some ⟨r1, 0, none⟩) (S ++ shL na S').length q1, .slice (some ⟨r2, 0, none⟩) (F ++ shL na F').length q2, .slice (some ⟨r3, 0, none⟩) (E ++ shEs na E').length q3]) ∧ Own B w' r1 q1 r2 q2 r3 q3 (S ++ shL na S') (F ++ shL na F') (E ++ shEs na E') ∧ Below B w w' := by
  obtain ⟨i3, hi3, hz30, hz31, hz32⟩ := info_parts info3
  obtain ⟨i5, hi5, hz50, hz51, hz52⟩ := info_parts info59
  obtain ⟨W0, hW0⟩ : ∃ W0, ((w.alloc (.cells #[.int .i64 na, .int .i64 m, .slice (some ⟨g1, 0, none⟩) S.length k1, .slice (some ⟨g2, 0, none⟩) F.length k2, .slice (some ⟨g3, 0, none⟩) E.length k3] 25)).alloc (.cells #[.int .i64 nb, .int .i64 mb, .slice (some ⟨h1, 0, none⟩) S'.length c1, .slice (some ⟨h2, 0, none⟩) F'.length c2, .slice (some ⟨h3, 0, none⟩) E'.length c3] 25)).alloc (.cells #[.int .i64 0, .int .i64 0, .slice none 0 0, .slice none 0 0, .slice none 0 0] 25) = W0 := ⟨_, rfl⟩
  have HD := hide (box3z w #[.int .i64 na, .int .i64 m, .slice (some ⟨g1, 0, none⟩) S.length k1, .slice (some ⟨g2, 0, none⟩) F.length k2, .slice (some ⟨g3, 0, none⟩) E.length k3] #[.int .i64 nb, .int .i64 mb, .slice (some ⟨h1, 0, none⟩) S'.length c1, .slice (some ⟨h2, 0, none⟩) F'.length c2, .slice (some ⟨h3, 0, none⟩) E'.length c3] #[.int .i64 0, .int .i64 0, .slice none 0 0, .slice none 0 0, .slice none 0 0] 25)
  rw [hW0] at HD
  have HP : Hid ((g1 < w.heap.size ∧ g2 < w.heap.size ∧ g3 < w.heap.size) ∧ (h1 < w.heap.size ∧ h2 < w.heap.size ∧ h3 < w.heap.size) ∧ B ≤ g1 ∧ B ≤ g2 ∧ B ≤ g3 ∧ B ≤ h1 ∧ B ≤ h2 ∧ B ≤ h3) := hide ⟨⟨(own_at hA.out.s).2, (own_at hA.out.f).2, (own_at hA.out.e).2⟩, ⟨(own_at hB.out.s).2, (own_at hB.out.f).2, (own_at hB.out.e).2⟩, (own_at hA.out.s).1, (own_at hA.out.f).1, (own_at hA.out.e).1, (own_at hB.out.s).1, (own_at hB.out.f).1, (own_at hB.out.e).1⟩
  have H0 : Hid (BeI W0 B na h1 c1 h2 c2 h3 c3 S' F' E' 0 0 0 W0) := hide ⟨Only.ofBelow (Below.refl _ _), by rw [mixG_zero]; exact own_on hB.out.s HD.out.1 HP.out.2.1.1, by rw [mixG_zero]; exact own_on hB.out.f HD.out.1 HP.out.2.1.2.1, by rw [mixG_zero]; exact own_on hB.out.e HD.out.1 HP.out.2.1.2.2, hB.out.n12, hB.out.n13, hB.out.n23⟩
  have BK : Hid (∀ (W : World) (i j l : Nat), BeI W0 B na h1 c1 h2 c2 h3 c3 S' F' E' i j l W → W.heap[w.heap.size]? = some (.cells #[.int .i64 na, .int .i64 m, .slice (some ⟨g1, 0, none⟩) S.length k1, .slice (some ⟨g2, 0, none⟩) F.length k2, .slice (some ⟨g3, 0, none⟩) E.length k3] 25 (0, 0)) ∧ W.heap[w.heap.size + 1]? = some (.cells #[.int .i64 nb, .int .i64 mb, .slice (some ⟨h1, 0, none⟩) S'.length c1, .slice (some ⟨h2, 0, none⟩) F'.length c2, .slice (some ⟨h3, 0, none⟩) E'.length c3] 25 (0, 0)) ∧ W.heap[w.heap.size + 1 + 1]? = some (.cells #[.int .i64 0, .int .i64 0, .slice none 0 0, .slice none 0 0, .slice none 0 0] 25 (0, 0))) := hide (fun W i j l h => by
    have hp := HP.out
    refine ⟨h.o.cellK HD.out.2.1 ?_, h.o.cellK HD.out.2.2.1 ?_, h.o.cellK HD.out.2.2.2.1 ?_⟩ <;> omega)
  have CK : Hid (∀ (W : World) (i j l : Nat), BeI W0 B na h1 c1 h2 c2 h3 c3 S' F' E' i j l W → W.cell? ⟨w.heap.size, 0, none⟩ = some (.int .i64 na) ∧ W.cell? ⟨w.heap.size + 1, 2, none⟩ = some (.slice (some ⟨h1, 0, none⟩) S'.length c1) ∧ W.cell? ⟨w.heap.size + 1, 3, none⟩ = some (.slice (some ⟨h2, 0, none⟩) F'.length c2) ∧ W.cell? ⟨w.heap.size + 1, 4, none⟩ = some (.slice (some ⟨h3, 0, none⟩) E'.length c3)) := hide (fun W i j l h => by
    have q := BK.out W i j l h
    exact ⟨cell_of q.1 rfl, cell_of q.2.1 rfl, cell_of q.2.1 rfl, cell_of q.2.1 rfl⟩)
  obtain ⟨y0, y1, y2, y3⟩ := CK.out W0 0 0 0 H0.out
  go_enter Tryz.func68, Tryz.ntmps68
  go_wp2
  clear y0 y1 y2 y3
  go_loopw [14] (fun iv wr => ∃ i : Nat, i ≤ S'.length ∧ iv = .int .i64 i ∧ Hid (BeI W0 B na h1 c1 h2 c2 h3 c3 S' F' E' i 0 0 wr)) (fun iv _ => S'.length - (intOf iv).toNat)
  case atStart => exact ⟨0, Nat.zero_le _, rfl, H0⟩
  case round =>
    obtain ⟨i, hi, rfl, HY⟩ := hrel
    clear H0
    obtain ⟨y0, y1, y2, y3⟩ := CK.out wr i 0 0 HY.out
    by_cases hil : i < S'.length
    · have i0 : (0 : Int) ≤ (i : Int) := by omega
      have i1 : (i : Int) < (S'.length : Int) := by omega
      have z := HY.out.getS hil
      have zf := own_fz HY.out.s i
      have HN := hide (HY.out.putS hil)
      have hb := hS.out _ (List.getElem_mem hil)
      generalize S'[i] = x at z HN hb
      have iw : IntKind.i64.wrap (x + na) = x + na := by rw [IntKind.wrap_i64]; omega
      go_wp2
      go_roundw
      case rel => exact ⟨i + 1, by omega, by go_num, HN⟩
      case measure => simp [intOf]; omega
    · obtain rfl : i = S'.length := by omega
      have i1 : ¬ (S'.length : Int) < (S'.length : Int) := by omega
      go_wp2
      clear y0 y1 y2 y3 i1 hi hil
      go_loopw [31] (fun iv wr => ∃ i : Nat, i ≤ F'.length ∧ iv = .int .i64 i ∧ Hid (BeI W0 B na h1 c1 h2 c2 h3 c3 S' F' E' S'.length i 0 wr)) (fun iv _ => F'.length - (intOf iv).toNat)
      case atStart => exact ⟨0, Nat.zero_le _, rfl, HY⟩
      case round =>
        obtain ⟨i, hi, rfl, HZ⟩ := hrel
        clear HY
        obtain ⟨y0, y1, y2, y3⟩ := CK.out _ S'.length i 0 HZ.out
        by_cases hil : i < F'.length
        · have i0 : (0 : Int) ≤ (i : Int) := by omega
          have i1 : (i : Int) < (F'.length : Int) := by omega
          have z := HZ.out.getF hil
          have zf := own_fz HZ.out.f i
          have HN := hide (HZ.out.putF hil)
          have hb := hF.out _ (List.getElem_mem hil)
          generalize F'[i] = x at z HN hb
          have iw : IntKind.i64.wrap (x + na) = x + na := by rw [IntKind.wrap_i64]; omega
          go_wp2
          go_roundw
          case rel => exact ⟨i + 1, by omega, by go_num, HN⟩
          case measure => simp [intOf]; omega
        · obtain rfl : i = F'.length := by omega
          have i1 : ¬ (F'.length : Int) < (F'.length : Int) := by omega
          go_wp2
          clear y0 y1 y2 y3 i1 hi hil
          go_loopw [48] (fun iv wr => ∃ i : Nat, i ≤ E'.length ∧ iv = .int .i64 i ∧ Hid (BeI W0 B na h1 c1 h2 c2 h3 c3 S' F' E' S'.length F'.length i wr)) (fun iv _ => E'.length - (intOf iv).toNat)
          case atStart => exact ⟨0, Nat.zero_le _, rfl, HZ⟩
          case round =>
            obtain ⟨i, hi, rfl, HV⟩ := hrel
            clear HZ
            rename World => wv
            by_cases hil : i < E'.length
            · have i0 : (0 : Int) ≤ (i : Int) := by omega
              have i1 : (i : Int) < (E'.length : Int) := by omega
              obtain ⟨z0, z1, z2⟩ := HV.out.getE hil
              have HE := hide (fun (o : Obj) => (HV.out.alloc o).putE hil)
              have HA := hide (fun (o : Obj) => HV.out.alloc o)
              have hb := hE.out _ (List.getElem_mem hil)
              generalize E'[i] = x at z0 z1 z2 HE hb
              obtain ⟨x1, x2, x3⟩ := x
              simp only at z0 z1 z2 HE hb
              have iw : IntKind.i64.wrap (x1 + na) = x1 + na := by rw [IntKind.wrap_i64]; omega
              have iv : IntKind.i64.wrap (x3 + na) = x3 + na := by rw [IntKind.wrap_i64]; omega
              obtain ⟨W1, hW1⟩ : ∃ W1, wv.alloc (.cells #[.int .i64 x1, .int .i64 x2, .int .i64 x3] 59) = W1 := ⟨_, rfl⟩
              have HW : Hid (W1.heap[wv.heap.size]? = some (.cells #[.int .i64 x1, .int .i64 x2, .int .i64 x3] 59 (0, 0))) := hide (by rw [← hW1]; exact World.alloc_heap_new _ _)
              have I1 : Hid (BeI W0 B na h1 c1 h2 c2 h3 c3 S' F' E' S'.length F'.length i W1) := hide (by rw [← hW1]; exact HA.out _)
              have HN := HE.out (.cells #[.int .i64 x1, .int .i64 x2, .int .i64 x3] 59)
              rw [hW1] at HN
              have HN := hide HN
              obtain ⟨y0, y1, y2, y3⟩ := CK.out W1 S'.length F'.length i I1.out
              have u0 : W1.cell? ⟨wv.heap.size, 0, none⟩ = some (.int .i64 x1) := cell_of HW.out rfl
              have u1 : W1.cell? ⟨wv.heap.size, 1, none⟩ = some (.int .i64 x2) := cell_of HW.out rfl
              have u2 : W1.cell? ⟨wv.heap.size, 2, none⟩ = some (.int .i64 x3) := cell_of HW.out rfl
              have t0 : W1.cell? ⟨h3, i * 3, none⟩ = some (.int .i64 x1) := by rw [← hW1]; exact (((Below.refl _ wv).alloc (Nat.le_refl _) _).cell (p := ⟨h3, i * 3, none⟩) (World.block_lt_of_cell? wv _ z0)).trans z0
              have t1 : W1.cell? ⟨h3, i * 3 + 1, none⟩ = some (.int .i64 x2) := by rw [← hW1]; exact (((Below.refl _ wv).alloc (Nat.le_refl _) _).cell (p := ⟨h3, i * 3 + 1, none⟩) (World.block_lt_of_cell? wv _ z1)).trans z1
              have t2 : W1.cell? ⟨h3, i * 3 + 2, none⟩ = some (.int .i64 x3) := by rw [← hW1]; exact (((Below.refl _ wv).alloc (Nat.le_refl _) _).cell (p := ⟨h3, i * 3 + 2, none⟩) (World.block_lt_of_cell? wv _ z2)).trans z2
              have f0 := own_fz I1.out.e (i * 3)
              have f1 := own_fz I1.out.e (i * 3 + 1)
              have f2 := own_fz I1.out.e (i * 3 + 2)
              clear HE HA
              go_wp2
              refine ⟨⟨i + 1, by omega, by go_num, HN⟩, by simp [intOf]; omega⟩
            · obtain rfl : i = E'.length := by omega
              have i1 : ¬ (E'.length : Int) < (E'.length : Int) := by omega
              have bq := BK.out wv _ _ _ HV.out
              have q0 : wv.cell? ⟨w.heap.size, 0, none⟩ = some (.int .i64 na) := cell_of bq.1 rfl
              have q1 : wv.cell? ⟨w.heap.size + 1, 0, none⟩ = some (.int .i64 nb) := cell_of bq.2.1 rfl
              have qf : wv.frozen? ⟨w.heap.size, 0, none⟩ = false := fz_of bq.1
              have iw : IntKind.i64.wrap (na + nb) = na + nb := by rw [IntKind.wrap_i64]; omega
              have F0 : Hid (BeF w B wv (.int .i64 na) (.int .i64 m) (.slice (some ⟨g1, 0, none⟩) S.length k1) (.slice (some ⟨g2, 0, none⟩) F.length k2) (.slice (some ⟨g3, 0, none⟩) E.length k3) #[.int .i64 nb, .int .i64 mb, .slice (some ⟨h1, 0, none⟩) S'.length c1, .slice (some ⟨h2, 0, none⟩) F'.length c2, .slice (some ⟨h3, 0, none⟩) E'.length c3]) := hide ⟨bq.1, bq.2.1, bq.2.2, (HD.out.1.mono hBw).trans (HV.out.o.toBelow (Nat.le_trans hBw HD.out.1.size) (fun k hk => by have hp := HP.out; omega)), by have := HV.out.o.size; have := HD.out.2.2.2.2; omega⟩
              have RA : Hid (wv.ownsRow B 3 1 (.slice (some ⟨g1, 0, none⟩) S.length k1) S.length (S.map (Value.int .i64)) ∧ wv.ownsRow B 3 1 (.slice (some ⟨g2, 0, none⟩) F.length k2) F.length (F.map (Value.int .i64)) ∧ wv.ownsRow B 59 3 (.slice (some ⟨g3, 0, none⟩) E.length k3) E.length (E.flatMap encE)) := hide (by
                have hp := HP.out
                have hc := hC.out
                refine ⟨row_only (own_on hA.out.s HD.out.1 hp.1.1) HV.out.o ?_, row_only (own_on hA.out.f HD.out.1 hp.1.2.1) HV.out.o ?_, row_only (own_on hA.out.e HD.out.1 hp.1.2.2) HV.out.o ?_⟩ <;> (intro k hk; cases hk; intro hk2; simp only at hk2; omega))
              have RB : Hid (wv.ownsRow B 3 1 (.slice (some ⟨h1, 0, none⟩) S'.length c1) S'.length ((shL na S').map (Value.int .i64)) ∧ wv.ownsRow B 3 1 (.slice (some ⟨h2, 0, none⟩) F'.length c2) F'.length ((shL na F').map (Value.int .i64)) ∧ wv.ownsRow B 59 3 (.slice (some ⟨h3, 0, none⟩) E'.length c3) E'.length ((shEs na E').flatMap encE)) := hide ⟨by have := HV.out.s; rw [mixG_full] at this; exact this, by have := HV.out.f; rw [mixG_full] at this; exact this, by have := HV.out.e; rw [mixG_full] at this; exact this⟩
              obtain ⟨X1, hX1⟩ : ∃ X1, wv.setCell ⟨w.heap.size, 0, none⟩ (.int .i64 (na + nb)) = X1 := ⟨_, rfl⟩
              have F1 := hide (F0.out.set0 (.int .i64 (na + nb)) hBw)
              have OX := only_set wv w.heap.size 0 (.int .i64 (na + nb))
              rw [hX1] at F1 OX
              have OX := hide OX
              have RA1 : Hid (X1.ownsRow B 3 1 (.slice (some ⟨g1, 0, none⟩) S.length k1) S.length (S.map (Value.int .i64)) ∧ X1.ownsRow B 3 1 (.slice (some ⟨g2, 0, none⟩) F.length k2) F.length (F.map (Value.int .i64)) ∧ X1.ownsRow B 59 3 (.slice (some ⟨g3, 0, none⟩) E.length k3) E.length (E.flatMap encE)) := hide (by
                have hp := HP.out
                exact ⟨own_only RA.out.1 OX.out (by omega), own_only RA.out.2.1 OX.out (by omega), own_only RA.out.2.2 OX.out (by omega)⟩)
              have RB1 : Hid (X1.ownsRow B 3 1 (.slice (some ⟨h1, 0, none⟩) S'.length c1) S'.length ((shL na S').map (Value.int .i64)) ∧ X1.ownsRow B 3 1 (.slice (some ⟨h2, 0, none⟩) F'.length c2) F'.length ((shL na F').map (Value.int .i64)) ∧ X1.ownsRow B 59 3 (.slice (some ⟨h3, 0, none⟩) E'.length c3) E'.length ((shEs na E').flatMap encE)) := hide (by
                have hp := HP.out
                exact ⟨own_only RB.out.1 OX.out (by omega), own_only RB.out.2.1 OX.out (by omega), own_only RB.out.2.2 OX.out (by omega)⟩)
              go_upto_region 17 with fail
              clear q0 q1 qf bq RA RB OX F0 HV iw i1 hi hil
              have y0 : X1.cell? ⟨w.heap.size, 2, none⟩ = some (.slice (some ⟨g1, 0, none⟩) S.length k1) := cell_of F1.out.a rfl
              have y1 : X1.cell? ⟨w.heap.size + 1, 2, none⟩ = some (.slice (some ⟨h1, 0, none⟩) S'.length c1) := cell_of F1.out.b rfl
              go_wp2_with (at_builtin; refine wpList_append_own_at _ rfl _ _ _ rfl B 3 i3 _ 1 8 Tryz.underlying22 hi3 hz30 hz31 hz32 rfl (by omega) (.slice (some ⟨g1, 0, none⟩) S.length k1) S.length (S.map (Value.int .i64)) rfl RA1.out.1 ⟨h1, 0, none⟩ S'.length c1 ((shL na S').map (Value.int .i64)) rfl (by simp [shL]) (rd_news (rdN_own RB1.out.1 (List.prefix_refl _))) (ints_one _) (by unfold maxLen; omega) (by omega) (Nat.le_trans hBw F1.out.d.size) ?_)
              intro v1 Y1 ho hgr hnil hloc
              obtain ⟨r1, q1, rfl⟩ := own_form ho hnil
              have L1 : Hid (r1 = g1 ∨ r1 = X1.heap.size) := hide (by simpa [Value.ownBlock] using hloc)
              have G1 : Hid (X1.grownBy Y1 (some g1)) := hide hgr
              have O1 : Hid (Y1.ownsRow B 3 1 (.slice (some ⟨r1, 0, none⟩) (S.length + S'.length) q1) (S.length + S'.length) ((S ++ shL na S').map (Value.int .i64))) := hide (by rw [List.map_append]; exact ho)
              clear ho hgr hnil hloc y0 y1
              have F2 := hide (F1.out.grown G1.out ⟨HP.out.2.2.1, HP.out.1.1⟩)
              have y0 : Y1.cell? ⟨w.heap.size, 2, none⟩ = some (.slice (some ⟨g1, 0, none⟩) S.length k1) := cell_of F2.out.a rfl
              have yf : Y1.frozen? ⟨w.heap.size, 2, none⟩ = false := fz_of F2.out.a
              obtain ⟨X2, hX2⟩ : ∃ X2, Y1.setCell ⟨w.heap.size, 2, none⟩ (.slice (some ⟨r1, 0, none⟩) (S.length + S'.length) q1) = X2 := ⟨_, rfl⟩
              have F3 := hide (F2.out.set2 (.slice (some ⟨r1, 0, none⟩) (S.length + S'.length) q1) hBw)
              have OX := only_set Y1 w.heap.size 2 (.slice (some ⟨r1, 0, none⟩) (S.length + S'.length) q1)
              rw [hX2] at F3 OX
              have OX := hide OX
              have RR2 : Hid ((r1 < Y1.heap.size ∧ r1 ≠ w.heap.size ∧ (r1 = g1 ∨ w.heap.size + 3 ≤ r1)) ∧ X2.ownsRow B 3 1 (.slice (some ⟨r1, 0, none⟩) (S.length + S'.length) q1) (S.length + S'.length) ((S ++ shL na S').map (Value.int .i64)) ∧ X2.ownsRow B 3 1 (.slice (some ⟨g2, 0, none⟩) F.length k2) F.length (F.map (Value.int .i64)) ∧ X2.ownsRow B 59 3 (.slice (some ⟨g3, 0, none⟩) E.length k3) E.length (E.flatMap encE) ∧ X2.ownsRow B 3 1 (.slice (some ⟨h2, 0, none⟩) F'.length c2) F'.length ((shL na F').map (Value.int .i64)) ∧ X2.ownsRow B 59 3 (.slice (some ⟨h3, 0, none⟩) E'.length c3) E'.length ((shEs na E').flatMap encE)) := hide (by
                have hp := HP.out
                have hc := hC.out
                have n12 := hA.out.n12
                have n13 := hA.out.n13
                have l1 := L1.out
                have le := F1.out.le
                have ra := own_at O1.out
                refine ⟨⟨ra.2, by omega, by omega⟩, own_only O1.out OX.out (by omega), own_only (grown_row RA1.out.2.1 G1.out n12.symm) OX.out (by omega), own_only (grown_row RA1.out.2.2 G1.out n13.symm) OX.out (by omega), own_only (grown_row RB1.out.2.1 G1.out (by omega)) OX.out (by omega), own_only (grown_row RB1.out.2.2 G1.out (by omega)) OX.out (by omega)⟩)
              have Z2 : Hid (Y1.heap.size ≤ X2.heap.size) := hide OX.out.size
              go_upto_region 18 with fail
              clear y0 yf OX F1 F2 RA1 RB1 O1 G1 hX2
              have y0 : X2.cell? ⟨w.heap.size, 3, none⟩ = some (.slice (some ⟨g2, 0, none⟩) F.length k2) := cell_of F3.out.a rfl
              have y1 : X2.cell? ⟨w.heap.size + 1, 3, none⟩ = some (.slice (some ⟨h2, 0, none⟩) F'.length c2) := cell_of F3.out.b rfl
              go_wp2_with (at_builtin; refine wpList_append_own_at _ rfl _ _ _ rfl B 3 i3 _ 1 8 Tryz.underlying22 hi3 hz30 hz31 hz32 rfl (by omega) (.slice (some ⟨g2, 0, none⟩) F.length k2) F.length (F.map (Value.int .i64)) rfl RR2.out.2.2.1 ⟨h2, 0, none⟩ F'.length c2 ((shL na F').map (Value.int .i64)) rfl (by simp [shL]) (rd_news (rdN_own RR2.out.2.2.2.2.1 (List.prefix_refl _))) (ints_one _) (by unfold maxLen; omega) (by omega) (Nat.le_trans hBw F3.out.d.size) ?_)
              intro v2 Y2 ho hgr hnil hloc
              obtain ⟨r2, q2, rfl⟩ := own_form ho hnil
              have L2 : Hid (r2 = g2 ∨ r2 = X2.heap.size) := hide (by simpa [Value.ownBlock] using hloc)
              have G2 : Hid (X2.grownBy Y2 (some g2)) := hide hgr
              have O2 : Hid (Y2.ownsRow B 3 1 (.slice (some ⟨r2, 0, none⟩) (F.length + F'.length) q2) (F.length + F'.length) ((F ++ shL na F').map (Value.int .i64))) := hide (by rw [List.map_append]; exact ho)
              clear ho hgr hnil hloc y0 y1
              have F4 := hide (F3.out.grown G2.out ⟨HP.out.2.2.2.1, HP.out.1.2.1⟩)
              have y0 : Y2.cell? ⟨w.heap.size, 3, none⟩ = some (.slice (some ⟨g2, 0, none⟩) F.length k2) := cell_of F4.out.a rfl
              have yf : Y2.frozen? ⟨w.heap.size, 3, none⟩ = false := fz_of F4.out.a
              obtain ⟨X3, hX3⟩ : ∃ X3, Y2.setCell ⟨w.heap.size, 3, none⟩ (.slice (some ⟨r2, 0, none⟩) (F.length + F'.length) q2) = X3 := ⟨_, rfl⟩
              have F5 := hide (F4.out.set3 (.slice (some ⟨r2, 0, none⟩) (F.length + F'.length) q2) hBw)
              have OX := only_set Y2 w.heap.size 3 (.slice (some ⟨r2, 0, none⟩) (F.length + F'.length) q2)
              rw [hX3] at F5 OX
              have OX := hide OX
              have RR3 : Hid ((r1 ≠ r2 ∧ r1 < Y2.heap.size ∧ r2 < Y2.heap.size ∧ r1 ≠ w.heap.size ∧ r2 ≠ w.heap.size ∧ (r1 = g1 ∨ w.heap.size + 3 ≤ r1) ∧ (r2 = g2 ∨ w.heap.size + 3 ≤ r2)) ∧ X3.ownsRow B 3 1 (.slice (some ⟨r1, 0, none⟩) (S.length + S'.length) q1) (S.length + S'.length) ((S ++ shL na S').map (Value.int .i64)) ∧ X3.ownsRow B 3 1 (.slice (some ⟨r2, 0, none⟩) (F.length + F'.length) q2) (F.length + F'.length) ((F ++ shL na F').map (Value.int .i64)) ∧ X3.ownsRow B 59 3 (.slice (some ⟨g3, 0, none⟩) E.length k3) E.length (E.flatMap encE) ∧ X3.ownsRow B 59 3 (.slice (some ⟨h3, 0, none⟩) E'.length c3) E'.length ((shEs na E').flatMap encE)) := hide (by
                have hp := HP.out
                have hc := hC.out
                have n12 := hA.out.n12
                have n23 := hA.out.n23
                have l2 := L2.out
                have le := F3.out.le
                have rb := RR2.out.1
                have ra := own_at O2.out
                have z2 := Z2.out
                have gs := G2.out.size
                refine ⟨⟨by omega, by omega, ra.2, by omega, by omega, by omega, by omega⟩, own_only (grown_row RR2.out.2.1 G2.out (by omega)) OX.out (by omega), own_only O2.out OX.out (by omega), own_only (grown_row RR2.out.2.2.2.1 G2.out n23.symm) OX.out (by omega), own_only (grown_row RR2.out.2.2.2.2.2 G2.out (by omega)) OX.out (by omega)⟩)
              have Z3 : Hid (Y2.heap.size ≤ X3.heap.size) := hide OX.out.size
              go_upto_region 19 with fail
              clear y0 yf OX F3 F4 RR2 O2 G2 hX3
              have y0 : X3.cell? ⟨w.heap.size, 4, none⟩ = some (.slice (some ⟨g3, 0, none⟩) E.length k3) := cell_of F5.out.a rfl
              have y1 : X3.cell? ⟨w.heap.size + 1, 4, none⟩ = some (.slice (some ⟨h3, 0, none⟩) E'.length c3) := cell_of F5.out.b rfl
              go_wp2_with (at_builtin; refine wpList_append_own_at _ rfl _ _ _ rfl B 59 i5 _ 3 24 Tryz.underlying23 hi5 hz50 hz51 hz52 rfl (by omega) (.slice (some ⟨g3, 0, none⟩) E.length k3) E.length (E.flatMap encE) rfl RR3.out.2.2.2.1 ⟨h3, 0, none⟩ E'.length c3 ((shEs na E').flatMap encE) rfl (by rw [flatE_len]; simp [shEs]) (by have q := RR3.out.2.2.2.2; rw [show E'.length = (shEs na E').length by simp [shEs]] at q; exact rdE_news (rdE_own q)) (encE_one _) (by unfold maxLen; omega) (by omega) (Nat.le_trans hBw F5.out.d.size) ?_)
              intro v3 Y3 ho hgr hnil hloc
              obtain ⟨r3, q3, rfl⟩ := own_form ho hnil
              have L3 : Hid (r3 = g3 ∨ r3 = X3.heap.size) := hide (by simpa [Value.ownBlock] using hloc)
              have G3 : Hid (X3.grownBy Y3 (some g3)) := hide hgr
              have O3 : Hid (Y3.ownsRow B 59 3 (.slice (some ⟨r3, 0, none⟩) (E.length + E'.length) q3) (E.length + E'.length) ((E ++ shEs na E').flatMap encE)) := hide (by rw [List.flatMap_append]; exact ho)
              clear ho hgr hnil hloc y0 y1
              have F6 := hide (F5.out.grown G3.out ⟨HP.out.2.2.2.2.1, HP.out.1.2.2⟩)
              have y0 : Y3.cell? ⟨w.heap.size, 4, none⟩ = some (.slice (some ⟨g3, 0, none⟩) E.length k3) := cell_of F6.out.a rfl
              have yf : Y3.frozen? ⟨w.heap.size, 4, none⟩ = false := fz_of F6.out.a
              obtain ⟨X4, hX4⟩ : ∃ X4, Y3.setCell ⟨w.heap.size, 4, none⟩ (.slice (some ⟨r3, 0, none⟩) (E.length + E'.length) q3) = X4 := ⟨_, rfl⟩
              have F7 := hide (F6.out.set4 (.slice (some ⟨r3, 0, none⟩) (E.length + E'.length) q3) hBw)
              have OX := only_set Y3 w.heap.size 4 (.slice (some ⟨r3, 0, none⟩) (E.length + E'.length) q3)
              rw [hX4] at F7 OX
              have OX := hide OX
              have RR4 : Hid ((r1 ≠ r2 ∧ r1 ≠ r3 ∧ r2 ≠ r3 ∧ (r1 < w.heap.size ∨ w.heap.size + 3 ≤ r1) ∧ (r2 < w.heap.size ∨ w.heap.size + 3 ≤ r2) ∧ (r3 < w.heap.size ∨ w.heap.size + 3 ≤ r3)) ∧ X4.ownsRow B 3 1 (.slice (some ⟨r1, 0, none⟩) (S.length + S'.length) q1) (S.length + S'.length) ((S ++ shL na S').map (Value.int .i64)) ∧ X4.ownsRow B 3 1 (.slice (some ⟨r2, 0, none⟩) (F.length + F'.length) q2) (F.length + F'.length) ((F ++ shL na F').map (Value.int .i64)) ∧ X4.ownsRow B 59 3 (.slice (some ⟨r3, 0, none⟩) (E.length + E'.length) q3) (E.length + E'.length) ((E ++ shEs na E').flatMap encE)) := hide (by
                have hp := HP.out
                have n13 := hA.out.n13
                have n23 := hA.out.n23
                have l3 := L3.out
                have le := F5.out.le
                have rb := RR3.out.1
                have z3 := Z3.out
                refine ⟨⟨rb.1, by omega, by omega, by omega, by omega, by omega⟩, own_only (grown_row RR3.out.2.1 G3.out (by omega)) OX.out (by omega), own_only (grown_row RR3.out.2.2.1 G3.out (by omega)) OX.out (by omega), own_only O3.out OX.out (by omega)⟩)
              go_upto_region 20 with fail
              clear y0 yf OX F5 F6 RR3 O3 G3 hX4
              have a0 : X4.cell? ⟨w.heap.size, 0, none⟩ = some (.int .i64 (na + nb)) := cell_of F7.out.a rfl
              have a1 : X4.cell? ⟨w.heap.size, 1, none⟩ = some (.int .i64 m) := cell_of F7.out.a rfl
              have a2 : X4.cell? ⟨w.heap.size, 2, none⟩ = some (.slice (some ⟨r1, 0, none⟩) (S.length + S'.length) q1) := cell_of F7.out.a rfl
              have a3 : X4.cell? ⟨w.heap.size, 3, none⟩ = some (.slice (some ⟨r2, 0, none⟩) (F.length + F'.length) q2) := cell_of F7.out.a rfl
              have a4 : X4.cell? ⟨w.heap.size, 4, none⟩ = some (.slice (some ⟨r3, 0, none⟩) (E.length + E'.length) q3) := cell_of F7.out.a rfl
              have F3 := F7.out.z
              have o0 : X4.cell? ⟨w.heap.size + 1 + 1, 0, none⟩ = some (.int .i64 0) := cell_of F3 rfl
              have f0 : X4.frozen? ⟨w.heap.size + 1 + 1, 0, none⟩ = false := fz_of F3
              have o1 : X4.cell? ⟨w.heap.size + 1 + 1, 1, none⟩ = some (.int .i64 0) := cell_of F3 rfl
              have f1 : X4.frozen? ⟨w.heap.size + 1 + 1, 1, none⟩ = false := fz_of F3
              have o2 : X4.cell? ⟨w.heap.size + 1 + 1, 2, none⟩ = some (.slice none 0 0) := cell_of F3 rfl
              have f2 : X4.frozen? ⟨w.heap.size + 1 + 1, 2, none⟩ = false := fz_of F3
              have o3 : X4.cell? ⟨w.heap.size + 1 + 1, 3, none⟩ = some (.slice none 0 0) := cell_of F3 rfl
              have f3 : X4.frozen? ⟨w.heap.size + 1 + 1, 3, none⟩ = false := fz_of F3
              have o4 : X4.cell? ⟨w.heap.size + 1 + 1, 4, none⟩ = some (.slice none 0 0) := cell_of F3 rfl
              have f4 : X4.frozen? ⟨w.heap.size + 1 + 1, 4, none⟩ = false := fz_of F3
              have O6 := hide (And.intro (set5 X4 (w.heap.size + 1 + 1) _ _ _ _ _ (.int .i64 (na + nb)) (.int .i64 m) (.slice (some ⟨r1, 0, none⟩) (S.length + S'.length) q1) (.slice (some ⟨r2, 0, none⟩) (F.length + F'.length) q2) (.slice (some ⟨r3, 0, none⟩) (E.length + E'.length) q3) 25 F3) (only5 X4 (w.heap.size + 1 + 1) (.int .i64 (na + nb)) (.int .i64 m) (.slice (some ⟨r1, 0, none⟩) (S.length + S'.length) q1) (.slice (some ⟨r2, 0, none⟩) (F.length + F'.length) q2) (.slice (some ⟨r3, 0, none⟩) (E.length + E'.length) q3)))
              clear F3
              go_wp2_with fail
              refine bodyPost_ret (results_cell_row (p := 4) (ty := 25) rfl _ _ (w.heap.size + 1 + 1) 25 _ (0, 0) _ rfl O6.out.1 Tryz.underlying25 rfl (by kernel_rfl)) rfl ?_
              have e1 : (S ++ shL na S').length = S.length + S'.length := by simp [shL]
              have e2 : (F ++ shL na F').length = F.length + F'.length := by simp [shL]
              have e3 : (E ++ shEs na E').length = E.length + E'.length := by simp [shEs]
              have rr := RR4.out.1
              refine ⟨r1, q1, r2, q2, r3, q3, by rw [e1, e2, e3], ⟨by rw [e1]; exact own_only RR4.out.2.1 O6.out.2 (by omega), by rw [e2]; exact own_only RR4.out.2.2.1 O6.out.2 (by omega), by rw [e3]; exact own_only RR4.out.2.2.2 O6.out.2 (by omega), rr.1, rr.2.1, rr.2.2.1⟩, F7.out.d.trans (O6.out.2.toBelow (Nat.le_trans hBw F7.out.d.size) (fun k hk => by omega))⟩
end Go.Proofs.YtfoahpideglghaaGreatDoor
namespace Go.Proofs.YtfoahpideglghaaGreatDoor
open Go.RowKit Go.Maps Go.Shelf
attribute [local go_sem] Oper.semAt_some

/-! ### An automaton over other symbols -/
/-- The cells of the edges with other symbols. -/
def rlV (To : List Int) (L : List EdT) (c : Nat) : Value := ((rlEs To L).flatMap encE)[c]?.getD undef
theorem rlEs_len (To : List Int) (L : List EdT) : (rlEs To L).length = L.length := List.length_map _
theorem rlV_at {To : List Int} {L : List EdT} {i : Nat} (h : i < L.length) {x1 x2 x3 : Int} (hx : L[i] = (x1, x2, x3)) : rlV To L (i * 3) = .int .i64 x1 ∧ rlV To L (i * 3 + 1) = .int .i64 (toF To x2) ∧ rlV To L (i * 3 + 2) = .int .i64 x3 := by
  have hl : i < (rlEs To L).length := by rw [rlEs_len]; exact h
  have e : (rlEs To L)[i] = (x1, toF To x2, x3) := by simp [rlEs, hx, rlE]
  have f0 := flat_get encE 3 encE_len (rlEs To L) i 0 hl (by omega)
  have f1 := flat_get encE 3 encE_len (rlEs To L) i 1 hl (by omega)
  have f2 := flat_get encE 3 encE_len (rlEs To L) i 2 hl (by omega)
  rw [e] at f0 f1 f2
  unfold rlV
  refine ⟨?_, ?_, ?_⟩
  · rw [Nat.add_zero] at f0; rw [f0]; rfl
  · rw [f1]; rfl
  · rw [f2]; rfl
theorem rl_rd {W : World} {g : Nat} {To : List Int} {L : List EdT} (h : Mrw W g 59 (L.length * 3) (rlV To L) (L.length * 3)) : RdE W (some ⟨g, 0, none⟩) (rlEs To L) := fun j hj => by
  have hj2 : j < L.length := by rw [rlEs_len To] at hj; exact hj
  obtain ⟨x, hx⟩ : ∃ x, L[j] = x := ⟨_, rfl⟩
  obtain ⟨x1, x2, x3⟩ := x
  obtain ⟨v0, v1, v2⟩ := rlV_at hj2 hx
  have e : (rlEs To L)[j] = (x1, toF To x2, x3) := by simp [rlEs, hx, rlE]
  rw [e]
  have q0 := h.at (j * 3) (by omega)
  have q1 := h.at (j * 3 + 1) (by omega)
  have q2 := h.at (j * 3 + 2) (by omega)
  rw [v0] at q0
  rw [v1] at q1
  rw [v2] at q2
  exact ⟨g, 0, rfl, by rw [Nat.zero_add]; exact q0, by rw [Nat.zero_add]; exact q1, by rw [Nat.zero_add]; exact q2⟩
set_option maxRecDepth 100000 in
set_option maxHeartbeats 2000000 in
theorem relabelled_any (w : World) (n m k : Int) (a1 a2 a3 a0 : Option Addr) (c1 c2 c3 c0 : Nat) (St Fi To : List Int) (Ed : List EdT) (hA : Hid (RdA w a1 a2 a3 St Fi Ed)) (hTo : Hid (RdN w a0 To)) (hto : Hid (∀ e ∈ Ed, 0 ≤ e.2.1 ∧ e.2.1 < (To.length : Int))) (h1 : St.length ≤ 4194304) (h2 : Fi.length ≤ 4194304) (h3 : Ed.length ≤ 4194304) :
    Calls Tryz.prog 71 #[.agg #[.int .i64 n, .int .i64 m, .slice a1 St.length c1, .slice a2 Fi.length c2, .slice a3 Ed.length c3], .int .i64 k, .slice a0 To.length c0] w fun e w' => ∃ g1 k1 g2 k2 g3 k3, e = .returned (.agg #[.int .i64 n, .int .i64 k, .slice (some ⟨g1, 0, none⟩) (riseL St).length k1, .slice (some ⟨g2, 0, none⟩) (riseL Fi).length k2, .slice (some ⟨g3, 0, none⟩) (riseE (rlEs To Ed)).length k3]) ∧ Own w.heap.size w' g1 k1 g2 k2 g3 k3 (riseL St) (riseL Fi) (riseE (rlEs To Ed)) ∧ Below w.heap.size w w' := by
  obtain ⟨i5, hi5, hz50, hz51, hz52⟩ := info_parts info59
  obtain ⟨q, hq⟩ : ∃ q, q = Ed.length := ⟨_, rfl⟩
  have HL := hide hq
  rw [← hq]
  rw [← hq] at h3
  clear hq
  obtain ⟨W0, hW0⟩ : ∃ W0, (w.alloc (.cells #[.int .i64 n, .int .i64 m, .slice a1 St.length c1, .slice a2 Fi.length c2, .slice a3 q c3] 25)).alloc (.cells #[.int .i64 0, .int .i64 0, .slice none 0 0, .slice none 0 0, .slice none 0 0] 25) = W0 := ⟨_, rfl⟩
  have HD := hide (box2 w #[.int .i64 n, .int .i64 m, .slice a1 St.length c1, .slice a2 Fi.length c2, .slice a3 q c3] #[.int .i64 0, .int .i64 0, .slice none 0 0, .slice none 0 0, .slice none 0 0] 25)
  rw [hW0] at HD
  have B0 := HD.out.2.1
  have y4 : W0.cell? ⟨w.heap.size, 4, none⟩ = some (.slice a3 q c3) := cell_of B0 rfl
  clear B0
  go_enter Tryz.func71, Tryz.ntmps71
  go_wp2_with (at_make; refine wpList_make_full _ rfl _ _ 23 rfl W0.heap.size 59 i5 (.agg #[.int .i64 0, .int .i64 0, .int .i64 0]) 3 Tryz.underlying23 hi5 hz50 hz51 _ _ _ _ q rfl rfl (by go_num) (by go_num) (by rw [hz52]; omega) (by unfold maxLen; omega) (Nat.le_refl _) ?_)
  intro w1 ho hg
  have D1 : Below W0.heap.size W0 w1 := (Below.refl _ _).grown hg (Nat.le_refl _) (by intro k hk; cases hk)
  have M0 := Mrw.ofRow (rlV To Ed) ho
  have y41 : w1.cell? ⟨w.heap.size, 4, none⟩ = some (.slice a3 q c3) := cell_of (blk_on HD.out.2.1 D1) rfl
  have H1 := hide (And.intro M0 D1)
  clear M0 D1 ho hg y4
  go_wp2
  go_loopw [17] (fun iv wr => ∃ i : Nat, i ≤ q ∧ iv = .int .i64 i ∧ Hid (Mrw wr W0.heap.size 59 (q * 3) (rlV To Ed) (i * 3) ∧ Below W0.heap.size W0 wr)) (fun iv _ => q - (intOf iv).toNat)
  case atStart => exact ⟨0, Nat.zero_le _, rfl, hide ⟨by simpa using H1.out.1, H1.out.2⟩⟩
  case round =>
    obtain ⟨i, hi, rfl, HY⟩ := hrel
    clear H1 y41
    by_cases hil : i < q
    · have i0 : (0 : Int) ≤ (i : Int) := by omega
      have i1 : (i : Int) < (q : Int) := by omega
      have hil2 : i < Ed.length := by rw [← HL.out]; exact hil
      obtain ⟨ge, o, rfl, q1, q2, q3⟩ := (hA.out.e.on (HD.out.1.trans (HY.out.2.mono HD.out.1.size))) i hil2
      obtain ⟨x, hx⟩ : ∃ x, Ed[i] = x := ⟨_, rfl⟩
      rw [hx] at q1 q2 q3
      obtain ⟨x1, x2, x3⟩ := x
      have HV := hide (rlV_at (To := To) hil2 hx)
      have hsy := hto.out _ (List.getElem_mem hil2)
      rw [hx] at hsy
      simp only at hsy
      obtain ⟨gt, ot, htt, qt⟩ := (hTo.out.on (HD.out.1.trans (HY.out.2.mono HD.out.1.size))) x2.toNat (by omega)
      obtain ⟨_, hxt, ext⟩ := toF_at hsy.1 hsy.2
      rw [← ext] at qt
      clear ext hxt
      have hx2 : ((x2.toNat : Nat) : Int) = x2 := Int.toNat_of_nonneg hsy.1
      clear hx
      obtain ⟨W1, hW1⟩ : ∃ W1, wr.alloc (.cells #[.int .i64 x1, .int .i64 x2, .int .i64 x3] 59) = W1 := ⟨_, rfl⟩
      have HW : Hid (W1.heap[wr.heap.size]? = some (.cells #[.int .i64 x1, .int .i64 x2, .int .i64 x3] 59 (0, 0)) ∧ Below wr.heap.size wr W1) := hide (by rw [← hW1]; exact ⟨World.alloc_heap_new _ _, (Below.refl _ _).alloc (Nat.le_refl _) _⟩)
      have y0 : W1.cell? ⟨wr.heap.size, 0, none⟩ = some (.int .i64 x1) := cell_of HW.out.1 rfl
      have y1 : W1.cell? ⟨wr.heap.size, 1, none⟩ = some (.int .i64 x2) := cell_of HW.out.1 rfl
      have y2 : W1.cell? ⟨wr.heap.size, 2, none⟩ = some (.int .i64 x3) := cell_of HW.out.1 rfl
      have M1 : Hid (Mrw W1 W0.heap.size 59 (q * 3) (rlV To Ed) (i * 3)) := hide (HY.out.1.below HW.out.2 HY.out.1.lt)
      obtain ⟨u0, z0⟩ := M1.out.cell (i * 3) (by omega)
      obtain ⟨u1, z1⟩ := M1.out.cell (i * 3 + 1) (by omega)
      obtain ⟨u2, z2⟩ := M1.out.cell (i * 3 + 2) (by omega)
      have f0 := M1.out.fz (i * 3)
      have f1 := M1.out.fz (i * 3 + 1)
      have f2 := M1.out.fz (i * 3 + 2)
      have t1 : W1.cell? ⟨gt, ot + x2.toNat, none⟩ = some (.int .i64 (toF To x2)) := (HW.out.2.cell (p := ⟨gt, ot + x2.toNat, none⟩) (World.block_lt_of_cell? wr _ qt)).trans qt
      subst htt
      have hs0 := hsy.1
      have hs1 := hsy.2
      go_wp2
      refine wp_region_phase 13 #[true, true, true, true, true, true, true, true, true, true, true, true, true, false] (by kernel_rfl) (by kernel_rfl) ?_
      simp only [List.take_succ_cons, List.take_zero, List.drop_succ_cons, List.drop_zero]
      repeat (go_big_quiet_step (fail))
      refine wpQuiet_nil ?_
      intro wz hzz
      obtain ⟨nq, rfl⟩ := hzz

      go_wp2_with fail
      refine ⟨⟨i + 1, by omega, by go_num, hide ⟨?_, ?_⟩⟩, by simp [intOf]; omega⟩
      · have e1 := (show Mrw (W1.drewN nq) W0.heap.size 59 (q * 3) (rlV To Ed) (i * 3) from M1.out).put (by omega) _ HV.out.1
        have e2 := e1.put (by omega) _ HV.out.2.1
        have e3 := e2.put (by omega) _ HV.out.2.2
        rw [show (i + 1) * 3 = i * 3 + 1 + 1 + 1 by omega]
        exact e3
      · have d := below_drewN2 (HY.out.2.trans (HW.out.2.mono HY.out.2.size)) nq
        exact d.trans ((only3 (W1.drewN nq) W0.heap.size _ _ _ _ _ _).toBelow d.size (fun k hk => Nat.le_of_eq hk.symm))
    · obtain rfl : q = i := by omega
      have i1 : ¬ (q : Int) < (q : Int) := by omega
      have HR : Hid (RdE wr (some ⟨W0.heap.size, 0, none⟩) (rlEs To Ed)) := hide (by have := HY.out.1; rw [HL.out] at this; exact rl_rd this)
      have B1 := blk_on HD.out.2.1 HY.out.2
      have y0 : wr.cell? ⟨w.heap.size, 0, none⟩ = some (.int .i64 n) := cell_of B1 rfl
      have y1 : wr.cell? ⟨w.heap.size, 1, none⟩ = some (.int .i64 m) := cell_of B1 rfl
      have y2 : wr.cell? ⟨w.heap.size, 2, none⟩ = some (.slice a1 St.length c1) := cell_of B1 rfl
      have y3 : wr.cell? ⟨w.heap.size, 3, none⟩ = some (.slice a2 Fi.length c2) := cell_of B1 rfl
      have HA := hide (hA.out.on (HD.out.1.trans (HY.out.2.mono HD.out.1.size)))
      have T := inOrder_any wr n k a1 a2 (some ⟨W0.heap.size, 0, none⟩) c1 c2 q St Fi (rlEs To Ed) (hide ⟨HA.out.s, HA.out.f, HR.out⟩) h1 h2 (by rw [rlEs_len To, ← HL.out]; exact h3)
      rw [rlEs_len To, ← HL.out] at T
      clear B1
      have FK := hide (fun (W2 : World) (d : Below W0.heap.size W0 W2) => show W2.heap[w.heap.size + 1]? = some (.cells #[.int .i64 0, .int .i64 0, .slice none 0 0, .slice none 0 0, .slice none 0 0] 25 (0, 0)) from blk_on HD.out.2.2.1 d)
      go_wp2_with (go_at_call 62; refine T.mono ?_; rintro e wc ⟨g1, k1, g2, k2, g3, k3, rfl, hO, d⟩; have HO := hide (And.intro hO (And.intro d (HY.out.2.trans (d.mono HY.out.2.size)))); clear hO d; have F3 := FK.out wc HO.out.2.2; have o0 : wc.cell? ⟨w.heap.size + 1, 0, none⟩ = some (.int .i64 0) := cell_of F3 rfl; have f0 : wc.frozen? ⟨w.heap.size + 1, 0, none⟩ = false := fz_of F3; have o1 : wc.cell? ⟨w.heap.size + 1, 1, none⟩ = some (.int .i64 0) := cell_of F3 rfl; have f1 : wc.frozen? ⟨w.heap.size + 1, 1, none⟩ = false := fz_of F3; have o2 : wc.cell? ⟨w.heap.size + 1, 2, none⟩ = some (.slice none 0 0) := cell_of F3 rfl; have f2 : wc.frozen? ⟨w.heap.size + 1, 2, none⟩ = false := fz_of F3; have o3 : wc.cell? ⟨w.heap.size + 1, 3, none⟩ = some (.slice none 0 0) := cell_of F3 rfl; have f3 : wc.frozen? ⟨w.heap.size + 1, 3, none⟩ = false := fz_of F3; have o4 : wc.cell? ⟨w.heap.size + 1, 4, none⟩ = some (.slice none 0 0) := cell_of F3 rfl; have f4 : wc.frozen? ⟨w.heap.size + 1, 4, none⟩ = false := fz_of F3; have O6 := hide (And.intro (set5 wc (w.heap.size + 1) _ _ _ _ _ (.int .i64 n) (.int .i64 k) (.slice (some ⟨g1, 0, none⟩) (riseL St).length k1) (.slice (some ⟨g2, 0, none⟩) (riseL Fi).length k2) (.slice (some ⟨g3, 0, none⟩) (riseE (rlEs To Ed)).length k3) 25 F3) (only5 wc (w.heap.size + 1) (.int .i64 n) (.int .i64 k) (.slice (some ⟨g1, 0, none⟩) (riseL St).length k1) (.slice (some ⟨g2, 0, none⟩) (riseL Fi).length k2) (.slice (some ⟨g3, 0, none⟩) (riseE (rlEs To Ed)).length k3))); clear F3)
      refine bodyPost_ret (results_cell_row (p := 6) (ty := 25) rfl _ _ (w.heap.size + 1) 25 _ (0, 0) _ rfl O6.out.1 Tryz.underlying25 rfl (by kernel_rfl)) rfl ?_
      have z0 := HD.out.2.2.2
      have z1 := HY.out.2.size
      have z2 := HO.out.2.2.size
      have p1 := own_at HO.out.1.s
      have p2 := own_at HO.out.1.f
      have p3 := own_at HO.out.1.e
      have r1 : wc.ownsRow w.heap.size 3 1 (.slice (some ⟨g1, 0, none⟩) (riseL St).length k1) (riseL St).length ((riseL St).map (Value.int .i64)) := owns_down HO.out.1.s (by omega)
      have r2 : wc.ownsRow w.heap.size 3 1 (.slice (some ⟨g2, 0, none⟩) (riseL Fi).length k2) (riseL Fi).length ((riseL Fi).map (Value.int .i64)) := owns_down HO.out.1.f (by omega)
      have r3 : wc.ownsRow w.heap.size 59 3 (.slice (some ⟨g3, 0, none⟩) (riseE (rlEs To Ed)).length k3) (riseE (rlEs To Ed)).length ((riseE (rlEs To Ed)).flatMap encE) := owns_down HO.out.1.e (by omega)
      refine ⟨g1, k1, g2, k2, g3, k3, rfl, ⟨own_only r1 O6.out.2 (by omega), own_only r2 O6.out.2 (by omega), own_only r3 O6.out.2 (by omega), HO.out.1.n12, HO.out.1.n13, HO.out.1.n23⟩, (HD.out.1.trans (HO.out.2.2.mono (by omega))).trans (O6.out.2.toBelow (by omega) (fun k hk => by omega))⟩
set_option maxRecDepth 100000 in
set_option maxHeartbeats 1000000 in
theorem widen_auto (w : World) (n m k : Int) (a1 a2 a3 a0 : Option Addr) (c1 c2 c3 c0 lt : Nat) (St Fi : List Int) (Ed : List EdT) (hA : Hid (RdA w a1 a2 a3 St Fi Ed)) (h1 : St.length ≤ 4194304) (h2 : Fi.length ≤ 4194304) (h3 : Ed.length ≤ 4194304) (em : mayA n m St Fi Ed = false) :
    Calls Tryz.prog 29 #[.agg #[.int .i64 n, .int .i64 m, .slice a1 St.length c1, .slice a2 Fi.length c2, .slice a3 Ed.length c3], .int .i64 k, .slice a0 lt c0] w fun e w' => e = .returned (.tuple #[.agg #[.int .i64 0, .int .i64 0, .slice none 0 0, .slice none 0 0, .slice none 0 0], .int .i64 2]) ∧ Below w.heap.size w w' := by
  obtain ⟨W0, hW0⟩ : ∃ W0, (w.alloc (.cells #[.int .i64 n, .int .i64 m, .slice a1 St.length c1, .slice a2 Fi.length c2, .slice a3 Ed.length c3] 25)).alloc (.cells #[.int .i64 0, .int .i64 0, .slice none 0 0, .slice none 0 0, .slice none 0 0] 25) = W0 := ⟨_, rfl⟩
  have HD := hide (box2 w #[.int .i64 n, .int .i64 m, .slice a1 St.length c1, .slice a2 Fi.length c2, .slice a3 Ed.length c3] #[.int .i64 0, .int .i64 0, .slice none 0 0, .slice none 0 0, .slice none 0 0] 25)
  rw [hW0] at HD
  have B0 := HD.out.2.1
  have T1 := valid_any W0 n m a1 a2 a3 c1 c2 c3 St Fi Ed (hide (hA.out.on HD.out.1)) h1 h2 h3
  have k0 : W0.cell? ⟨w.heap.size, 0, none⟩ = some (.int .i64 n) := cell_of B0 rfl
  have k1 : W0.cell? ⟨w.heap.size, 1, none⟩ = some (.int .i64 m) := cell_of B0 rfl
  have k2 : W0.cell? ⟨w.heap.size, 2, none⟩ = some (.slice a1 St.length c1) := cell_of B0 rfl
  have k3 : W0.cell? ⟨w.heap.size, 3, none⟩ = some (.slice a2 Fi.length c2) := cell_of B0 rfl
  have k4 : W0.cell? ⟨w.heap.size, 4, none⟩ = some (.slice a3 Ed.length c3) := cell_of B0 rfl
  clear B0
  rw [em] at T1
  have T1 : Calls Tryz.prog 22 #[.agg #[.int .i64 n, .int .i64 m, .slice a1 St.length c1, .slice a2 Fi.length c2, .slice a3 Ed.length c3]] W0 fun e w' => e = .returned (.int .i64 2) ∧ Below W0.heap.size W0 w' := T1
  go_enter Tryz.func29, Tryz.ntmps29
  go_upto_region 3 with (go_at_call 22; refine T1.mono ?_; rintro e w1 ⟨rfl, d1⟩)
  have F3 := blk_on HD.out.2.2.1 d1
  have o0 : w1.cell? ⟨w.heap.size + 1, 0, none⟩ = some (.int .i64 0) := cell_of F3 rfl
  have f0 : w1.frozen? ⟨w.heap.size + 1, 0, none⟩ = false := fz_of F3
  have o1 : w1.cell? ⟨w.heap.size + 1, 1, none⟩ = some (.int .i64 0) := cell_of F3 rfl
  have f1 : w1.frozen? ⟨w.heap.size + 1, 1, none⟩ = false := fz_of F3
  have o2 : w1.cell? ⟨w.heap.size + 1, 2, none⟩ = some (.slice none 0 0) := cell_of F3 rfl
  have f2 : w1.frozen? ⟨w.heap.size + 1, 2, none⟩ = false := fz_of F3
  have o3 : w1.cell? ⟨w.heap.size + 1, 3, none⟩ = some (.slice none 0 0) := cell_of F3 rfl
  have f3 : w1.frozen? ⟨w.heap.size + 1, 3, none⟩ = false := fz_of F3
  have o4 : w1.cell? ⟨w.heap.size + 1, 4, none⟩ = some (.slice none 0 0) := cell_of F3 rfl
  have f4 : w1.frozen? ⟨w.heap.size + 1, 4, none⟩ = false := fz_of F3
  have O6 := hide (And.intro (set5 w1 (w.heap.size + 1) _ _ _ _ _ (.int .i64 0) (.int .i64 0) (.slice none 0 0) (.slice none 0 0) (.slice none 0 0) 25 F3) (only5 w1 (w.heap.size + 1) (.int .i64 0) (.int .i64 0) (.slice none 0 0) (.slice none 0 0) (.slice none 0 0)))
  have D1 := hide (d1)
  clear F3
  go_wp2_with fail
  refine bodyPost_ret (results_c1 (p := 6) (q := 7) (ty := 25) rfl _ _ (w.heap.size + 1) 25 _ (0, 0) _ _ rfl rfl O6.out.1 Tryz.underlying25 rfl (by kernel_rfl)) rfl ?_
  have z0 := HD.out.2.2.2
  have z1 := D1.out.size
  exact ⟨rfl, (HD.out.1.trans (D1.out.mono (by omega))).trans (O6.out.2.toBelow (by omega) (fun k hk => by omega))⟩
theorem okI_mem {k : Nat} {L : List Int} (h : okI k L = true) : ∀ x ∈ L, 0 ≤ x ∧ x < (k : Int) := fun x hx => by
  unfold okI at h
  simpa using List.all_eq_true.1 h x hx
/-- What Widen asks of its arguments. -/
def wideOk (m k : Int) (To : List Int) : Bool := inB 129 k && decide ((To.length : Int) = m) && okI k.toNat To && decide (To.length ≤ cnt k.toNat (setI k.toNat To))
theorem wide_parts {m k : Int} {To : List Int} (h : wideOk m k To = true) : (0 ≤ k ∧ k ≤ 128) ∧ (To.length : Int) = m ∧ (∀ x ∈ To, 0 ≤ x ∧ x < k) ∧ To.Nodup := by
  unfold wideOk at h
  simp only [Bool.and_eq_true, decide_eq_true_eq] at h
  obtain ⟨⟨⟨h1, h2⟩, h3⟩, h4⟩ := h
  have hk := inB_iff.1 h1
  have hk2 : ((k.toNat : Nat) : Int) = k := Int.toNat_of_nonneg hk.1
  refine ⟨by omega, h2, fun x hx => ?_, to_nodup h4⟩
  have := okI_mem h3 x hx
  omega
set_option maxRecDepth 100000 in
set_option maxHeartbeats 2000000 in
theorem widen_arg (w : World) (n m k : Int) (a1 a2 a3 a0 : Option Addr) (c1 c2 c3 c0 : Nat) (St Fi To : List Int) (Ed : List EdT) (hA : Hid (RdA w a1 a2 a3 St Fi Ed)) (hTo : Hid (RdN w a0 To)) (h1 : St.length ≤ 4194304) (h2 : Fi.length ≤ 4194304) (h3 : Ed.length ≤ 4194304) (h4 : To.length ≤ 4194304) (em : mayA n m St Fi Ed = true) (ew : wideOk m k To = false) :
    Calls Tryz.prog 29 #[.agg #[.int .i64 n, .int .i64 m, .slice a1 St.length c1, .slice a2 Fi.length c2, .slice a3 Ed.length c3], .int .i64 k, .slice a0 To.length c0] w fun e w' => e = .returned (.tuple #[.agg #[.int .i64 0, .int .i64 0, .slice none 0 0, .slice none 0 0, .slice none 0 0], .int .i64 1]) ∧ Below w.heap.size w w' := by
  obtain ⟨W0, hW0⟩ : ∃ W0, (w.alloc (.cells #[.int .i64 n, .int .i64 m, .slice a1 St.length c1, .slice a2 Fi.length c2, .slice a3 Ed.length c3] 25)).alloc (.cells #[.int .i64 0, .int .i64 0, .slice none 0 0, .slice none 0 0, .slice none 0 0] 25) = W0 := ⟨_, rfl⟩
  have HD := hide (box2 w #[.int .i64 n, .int .i64 m, .slice a1 St.length c1, .slice a2 Fi.length c2, .slice a3 Ed.length c3] #[.int .i64 0, .int .i64 0, .slice none 0 0, .slice none 0 0, .slice none 0 0] 25)
  rw [hW0] at HD
  have B0 := HD.out.2.1
  have T1 := valid_any W0 n m a1 a2 a3 c1 c2 c3 St Fi Ed (hide (hA.out.on HD.out.1)) h1 h2 h3
  have k0 : W0.cell? ⟨w.heap.size, 0, none⟩ = some (.int .i64 n) := cell_of B0 rfl
  have k1 : W0.cell? ⟨w.heap.size, 1, none⟩ = some (.int .i64 m) := cell_of B0 rfl
  have k2 : W0.cell? ⟨w.heap.size, 2, none⟩ = some (.slice a1 St.length c1) := cell_of B0 rfl
  have k3 : W0.cell? ⟨w.heap.size, 3, none⟩ = some (.slice a2 Fi.length c2) := cell_of B0 rfl
  have k4 : W0.cell? ⟨w.heap.size, 4, none⟩ = some (.slice a3 Ed.length c3) := cell_of B0 rfl
  clear B0
  rw [em] at T1
  have T1 : Calls Tryz.prog 22 #[.agg #[.int .i64 n, .int .i64 m, .slice a1 St.length c1, .slice a2 Fi.length c2, .slice a3 Ed.length c3]] W0 fun e w' => e = .returned (.int .i64 0) ∧ Below W0.heap.size W0 w' := T1
  go_enter Tryz.func29, Tryz.ntmps29
  cases hk : inB 129 k
  · go_upto_region 5 with (first
      | (go_at_call 22; refine T1.mono ?_; rintro e w1 ⟨rfl, d1⟩)
      | (go_at_call 63; refine (within_any _ _ _).mono ?_; rintro e w2 ⟨rfl, hw⟩; obtain rfl := hw.symm))
    have F3 := blk_on HD.out.2.2.1 d1
    have o0 : w1.cell? ⟨w.heap.size + 1, 0, none⟩ = some (.int .i64 0) := cell_of F3 rfl
    have f0 : w1.frozen? ⟨w.heap.size + 1, 0, none⟩ = false := fz_of F3
    have o1 : w1.cell? ⟨w.heap.size + 1, 1, none⟩ = some (.int .i64 0) := cell_of F3 rfl
    have f1 : w1.frozen? ⟨w.heap.size + 1, 1, none⟩ = false := fz_of F3
    have o2 : w1.cell? ⟨w.heap.size + 1, 2, none⟩ = some (.slice none 0 0) := cell_of F3 rfl
    have f2 : w1.frozen? ⟨w.heap.size + 1, 2, none⟩ = false := fz_of F3
    have o3 : w1.cell? ⟨w.heap.size + 1, 3, none⟩ = some (.slice none 0 0) := cell_of F3 rfl
    have f3 : w1.frozen? ⟨w.heap.size + 1, 3, none⟩ = false := fz_of F3
    have o4 : w1.cell? ⟨w.heap.size + 1, 4, none⟩ = some (.slice none 0 0) := cell_of F3 rfl
    have f4 : w1.frozen? ⟨w.heap.size + 1, 4, none⟩ = false := fz_of F3
    have O6 := hide (And.intro (set5 w1 (w.heap.size + 1) _ _ _ _ _ (.int .i64 0) (.int .i64 0) (.slice none 0 0) (.slice none 0 0) (.slice none 0 0) 25 F3) (only5 w1 (w.heap.size + 1) (.int .i64 0) (.int .i64 0) (.slice none 0 0) (.slice none 0 0) (.slice none 0 0)))
    have D1 := hide (d1)
    clear F3
    go_wp2_with fail
    refine bodyPost_ret (results_c1 (p := 6) (q := 7) (ty := 25) rfl _ _ (w.heap.size + 1) 25 _ (0, 0) _ _ rfl rfl O6.out.1 Tryz.underlying25 rfl (by kernel_rfl)) rfl ?_
    have z0 := HD.out.2.2.2
    have z1 := D1.out.size
    exact ⟨rfl, (HD.out.1.trans (D1.out.mono (by omega))).trans (O6.out.2.toBelow (by omega) (fun k hk => by omega))⟩
  · have hm0 : 0 ≤ k ∧ k < 129 := inB_iff.1 hk
    obtain ⟨K, rfl⟩ : ∃ K : Nat, k = (K : Int) := ⟨k.toNat, by omega⟩
    by_cases hl : (To.length : Int) = m
    · subst hl
      have e0 : ((To.length : Int) != (To.length : Int)) = false := by simp
      have TO := hide (fun (W : World) (d : Below W0.heap.size W0 W) => of81_any a0 c0 K To W (by omega) (readsI_of ((hTo.out.on HD.out.1).on d)) (by omega))
      have HQ : Hid (okI K To = true → ¬ To.length ≤ cnt K (setI K To)) := hide (fun h q => by
        unfold wideOk at ew
        rw [hk, Int.toNat_natCast, h] at ew
        simp [q] at ew)
      go_upto_region 7 with (first
        | (go_at_call 22; refine T1.mono ?_; rintro e w1 ⟨rfl, d1⟩; have H1 := hide (And.intro d1 (blk_on HD.out.2.1 d1)); have z1 : w1.cell? ⟨w.heap.size, 1, none⟩ = some (.int .i64 (To.length : Int)) := cell_of H1.out.2 rfl)
        | (go_at_call 63; refine (within_any _ _ _).mono ?_; rintro e w2 ⟨rfl, hw⟩; obtain rfl := hw.symm)
        | (go_at_call 69; refine (TO.out _ H1.out.1).mono ?_; rintro e w3 (⟨hok, b, g, cap, rfl, hs, _, _, _, d3⟩ | ⟨hok, rfl, d3⟩)))
      · have HS := hide (And.intro hs (And.intro (HQ.out hok) d3))
        clear hs d3
        have qc : Hid (cnt K (setI K To) < To.length) := hide (by have := HS.out.2.1; omega)
        obtain ⟨q, hq⟩ : ∃ q, cnt K (setI K To) = q := ⟨_, rfl⟩
        have TC := count_any b g cap K (setI K To) w3 HS.out.1
        rw [hq] at TC qc
        have qi : (q : Int) < (To.length : Int) := by have := qc.out; omega
        go_upto_region 8 with (go_at_call 70; refine TC.mono ?_; rintro e w4 ⟨rfl, hw⟩; obtain rfl := hw.symm)
        have F3 := blk_on HD.out.2.2.1 (H1.out.1.trans (HS.out.2.2.mono H1.out.1.size))
        have o0 : w3.cell? ⟨w.heap.size + 1, 0, none⟩ = some (.int .i64 0) := cell_of F3 rfl
        have f0 : w3.frozen? ⟨w.heap.size + 1, 0, none⟩ = false := fz_of F3
        have o1 : w3.cell? ⟨w.heap.size + 1, 1, none⟩ = some (.int .i64 0) := cell_of F3 rfl
        have f1 : w3.frozen? ⟨w.heap.size + 1, 1, none⟩ = false := fz_of F3
        have o2 : w3.cell? ⟨w.heap.size + 1, 2, none⟩ = some (.slice none 0 0) := cell_of F3 rfl
        have f2 : w3.frozen? ⟨w.heap.size + 1, 2, none⟩ = false := fz_of F3
        have o3 : w3.cell? ⟨w.heap.size + 1, 3, none⟩ = some (.slice none 0 0) := cell_of F3 rfl
        have f3 : w3.frozen? ⟨w.heap.size + 1, 3, none⟩ = false := fz_of F3
        have o4 : w3.cell? ⟨w.heap.size + 1, 4, none⟩ = some (.slice none 0 0) := cell_of F3 rfl
        have f4 : w3.frozen? ⟨w.heap.size + 1, 4, none⟩ = false := fz_of F3
        have O6 := hide (And.intro (set5 w3 (w.heap.size + 1) _ _ _ _ _ (.int .i64 0) (.int .i64 0) (.slice none 0 0) (.slice none 0 0) (.slice none 0 0) 25 F3) (only5 w3 (w.heap.size + 1) (.int .i64 0) (.int .i64 0) (.slice none 0 0) (.slice none 0 0) (.slice none 0 0)))
        have D1 := hide ((H1.out.1.trans (HS.out.2.2.mono H1.out.1.size)))
        clear F3
        go_wp2_with fail
        refine bodyPost_ret (results_c1 (p := 6) (q := 7) (ty := 25) rfl _ _ (w.heap.size + 1) 25 _ (0, 0) _ _ rfl rfl O6.out.1 Tryz.underlying25 rfl (by kernel_rfl)) rfl ?_
        have z0 := HD.out.2.2.2
        have z1 := D1.out.size
        exact ⟨rfl, (HD.out.1.trans (D1.out.mono (by omega))).trans (O6.out.2.toBelow (by omega) (fun k hk => by omega))⟩
      · go_upto_region 8 with fail
        have F3 := blk_on HD.out.2.2.1 (H1.out.1.trans (d3.mono H1.out.1.size))
        have o0 : w3.cell? ⟨w.heap.size + 1, 0, none⟩ = some (.int .i64 0) := cell_of F3 rfl
        have f0 : w3.frozen? ⟨w.heap.size + 1, 0, none⟩ = false := fz_of F3
        have o1 : w3.cell? ⟨w.heap.size + 1, 1, none⟩ = some (.int .i64 0) := cell_of F3 rfl
        have f1 : w3.frozen? ⟨w.heap.size + 1, 1, none⟩ = false := fz_of F3
        have o2 : w3.cell? ⟨w.heap.size + 1, 2, none⟩ = some (.slice none 0 0) := cell_of F3 rfl
        have f2 : w3.frozen? ⟨w.heap.size + 1, 2, none⟩ = false := fz_of F3
        have o3 : w3.cell? ⟨w.heap.size + 1, 3, none⟩ = some (.slice none 0 0) := cell_of F3 rfl
        have f3 : w3.frozen? ⟨w.heap.size + 1, 3, none⟩ = false := fz_of F3
        have o4 : w3.cell? ⟨w.heap.size + 1, 4, none⟩ = some (.slice none 0 0) := cell_of F3 rfl
        have f4 : w3.frozen? ⟨w.heap.size + 1, 4, none⟩ = false := fz_of F3
        have O6 := hide (And.intro (set5 w3 (w.heap.size + 1) _ _ _ _ _ (.int .i64 0) (.int .i64 0) (.slice none 0 0) (.slice none 0 0) (.slice none 0 0) 25 F3) (only5 w3 (w.heap.size + 1) (.int .i64 0) (.int .i64 0) (.slice none 0 0) (.slice none 0 0) (.slice none 0 0)))
        have D1 := hide ((H1.out.1.trans (d3.mono H1.out.1.size)))
        clear F3
        go_wp2_with fail
        refine bodyPost_ret (results_c1 (p := 6) (q := 7) (ty := 25) rfl _ _ (w.heap.size + 1) 25 _ (0, 0) _ _ rfl rfl O6.out.1 Tryz.underlying25 rfl (by kernel_rfl)) rfl ?_
        have z0 := HD.out.2.2.2
        have z1 := D1.out.size
        exact ⟨rfl, (HD.out.1.trans (D1.out.mono (by omega))).trans (O6.out.2.toBelow (by omega) (fun k hk => by omega))⟩
    · have e0 : ((To.length : Int) != m) = true := by simpa using hl
      go_upto_region 5 with (first
        | (go_at_call 22; refine T1.mono ?_; rintro e w1 ⟨rfl, d1⟩; have z1 : w1.cell? ⟨w.heap.size, 1, none⟩ = some (.int .i64 m) := cell_of (blk_on HD.out.2.1 d1) rfl)
        | (go_at_call 63; refine (within_any _ _ _).mono ?_; rintro e w2 ⟨rfl, hw⟩; obtain rfl := hw.symm))
      have F3 := blk_on HD.out.2.2.1 d1
      have o0 : w1.cell? ⟨w.heap.size + 1, 0, none⟩ = some (.int .i64 0) := cell_of F3 rfl
      have f0 : w1.frozen? ⟨w.heap.size + 1, 0, none⟩ = false := fz_of F3
      have o1 : w1.cell? ⟨w.heap.size + 1, 1, none⟩ = some (.int .i64 0) := cell_of F3 rfl
      have f1 : w1.frozen? ⟨w.heap.size + 1, 1, none⟩ = false := fz_of F3
      have o2 : w1.cell? ⟨w.heap.size + 1, 2, none⟩ = some (.slice none 0 0) := cell_of F3 rfl
      have f2 : w1.frozen? ⟨w.heap.size + 1, 2, none⟩ = false := fz_of F3
      have o3 : w1.cell? ⟨w.heap.size + 1, 3, none⟩ = some (.slice none 0 0) := cell_of F3 rfl
      have f3 : w1.frozen? ⟨w.heap.size + 1, 3, none⟩ = false := fz_of F3
      have o4 : w1.cell? ⟨w.heap.size + 1, 4, none⟩ = some (.slice none 0 0) := cell_of F3 rfl
      have f4 : w1.frozen? ⟨w.heap.size + 1, 4, none⟩ = false := fz_of F3
      have O6 := hide (And.intro (set5 w1 (w.heap.size + 1) _ _ _ _ _ (.int .i64 0) (.int .i64 0) (.slice none 0 0) (.slice none 0 0) (.slice none 0 0) 25 F3) (only5 w1 (w.heap.size + 1) (.int .i64 0) (.int .i64 0) (.slice none 0 0) (.slice none 0 0) (.slice none 0 0)))
      have D1 := hide (d1)
      clear F3
      go_wp2_with fail
      refine bodyPost_ret (results_c1 (p := 6) (q := 7) (ty := 25) rfl _ _ (w.heap.size + 1) 25 _ (0, 0) _ _ rfl rfl O6.out.1 Tryz.underlying25 rfl (by kernel_rfl)) rfl ?_
      have z0 := HD.out.2.2.2
      have z1 := D1.out.size
      exact ⟨rfl, (HD.out.1.trans (D1.out.mono (by omega))).trans (O6.out.2.toBelow (by omega) (fun k hk => by omega))⟩
set_option maxRecDepth 100000 in
set_option maxHeartbeats 2000000 in
theorem widen_ok (w : World) (n m k : Int) (a1 a2 a3 a0 : Option Addr) (c1 c2 c3 c0 : Nat) (St Fi To : List Int) (Ed : List EdT) (hA : Hid (RdA w a1 a2 a3 St Fi Ed)) (hTo : Hid (RdN w a0 To)) (h1 : St.length ≤ 4194304) (h2 : Fi.length ≤ 4194304) (h3 : Ed.length ≤ 4194304) (h4 : To.length ≤ 4194304) (em : mayA n m St Fi Ed = true) (ew : wideOk m k To = true) :
    Calls Tryz.prog 29 #[.agg #[.int .i64 n, .int .i64 m, .slice a1 St.length c1, .slice a2 Fi.length c2, .slice a3 Ed.length c3], .int .i64 k, .slice a0 To.length c0] w fun e w' => ∃ g1 k1 g2 k2 g3 k3, e = .returned (.tuple #[.agg #[.int .i64 n, .int .i64 k, .slice (some ⟨g1, 0, none⟩) (riseL St).length k1, .slice (some ⟨g2, 0, none⟩) (riseL Fi).length k2, .slice (some ⟨g3, 0, none⟩) (riseE (rlEs To Ed)).length k3], .int .i64 0]) ∧ Own w.heap.size w' g1 k1 g2 k2 g3 k3 (riseL St) (riseL Fi) (riseE (rlEs To Ed)) ∧ Below w.heap.size w w' := by
  obtain ⟨W0, hW0⟩ : ∃ W0, (w.alloc (.cells #[.int .i64 n, .int .i64 m, .slice a1 St.length c1, .slice a2 Fi.length c2, .slice a3 Ed.length c3] 25)).alloc (.cells #[.int .i64 0, .int .i64 0, .slice none 0 0, .slice none 0 0, .slice none 0 0] 25) = W0 := ⟨_, rfl⟩
  have HD := hide (box2 w #[.int .i64 n, .int .i64 m, .slice a1 St.length c1, .slice a2 Fi.length c2, .slice a3 Ed.length c3] #[.int .i64 0, .int .i64 0, .slice none 0 0, .slice none 0 0, .slice none 0 0] 25)
  rw [hW0] at HD
  have B0 := HD.out.2.1
  have T1 := valid_any W0 n m a1 a2 a3 c1 c2 c3 St Fi Ed (hide (hA.out.on HD.out.1)) h1 h2 h3
  have k0 : W0.cell? ⟨w.heap.size, 0, none⟩ = some (.int .i64 n) := cell_of B0 rfl
  have k1 : W0.cell? ⟨w.heap.size, 1, none⟩ = some (.int .i64 m) := cell_of B0 rfl
  have k2 : W0.cell? ⟨w.heap.size, 2, none⟩ = some (.slice a1 St.length c1) := cell_of B0 rfl
  have k3 : W0.cell? ⟨w.heap.size, 3, none⟩ = some (.slice a2 Fi.length c2) := cell_of B0 rfl
  have k4 : W0.cell? ⟨w.heap.size, 4, none⟩ = some (.slice a3 Ed.length c3) := cell_of B0 rfl
  clear B0
  have HM := hide (may_parts em)
  rw [em] at T1
  have T1 : Calls Tryz.prog 22 #[.agg #[.int .i64 n, .int .i64 m, .slice a1 St.length c1, .slice a2 Fi.length c2, .slice a3 Ed.length c3]] W0 fun e w' => e = .returned (.int .i64 0) ∧ Below W0.heap.size W0 w' := T1
  have hw4 := ew
  unfold wideOk at hw4
  simp only [Bool.and_eq_true, decide_eq_true_eq] at hw4
  obtain ⟨⟨⟨hk, hl⟩, hok⟩, hc⟩ := hw4
  have hm0 : 0 ≤ k ∧ k < 129 := inB_iff.1 hk
  obtain ⟨K, rfl⟩ : ∃ K : Nat, k = (K : Int) := ⟨k.toNat, by omega⟩
  rw [Int.toNat_natCast] at hok hc
  subst hl
  have e0 : ((To.length : Int) != (To.length : Int)) = false := by simp
  have HQ : Hid (okI K To = true ∧ To.length ≤ cnt K (setI K To)) := hide ⟨hok, hc⟩
  have TO : Hid (∀ (W : World), Below W0.heap.size W0 W → Calls Tryz.prog 69 #[.int .i64 K, .slice a0 To.length c0] W fun e w' => ∃ b g cap, e = .returned (.tuple #[.pointer (some ⟨b, 0, none⟩), .int .i64 0]) ∧ IsSet w' b g cap K (setI K To) ∧ Below W.heap.size W w') := hide (fun W d => by
    refine (of81_any a0 c0 K To W (by omega) (readsI_of ((hTo.out.on HD.out.1).on d)) (by omega)).mono ?_
    rintro e w' (⟨_, b, g, cap, he, hs, _, _, _, dd⟩ | ⟨hno, _, _⟩)
    · exact ⟨b, g, cap, he, hs, dd⟩
    · rw [HQ.out.1] at hno; cases hno)
  have T2 := hide (fun (W : World) (d : Below W0.heap.size W0 W) => relabelled_any W n (To.length : Int) (K : Int) a1 a2 a3 a0 c1 c2 c3 c0 St Fi To Ed (hide ((hA.out.on HD.out.1).on d)) (hide ((hTo.out.on HD.out.1).on d)) (hide fun e he => (HM.out.2.2.2.2.2 e he).2.1) h1 h2 h3)
  generalize riseL St = S1 at T2 ⊢
  generalize riseL Fi = F1 at T2 ⊢
  generalize riseE (rlEs To Ed) = E1 at T2 ⊢
  clear hok hc ew
  go_enter Tryz.func29, Tryz.ntmps29
  go_upto_region 7 with (first
    | (go_at_call 22; refine T1.mono ?_; rintro e w1 ⟨rfl, d1⟩; have H1 := hide (And.intro d1 (blk_on HD.out.2.1 d1)); have z1 : w1.cell? ⟨w.heap.size, 1, none⟩ = some (.int .i64 (To.length : Int)) := cell_of H1.out.2 rfl; clear d1)
    | (go_at_call 63; refine (within_any _ _ _).mono ?_; rintro e w2 ⟨rfl, hw⟩; obtain rfl := hw.symm; rw [hk])
    | (go_at_call 69; refine (TO.out _ H1.out.1).mono ?_; rintro e w3 ⟨b, g, cap, rfl, hs, d3⟩))
  have H3 := hide (And.intro hs (And.intro d3 (H1.out.1.trans (d3.mono H1.out.1.size))))
  clear hs d3 z1
  obtain ⟨q, hq⟩ : ∃ q, cnt K (setI K To) = q := ⟨_, rfl⟩
  have TC := count_any b g cap K (setI K To) w3 H3.out.1
  have qc := HQ.out.2
  rw [hq] at TC qc
  have qi : ¬ (q : Int) < (To.length : Int) := by omega
  go_upto_region 9 with (go_at_call 70; refine TC.mono ?_; rintro e w4 ⟨rfl, hw⟩; obtain rfl := hw.symm)
  have B1 := blk_on HD.out.2.1 H3.out.2.2
  have HF := hide (blk_on HD.out.2.2.1 H3.out.2.2)
  have y0 : w3.cell? ⟨w.heap.size, 0, none⟩ = some (.int .i64 n) := cell_of B1 rfl
  have y1 : w3.cell? ⟨w.heap.size, 1, none⟩ = some (.int .i64 (To.length : Int)) := cell_of B1 rfl
  have y2 : w3.cell? ⟨w.heap.size, 2, none⟩ = some (.slice a1 St.length c1) := cell_of B1 rfl
  have y3 : w3.cell? ⟨w.heap.size, 3, none⟩ = some (.slice a2 Fi.length c2) := cell_of B1 rfl
  have y4 : w3.cell? ⟨w.heap.size, 4, none⟩ = some (.slice a3 Ed.length c3) := cell_of B1 rfl
  clear k0 k1 k2 k3 k4 B1 T1 hA TC qi
  go_wp2_with (go_at_call 71; refine (T2.out w3 H3.out.2.2).mono ?_; rintro e w2 ⟨g1, k1, g2, k2, g3, k3, rfl, hO, d2⟩; have F3 := blk_on HF.out d2; have o0 : w2.cell? ⟨w.heap.size + 1, 0, none⟩ = some (.int .i64 0) := cell_of F3 rfl; have f0 : w2.frozen? ⟨w.heap.size + 1, 0, none⟩ = false := fz_of F3; have o1 : w2.cell? ⟨w.heap.size + 1, 1, none⟩ = some (.int .i64 0) := cell_of F3 rfl; have f1 : w2.frozen? ⟨w.heap.size + 1, 1, none⟩ = false := fz_of F3; have o2 : w2.cell? ⟨w.heap.size + 1, 2, none⟩ = some (.slice none 0 0) := cell_of F3 rfl; have f2 : w2.frozen? ⟨w.heap.size + 1, 2, none⟩ = false := fz_of F3; have o3 : w2.cell? ⟨w.heap.size + 1, 3, none⟩ = some (.slice none 0 0) := cell_of F3 rfl; have f3 : w2.frozen? ⟨w.heap.size + 1, 3, none⟩ = false := fz_of F3; have o4 : w2.cell? ⟨w.heap.size + 1, 4, none⟩ = some (.slice none 0 0) := cell_of F3 rfl; have f4 : w2.frozen? ⟨w.heap.size + 1, 4, none⟩ = false := fz_of F3; have H2 := hide (And.intro hO (And.intro d2 F3)); clear hO d2 F3)
  have O6 := hide (And.intro (set5 w2 (w.heap.size + 1) _ _ _ _ _ (.int .i64 n) (.int .i64 (K : Int)) (.slice (some ⟨g1, 0, none⟩) S1.length k1) (.slice (some ⟨g2, 0, none⟩) F1.length k2) (.slice (some ⟨g3, 0, none⟩) E1.length k3) 25 H2.out.2.2) (only5 w2 (w.heap.size + 1) (.int .i64 n) (.int .i64 (K : Int)) (.slice (some ⟨g1, 0, none⟩) S1.length k1) (.slice (some ⟨g2, 0, none⟩) F1.length k2) (.slice (some ⟨g3, 0, none⟩) E1.length k3)))
  refine bodyPost_ret (results_c1 (p := 6) (q := 7) (ty := 25) rfl _ _ (w.heap.size + 1) 25 _ (0, 0) _ _ rfl rfl O6.out.1 Tryz.underlying25 rfl (by kernel_rfl)) rfl ?_
  have z0 := HD.out.2.2.2
  have z1 := H3.out.2.2.size
  have z2 := H2.out.2.1.size
  obtain ⟨o1, o2, o3, n1, n2, n3⟩ := H2.out.1
  have q1 := own_at o1
  have q2 := own_at o2
  have q3 := own_at o3
  refine ⟨g1, k1, g2, k2, g3, k3, rfl, ⟨own_only (ownsRow_base (base := w3.heap.size) o1 (by omega)) O6.out.2 (by omega), own_only (ownsRow_base (base := w3.heap.size) o2 (by omega)) O6.out.2 (by omega), own_only (ownsRow_base (base := w3.heap.size) o3 (by omega)) O6.out.2 (by omega), n1, n2, n3⟩, ?_⟩
  exact ((HD.out.1.trans (H3.out.2.2.mono (by omega))).trans (H2.out.2.1.mono (by omega))).trans (O6.out.2.toBelow (by omega) (fun k hk => by omega))
end Go.Proofs.YtfoahpideglghaaGreatDoor
namespace Go.Proofs.YtfoahpideglghaaGreatDoor
open Go.RowKit Go.Maps Go.Shelf

/-! ### Two automata in order, two boxes for them -/
theorem undrew2 {B : Nat} {X w : World} (d : Below B w X.drew) : Below B w X := ⟨d.os, d.tape, d.output, d.size, d.block⟩
structure Pre (W0 F : World) (p q : Nat) (g1 k1 g2 k2 g3 k3 h1 c1 h2 c2 h3 c3 : Nat) (S T : List Int) (E : List EdT) (S' T' : List Int) (E' : List EdT) : Prop where
  zp : F.heap[p]? = some (.cells #[.int .i64 0, .int .i64 0, .slice none 0 0, .slice none 0 0, .slice none 0 0] 25 (0, 0))
  zq : F.heap[q]? = some (.cells #[.int .i64 0, .int .i64 0, .slice none 0 0, .slice none 0 0, .slice none 0 0] 25 (0, 0))
  ne : p ≠ q
  o1 : Own W0.heap.size F g1 k1 g2 k2 g3 k3 S T E
  o2 : Own W0.heap.size F h1 c1 h2 c2 h3 c3 S' T' E'
  lt : ∃ C, g1 < C ∧ g2 < C ∧ g3 < C ∧ C ≤ h1 ∧ C ≤ h2 ∧ C ≤ h3
  np : (g1 ≠ p ∧ g2 ≠ p ∧ g3 ≠ p) ∧ h1 ≠ p ∧ h2 ≠ p ∧ h3 ≠ p
  nq : (g1 ≠ q ∧ g2 ≠ q ∧ g3 ≠ q) ∧ h1 ≠ q ∧ h2 ≠ q ∧ h3 ≠ q
  d : Below W0.heap.size W0 F
  lp : W0.heap.size ≤ p ∧ W0.heap.size ≤ q
theorem Own.on {B C : Nat} {w w' : World} {g1 k1 g2 k2 g3 k3 : Nat} {S F : List Int} {E : List EdT} (h : Own C w g1 k1 g2 k2 g3 k3 S F E) (hB : B ≤ C) (d : Below w.heap.size w w') : Own B w' g1 k1 g2 k2 g3 k3 S F E :=
  ⟨owns_down (own_on h.s d (own_at h.s).2) hB, owns_down (own_on h.f d (own_at h.f).2) hB, owns_down (own_on h.e d (own_at h.e).2) hB, h.n12, h.n13, h.n23⟩
theorem Own.only {B q : Nat} {w w' : World} {g1 k1 g2 k2 g3 k3 : Nat} {S F : List Int} {E : List EdT} (h : Own B w g1 k1 g2 k2 g3 k3 S F E) (o : Only w w' (fun k => k = q)) (hq : g1 ≠ q ∧ g2 ≠ q ∧ g3 ≠ q) : Own B w' g1 k1 g2 k2 g3 k3 S F E :=
  ⟨own_only h.s o hq.1, own_only h.f o hq.2.1, own_only h.e o hq.2.2, h.n12, h.n13, h.n23⟩
theorem Own.rd {B : Nat} {w : World} {g1 k1 g2 k2 g3 k3 : Nat} {S F : List Int} {E : List EdT} (h : Own B w g1 k1 g2 k2 g3 k3 S F E) : RdA w (some ⟨g1, 0, none⟩) (some ⟨g2, 0, none⟩) (some ⟨g3, 0, none⟩) S F E := ⟨rdN_own h.s (List.prefix_refl _), rdN_own h.f (List.prefix_refl _), rdE_own h.e⟩
section
variable {W0 W Wc wa Wd wb F : World} {p q g1 k1 g2 k2 g3 k3 h1 c1 h2 c2 h3 c3 : Nat} {S T : List Int} {E : List EdT} {S' T' : List Int} {E' : List EdT}
theorem zero_cells {F : World} {p : Nat} (h : F.heap[p]? = some (.cells #[.int .i64 0, .int .i64 0, .slice none 0 0, .slice none 0 0, .slice none 0 0] 25 (0, 0))) : (F.cell? ⟨p, 0, none⟩ = some (.int .i64 0) ∧ F.cell? ⟨p, 1, none⟩ = some (.int .i64 0) ∧ F.cell? ⟨p, 2, none⟩ = some (.slice none 0 0) ∧ F.cell? ⟨p, 3, none⟩ = some (.slice none 0 0) ∧ F.cell? ⟨p, 4, none⟩ = some (.slice none 0 0)) ∧ F.frozen? ⟨p, 0, none⟩ = false ∧ F.frozen? ⟨p, 1, none⟩ = false ∧ F.frozen? ⟨p, 2, none⟩ = false ∧ F.frozen? ⟨p, 3, none⟩ = false ∧ F.frozen? ⟨p, 4, none⟩ = false :=
  ⟨⟨cell_of h rfl, cell_of h rfl, cell_of h rfl, cell_of h rfl, cell_of h rfl⟩, fz_of h, fz_of h, fz_of h, fz_of h, fz_of h⟩
theorem Pre.zq1 (h : Pre W0 F p q g1 k1 g2 k2 g3 k3 h1 c1 h2 c2 h3 c3 S T E S' T' E') (n m : Int) : (((((F.setCell ⟨p, 0, none⟩ (.int .i64 n)).setCell ⟨p, 1, none⟩ (.int .i64 m)).setCell ⟨p, 2, none⟩ (.slice (some ⟨g1, 0, none⟩) S.length k1)).setCell ⟨p, 3, none⟩ (.slice (some ⟨g2, 0, none⟩) T.length k2)).setCell ⟨p, 4, none⟩ (.slice (some ⟨g3, 0, none⟩) E.length k3)).heap[q]? = some (.cells #[.int .i64 0, .int .i64 0, .slice none 0 0, .slice none 0 0, .slice none 0 0] 25 (0, 0)) :=
  (only5 F p (.int .i64 n) (.int .i64 m) (.slice (some ⟨g1, 0, none⟩) S.length k1) (.slice (some ⟨g2, 0, none⟩) T.length k2) (.slice (some ⟨g3, 0, none⟩) E.length k3)).cellK h.zq h.ne.symm
/-- Both lie in their boxes. -/
structure Lai (W0 W : World) (p q : Nat) (n m n' m' : Int) (g1 k1 g2 k2 g3 k3 h1 c1 h2 c2 h3 c3 : Nat) (S T : List Int) (E : List EdT) (S' T' : List Int) (E' : List EdT) : Prop where
  bp : W.heap[p]? = some (.cells #[.int .i64 n, .int .i64 m, .slice (some ⟨g1, 0, none⟩) S.length k1, .slice (some ⟨g2, 0, none⟩) T.length k2, .slice (some ⟨g3, 0, none⟩) E.length k3] 25 (0, 0))
  bq : W.heap[q]? = some (.cells #[.int .i64 n', .int .i64 m', .slice (some ⟨h1, 0, none⟩) S'.length c1, .slice (some ⟨h2, 0, none⟩) T'.length c2, .slice (some ⟨h3, 0, none⟩) E'.length c3] 25 (0, 0))
  o1 : Own W0.heap.size W g1 k1 g2 k2 g3 k3 S T E
  o2 : Own W0.heap.size W h1 c1 h2 c2 h3 c3 S' T' E'
  lt : ∃ C, g1 < C ∧ g2 < C ∧ g3 < C ∧ C ≤ h1 ∧ C ≤ h2 ∧ C ≤ h3
  d : Below W0.heap.size W0 W
  lp : W0.heap.size ≤ p ∧ W0.heap.size ≤ q
theorem Pre.lai (h : Pre W0 F p q g1 k1 g2 k2 g3 k3 h1 c1 h2 c2 h3 c3 S T E S' T' E') (n m n' m' : Int) : Lai W0 ((((((((((F.setCell ⟨p, 0, none⟩ (.int .i64 n)).setCell ⟨p, 1, none⟩ (.int .i64 m)).setCell ⟨p, 2, none⟩ (.slice (some ⟨g1, 0, none⟩) S.length k1)).setCell ⟨p, 3, none⟩ (.slice (some ⟨g2, 0, none⟩) T.length k2)).setCell ⟨p, 4, none⟩ (.slice (some ⟨g3, 0, none⟩) E.length k3)).setCell ⟨q, 0, none⟩ (.int .i64 n')).setCell ⟨q, 1, none⟩ (.int .i64 m')).setCell ⟨q, 2, none⟩ (.slice (some ⟨h1, 0, none⟩) S'.length c1)).setCell ⟨q, 3, none⟩ (.slice (some ⟨h2, 0, none⟩) T'.length c2)).setCell ⟨q, 4, none⟩ (.slice (some ⟨h3, 0, none⟩) E'.length c3)) p q n m n' m' g1 k1 g2 k2 g3 k3 h1 c1 h2 c2 h3 c3 S T E S' T' E' := by
  have s1 := set5 F p _ _ _ _ _ (.int .i64 n) (.int .i64 m) (.slice (some ⟨g1, 0, none⟩) S.length k1) (.slice (some ⟨g2, 0, none⟩) T.length k2) (.slice (some ⟨g3, 0, none⟩) E.length k3) 25 h.zp
  have e1 := only5 F p (.int .i64 n) (.int .i64 m) (.slice (some ⟨g1, 0, none⟩) S.length k1) (.slice (some ⟨g2, 0, none⟩) T.length k2) (.slice (some ⟨g3, 0, none⟩) E.length k3)
  obtain ⟨G, hG⟩ : ∃ G, ((((F.setCell ⟨p, 0, none⟩ (.int .i64 n)).setCell ⟨p, 1, none⟩ (.int .i64 m)).setCell ⟨p, 2, none⟩ (.slice (some ⟨g1, 0, none⟩) S.length k1)).setCell ⟨p, 3, none⟩ (.slice (some ⟨g2, 0, none⟩) T.length k2)).setCell ⟨p, 4, none⟩ (.slice (some ⟨g3, 0, none⟩) E.length k3) = G := ⟨_, rfl⟩
  rw [hG] at s1 e1 ⊢
  have zq := e1.cellK h.zq h.ne.symm
  have s2 := set5 G q _ _ _ _ _ (.int .i64 n') (.int .i64 m') (.slice (some ⟨h1, 0, none⟩) S'.length c1) (.slice (some ⟨h2, 0, none⟩) T'.length c2) (.slice (some ⟨h3, 0, none⟩) E'.length c3) 25 zq
  have e2 := only5 G q (.int .i64 n') (.int .i64 m') (.slice (some ⟨h1, 0, none⟩) S'.length c1) (.slice (some ⟨h2, 0, none⟩) T'.length c2) (.slice (some ⟨h3, 0, none⟩) E'.length c3)
  have hp := h.lp
  have hs := h.d.size
  have hs2 := e1.size
  exact ⟨e2.cellK s1 h.ne, s2, (h.o1.only e1 h.np.1).only e2 h.nq.1, (h.o2.only e1 h.np.2).only e2 h.nq.2, h.lt, (h.d.trans (e1.toBelow hs (fun k hk => by omega))).trans (e2.toBelow (by omega) (fun k hk => by omega)), h.lp⟩
end
end Go.Proofs.YtfoahpideglghaaGreatDoor
