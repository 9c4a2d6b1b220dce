import Derived.Test.YtfoahpideglghaaGreatDoorLH
import Derived.Test.YtfoahpideglghaaGreatDoorMw
import Derived.Test.YtfoahpideglghaaGreatDoorRs
namespace Go.Proofs.YtfoahpideglghaaGreatDoor
open Go.RowKit Go.Maps Go.Shelf
attribute [local go_sem] Oper.semAt_some

/-! ### Lists written over where they lie -/
/-- The first i entries turned, the others as they were. -/
def mixG {α : Type} (f : α → α) (L : List α) (i : Nat) : List α := (L.take i).map f ++ L.drop i
theorem mixG_len {α : Type} (f : α → α) (L : List α) (i : Nat) : (mixG f L i).length = L.length := by simp [mixG]; omega
theorem mixG_zero {α : Type} (f : α → α) (L : List α) : mixG f L 0 = L := by simp [mixG]
theorem mixG_full {α : Type} (f : α → α) (L : List α) : mixG f L L.length = L.map f := by simp [mixG]
theorem mixG_get {α : Type} (f : α → α) (L : List α) (i : Nat) (h : i < L.length) : (mixG f L i)[i]? = some L[i] := by
  unfold mixG
  rw [List.getElem?_append_right (by simp; omega)]
  simp [List.length_take, Nat.min_eq_left (Nat.le_of_lt h)]
theorem mixG_set {α : Type} (f : α → α) (L : List α) (i : Nat) (h : i < L.length) : (mixG f L i).set i (f L[i]) = mixG f L (i + 1) := by
  unfold mixG
  have hl : ((L.take i).map f).length = i := by simp; omega
  rw [List.drop_eq_getElem_cons h, List.set_append_right _ _ (by omega), hl, Nat.sub_self, List.set_cons_zero, ← List.take_append_getElem h, List.map_append, List.append_assoc]
  rfl
theorem row1_set {W : World} {B b n cap : Nat} {e : TypeId} {xs : List Value} (h : W.ownsRow B e 1 (.slice (some ⟨b, 0, none⟩) n cap) n xs) (j : Nat) (u : Value) :
    (W.setCell ⟨b, j, none⟩ u).ownsRow B e 1 (.slice (some ⟨b, 0, none⟩) n cap) n (xs.set j u) := by
  refine ⟨by rw [List.length_set]; exact h.1, ?_⟩
  rcases h.2 with ⟨z, _⟩ | ⟨g, cap', cur, e1, hb, hg, hn, hc, hs, ht⟩
  · cases z
  · cases e1
    refine .inr ⟨b, cap, _, rfl, hb, heap_setCell_same _ _ _ _ e _ hg, hn, hc, by simpa using hs, ?_⟩
    rw [← ht, Array.toList_setIfInBounds, List.take_set]
theorem flatE_len (X : List EdT) : (X.flatMap encE).length = X.length * 3 := by
  induction X with
  | nil => rfl
  | cons x X ih => rw [List.flatMap_cons, List.length_append, ih, encE_len, List.length_cons]; omega
theorem flatE_at (X : List EdT) (t : Nat) (h : t / 3 < X.length) : (X.flatMap encE)[t]? = (encE X[t / 3])[t % 3]? := by
  have := flat_get encE 3 encE_len X (t / 3) (t % 3) h (by omega)
  rwa [show t / 3 * 3 + t % 3 = t by omega] at this
theorem flatE_none (X : List EdT) (t : Nat) (h : ¬ t / 3 < X.length) : (X.flatMap encE)[t]? = none := List.getElem?_eq_none (by rw [flatE_len]; omega)
theorem own_fz {W : World} {B g c n : Nat} {e : TypeId} {sz : Nat} {xs : List Value} (h : W.ownsRow B e sz (.slice (some ⟨g, 0, none⟩) n c) n xs) (j : Nat) : W.frozen? ⟨g, j, none⟩ = false := by
  rcases h.2 with ⟨z, _⟩ | ⟨g', cap', cur, e1, hb, hg, hn, hc, hs, ht⟩
  · cases z
  · cases e1
    exact fz_of hg
theorem own_get {W : World} {B g c n : Nat} {e : TypeId} {sz : Nat} {xs : List Value} (h : W.ownsRow B e sz (.slice (some ⟨g, 0, none⟩) n c) n xs) {j : Nat} {u : Value} (hu : xs[j]? = some u) : W.cell? ⟨g, j, none⟩ = some u := by
  have := h.cells (g := g) rfl j u hu
  rw [Addr.add_lit] at this
  simpa using this
theorem Only.cellK {w w' : World} {R : Nat → Prop} (h : Only w w' R) {b : Nat} {o : Obj} (hb : w.heap[b]? = some o) (hn : ¬ R b) : w'.heap[b]? = some o := (h.block b (Array.getElem?_eq_some_iff.1 hb).1 hn).trans hb

/-- What beside holds while it writes over the second automaton's lists. -/
structure BeI (W0 : World) (B : Nat) (na : Int) (h1 c1 h2 c2 h3 c3 : Nat) (S F : List Int) (E : List EdT) (i j l : Nat) (W : World) : Prop where
  o : Only W0 W (fun k => k = h1 ∨ k = h2 ∨ k = h3)
  s : W.ownsRow B 3 1 (.slice (some ⟨h1, 0, none⟩) S.length c1) S.length ((mixG (· + na) S i).map (Value.int .i64))
  f : W.ownsRow B 3 1 (.slice (some ⟨h2, 0, none⟩) F.length c2) F.length ((mixG (· + na) F j).map (Value.int .i64))
  e : W.ownsRow B 59 3 (.slice (some ⟨h3, 0, none⟩) E.length c3) E.length ((mixG (shE na) E l).flatMap encE)
  n12 : h1 ≠ h2
  n13 : h1 ≠ h3
  n23 : h2 ≠ h3
section
variable {W0 W : World} {B : Nat} {na : Int} {h1 c1 h2 c2 h3 c3 : Nat} {S F : List Int} {E : List EdT} {i j l : Nat}
theorem BeI.alloc (h : BeI W0 B na h1 c1 h2 c2 h3 c3 S F E i j l W) (o : Obj) : BeI W0 B na h1 c1 h2 c2 h3 c3 S F E i j l (W.alloc o) :=
  ⟨h.o.trans (Only.ofBelow ((Below.refl _ _).alloc (Nat.le_refl _) _)), h.s.alloc o, h.f.alloc o, h.e.alloc o, h.n12, h.n13, h.n23⟩
end
theorem grown_blk {W W' : World} {b q : Nat} {o : Obj} (h : W.heap[b]? = some o) (hg : W.grownBy W' (some q)) (hne : b ≠ q) : W'.heap[b]? = some o :=
  (hg.block b (Array.getElem?_eq_some_iff.1 h).1 (by simp; exact hne)).trans h
/-- What beside holds behind its loops. -/
structure BeF (w : World) (B : Nat) (W : World) (v0 v1 v2 v3 v4 : Value) (bb : Array Value) : Prop where
  a : W.heap[w.heap.size]? = some (.cells #[v0, v1, v2, v3, v4] 25 (0, 0))
  b : W.heap[w.heap.size + 1]? = some (.cells bb 25 (0, 0))
  z : W.heap[w.heap.size + 1 + 1]? = some (.cells #[.int .i64 0, .int .i64 0, .slice none 0 0, .slice none 0 0, .slice none 0 0] 25 (0, 0))
  d : Below B w W
  le : w.heap.size + 3 ≤ W.heap.size
section
variable {w W W' : World} {B : Nat} {v0 v1 v2 v3 v4 : Value} {bb : Array Value}
theorem BeF.only (h : BeF w B W v0 v1 v2 v3 v4 bb) (i : Nat) (u : Value) (hB : B ≤ w.heap.size) : (W.setCell ⟨w.heap.size, i, none⟩ u).heap[w.heap.size + 1]? = some (.cells bb 25 (0, 0)) ∧ (W.setCell ⟨w.heap.size, i, none⟩ u).heap[w.heap.size + 1 + 1]? = some (.cells #[.int .i64 0, .int .i64 0, .slice none 0 0, .slice none 0 0, .slice none 0 0] 25 (0, 0)) ∧ Below B w (W.setCell ⟨w.heap.size, i, none⟩ u) ∧ w.heap.size + 3 ≤ (W.setCell ⟨w.heap.size, i, none⟩ u).heap.size := by
  have o := only_set W w.heap.size i u
  exact ⟨o.cellK h.b (by omega), o.cellK h.z (by omega), h.d.trans (o.toBelow (Nat.le_trans hB h.d.size) (fun k hk => by omega)), Nat.le_trans h.le o.size⟩
theorem BeF.grown (h : BeF w B W v0 v1 v2 v3 v4 bb) {q : Nat} (hg : W.grownBy W' (some q)) (hq : B ≤ q ∧ q < w.heap.size) : BeF w B W' v0 v1 v2 v3 v4 bb :=
  ⟨grown_blk h.a hg (by omega), grown_blk h.b hg (by omega), grown_blk h.z hg (by omega), h.d.grown hg (Nat.le_trans (Nat.le_trans hq.1 (Nat.le_of_lt hq.2)) h.d.size) (fun k hk => by cases hk; exact hq.1), Nat.le_trans h.le hg.size⟩
end
end Go.Proofs.YtfoahpideglghaaGreatDoor
namespace Go.Proofs.YtfoahpideglghaaGreatDoor
open Go.RowKit Go.Maps Go.Shelf
attribute [local go_sem] Oper.semAt_some

/-! ### An automaton over other symbols -/
end Go.Proofs.YtfoahpideglghaaGreatDoor
namespace Go.Proofs.YtfoahpideglghaaGreatDoor
open Go.RowKit Go.Maps Go.Shelf

/-! ### Two automata in order, two boxes for them -/
theorem al1 {W w' : World} {o : Obj} (d : Below (W.alloc o).heap.size (W.alloc o) w') : Below W.heap.size W w' := ((Below.refl _ W).alloc (Nat.le_refl _) o).trans (d.mono (by simp))
theorem zz1 {W w' : World} {o : Obj} (d : Below (W.alloc o).heap.size (W.alloc o) w') : w'.heap[W.heap.size]? = some o := (d.block _ (by simp)).trans (World.alloc_heap_new _ _)
theorem zz2 {W w' : World} {o p : Obj} (d : Below ((W.alloc o).alloc p).heap.size ((W.alloc o).alloc p) w') : w'.heap[W.heap.size]? = some o ∧ w'.heap[W.heap.size + 1]? = some p := by
  have q := zz1 (W := W.alloc o) d
  rw [World.size_alloc] at q
  exact ⟨zz1 (al1 d), q⟩
theorem undrew2 {B : Nat} {X w : World} (d : Below B w X.drew) : Below B w X := ⟨d.os, d.tape, d.output, d.size, d.block⟩
structure Pre (W0 F : World) (p q : Nat) (g1 k1 g2 k2 g3 k3 h1 c1 h2 c2 h3 c3 : Nat) (S T : List Int) (E : List EdT) (S' T' : List Int) (E' : List EdT) : Prop where
  zp : F.heap[p]? = some (.cells #[.int .i64 0, .int .i64 0, .slice none 0 0, .slice none 0 0, .slice none 0 0] 25 (0, 0))
  zq : F.heap[q]? = some (.cells #[.int .i64 0, .int .i64 0, .slice none 0 0, .slice none 0 0, .slice none 0 0] 25 (0, 0))
  ne : p ≠ q
  o1 : Own W0.heap.size F g1 k1 g2 k2 g3 k3 S T E
  o2 : Own W0.heap.size F h1 c1 h2 c2 h3 c3 S' T' E'
  lt : ∃ C, g1 < C ∧ g2 < C ∧ g3 < C ∧ C ≤ h1 ∧ C ≤ h2 ∧ C ≤ h3
  np : (g1 ≠ p ∧ g2 ≠ p ∧ g3 ≠ p) ∧ h1 ≠ p ∧ h2 ≠ p ∧ h3 ≠ p
  nq : (g1 ≠ q ∧ g2 ≠ q ∧ g3 ≠ q) ∧ h1 ≠ q ∧ h2 ≠ q ∧ h3 ≠ q
  d : Below W0.heap.size W0 F
  lp : W0.heap.size ≤ p ∧ W0.heap.size ≤ q
theorem Own.on {B C : Nat} {w w' : World} {g1 k1 g2 k2 g3 k3 : Nat} {S F : List Int} {E : List EdT} (h : Own C w g1 k1 g2 k2 g3 k3 S F E) (hB : B ≤ C) (d : Below w.heap.size w w') : Own B w' g1 k1 g2 k2 g3 k3 S F E :=
  ⟨owns_down (own_on h.s d (own_at h.s).2) hB, owns_down (own_on h.f d (own_at h.f).2) hB, owns_down (own_on h.e d (own_at h.e).2) hB, h.n12, h.n13, h.n23⟩
theorem Own.only {B q : Nat} {w w' : World} {g1 k1 g2 k2 g3 k3 : Nat} {S F : List Int} {E : List EdT} (h : Own B w g1 k1 g2 k2 g3 k3 S F E) (o : Only w w' (fun k => k = q)) (hq : g1 ≠ q ∧ g2 ≠ q ∧ g3 ≠ q) : Own B w' g1 k1 g2 k2 g3 k3 S F E :=
  ⟨own_only h.s o hq.1, own_only h.f o hq.2.1, own_only h.e o hq.2.2, h.n12, h.n13, h.n23⟩
theorem Own.rd {B : Nat} {w : World} {g1 k1 g2 k2 g3 k3 : Nat} {S F : List Int} {E : List EdT} (h : Own B w g1 k1 g2 k2 g3 k3 S F E) : RdA w (some ⟨g1, 0, none⟩) (some ⟨g2, 0, none⟩) (some ⟨g3, 0, none⟩) S F E := ⟨rdN_own h.s (List.prefix_refl _), rdN_own h.f (List.prefix_refl _), rdE_own h.e⟩
section
variable {W0 W Wc wa Wd wb F : World} {p q g1 k1 g2 k2 g3 k3 h1 c1 h2 c2 h3 c3 : Nat} {S T : List Int} {E : List EdT} {S' T' : List Int} {E' : List EdT}
theorem zero_cells {F : World} {p : Nat} (h : F.heap[p]? = some (.cells #[.int .i64 0, .int .i64 0, .slice none 0 0, .slice none 0 0, .slice none 0 0] 25 (0, 0))) : (F.cell? ⟨p, 0, none⟩ = some (.int .i64 0) ∧ F.cell? ⟨p, 1, none⟩ = some (.int .i64 0) ∧ F.cell? ⟨p, 2, none⟩ = some (.slice none 0 0) ∧ F.cell? ⟨p, 3, none⟩ = some (.slice none 0 0) ∧ F.cell? ⟨p, 4, none⟩ = some (.slice none 0 0)) ∧ F.frozen? ⟨p, 0, none⟩ = false ∧ F.frozen? ⟨p, 1, none⟩ = false ∧ F.frozen? ⟨p, 2, none⟩ = false ∧ F.frozen? ⟨p, 3, none⟩ = false ∧ F.frozen? ⟨p, 4, none⟩ = false :=
  ⟨⟨cell_of h rfl, cell_of h rfl, cell_of h rfl, cell_of h rfl, cell_of h rfl⟩, fz_of h, fz_of h, fz_of h, fz_of h, fz_of h⟩
theorem Pre.zq1 (h : Pre W0 F p q g1 k1 g2 k2 g3 k3 h1 c1 h2 c2 h3 c3 S T E S' T' E') (n m : Int) : (((((F.setCell ⟨p, 0, none⟩ (.int .i64 n)).setCell ⟨p, 1, none⟩ (.int .i64 m)).setCell ⟨p, 2, none⟩ (.slice (some ⟨g1, 0, none⟩) S.length k1)).setCell ⟨p, 3, none⟩ (.slice (some ⟨g2, 0, none⟩) T.length k2)).setCell ⟨p, 4, none⟩ (.slice (some ⟨g3, 0, none⟩) E.length k3)).heap[q]? = some (.cells #[.int .i64 0, .int .i64 0, .slice none 0 0, .slice none 0 0, .slice none 0 0] 25 (0, 0)) :=
  (only5 F p (.int .i64 n) (.int .i64 m) (.slice (some ⟨g1, 0, none⟩) S.length k1) (.slice (some ⟨g2, 0, none⟩) T.length k2) (.slice (some ⟨g3, 0, none⟩) E.length k3)).cellK h.zq h.ne.symm
/-- Both lie in their boxes. -/
structure Lai (W0 W : World) (p q : Nat) (n m n' m' : Int) (g1 k1 g2 k2 g3 k3 h1 c1 h2 c2 h3 c3 : Nat) (S T : List Int) (E : List EdT) (S' T' : List Int) (E' : List EdT) : Prop where
  bp : W.heap[p]? = some (.cells #[.int .i64 n, .int .i64 m, .slice (some ⟨g1, 0, none⟩) S.length k1, .slice (some ⟨g2, 0, none⟩) T.length k2, .slice (some ⟨g3, 0, none⟩) E.length k3] 25 (0, 0))
  bq : W.heap[q]? = some (.cells #[.int .i64 n', .int .i64 m', .slice (some ⟨h1, 0, none⟩) S'.length c1, .slice (some ⟨h2, 0, none⟩) T'.length c2, .slice (some ⟨h3, 0, none⟩) E'.length c3] 25 (0, 0))
  o1 : Own W0.heap.size W g1 k1 g2 k2 g3 k3 S T E
  o2 : Own W0.heap.size W h1 c1 h2 c2 h3 c3 S' T' E'
  lt : ∃ C, g1 < C ∧ g2 < C ∧ g3 < C ∧ C ≤ h1 ∧ C ≤ h2 ∧ C ≤ h3
  d : Below W0.heap.size W0 W
  lp : W0.heap.size ≤ p ∧ W0.heap.size ≤ q
theorem Pre.lai (h : Pre W0 F p q g1 k1 g2 k2 g3 k3 h1 c1 h2 c2 h3 c3 S T E S' T' E') (n m n' m' : Int) : Lai W0 ((((((((((F.setCell ⟨p, 0, none⟩ (.int .i64 n)).setCell ⟨p, 1, none⟩ (.int .i64 m)).setCell ⟨p, 2, none⟩ (.slice (some ⟨g1, 0, none⟩) S.length k1)).setCell ⟨p, 3, none⟩ (.slice (some ⟨g2, 0, none⟩) T.length k2)).setCell ⟨p, 4, none⟩ (.slice (some ⟨g3, 0, none⟩) E.length k3)).setCell ⟨q, 0, none⟩ (.int .i64 n')).setCell ⟨q, 1, none⟩ (.int .i64 m')).setCell ⟨q, 2, none⟩ (.slice (some ⟨h1, 0, none⟩) S'.length c1)).setCell ⟨q, 3, none⟩ (.slice (some ⟨h2, 0, none⟩) T'.length c2)).setCell ⟨q, 4, none⟩ (.slice (some ⟨h3, 0, none⟩) E'.length c3)) p q n m n' m' g1 k1 g2 k2 g3 k3 h1 c1 h2 c2 h3 c3 S T E S' T' E' := by
  have s1 := set5 F p _ _ _ _ _ (.int .i64 n) (.int .i64 m) (.slice (some ⟨g1, 0, none⟩) S.length k1) (.slice (some ⟨g2, 0, none⟩) T.length k2) (.slice (some ⟨g3, 0, none⟩) E.length k3) 25 h.zp
  have e1 := only5 F p (.int .i64 n) (.int .i64 m) (.slice (some ⟨g1, 0, none⟩) S.length k1) (.slice (some ⟨g2, 0, none⟩) T.length k2) (.slice (some ⟨g3, 0, none⟩) E.length k3)
  obtain ⟨G, hG⟩ : ∃ G, ((((F.setCell ⟨p, 0, none⟩ (.int .i64 n)).setCell ⟨p, 1, none⟩ (.int .i64 m)).setCell ⟨p, 2, none⟩ (.slice (some ⟨g1, 0, none⟩) S.length k1)).setCell ⟨p, 3, none⟩ (.slice (some ⟨g2, 0, none⟩) T.length k2)).setCell ⟨p, 4, none⟩ (.slice (some ⟨g3, 0, none⟩) E.length k3) = G := ⟨_, rfl⟩
  rw [hG] at s1 e1 ⊢
  have zq := e1.cellK h.zq h.ne.symm
  have s2 := set5 G q _ _ _ _ _ (.int .i64 n') (.int .i64 m') (.slice (some ⟨h1, 0, none⟩) S'.length c1) (.slice (some ⟨h2, 0, none⟩) T'.length c2) (.slice (some ⟨h3, 0, none⟩) E'.length c3) 25 zq
  have e2 := only5 G q (.int .i64 n') (.int .i64 m') (.slice (some ⟨h1, 0, none⟩) S'.length c1) (.slice (some ⟨h2, 0, none⟩) T'.length c2) (.slice (some ⟨h3, 0, none⟩) E'.length c3)
  have hp := h.lp
  have hs := h.d.size
  have hs2 := e1.size
  exact ⟨e2.cellK s1 h.ne, s2, (h.o1.only e1 h.np.1).only e2 h.nq.1, (h.o2.only e1 h.np.2).only e2 h.nq.2, h.lt, (h.d.trans (e1.toBelow hs (fun k hk => by omega))).trans (e2.toBelow (by omega) (fun k hk => by omega)), h.lp⟩
end
end Go.Proofs.YtfoahpideglghaaGreatDoor
