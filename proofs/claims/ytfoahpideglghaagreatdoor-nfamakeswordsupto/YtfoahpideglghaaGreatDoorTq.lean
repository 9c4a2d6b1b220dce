import Derived.Test.YtfoahpideglghaaGreatDoorBe
import Derived.Test.YtfoahpideglghaaGreatDoorWd
namespace Go.Proofs.YtfoahpideglghaaGreatDoor
open Go.RowKit Go.Maps Go.Shelf

/-! ### Two automata in order, two boxes for them -/
theorem al1 {W w' : World} {o : Obj} (d : Below (W.alloc o).heap.size (W.alloc o) w') : Below W.heap.size W w' := ((Below.refl _ W).alloc (Nat.le_refl _) o).trans (d.mono (by simp))
theorem al2 {W w' : World} {o p : Obj} (d : Below ((W.alloc o).alloc p).heap.size ((W.alloc o).alloc p) w') : Below W.heap.size W w' := al1 (al1 d)
theorem zz1 {W w' : World} {o : Obj} (d : Below (W.alloc o).heap.size (W.alloc o) w') : w'.heap[W.heap.size]? = some o := (d.block _ (by simp)).trans (World.alloc_heap_new _ _)
theorem zz2 {W w' : World} {o p : Obj} (d : Below ((W.alloc o).alloc p).heap.size ((W.alloc o).alloc p) w') : w'.heap[W.heap.size]? = some o ∧ w'.heap[W.heap.size + 1]? = some p := by
  have q := zz1 (W := W.alloc o) d
  rw [World.size_alloc] at q
  exact ⟨zz1 (al1 d), q⟩
theorem undrew2 {B : Nat} {X w : World} (d : Below B w X.drew) : Below B w X := ⟨d.os, d.tape, d.output, d.size, d.block⟩
theorem undrew {X w' : World} (d : Below X.drew.heap.size X.drew w') : Below X.heap.size X w' := ⟨d.os, d.tape, d.output, d.size, d.block⟩
structure Pre (W0 F : World) (p q : Nat) (g1 k1 g2 k2 g3 k3 h1 c1 h2 c2 h3 c3 : Nat) (S T : List Int) (E : List EdT) (S' T' : List Int) (E' : List EdT) : Prop where
  zp : F.heap[p]? = some (.cells #[.int .i64 0, .int .i64 0, .slice none 0 0, .slice none 0 0, .slice none 0 0] 25 (0, 0))
  zq : F.heap[q]? = some (.cells #[.int .i64 0, .int .i64 0, .slice none 0 0, .slice none 0 0, .slice none 0 0] 25 (0, 0))
  ne : p ≠ q
  o1 : Own W0.heap.size F g1 k1 g2 k2 g3 k3 S T E
  o2 : Own W0.heap.size F h1 c1 h2 c2 h3 c3 S' T' E'
  lt : ∃ C, g1 < C ∧ g2 < C ∧ g3 < C ∧ C ≤ h1 ∧ C ≤ h2 ∧ C ≤ h3
  np : (g1 ≠ p ∧ g2 ≠ p ∧ g3 ≠ p) ∧ h1 ≠ p ∧ h2 ≠ p ∧ h3 ≠ p
  nq : (g1 ≠ q ∧ g2 ≠ q ∧ g3 ≠ q) ∧ h1 ≠ q ∧ h2 ≠ q ∧ h3 ≠ q
  d : Below W0.heap.size W0 F
  lp : W0.heap.size ≤ p ∧ W0.heap.size ≤ q
theorem Own.on {B C : Nat} {w w' : World} {g1 k1 g2 k2 g3 k3 : Nat} {S F : List Int} {E : List EdT} (h : Own C w g1 k1 g2 k2 g3 k3 S F E) (hB : B ≤ C) (d : Below w.heap.size w w') : Own B w' g1 k1 g2 k2 g3 k3 S F E :=
  ⟨owns_down (own_on h.s d (own_at h.s).2) hB, owns_down (own_on h.f d (own_at h.f).2) hB, owns_down (own_on h.e d (own_at h.e).2) hB, h.n12, h.n13, h.n23⟩
theorem Own.only {B q : Nat} {w w' : World} {g1 k1 g2 k2 g3 k3 : Nat} {S F : List Int} {E : List EdT} (h : Own B w g1 k1 g2 k2 g3 k3 S F E) (o : Only w w' (fun k => k = q)) (hq : g1 ≠ q ∧ g2 ≠ q ∧ g3 ≠ q) : Own B w' g1 k1 g2 k2 g3 k3 S F E :=
  ⟨own_only h.s o hq.1, own_only h.f o hq.2.1, own_only h.e o hq.2.2, h.n12, h.n13, h.n23⟩
theorem unown {X W : World} {g1 k1 g2 k2 g3 k3 : Nat} {S F : List Int} {E : List EdT} (h : Own X.drew.heap.size W g1 k1 g2 k2 g3 k3 S F E) : Own X.heap.size W g1 k1 g2 k2 g3 k3 S F E := h
theorem Own.rd {B : Nat} {w : World} {g1 k1 g2 k2 g3 k3 : Nat} {S F : List Int} {E : List EdT} (h : Own B w g1 k1 g2 k2 g3 k3 S F E) : RdA w (some ⟨g1, 0, none⟩) (some ⟨g2, 0, none⟩) (some ⟨g3, 0, none⟩) S F E := ⟨rdN_own h.s (List.prefix_refl _), rdN_own h.f (List.prefix_refl _), rdE_own h.e⟩
section
variable {W0 W Wc wa Wd wb F : World} {p q g1 k1 g2 k2 g3 k3 h1 c1 h2 c2 h3 c3 : Nat} {S T : List Int} {E : List EdT} {S' T' : List Int} {E' : List EdT}
theorem Pre.swap (h : Pre W0 F p q g1 k1 g2 k2 g3 k3 h1 c1 h2 c2 h3 c3 S T E S' T' E') : Pre W0 F q p g1 k1 g2 k2 g3 k3 h1 c1 h2 c2 h3 c3 S T E S' T' E' := ⟨h.zq, h.zp, h.ne.symm, h.o1, h.o2, h.lt, h.nq, h.np, h.d, h.lp.2, h.lp.1⟩
theorem pre_gen (d0 : Below W0.heap.size W0 W) (dW : Below W.heap.size W Wc) (d1 : Below Wc.heap.size Wc wa) (da : Below wa.heap.size wa Wd) (d2 : Below Wd.heap.size Wd wb) (db : Below wb.heap.size wb F) (o1 : Own Wc.heap.size wa g1 k1 g2 k2 g3 k3 S T E) (o2 : Own Wd.heap.size wb h1 c1 h2 c2 h3 c3 S' T' E')
    (zp : F.heap[p]? = some (.cells #[.int .i64 0, .int .i64 0, .slice none 0 0, .slice none 0 0, .slice none 0 0] 25 (0, 0))) (zq : F.heap[q]? = some (.cells #[.int .i64 0, .int .i64 0, .slice none 0 0, .slice none 0 0, .slice none 0 0] 25 (0, 0))) (ne : p ≠ q) (lp : (W.heap.size ≤ p ∧ p < Wc.heap.size) ∨ (wa.heap.size ≤ p ∧ p < Wd.heap.size) ∨ wb.heap.size ≤ p) (lq : (W.heap.size ≤ q ∧ q < Wc.heap.size) ∨ (wa.heap.size ≤ q ∧ q < Wd.heap.size) ∨ wb.heap.size ≤ q) : Pre W0 F p q g1 k1 g2 k2 g3 k3 h1 c1 h2 c2 h3 c3 S T E S' T' E' := by
  have s0 := d0.size
  have s1 := dW.size
  have s2 := d1.size
  have s3 := da.size
  have s4 := d2.size
  have s5 := db.size
  have a1 := own_at o1.s
  have a2 := own_at o1.f
  have a3 := own_at o1.e
  have b1 := own_at o2.s
  have b2 := own_at o2.f
  have b3 := own_at o2.e
  have daF : Below wa.heap.size wa F := (da.trans (d2.mono s3)).trans (db.mono (by omega))
  refine ⟨zp, zq, ne, o1.on (by omega) daF, o2.on (by omega) db, ⟨wa.heap.size, by omega, by omega, by omega, by omega, by omega, by omega⟩, ⟨⟨by omega, by omega, by omega⟩, by omega, by omega, by omega⟩, ⟨⟨by omega, by omega, by omega⟩, by omega, by omega, by omega⟩, ?_, by omega, by omega⟩
  exact ((d0.trans (dW.mono s0)).trans (d1.mono (by omega))).trans (daF.mono (by omega))
theorem new1 (w : World) : (w.alloc (.cells #[.int .i64 0, .int .i64 0, .slice none 0 0, .slice none 0 0, .slice none 0 0] 25)).heap[w.heap.size]? = some (.cells #[.int .i64 0, .int .i64 0, .slice none 0 0, .slice none 0 0, .slice none 0 0] 25 (0, 0)) := World.alloc_heap_new _ _
theorem pre200 (hp : W.heap.size = p) (d0 : Below W0.heap.size W0 W) (d1 : Below ((W.alloc (.cells #[.int .i64 0, .int .i64 0, .slice none 0 0, .slice none 0 0, .slice none 0 0] 25)).alloc (.cells #[.int .i64 0, .int .i64 0, .slice none 0 0, .slice none 0 0, .slice none 0 0] 25)).heap.size ((W.alloc (.cells #[.int .i64 0, .int .i64 0, .slice none 0 0, .slice none 0 0, .slice none 0 0] 25)).alloc (.cells #[.int .i64 0, .int .i64 0, .slice none 0 0, .slice none 0 0, .slice none 0 0] 25)) wa) (d2 : Below wa.heap.size wa wb) (o1 : Own ((W.alloc (.cells #[.int .i64 0, .int .i64 0, .slice none 0 0, .slice none 0 0, .slice none 0 0] 25)).alloc (.cells #[.int .i64 0, .int .i64 0, .slice none 0 0, .slice none 0 0, .slice none 0 0] 25)).heap.size wa g1 k1 g2 k2 g3 k3 S T E) (o2 : Own wa.heap.size wb h1 c1 h2 c2 h3 c3 S' T' E') : Pre W0 wb p (p + 1) g1 k1 g2 k2 g3 k3 h1 c1 h2 c2 h3 c3 S T E S' T' E' := by
  subst hp
  have z := zz2 d1
  have l := d1.size
  simp only [World.size_alloc] at l
  exact pre_gen d0 (al2 (Below.refl _ _)) d1 (Below.refl _ _) d2 (Below.refl _ _) o1 o2 ((d2.block _ (by omega)).trans z.1) ((d2.block _ (by omega)).trans z.2) (by omega) (Or.inl (by simp; omega)) (Or.inl (by simp))
theorem pre020 (d0 : Below W0.heap.size W0 W) (d1 : Below W.heap.size W wa) (d2 : Below ((wa.alloc (.cells #[.int .i64 0, .int .i64 0, .slice none 0 0, .slice none 0 0, .slice none 0 0] 25)).alloc (.cells #[.int .i64 0, .int .i64 0, .slice none 0 0, .slice none 0 0, .slice none 0 0] 25)).heap.size ((wa.alloc (.cells #[.int .i64 0, .int .i64 0, .slice none 0 0, .slice none 0 0, .slice none 0 0] 25)).alloc (.cells #[.int .i64 0, .int .i64 0, .slice none 0 0, .slice none 0 0, .slice none 0 0] 25)) wb) (o1 : Own W.heap.size wa g1 k1 g2 k2 g3 k3 S T E) (o2 : Own ((wa.alloc (.cells #[.int .i64 0, .int .i64 0, .slice none 0 0, .slice none 0 0, .slice none 0 0] 25)).alloc (.cells #[.int .i64 0, .int .i64 0, .slice none 0 0, .slice none 0 0, .slice none 0 0] 25)).heap.size wb h1 c1 h2 c2 h3 c3 S' T' E') : Pre W0 wb wa.heap.size (wa.heap.size + 1) g1 k1 g2 k2 g3 k3 h1 c1 h2 c2 h3 c3 S T E S' T' E' := by
  have z := zz2 d2
  exact pre_gen d0 (Below.refl _ _) d1 (al2 (Below.refl _ _)) d2 (Below.refl _ _) o1 o2 z.1 z.2 (by omega) (Or.inr (Or.inl (by simp; omega))) (Or.inr (Or.inl (by simp)))
theorem pre002 (d0 : Below W0.heap.size W0 W) (d1 : Below W.heap.size W wa) (d2 : Below wa.heap.size wa wb) (o1 : Own W.heap.size wa g1 k1 g2 k2 g3 k3 S T E) (o2 : Own wa.heap.size wb h1 c1 h2 c2 h3 c3 S' T' E') : Pre W0 ((wb.alloc (.cells #[.int .i64 0, .int .i64 0, .slice none 0 0, .slice none 0 0, .slice none 0 0] 25)).alloc (.cells #[.int .i64 0, .int .i64 0, .slice none 0 0, .slice none 0 0, .slice none 0 0] 25)) wb.heap.size (wb.heap.size + 1) g1 k1 g2 k2 g3 k3 h1 c1 h2 c2 h3 c3 S T E S' T' E' := by
  have z := zz2 (Below.refl _ ((wb.alloc (.cells #[.int .i64 0, .int .i64 0, .slice none 0 0, .slice none 0 0, .slice none 0 0] 25)).alloc (.cells #[.int .i64 0, .int .i64 0, .slice none 0 0, .slice none 0 0, .slice none 0 0] 25)))
  exact pre_gen d0 (Below.refl _ _) d1 (Below.refl _ _) d2 (al2 (Below.refl _ _)) o1 o2 z.1 z.2 (by omega) (Or.inr (Or.inr (by omega))) (Or.inr (Or.inr (by omega)))
theorem pre110 (hp : W.heap.size = p) (d0 : Below W0.heap.size W0 W) (d1 : Below (W.alloc (.cells #[.int .i64 0, .int .i64 0, .slice none 0 0, .slice none 0 0, .slice none 0 0] 25)).heap.size (W.alloc (.cells #[.int .i64 0, .int .i64 0, .slice none 0 0, .slice none 0 0, .slice none 0 0] 25)) wa) (d2 : Below (wa.alloc (.cells #[.int .i64 0, .int .i64 0, .slice none 0 0, .slice none 0 0, .slice none 0 0] 25)).heap.size (wa.alloc (.cells #[.int .i64 0, .int .i64 0, .slice none 0 0, .slice none 0 0, .slice none 0 0] 25)) wb) (o1 : Own (W.alloc (.cells #[.int .i64 0, .int .i64 0, .slice none 0 0, .slice none 0 0, .slice none 0 0] 25)).heap.size wa g1 k1 g2 k2 g3 k3 S T E) (o2 : Own (wa.alloc (.cells #[.int .i64 0, .int .i64 0, .slice none 0 0, .slice none 0 0, .slice none 0 0] 25)).heap.size wb h1 c1 h2 c2 h3 c3 S' T' E') : Pre W0 wb p wa.heap.size g1 k1 g2 k2 g3 k3 h1 c1 h2 c2 h3 c3 S T E S' T' E' := by
  subst hp
  have z := zz1 d1
  have y := zz1 d2
  have l := d1.size
  simp only [World.size_alloc] at l
  exact pre_gen d0 (al1 (Below.refl _ _)) d1 (al1 (Below.refl _ _)) d2 (Below.refl _ _) o1 o2 (((al1 d2).block _ (by omega)).trans z) y (by omega) (Or.inl (by simp)) (Or.inr (Or.inl (by simp)))
theorem pre101 (hp : W.heap.size = p) (d0 : Below W0.heap.size W0 W) (d1 : Below (W.alloc (.cells #[.int .i64 0, .int .i64 0, .slice none 0 0, .slice none 0 0, .slice none 0 0] 25)).heap.size (W.alloc (.cells #[.int .i64 0, .int .i64 0, .slice none 0 0, .slice none 0 0, .slice none 0 0] 25)) wa) (d2 : Below wa.heap.size wa wb) (o1 : Own (W.alloc (.cells #[.int .i64 0, .int .i64 0, .slice none 0 0, .slice none 0 0, .slice none 0 0] 25)).heap.size wa g1 k1 g2 k2 g3 k3 S T E) (o2 : Own wa.heap.size wb h1 c1 h2 c2 h3 c3 S' T' E') : Pre W0 (wb.alloc (.cells #[.int .i64 0, .int .i64 0, .slice none 0 0, .slice none 0 0, .slice none 0 0] 25)) p wb.heap.size g1 k1 g2 k2 g3 k3 h1 c1 h2 c2 h3 c3 S T E S' T' E' := by
  subst hp
  have z := zz1 d1
  have l := d1.size
  have l2 := d2.size
  simp only [World.size_alloc] at l
  exact pre_gen d0 (al1 (Below.refl _ _)) d1 (Below.refl _ _) d2 (al1 (Below.refl _ _)) o1 o2 (((al1 (Below.refl _ (wb.alloc (.cells #[.int .i64 0, .int .i64 0, .slice none 0 0, .slice none 0 0, .slice none 0 0] 25)))).block _ (by omega)).trans ((d2.block _ (by omega)).trans z)) (new1 wb) (by omega) (Or.inl (by simp)) (Or.inr (Or.inr (by omega)))
theorem pre011 (d0 : Below W0.heap.size W0 W) (d1 : Below W.heap.size W wa) (d2 : Below (wa.alloc (.cells #[.int .i64 0, .int .i64 0, .slice none 0 0, .slice none 0 0, .slice none 0 0] 25)).heap.size (wa.alloc (.cells #[.int .i64 0, .int .i64 0, .slice none 0 0, .slice none 0 0, .slice none 0 0] 25)) wb) (o1 : Own W.heap.size wa g1 k1 g2 k2 g3 k3 S T E) (o2 : Own (wa.alloc (.cells #[.int .i64 0, .int .i64 0, .slice none 0 0, .slice none 0 0, .slice none 0 0] 25)).heap.size wb h1 c1 h2 c2 h3 c3 S' T' E') : Pre W0 (wb.alloc (.cells #[.int .i64 0, .int .i64 0, .slice none 0 0, .slice none 0 0, .slice none 0 0] 25)) wa.heap.size wb.heap.size g1 k1 g2 k2 g3 k3 h1 c1 h2 c2 h3 c3 S T E S' T' E' := by
  have y := zz1 d2
  have l := d2.size
  simp only [World.size_alloc] at l
  exact pre_gen d0 (Below.refl _ _) d1 (al1 (Below.refl _ _)) d2 (al1 (Below.refl _ _)) o1 o2 (((al1 (Below.refl _ (wb.alloc (.cells #[.int .i64 0, .int .i64 0, .slice none 0 0, .slice none 0 0, .slice none 0 0] 25)))).block _ (by omega)).trans y) (new1 wb) (by omega) (Or.inr (Or.inl (by simp))) (Or.inr (Or.inr (by omega)))
theorem fold2 (w : World) (a0 a1 a2 a3 a4 b0 b1 b2 b3 b4 : Value) : ((((((((((((w.alloc (.cells #[.int .i64 0, .int .i64 0, .slice none 0 0, .slice none 0 0, .slice none 0 0] 25)).alloc (.cells #[.int .i64 0, .int .i64 0, .slice none 0 0, .slice none 0 0, .slice none 0 0] 25)).setCell ⟨w.heap.size, 0, none⟩ a0).setCell ⟨w.heap.size, 1, none⟩ a1).setCell ⟨w.heap.size, 2, none⟩ a2).setCell ⟨w.heap.size, 3, none⟩ a3).setCell ⟨w.heap.size, 4, none⟩ a4).setCell ⟨w.heap.size + 1, 0, none⟩ b0).setCell ⟨w.heap.size + 1, 1, none⟩ b1).setCell ⟨w.heap.size + 1, 2, none⟩ b2).setCell ⟨w.heap.size + 1, 3, none⟩ b3).setCell ⟨w.heap.size + 1, 4, none⟩ b4) = (w.alloc (.cells #[a0, a1, a2, a3, a4] 25)).alloc (.cells #[b0, b1, b2, b3, b4] 25) := by
  simp [World.setCell_alloc_at, World.setCell_alloc_past]
theorem fold2' (w : World) (a0 a1 a2 a3 a4 b0 b1 b2 b3 b4 : Value) : ((((((((((((w.alloc (.cells #[.int .i64 0, .int .i64 0, .slice none 0 0, .slice none 0 0, .slice none 0 0] 25)).alloc (.cells #[.int .i64 0, .int .i64 0, .slice none 0 0, .slice none 0 0, .slice none 0 0] 25)).setCell ⟨w.heap.size + 1, 0, none⟩ b0).setCell ⟨w.heap.size + 1, 1, none⟩ b1).setCell ⟨w.heap.size + 1, 2, none⟩ b2).setCell ⟨w.heap.size + 1, 3, none⟩ b3).setCell ⟨w.heap.size + 1, 4, none⟩ b4).setCell ⟨w.heap.size, 0, none⟩ a0).setCell ⟨w.heap.size, 1, none⟩ a1).setCell ⟨w.heap.size, 2, none⟩ a2).setCell ⟨w.heap.size, 3, none⟩ a3).setCell ⟨w.heap.size, 4, none⟩ a4) = (w.alloc (.cells #[a0, a1, a2, a3, a4] 25)).alloc (.cells #[b0, b1, b2, b3, b4] 25) := by
  simp [World.setCell_alloc_at, World.setCell_alloc_past]
theorem zero_cells {F : World} {p : Nat} (h : F.heap[p]? = some (.cells #[.int .i64 0, .int .i64 0, .slice none 0 0, .slice none 0 0, .slice none 0 0] 25 (0, 0))) : (F.cell? ⟨p, 0, none⟩ = some (.int .i64 0) ∧ F.cell? ⟨p, 1, none⟩ = some (.int .i64 0) ∧ F.cell? ⟨p, 2, none⟩ = some (.slice none 0 0) ∧ F.cell? ⟨p, 3, none⟩ = some (.slice none 0 0) ∧ F.cell? ⟨p, 4, none⟩ = some (.slice none 0 0)) ∧ F.frozen? ⟨p, 0, none⟩ = false ∧ F.frozen? ⟨p, 1, none⟩ = false ∧ F.frozen? ⟨p, 2, none⟩ = false ∧ F.frozen? ⟨p, 3, none⟩ = false ∧ F.frozen? ⟨p, 4, none⟩ = false :=
  ⟨⟨cell_of h rfl, cell_of h rfl, cell_of h rfl, cell_of h rfl, cell_of h rfl⟩, fz_of h, fz_of h, fz_of h, fz_of h, fz_of h⟩
theorem Pre.zq1 (h : Pre W0 F p q g1 k1 g2 k2 g3 k3 h1 c1 h2 c2 h3 c3 S T E S' T' E') (n m : Int) : (((((F.setCell ⟨p, 0, none⟩ (.int .i64 n)).setCell ⟨p, 1, none⟩ (.int .i64 m)).setCell ⟨p, 2, none⟩ (.slice (some ⟨g1, 0, none⟩) S.length k1)).setCell ⟨p, 3, none⟩ (.slice (some ⟨g2, 0, none⟩) T.length k2)).setCell ⟨p, 4, none⟩ (.slice (some ⟨g3, 0, none⟩) E.length k3)).heap[q]? = some (.cells #[.int .i64 0, .int .i64 0, .slice none 0 0, .slice none 0 0, .slice none 0 0] 25 (0, 0)) :=
  (only5 F p (.int .i64 n) (.int .i64 m) (.slice (some ⟨g1, 0, none⟩) S.length k1) (.slice (some ⟨g2, 0, none⟩) T.length k2) (.slice (some ⟨g3, 0, none⟩) E.length k3)).cellK h.zq h.ne.symm
/-- Both lie in their boxes. -/
structure Lai (W0 W : World) (p q : Nat) (n m n' m' : Int) (g1 k1 g2 k2 g3 k3 h1 c1 h2 c2 h3 c3 : Nat) (S T : List Int) (E : List EdT) (S' T' : List Int) (E' : List EdT) : Prop where
  bp : W.heap[p]? = some (.cells #[.int .i64 n, .int .i64 m, .slice (some ⟨g1, 0, none⟩) S.length k1, .slice (some ⟨g2, 0, none⟩) T.length k2, .slice (some ⟨g3, 0, none⟩) E.length k3] 25 (0, 0))
  bq : W.heap[q]? = some (.cells #[.int .i64 n', .int .i64 m', .slice (some ⟨h1, 0, none⟩) S'.length c1, .slice (some ⟨h2, 0, none⟩) T'.length c2, .slice (some ⟨h3, 0, none⟩) E'.length c3] 25 (0, 0))
  o1 : Own W0.heap.size W g1 k1 g2 k2 g3 k3 S T E
  o2 : Own W0.heap.size W h1 c1 h2 c2 h3 c3 S' T' E'
  lt : ∃ C, g1 < C ∧ g2 < C ∧ g3 < C ∧ C ≤ h1 ∧ C ≤ h2 ∧ C ≤ h3
  d : Below W0.heap.size W0 W
  lp : W0.heap.size ≤ p ∧ W0.heap.size ≤ q
theorem Pre.lai (h : Pre W0 F p q g1 k1 g2 k2 g3 k3 h1 c1 h2 c2 h3 c3 S T E S' T' E') (n m n' m' : Int) : Lai W0 ((((((((((F.setCell ⟨p, 0, none⟩ (.int .i64 n)).setCell ⟨p, 1, none⟩ (.int .i64 m)).setCell ⟨p, 2, none⟩ (.slice (some ⟨g1, 0, none⟩) S.length k1)).setCell ⟨p, 3, none⟩ (.slice (some ⟨g2, 0, none⟩) T.length k2)).setCell ⟨p, 4, none⟩ (.slice (some ⟨g3, 0, none⟩) E.length k3)).setCell ⟨q, 0, none⟩ (.int .i64 n')).setCell ⟨q, 1, none⟩ (.int .i64 m')).setCell ⟨q, 2, none⟩ (.slice (some ⟨h1, 0, none⟩) S'.length c1)).setCell ⟨q, 3, none⟩ (.slice (some ⟨h2, 0, none⟩) T'.length c2)).setCell ⟨q, 4, none⟩ (.slice (some ⟨h3, 0, none⟩) E'.length c3)) p q n m n' m' g1 k1 g2 k2 g3 k3 h1 c1 h2 c2 h3 c3 S T E S' T' E' := by
  have s1 := set5 F p _ _ _ _ _ (.int .i64 n) (.int .i64 m) (.slice (some ⟨g1, 0, none⟩) S.length k1) (.slice (some ⟨g2, 0, none⟩) T.length k2) (.slice (some ⟨g3, 0, none⟩) E.length k3) 25 h.zp
  have e1 := only5 F p (.int .i64 n) (.int .i64 m) (.slice (some ⟨g1, 0, none⟩) S.length k1) (.slice (some ⟨g2, 0, none⟩) T.length k2) (.slice (some ⟨g3, 0, none⟩) E.length k3)
  obtain ⟨G, hG⟩ : ∃ G, ((((F.setCell ⟨p, 0, none⟩ (.int .i64 n)).setCell ⟨p, 1, none⟩ (.int .i64 m)).setCell ⟨p, 2, none⟩ (.slice (some ⟨g1, 0, none⟩) S.length k1)).setCell ⟨p, 3, none⟩ (.slice (some ⟨g2, 0, none⟩) T.length k2)).setCell ⟨p, 4, none⟩ (.slice (some ⟨g3, 0, none⟩) E.length k3) = G := ⟨_, rfl⟩
  rw [hG] at s1 e1 ⊢
  have zq := e1.cellK h.zq h.ne.symm
  have s2 := set5 G q _ _ _ _ _ (.int .i64 n') (.int .i64 m') (.slice (some ⟨h1, 0, none⟩) S'.length c1) (.slice (some ⟨h2, 0, none⟩) T'.length c2) (.slice (some ⟨h3, 0, none⟩) E'.length c3) 25 zq
  have e2 := only5 G q (.int .i64 n') (.int .i64 m') (.slice (some ⟨h1, 0, none⟩) S'.length c1) (.slice (some ⟨h2, 0, none⟩) T'.length c2) (.slice (some ⟨h3, 0, none⟩) E'.length c3)
  have hp := h.lp
  have hs := h.d.size
  have hs2 := e1.size
  exact ⟨e2.cellK s1 h.ne, s2, (h.o1.only e1 h.np.1).only e2 h.nq.1, (h.o2.only e1 h.np.2).only e2 h.nq.2, h.lt, (h.d.trans (e1.toBelow hs (fun k hk => by omega))).trans (e2.toBelow (by omega) (fun k hk => by omega)), h.lp⟩
end
end Go.Proofs.YtfoahpideglghaaGreatDoor
