import Derived.Test.YtfoahpideglghaaGreatDoorBW
import Derived.Test.YtfoahpideglghaaGreatDoorMM
namespace Go.Proofs.YtfoahpideglghaaGreatDoor
open Go.RowKit Go.Maps Go.Shelf

/-! ### What a drawn region's calls and boxes make -/
/-- An automaton with lists of its own. -/
def ownP (n m : Int) (S T : List Int) (E : List EdT) : MkP := fun x lo hi W => ∃ g1 k1 g2 k2 g3 k3, x = .agg #[.int .i64 n, .int .i64 m, .slice (some ⟨g1, 0, none⟩) S.length k1, .slice (some ⟨g2, 0, none⟩) T.length k2, .slice (some ⟨g3, 0, none⟩) E.length k3] ∧ Own lo W g1 k1 g2 k2 g3 k3 S T E ∧ g1 < hi ∧ g2 < hi ∧ g3 < hi
/-- A box for an automaton, with nothing in it yet. -/
def boxP : MkP := fun x lo hi W => x = .pointer (some ⟨lo, 0, none⟩) ∧ lo < hi ∧ W.heap[lo]? = some (.cells #[.int .i64 0, .int .i64 0, .slice none 0 0, .slice none 0 0, .slice none 0 0] 25 (0, 0))
theorem ownP_mono {n m : Int} {S T : List Int} {E : List EdT} : MonoP (ownP n m S T E) := fun _ _ _ _ _ _ d ⟨g1, k1, g2, k2, g3, k3, e, o, q⟩ => ⟨g1, k1, g2, k2, g3, k3, e, o.on (Nat.le_refl _) d, q⟩
theorem boxP_mono : MonoP boxP := fun _ _ _ _ _ hs d ⟨e, l, z⟩ => ⟨e, l, (d.block _ (by omega)).trans z⟩
theorem ownP_of {n m : Int} {S T : List Int} {E : List EdT} {B : Nat} {W : World} {g1 k1 g2 k2 g3 k3 : Nat} (o : Own B W g1 k1 g2 k2 g3 k3 S T E) : ownP n m S T E (.agg #[.int .i64 n, .int .i64 m, .slice (some ⟨g1, 0, none⟩) S.length k1, .slice (some ⟨g2, 0, none⟩) T.length k2, .slice (some ⟨g3, 0, none⟩) E.length k3]) B W.heap.size W := ⟨g1, k1, g2, k2, g3, k3, rfl, o, (own_at o.s).2, (own_at o.f).2, (own_at o.e).2⟩
theorem boxP_of (W : World) : boxP (.pointer (some ⟨W.heap.size, 0, none⟩)) W.heap.size (W.alloc (.cells #[.int .i64 0, .int .i64 0, .slice none 0 0, .slice none 0 0, .slice none 0 0] 25)).heap.size (W.alloc (.cells #[.int .i64 0, .int .i64 0, .slice none 0 0, .slice none 0 0, .slice none 0 0] 25)) := ⟨rfl, by simp, World.alloc_heap_new _ _⟩
theorem row_box {W : World} {B g c n p : Nat} {e t : TypeId} {sz : Nat} {xs : List Value} {cs : Array Value} {fr : Nat × Nat} (h : W.ownsRow B e sz (.slice (some ⟨g, 0, none⟩) n c) n xs) (z : W.heap[p]? = some (.cells cs t fr)) (ne : e ≠ t) : g ≠ p := by
  rcases h.2 with ⟨hv, _⟩ | ⟨g', cap', cur, hv, hb, hg, rest⟩
  · cases hv
  · cases hv
    intro e
    subst e
    rw [z] at hg
    injection hg with hg
    injection hg with _ h2 _
    exact ne h2.symm
theorem Own.box {B : Nat} {W : World} {g1 k1 g2 k2 g3 k3 p : Nat} {S T : List Int} {E : List EdT} {cs : Array Value} (o : Own B W g1 k1 g2 k2 g3 k3 S T E) (z : W.heap[p]? = some (.cells cs 25 (0, 0))) : g1 ≠ p ∧ g2 ≠ p ∧ g3 ≠ p := ⟨row_box o.s z (by decide), row_box o.f z (by decide), row_box o.e z (by decide)⟩
theorem two_pre {A B : Value} {n m n' m' : Int} {S T : List Int} {E : List EdT} {S' T' : List Int} {E' : List EdT} {W0 w W : World} {ops : Array Oper} {k : Nat} {y : Nat → Value} {lo hi : Nat → Nat} (d0 : Below W0.heap.size W0 w) (hk : 6 ≤ k) (hM : Made w (phiL [isV A, ownP n m S T E, isV B, ownP n' m' S' T' E', boxP, boxP]) ops k (fun _ => true) y lo hi W) (ho : hi 1 ≤ lo 3) :
    ∃ p q g1 k1 g2 k2 g3 k3 h1 c1 h2 c2 h3 c3, y 1 = .agg #[.int .i64 n, .int .i64 m, .slice (some ⟨g1, 0, none⟩) S.length k1, .slice (some ⟨g2, 0, none⟩) T.length k2, .slice (some ⟨g3, 0, none⟩) E.length k3] ∧ y 3 = .agg #[.int .i64 n', .int .i64 m', .slice (some ⟨h1, 0, none⟩) S'.length c1, .slice (some ⟨h2, 0, none⟩) T'.length c2, .slice (some ⟨h3, 0, none⟩) E'.length c3] ∧ y 4 = .pointer (some ⟨p, 0, none⟩) ∧ y 5 = .pointer (some ⟨q, 0, none⟩) ∧ Pre W0 W p q g1 k1 g2 k2 g3 k3 h1 c1 h2 c2 h3 c3 S T E S' T' E' := by
  obtain ⟨g1, k1, g2, k2, g3, k3, e1, o1, q1⟩ := hM.fact 1 (by omega) rfl
  obtain ⟨h1, c1, h2, c2, h3, c3, e3, o3, q3⟩ := hM.fact 3 (by omega) rfl
  obtain ⟨e4, l4, z4⟩ := hM.fact 4 (by omega) rfl
  obtain ⟨e5, l5, z5⟩ := hM.fact 5 (by omega) rfl
  refine ⟨lo 4, lo 5, g1, k1, g2, k2, g3, k3, h1, c1, h2, c2, h3, c3, e1, e3, e4, e5, ?_⟩
  have a1 := own_at o1.s
  have a2 := own_at o1.f
  have a3 := own_at o1.e
  have b1 := own_at o3.s
  have b2 := own_at o3.f
  have b3 := own_at o3.e
  have s0 := d0.size
  have t1 := hM.at' 1 (by omega) rfl
  have t3 := hM.at' 3 (by omega) rfl
  have t4 := hM.at' 4 (by omega) rfl
  have t5 := hM.at' 5 (by omega) rfl
  have u45 := hM.apart 4 5 (by omega) (by omega) rfl rfl (by decide)
  have u14 := hM.apart 1 4 (by omega) (by omega) rfl rfl (by decide)
  have u34 := hM.apart 3 4 (by omega) (by omega) rfl rfl (by decide)
  have u15 := hM.apart 1 5 (by omega) (by omega) rfl rfl (by decide)
  have u35 := hM.apart 3 5 (by omega) (by omega) rfl rfl (by decide)
  have D := hM.d
  refine ⟨z4, z5, by omega, o1.on (by omega) (Below.refl _ _), o3.on (by omega) (Below.refl _ _), ⟨hi 1, by omega, by omega, by omega, by omega, by omega, by omega⟩, ⟨⟨by omega, by omega, by omega⟩, by omega, by omega, by omega⟩, ⟨⟨by omega, by omega, by omega⟩, by omega, by omega, by omega⟩, d0.trans (D.mono s0), by omega, by omega⟩
end Go.Proofs.YtfoahpideglghaaGreatDoor
