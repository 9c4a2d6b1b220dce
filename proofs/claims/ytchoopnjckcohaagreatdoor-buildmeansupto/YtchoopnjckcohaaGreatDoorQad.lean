import Derived.Test.YtchoopnjckcohaaGreatDoorQac
import Derived.Shelf.Sort.Plain
import Derived.Shelf.Slices.Clone
import Derived.Shelf.Slices.In.SortNone
import Derived.Laws.IdiomStrings
import Derived.Laws.AppendOwnNone
set_option maxRecDepth 100000
set_option maxHeartbeats 40000000
namespace Go.Proofs.YtchoopnjckcohaaGreatDoor
open Go.RowKit Go.Maps Go.Shelf
attribute [local go_sem] Oper.semAt_some
def mixG {α : Type} (f : α → α) (L : List α) (i : Nat) : List α := (L.take i).map f ++ L.drop i
theorem mixG_len {α : Type} (f : α → α) (L : List α) (i : Nat) : (mixG f L i).length = L.length := by simp [mixG]; omega
theorem mixG_zero {α : Type} (f : α → α) (L : List α) : mixG f L 0 = L := by simp [mixG]
theorem mixG_full {α : Type} (f : α → α) (L : List α) : mixG f L L.length = L.map f := by simp [mixG]
theorem mixG_get {α : Type} (f : α → α) (L : List α) (i : Nat) (h : i < L.length) : (mixG f L i)[i]? = some L[i] := by
 unfold mixG
 rw [List.getElem?_append_right (by simp; omega)]
 simp [List.length_take, Nat.min_eq_left (Nat.le_of_lt h)]
theorem mixG_set {α : Type} (f : α → α) (L : List α) (i : Nat) (h : i < L.length) : (mixG f L i).set i (f L[i]) = mixG f L (i + 1) := by
 unfold mixG
 have hl : ((L.take i).map f).length = i := by simp; omega
 rw [List.drop_eq_getElem_cons h, List.set_append_right _ _ (by omega), hl, Nat.sub_self, List.set_cons_zero, ← List.take_append_getElem h, List.map_append, List.append_assoc]
 rfl
theorem row1_set {W : World} {B b n cap : Nat} {e : TypeId} {xs : List Value} (h : W.ownsRow B e 1 (.slice (some ⟨b, 0, none⟩) n cap) n xs) (j : Nat) (u : Value) :
 (W.setCell ⟨b, j, none⟩ u).ownsRow B e 1 (.slice (some ⟨b, 0, none⟩) n cap) n (xs.set j u) := by
 refine ⟨by rw [List.length_set]; exact h.1, ?_⟩
 rcases h.2 with ⟨z, _⟩ | ⟨g, cap', cur, e1, hb, hg, hn, hc, hs, ht⟩
 · cases z
 · cases e1
   refine .inr ⟨b, cap, _, rfl, hb, heap_setCell_same _ _ _ _ e _ hg, hn, hc, by simpa using hs, ?_⟩
   rw [← ht, Array.toList_setIfInBounds, List.take_set]
theorem flatE_len (X : List EdT) : (X.flatMap encE).length = X.length * 3 := by
 induction X with
 | nil => rfl
 | cons x X ih => rw [List.flatMap_cons, List.length_append, ih, encE_len, List.length_cons]; omega
theorem flatE_at (X : List EdT) (t : Nat) (h : t / 3 < X.length) : (X.flatMap encE)[t]? = (encE X[t / 3])[t % 3]? := by
 have := flat_get encE 3 encE_len X (t / 3) (t % 3) h (by omega)
 rwa [show t / 3 * 3 + t % 3 = t by omega] at this
theorem flatE_none (X : List EdT) (t : Nat) (h : ¬ t / 3 < X.length) : (X.flatMap encE)[t]? = none := List.getElem?_eq_none (by rw [flatE_len]; omega)
theorem rowE_set {W : World} {B b cap : Nat} {X : List EdT} (h : W.ownsRow B 61 3 (.slice (some ⟨b, 0, none⟩) X.length cap) X.length (X.flatMap encE)) (j : Nat) (x : EdT) (hj : j < X.length) :
 (((W.setCell ⟨b, j * 3, none⟩ (.int .i64 x.1)).setCell ⟨b, j * 3 + 1, none⟩ (.int .i64 x.2.1)).setCell ⟨b, j * 3 + 2, none⟩ (.int .i64 x.2.2)).ownsRow B 61 3 (.slice (some ⟨b, 0, none⟩) (X.set j x).length cap) (X.set j x).length ((X.set j x).flatMap encE) := by
 refine ⟨by rw [flatE_len], ?_⟩
 rcases h.2 with ⟨z, _⟩ | ⟨g, cap', cur, e, hb, hg, hn, hc, hs, ht⟩
 · cases z
 · cases e
   refine .inr ⟨b, cap, _, rfl, hb, heap_setCell_same _ _ _ _ 61 _ (heap_setCell_same _ _ _ _ 61 _ (heap_setCell_same _ _ _ _ 61 _ hg)), by rw [List.length_set]; exact hn, hc, by simpa using hs, ?_⟩
   rw [List.length_set]
   apply List.ext_getElem?
   intro t
   have hcz : X.length * 3 ≤ cur.size := by rw [hs]; exact Nat.mul_le_mul_right 3 hn
   by_cases hq : t / 3 < X.length
   · have htl : t < X.length * 3 := by omega
     rw [List.getElem?_take_of_lt htl, flatE_at _ t (by rw [List.length_set]; exact hq), List.getElem_set, Array.getElem?_toList]
     simp only [Array.getElem?_setIfInBounds, Array.size_setIfInBounds]
     by_cases hjq : j = t / 3
     · rw [if_pos hjq]
       have : t = j * 3 ∨ t = j * 3 + 1 ∨ t = j * 3 + 2 := by omega
       rcases this with rfl | rfl | rfl
       · rw [if_neg (by omega), if_neg (by omega), if_pos rfl, if_pos (by omega), show j * 3 % 3 = 0 by omega]; rfl
       · rw [if_neg (by omega), if_pos rfl, if_pos (by omega), show (j * 3 + 1) % 3 = 1 by omega]; rfl
       · rw [if_pos rfl, if_pos (by omega), show (j * 3 + 2) % 3 = 2 by omega]; rfl
     · rw [if_neg hjq, if_neg (by omega), if_neg (by omega), if_neg (by omega), ← flatE_at X t hq, ← ht, List.getElem?_take_of_lt htl, Array.getElem?_toList]
   · rw [flatE_none _ t (by rw [List.length_set]; exact hq), List.getElem?_take_eq_none (by omega)]
theorem own_fz {W : World} {B g c n : Nat} {e : TypeId} {sz : Nat} {xs : List Value} (h : W.ownsRow B e sz (.slice (some ⟨g, 0, none⟩) n c) n xs) (j : Nat) : W.frozen? ⟨g, j, none⟩ = false := by
 rcases h.2 with ⟨z, _⟩ | ⟨g', cap', cur, e1, hb, hg, hn, hc, hs, ht⟩
 · cases z
 · cases e1
   exact fz_of hg
theorem own_get {W : World} {B g c n : Nat} {e : TypeId} {sz : Nat} {xs : List Value} (h : W.ownsRow B e sz (.slice (some ⟨g, 0, none⟩) n c) n xs) {j : Nat} {u : Value} (hu : xs[j]? = some u) : W.cell? ⟨g, j, none⟩ = some u := by
 have := h.cells (g := g) rfl j u hu
 rw [Addr.add_lit] at this
 simpa using this
theorem box3z (w : World) (A Z : Array Value) (O : Array Value) (t : TypeId) : Below w.heap.size w (((w.alloc (.cells A t)).alloc (.cells Z t)).alloc (.cells O t)) ∧ (((w.alloc (.cells A t)).alloc (.cells Z t)).alloc (.cells O t)).heap[w.heap.size]? = some (.cells A t (0, 0)) ∧ (((w.alloc (.cells A t)).alloc (.cells Z t)).alloc (.cells O t)).heap[w.heap.size + 1]? = some (.cells Z t (0, 0)) ∧ (((w.alloc (.cells A t)).alloc (.cells Z t)).alloc (.cells O t)).heap[w.heap.size + 1 + 1]? = some (.cells O t (0, 0)) ∧ (((w.alloc (.cells A t)).alloc (.cells Z t)).alloc (.cells O t)).heap.size = w.heap.size + 3 := by
 refine ⟨(((Below.refl _ _).alloc (Nat.le_refl _) _).alloc (by simp) _).alloc (by simp <;> omega) _, ?_, ?_, ?_, by simp⟩
 · exact (Below.heap_alloc _ _ _ (by simp <;> omega)).trans ((Below.heap_alloc _ _ _ (by simp)).trans (World.alloc_heap_new _ _))
 · have := World.alloc_heap_new (w.alloc (.cells A t)) (.cells Z t)
   rw [World.size_alloc] at this
   exact (Below.heap_alloc _ _ _ (by simp)).trans this
 · have := World.alloc_heap_new ((w.alloc (.cells A t)).alloc (.cells Z t)) (.cells O t)
   rw [World.size_alloc, World.size_alloc] at this
   exact this
theorem Only.cellK {w w' : World} {R : Nat → Prop} (h : Only w w' R) {b : Nat} {o : Obj} (hb : w.heap[b]? = some o) (hn : ¬ R b) : w'.heap[b]? = some o := (h.block b (Array.getElem?_eq_some_iff.1 hb).1 hn).trans hb
structure BeI (W0 : World) (B : Nat) (na : Int) (h1 c1 h2 c2 h3 c3 : Nat) (S F : List Int) (E : List EdT) (i j l : Nat) (W : World) : Prop where
 o : Only W0 W (fun k => k = h1 ∨ k = h2 ∨ k = h3)
 s : W.ownsRow B 3 1 (.slice (some ⟨h1, 0, none⟩) S.length c1) S.length ((mixG (· + na) S i).map (Value.int .i64))
 f : W.ownsRow B 3 1 (.slice (some ⟨h2, 0, none⟩) F.length c2) F.length ((mixG (· + na) F j).map (Value.int .i64))
 e : W.ownsRow B 61 3 (.slice (some ⟨h3, 0, none⟩) E.length c3) E.length ((mixG (shE na) E l).flatMap encE)
 n12 : h1 ≠ h2
 n13 : h1 ≠ h3
 n23 : h2 ≠ h3
section
variable {W0 W : World} {B : Nat} {na : Int} {h1 c1 h2 c2 h3 c3 : Nat} {S F : List Int} {E : List EdT} {i j l : Nat}
theorem BeI.getS (h : BeI W0 B na h1 c1 h2 c2 h3 c3 S F E i j l W) (hi : i < S.length) : W.cell? ⟨h1, i, none⟩ = some (.int .i64 S[i]) := own_get h.s (by rw [List.getElem?_map, mixG_get _ _ _ hi]; rfl)
theorem BeI.getF (h : BeI W0 B na h1 c1 h2 c2 h3 c3 S F E i j l W) (hi : j < F.length) : W.cell? ⟨h2, j, none⟩ = some (.int .i64 F[j]) := own_get h.f (by rw [List.getElem?_map, mixG_get _ _ _ hi]; rfl)
theorem BeI.getE (h : BeI W0 B na h1 c1 h2 c2 h3 c3 S F E i j l W) (hi : l < E.length) : W.cell? ⟨h3, l * 3, none⟩ = some (.int .i64 E[l].1) ∧ W.cell? ⟨h3, l * 3 + 1, none⟩ = some (.int .i64 E[l].2.1) ∧ W.cell? ⟨h3, l * 3 + 2, none⟩ = some (.int .i64 E[l].2.2) := by
 have hr := h.e
 have hl := mixG_len (shE na) E l
 rw [← hl] at hr
 have q := rdE_cells hr l (by rw [hl]; exact hi)
 have e : (mixG (shE na) E l)[l]'(by rw [hl]; exact hi) = E[l] := by
  have := mixG_get (shE na) E l hi
  rw [List.getElem?_eq_getElem (by rw [hl]; exact hi)] at this
  exact Option.some.inj this
 rw [e] at q
 exact q
theorem BeI.putS (h : BeI W0 B na h1 c1 h2 c2 h3 c3 S F E i j l W) (hi : i < S.length) : BeI W0 B na h1 c1 h2 c2 h3 c3 S F E (i + 1) j l (W.setCell ⟨h1, i, none⟩ (.int .i64 (S[i] + na))) := by
 refine ⟨h.o.trans ((only_set W h1 i _).mono fun k _ hk => Or.inl hk), ?_, own_only h.f (only_set W h1 i _) h.n12.symm, own_only h.e (only_set W h1 i _) h.n13.symm, h.n12, h.n13, h.n23⟩
 have q := row1_set h.s i (.int .i64 (S[i] + na))
 rwa [← List.map_set, mixG_set (· + na) S i hi] at q
theorem BeI.putF (h : BeI W0 B na h1 c1 h2 c2 h3 c3 S F E i j l W) (hi : j < F.length) : BeI W0 B na h1 c1 h2 c2 h3 c3 S F E i (j + 1) l (W.setCell ⟨h2, j, none⟩ (.int .i64 (F[j] + na))) := by
 refine ⟨h.o.trans ((only_set W h2 j _).mono fun k _ hk => Or.inr (Or.inl hk)), own_only h.s (only_set W h2 j _) h.n12, ?_, own_only h.e (only_set W h2 j _) h.n23.symm, h.n12, h.n13, h.n23⟩
 have q := row1_set h.f j (.int .i64 (F[j] + na))
 rwa [← List.map_set, mixG_set (· + na) F j hi] at q
theorem BeI.putE (h : BeI W0 B na h1 c1 h2 c2 h3 c3 S F E i j l W) (hi : l < E.length) : BeI W0 B na h1 c1 h2 c2 h3 c3 S F E i j (l + 1) (((W.setCell ⟨h3, l * 3, none⟩ (.int .i64 (E[l].1 + na))).setCell ⟨h3, l * 3 + 1, none⟩ (.int .i64 E[l].2.1)).setCell ⟨h3, l * 3 + 2, none⟩ (.int .i64 (E[l].2.2 + na))) := by
 have o3 := only3 W h3 (l * 3) (l * 3 + 1) (l * 3 + 2) (.int .i64 (E[l].1 + na)) (.int .i64 E[l].2.1) (.int .i64 (E[l].2.2 + na))
 refine ⟨h.o.trans (o3.mono fun k _ hk => Or.inr (Or.inr hk)), own_only h.s o3 h.n13, own_only h.f o3 h.n23, ?_, h.n12, h.n13, h.n23⟩
 have hr := h.e
 have hl := mixG_len (shE na) E l
 rw [← hl] at hr
 have q := rowE_set hr l (shE na E[l]) (by rw [hl]; exact hi)
 rw [mixG_set (shE na) E l hi, mixG_len] at q
 exact q
theorem BeI.alloc (h : BeI W0 B na h1 c1 h2 c2 h3 c3 S F E i j l W) (o : Obj) : BeI W0 B na h1 c1 h2 c2 h3 c3 S F E i j l (W.alloc o) :=
 ⟨h.o.trans (Only.ofBelow ((Below.refl _ _).alloc (Nat.le_refl _) _)), h.s.alloc o, h.f.alloc o, h.e.alloc o, h.n12, h.n13, h.n23⟩
end
theorem grown_row {W W' : World} {B g c n q : Nat} {e : TypeId} {sz : Nat} {xs : List Value} (h : W.ownsRow B e sz (.slice (some ⟨g, 0, none⟩) n c) n xs) (hg : W.grownBy W' (some q)) (hne : g ≠ q) : W'.ownsRow B e sz (.slice (some ⟨g, 0, none⟩) n c) n xs :=
 h.kept hg (Or.inr (by simp [Value.ownBlock]; exact hne))
theorem grown_blk {W W' : World} {b q : Nat} {o : Obj} (h : W.heap[b]? = some o) (hg : W.grownBy W' (some q)) (hne : b ≠ q) : W'.heap[b]? = some o :=
 (hg.block b (Array.getElem?_eq_some_iff.1 h).1 (by simp; exact hne)).trans h
theorem own_form {W : World} {B : Nat} {e : TypeId} {sz n : Nat} {v : Value} {xs : List Value} (h : W.ownsRow B e sz v n xs) (hv : v ≠ .slice none 0 0) : ∃ g c, v = .slice (some ⟨g, 0, none⟩) n c := by
 rcases h.2 with ⟨z, _⟩ | ⟨g, cap', cur, e1, _⟩
 · exact absurd z hv
 · exact ⟨g, cap', e1⟩
structure BeF (w : World) (B : Nat) (W : World) (v0 v1 v2 v3 v4 : Value) (bb : Array Value) : Prop where
 a : W.heap[w.heap.size]? = some (.cells #[v0, v1, v2, v3, v4] 25 (0, 0))
 b : W.heap[w.heap.size + 1]? = some (.cells bb 25 (0, 0))
 z : W.heap[w.heap.size + 1 + 1]? = some (.cells #[.int .i64 0, .int .i64 0, .slice none 0 0, .slice none 0 0, .slice none 0 0] 25 (0, 0))
 d : Below B w W
 le : w.heap.size + 3 ≤ W.heap.size
section
variable {w W W' : World} {B : Nat} {v0 v1 v2 v3 v4 : Value} {bb : Array Value}
theorem BeF.only (h : BeF w B W v0 v1 v2 v3 v4 bb) (i : Nat) (u : Value) (hB : B ≤ w.heap.size) : (W.setCell ⟨w.heap.size, i, none⟩ u).heap[w.heap.size + 1]? = some (.cells bb 25 (0, 0)) ∧ (W.setCell ⟨w.heap.size, i, none⟩ u).heap[w.heap.size + 1 + 1]? = some (.cells #[.int .i64 0, .int .i64 0, .slice none 0 0, .slice none 0 0, .slice none 0 0] 25 (0, 0)) ∧ Below B w (W.setCell ⟨w.heap.size, i, none⟩ u) ∧ w.heap.size + 3 ≤ (W.setCell ⟨w.heap.size, i, none⟩ u).heap.size := by
 have o := only_set W w.heap.size i u
 exact ⟨o.cellK h.b (by omega), o.cellK h.z (by omega), h.d.trans (o.toBelow (Nat.le_trans hB h.d.size) (fun k hk => by omega)), Nat.le_trans h.le o.size⟩
theorem BeF.set0 (h : BeF w B W v0 v1 v2 v3 v4 bb) (u : Value) (hB : B ≤ w.heap.size) : BeF w B (W.setCell ⟨w.heap.size, 0, none⟩ u) u v1 v2 v3 v4 bb := by
 have q := h.only 0 u hB
 exact ⟨heap_setCell_same _ _ 0 _ 25 _ h.a, q.1, q.2.1, q.2.2.1, q.2.2.2⟩
theorem BeF.set2 (h : BeF w B W v0 v1 v2 v3 v4 bb) (u : Value) (hB : B ≤ w.heap.size) : BeF w B (W.setCell ⟨w.heap.size, 2, none⟩ u) v0 v1 u v3 v4 bb := by
 have q := h.only 2 u hB
 exact ⟨heap_setCell_same _ _ 2 _ 25 _ h.a, q.1, q.2.1, q.2.2.1, q.2.2.2⟩
theorem BeF.set3 (h : BeF w B W v0 v1 v2 v3 v4 bb) (u : Value) (hB : B ≤ w.heap.size) : BeF w B (W.setCell ⟨w.heap.size, 3, none⟩ u) v0 v1 v2 u v4 bb := by
 have q := h.only 3 u hB
 exact ⟨heap_setCell_same _ _ 3 _ 25 _ h.a, q.1, q.2.1, q.2.2.1, q.2.2.2⟩
theorem BeF.set4 (h : BeF w B W v0 v1 v2 v3 v4 bb) (u : Value) (hB : B ≤ w.heap.size) : BeF w B (W.setCell ⟨w.heap.size, 4, none⟩ u) v0 v1 v2 v3 u bb := by
 have q := h.only 4 u hB
 exact ⟨heap_setCell_same _ _ 4 _ 25 _ h.a, q.1, q.2.1, q.2.2.1, q.2.2.2⟩
theorem BeF.grown (h : BeF w B W v0 v1 v2 v3 v4 bb) {q : Nat} (hg : W.grownBy W' (some q)) (hq : B ≤ q ∧ q < w.heap.size) : BeF w B W' v0 v1 v2 v3 v4 bb :=
 ⟨grown_blk h.a hg (by omega), grown_blk h.b hg (by omega), grown_blk h.z hg (by omega), h.d.grown hg (Nat.le_trans (Nat.le_trans hq.1 (Nat.le_of_lt hq.2)) h.d.size) (fun k hk => by cases hk; exact hq.1), Nat.le_trans h.le hg.size⟩
end
theorem beside_any (w : World) (B C : Nat) (na nb m mb : Int) (g1 k1 g2 k2 g3 k3 h1 c1 h2 c2 h3 c3 : Nat) (S F S' F' : List Int) (E E' : List EdT) (hA : Hid (Own B w g1 k1 g2 k2 g3 k3 S F E)) (hB : Hid (Own B w h1 c1 h2 c2 h3 c3 S' F' E')) (hC : Hid (g1 < C ∧ g2 < C ∧ g3 < C ∧ C ≤ h1 ∧ C ≤ h2 ∧ C ≤ h3)) (hBw : B ≤ w.heap.size) (hn : 0 ≤ na ∧ na ≤ 4096) (hnb : 0 ≤ nb ∧ nb ≤ 4096) (hS : Hid (∀ x ∈ S', 0 ≤ x ∧ x < 4096)) (hF : Hid (∀ x ∈ F', 0 ≤ x ∧ x < 4096)) (hE : Hid (∀ e ∈ E', (0 ≤ e.1 ∧ e.1 < 4096) ∧ 0 ≤ e.2.2 ∧ e.2.2 < 4096)) (l1 : S.length ≤ 4194304) (l2 : F.length ≤ 4194304) (l3 : E.length ≤ 4194304) (l4 : S'.length ≤ 4194304) (l5 : F'.length ≤ 4194304) (l6 : E'.length ≤ 4194304) :
 Calls Tryz.prog 97 #[.agg #[.int .i64 na, .int .i64 m, .slice (some ⟨g1, 0, none⟩) S.length k1, .slice (some ⟨g2, 0, none⟩) F.length k2, .slice (some ⟨g3, 0, none⟩) E.length k3], .agg #[.int .i64 nb, .int .i64 mb, .slice (some ⟨h1, 0, none⟩) S'.length c1, .slice (some ⟨h2, 0, none⟩) F'.length c2, .slice (some ⟨h3, 0, none⟩) E'.length c3]] w fun e w' => ∃ r1 q1 r2 q2 r3 q3, e = .returned (.agg #[.int .i64 (na + nb), .int .i64 m, .slice (some ⟨r1, 0, none⟩) (S ++ shL na S').length q1, .slice (some ⟨r2, 0, none⟩) (F ++ shL na F').length q2, .slice (some ⟨r3, 0, none⟩) (E ++ shEs na E').length q3]) ∧ Own B w' r1 q1 r2 q2 r3 q3 (S ++ shL na S') (F ++ shL na F') (E ++ shEs na E') ∧ Below B w w' := by
 obtain ⟨i3, hi3, hz30, hz31, hz32⟩ := info_parts info3
 obtain ⟨i5, hi5, hz50, hz51, hz52⟩ := info_parts info59
 obtain ⟨W0, hW0⟩ : ∃ W0, ((w.alloc (.cells #[.int .i64 na, .int .i64 m, .slice (some ⟨g1, 0, none⟩) S.length k1, .slice (some ⟨g2, 0, none⟩) F.length k2, .slice (some ⟨g3, 0, none⟩) E.length k3] 25)).alloc (.cells #[.int .i64 nb, .int .i64 mb, .slice (some ⟨h1, 0, none⟩) S'.length c1, .slice (some ⟨h2, 0, none⟩) F'.length c2, .slice (some ⟨h3, 0, none⟩) E'.length c3] 25)).alloc (.cells #[.int .i64 0, .int .i64 0, .slice none 0 0, .slice none 0 0, .slice none 0 0] 25) = W0 := ⟨_, rfl⟩
 have HD := hide (box3z w #[.int .i64 na, .int .i64 m, .slice (some ⟨g1, 0, none⟩) S.length k1, .slice (some ⟨g2, 0, none⟩) F.length k2, .slice (some ⟨g3, 0, none⟩) E.length k3] #[.int .i64 nb, .int .i64 mb, .slice (some ⟨h1, 0, none⟩) S'.length c1, .slice (some ⟨h2, 0, none⟩) F'.length c2, .slice (some ⟨h3, 0, none⟩) E'.length c3] #[.int .i64 0, .int .i64 0, .slice none 0 0, .slice none 0 0, .slice none 0 0] 25)
 rw [hW0] at HD
 have HP : Hid ((g1 < w.heap.size ∧ g2 < w.heap.size ∧ g3 < w.heap.size) ∧ (h1 < w.heap.size ∧ h2 < w.heap.size ∧ h3 < w.heap.size) ∧ B ≤ g1 ∧ B ≤ g2 ∧ B ≤ g3 ∧ B ≤ h1 ∧ B ≤ h2 ∧ B ≤ h3) := hide ⟨⟨(own_at hA.out.s).2, (own_at hA.out.f).2, (own_at hA.out.e).2⟩, ⟨(own_at hB.out.s).2, (own_at hB.out.f).2, (own_at hB.out.e).2⟩, (own_at hA.out.s).1, (own_at hA.out.f).1, (own_at hA.out.e).1, (own_at hB.out.s).1, (own_at hB.out.f).1, (own_at hB.out.e).1⟩
 have H0 : Hid (BeI W0 B na h1 c1 h2 c2 h3 c3 S' F' E' 0 0 0 W0) := hide ⟨Only.ofBelow (Below.refl _ _), by rw [mixG_zero]; exact own_on hB.out.s HD.out.1 HP.out.2.1.1, by rw [mixG_zero]; exact own_on hB.out.f HD.out.1 HP.out.2.1.2.1, by rw [mixG_zero]; exact own_on hB.out.e HD.out.1 HP.out.2.1.2.2, hB.out.n12, hB.out.n13, hB.out.n23⟩
 have BK : Hid (∀ (W : World) (i j l : Nat), BeI W0 B na h1 c1 h2 c2 h3 c3 S' F' E' i j l W → W.heap[w.heap.size]? = some (.cells #[.int .i64 na, .int .i64 m, .slice (some ⟨g1, 0, none⟩) S.length k1, .slice (some ⟨g2, 0, none⟩) F.length k2, .slice (some ⟨g3, 0, none⟩) E.length k3] 25 (0, 0)) ∧ W.heap[w.heap.size + 1]? = some (.cells #[.int .i64 nb, .int .i64 mb, .slice (some ⟨h1, 0, none⟩) S'.length c1, .slice (some ⟨h2, 0, none⟩) F'.length c2, .slice (some ⟨h3, 0, none⟩) E'.length c3] 25 (0, 0)) ∧ W.heap[w.heap.size + 1 + 1]? = some (.cells #[.int .i64 0, .int .i64 0, .slice none 0 0, .slice none 0 0, .slice none 0 0] 25 (0, 0))) := hide (fun W i j l h => by
  have hp := HP.out
  refine ⟨h.o.cellK HD.out.2.1 ?_, h.o.cellK HD.out.2.2.1 ?_, h.o.cellK HD.out.2.2.2.1 ?_⟩ <;> omega)
 have CK : Hid (∀ (W : World) (i j l : Nat), BeI W0 B na h1 c1 h2 c2 h3 c3 S' F' E' i j l W → W.cell? ⟨w.heap.size, 0, none⟩ = some (.int .i64 na) ∧ W.cell? ⟨w.heap.size + 1, 2, none⟩ = some (.slice (some ⟨h1, 0, none⟩) S'.length c1) ∧ W.cell? ⟨w.heap.size + 1, 3, none⟩ = some (.slice (some ⟨h2, 0, none⟩) F'.length c2) ∧ W.cell? ⟨w.heap.size + 1, 4, none⟩ = some (.slice (some ⟨h3, 0, none⟩) E'.length c3)) := hide (fun W i j l h => by
  have q := BK.out W i j l h
  exact ⟨cell_of q.1 rfl, cell_of q.2.1 rfl, cell_of q.2.1 rfl, cell_of q.2.1 rfl⟩)
 obtain ⟨y0, y1, y2, y3⟩ := CK.out W0 0 0 0 H0.out
 go_enter Tryz.func97, Tryz.ntmps97
 go_wp2
 clear y0 y1 y2 y3
 go_loopw [14] (fun iv wr => ∃ i : Nat, i ≤ S'.length ∧ iv = .int .i64 i ∧ Hid (BeI W0 B na h1 c1 h2 c2 h3 c3 S' F' E' i 0 0 wr)) (fun iv _ => S'.length - (intOf iv).toNat)
 case atStart => exact ⟨0, Nat.zero_le _, rfl, H0⟩
 case round =>
  obtain ⟨i, hi, rfl, HY⟩ := hrel
  clear H0
  obtain ⟨y0, y1, y2, y3⟩ := CK.out wr i 0 0 HY.out
  by_cases hil : i < S'.length
  · have i0 : (0 : Int) ≤ (i : Int) := by omega
    have i1 : (i : Int) < (S'.length : Int) := by omega
    have z := HY.out.getS hil
    have zf := own_fz HY.out.s i
    have HN := hide (HY.out.putS hil)
    have hb := hS.out _ (List.getElem_mem hil)
    generalize S'[i] = x at z HN hb
    have iw : IntKind.i64.wrap (x + na) = x + na := by rw [IntKind.wrap_i64]; omega
    go_wp2
    go_roundw
    case rel => exact ⟨i + 1, by omega, by go_num, HN⟩
    case measure => simp [intOf]; omega
  · obtain rfl : i = S'.length := by omega
    have i1 : ¬ (S'.length : Int) < (S'.length : Int) := by omega
    go_wp2
    clear y0 y1 y2 y3 i1 hi hil
    go_loopw [31] (fun iv wr => ∃ i : Nat, i ≤ F'.length ∧ iv = .int .i64 i ∧ Hid (BeI W0 B na h1 c1 h2 c2 h3 c3 S' F' E' S'.length i 0 wr)) (fun iv _ => F'.length - (intOf iv).toNat)
    case atStart => exact ⟨0, Nat.zero_le _, rfl, HY⟩
    case round =>
     obtain ⟨i, hi, rfl, HZ⟩ := hrel
     clear HY
     obtain ⟨y0, y1, y2, y3⟩ := CK.out _ S'.length i 0 HZ.out
     by_cases hil : i < F'.length
     · have i0 : (0 : Int) ≤ (i : Int) := by omega
       have i1 : (i : Int) < (F'.length : Int) := by omega
       have z := HZ.out.getF hil
       have zf := own_fz HZ.out.f i
       have HN := hide (HZ.out.putF hil)
       have hb := hF.out _ (List.getElem_mem hil)
       generalize F'[i] = x at z HN hb
       have iw : IntKind.i64.wrap (x + na) = x + na := by rw [IntKind.wrap_i64]; omega
       go_wp2
       go_roundw
       case rel => exact ⟨i + 1, by omega, by go_num, HN⟩
       case measure => simp [intOf]; omega
     · obtain rfl : i = F'.length := by omega
       have i1 : ¬ (F'.length : Int) < (F'.length : Int) := by omega
       go_wp2
       clear y0 y1 y2 y3 i1 hi hil
       go_loopw [48] (fun iv wr => ∃ i : Nat, i ≤ E'.length ∧ iv = .int .i64 i ∧ Hid (BeI W0 B na h1 c1 h2 c2 h3 c3 S' F' E' S'.length F'.length i wr)) (fun iv _ => E'.length - (intOf iv).toNat)
       case atStart => exact ⟨0, Nat.zero_le _, rfl, HZ⟩
       case round =>
        obtain ⟨i, hi, rfl, HV⟩ := hrel
        clear HZ
        rename World => wv
        by_cases hil : i < E'.length
        · have i0 : (0 : Int) ≤ (i : Int) := by omega
          have i1 : (i : Int) < (E'.length : Int) := by omega
          obtain ⟨z0, z1, z2⟩ := HV.out.getE hil
          have HE := hide (fun (o : Obj) => (HV.out.alloc o).putE hil)
          have HA := hide (fun (o : Obj) => HV.out.alloc o)
          have hb := hE.out _ (List.getElem_mem hil)
          generalize E'[i] = x at z0 z1 z2 HE hb
          obtain ⟨x1, x2, x3⟩ := x
          simp only at z0 z1 z2 HE hb
          have iw : IntKind.i64.wrap (x1 + na) = x1 + na := by rw [IntKind.wrap_i64]; omega
          have iv : IntKind.i64.wrap (x3 + na) = x3 + na := by rw [IntKind.wrap_i64]; omega
          obtain ⟨W1, hW1⟩ : ∃ W1, wv.alloc (.cells #[.int .i64 x1, .int .i64 x2, .int .i64 x3] 61) = W1 := ⟨_, rfl⟩
          have HW : Hid (W1.heap[wv.heap.size]? = some (.cells #[.int .i64 x1, .int .i64 x2, .int .i64 x3] 61 (0, 0))) := hide (by rw [← hW1]; exact World.alloc_heap_new _ _)
          have I1 : Hid (BeI W0 B na h1 c1 h2 c2 h3 c3 S' F' E' S'.length F'.length i W1) := hide (by rw [← hW1]; exact HA.out _)
          have HN := HE.out (.cells #[.int .i64 x1, .int .i64 x2, .int .i64 x3] 61)
          rw [hW1] at HN
          have HN := hide HN
          obtain ⟨y0, y1, y2, y3⟩ := CK.out W1 S'.length F'.length i I1.out
          obtain ⟨u0, u1, u2⟩ := zd3 HW.out rfl rfl rfl
          have t0 : W1.cell? ⟨h3, i * 3, none⟩ = some (.int .i64 x1) := by rw [← hW1]; exact (((Below.refl _ wv).alloc (Nat.le_refl _) _).cell (p := ⟨h3, i * 3, none⟩) (World.block_lt_of_cell? wv _ z0)).trans z0
          have t1 : W1.cell? ⟨h3, i * 3 + 1, none⟩ = some (.int .i64 x2) := by rw [← hW1]; exact (((Below.refl _ wv).alloc (Nat.le_refl _) _).cell (p := ⟨h3, i * 3 + 1, none⟩) (World.block_lt_of_cell? wv _ z1)).trans z1
          have t2 : W1.cell? ⟨h3, i * 3 + 2, none⟩ = some (.int .i64 x3) := by rw [← hW1]; exact (((Below.refl _ wv).alloc (Nat.le_refl _) _).cell (p := ⟨h3, i * 3 + 2, none⟩) (World.block_lt_of_cell? wv _ z2)).trans z2
          have f0 := own_fz I1.out.e (i * 3)
          have f1 := own_fz I1.out.e (i * 3 + 1)
          have f2 := own_fz I1.out.e (i * 3 + 2)
          clear HE HA
          go_wp2
          refine ⟨⟨i + 1, by omega, by go_num, HN⟩, by simp [intOf]; omega⟩
        · obtain rfl : i = E'.length := by omega
          have i1 : ¬ (E'.length : Int) < (E'.length : Int) := by omega
          have bq := BK.out wv _ _ _ HV.out
          have q0 : wv.cell? ⟨w.heap.size, 0, none⟩ = some (.int .i64 na) := cell_of bq.1 rfl
          have q1 : wv.cell? ⟨w.heap.size + 1, 0, none⟩ = some (.int .i64 nb) := cell_of bq.2.1 rfl
          have qf : wv.frozen? ⟨w.heap.size, 0, none⟩ = false := fz_of bq.1
          have iw : IntKind.i64.wrap (na + nb) = na + nb := by rw [IntKind.wrap_i64]; omega
          have F0 : Hid (BeF w B wv (.int .i64 na) (.int .i64 m) (.slice (some ⟨g1, 0, none⟩) S.length k1) (.slice (some ⟨g2, 0, none⟩) F.length k2) (.slice (some ⟨g3, 0, none⟩) E.length k3) #[.int .i64 nb, .int .i64 mb, .slice (some ⟨h1, 0, none⟩) S'.length c1, .slice (some ⟨h2, 0, none⟩) F'.length c2, .slice (some ⟨h3, 0, none⟩) E'.length c3]) := hide ⟨bq.1, bq.2.1, bq.2.2, (HD.out.1.mono hBw).trans (HV.out.o.toBelow (Nat.le_trans hBw HD.out.1.size) (fun k hk => by have hp := HP.out; omega)), by have := HV.out.o.size; have := HD.out.2.2.2.2; omega⟩
          have RA : Hid (wv.ownsRow B 3 1 (.slice (some ⟨g1, 0, none⟩) S.length k1) S.length (S.map (Value.int .i64)) ∧ wv.ownsRow B 3 1 (.slice (some ⟨g2, 0, none⟩) F.length k2) F.length (F.map (Value.int .i64)) ∧ wv.ownsRow B 61 3 (.slice (some ⟨g3, 0, none⟩) E.length k3) E.length (E.flatMap encE)) := hide (by
           have hp := HP.out
           have hc := hC.out
           refine ⟨row_only (own_on hA.out.s HD.out.1 hp.1.1) HV.out.o ?_, row_only (own_on hA.out.f HD.out.1 hp.1.2.1) HV.out.o ?_, row_only (own_on hA.out.e HD.out.1 hp.1.2.2) HV.out.o ?_⟩ <;> (intro k hk; cases hk; intro hk2; simp only at hk2; omega))
          have RB : Hid (wv.ownsRow B 3 1 (.slice (some ⟨h1, 0, none⟩) S'.length c1) S'.length ((shL na S').map (Value.int .i64)) ∧ wv.ownsRow B 3 1 (.slice (some ⟨h2, 0, none⟩) F'.length c2) F'.length ((shL na F').map (Value.int .i64)) ∧ wv.ownsRow B 61 3 (.slice (some ⟨h3, 0, none⟩) E'.length c3) E'.length ((shEs na E').flatMap encE)) := hide ⟨by have := HV.out.s; rw [mixG_full] at this; exact this, by have := HV.out.f; rw [mixG_full] at this; exact this, by have := HV.out.e; rw [mixG_full] at this; exact this⟩
          obtain ⟨X1, hX1⟩ : ∃ X1, wv.setCell ⟨w.heap.size, 0, none⟩ (.int .i64 (na + nb)) = X1 := ⟨_, rfl⟩
          have F1 := hide (F0.out.set0 (.int .i64 (na + nb)) hBw)
          have OX := only_set wv w.heap.size 0 (.int .i64 (na + nb))
          rw [hX1] at F1 OX
          have OX := hide OX
          have RA1 : Hid (X1.ownsRow B 3 1 (.slice (some ⟨g1, 0, none⟩) S.length k1) S.length (S.map (Value.int .i64)) ∧ X1.ownsRow B 3 1 (.slice (some ⟨g2, 0, none⟩) F.length k2) F.length (F.map (Value.int .i64)) ∧ X1.ownsRow B 61 3 (.slice (some ⟨g3, 0, none⟩) E.length k3) E.length (E.flatMap encE)) := hide (by
           have hp := HP.out
           exact ⟨own_only RA.out.1 OX.out (by omega), own_only RA.out.2.1 OX.out (by omega), own_only RA.out.2.2 OX.out (by omega)⟩)
          have RB1 : Hid (X1.ownsRow B 3 1 (.slice (some ⟨h1, 0, none⟩) S'.length c1) S'.length ((shL na S').map (Value.int .i64)) ∧ X1.ownsRow B 3 1 (.slice (some ⟨h2, 0, none⟩) F'.length c2) F'.length ((shL na F').map (Value.int .i64)) ∧ X1.ownsRow B 61 3 (.slice (some ⟨h3, 0, none⟩) E'.length c3) E'.length ((shEs na E').flatMap encE)) := hide (by
           have hp := HP.out
           exact ⟨own_only RB.out.1 OX.out (by omega), own_only RB.out.2.1 OX.out (by omega), own_only RB.out.2.2 OX.out (by omega)⟩)
          go_upto_region 17 with fail
          clear q0 q1 qf bq RA RB OX F0 HV iw i1 hi hil
          have y0 : X1.cell? ⟨w.heap.size, 2, none⟩ = some (.slice (some ⟨g1, 0, none⟩) S.length k1) := cell_of F1.out.a rfl
          have y1 : X1.cell? ⟨w.heap.size + 1, 2, none⟩ = some (.slice (some ⟨h1, 0, none⟩) S'.length c1) := cell_of F1.out.b rfl
          go_wp2_with (at_builtin; refine wpList_append_own_at _ rfl _ _ _ rfl B 3 i3 _ 1 8 Tryz.underlying22 hi3 hz30 hz31 hz32 rfl (by omega) (.slice (some ⟨g1, 0, none⟩) S.length k1) S.length (S.map (Value.int .i64)) rfl RA1.out.1 ⟨h1, 0, none⟩ S'.length c1 ((shL na S').map (Value.int .i64)) rfl (by simp [shL]) (rd_news (rdN_own RB1.out.1 (List.prefix_refl _))) (ints_one _) (by unfold maxLen; omega) (by omega) (Nat.le_trans hBw F1.out.d.size) ?_)
          intro v1 Y1 ho hgr hnil hloc
          obtain ⟨r1, q1, rfl⟩ := own_form ho hnil
          have L1 : Hid (r1 = g1 ∨ r1 = X1.heap.size) := hide (by simpa [Value.ownBlock] using hloc)
          have G1 : Hid (X1.grownBy Y1 (some g1)) := hide hgr
          have O1 : Hid (Y1.ownsRow B 3 1 (.slice (some ⟨r1, 0, none⟩) (S.length + S'.length) q1) (S.length + S'.length) ((S ++ shL na S').map (Value.int .i64))) := hide (by rw [List.map_append]; exact ho)
          clear ho hgr hnil hloc y0 y1
          have F2 := hide (F1.out.grown G1.out ⟨HP.out.2.2.1, HP.out.1.1⟩)
          have y0 : Y1.cell? ⟨w.heap.size, 2, none⟩ = some (.slice (some ⟨g1, 0, none⟩) S.length k1) := cell_of F2.out.a rfl
          have yf : Y1.frozen? ⟨w.heap.size, 2, none⟩ = false := fz_of F2.out.a
          obtain ⟨X2, hX2⟩ : ∃ X2, Y1.setCell ⟨w.heap.size, 2, none⟩ (.slice (some ⟨r1, 0, none⟩) (S.length + S'.length) q1) = X2 := ⟨_, rfl⟩
          have F3 := hide (F2.out.set2 (.slice (some ⟨r1, 0, none⟩) (S.length + S'.length) q1) hBw)
          have OX := only_set Y1 w.heap.size 2 (.slice (some ⟨r1, 0, none⟩) (S.length + S'.length) q1)
          rw [hX2] at F3 OX
          have OX := hide OX
          have RR2 : Hid ((r1 < Y1.heap.size ∧ r1 ≠ w.heap.size ∧ (r1 = g1 ∨ w.heap.size + 3 ≤ r1)) ∧ X2.ownsRow B 3 1 (.slice (some ⟨r1, 0, none⟩) (S.length + S'.length) q1) (S.length + S'.length) ((S ++ shL na S').map (Value.int .i64)) ∧ X2.ownsRow B 3 1 (.slice (some ⟨g2, 0, none⟩) F.length k2) F.length (F.map (Value.int .i64)) ∧ X2.ownsRow B 61 3 (.slice (some ⟨g3, 0, none⟩) E.length k3) E.length (E.flatMap encE) ∧ X2.ownsRow B 3 1 (.slice (some ⟨h2, 0, none⟩) F'.length c2) F'.length ((shL na F').map (Value.int .i64)) ∧ X2.ownsRow B 61 3 (.slice (some ⟨h3, 0, none⟩) E'.length c3) E'.length ((shEs na E').flatMap encE)) := hide (by
           have hp := HP.out
           have hc := hC.out
           have n12 := hA.out.n12
           have n13 := hA.out.n13
           have l1 := L1.out
           have le := F1.out.le
           have ra := own_at O1.out
           refine ⟨⟨ra.2, by omega, by omega⟩, own_only O1.out OX.out (by omega), own_only (grown_row RA1.out.2.1 G1.out n12.symm) OX.out (by omega), own_only (grown_row RA1.out.2.2 G1.out n13.symm) OX.out (by omega), own_only (grown_row RB1.out.2.1 G1.out (by omega)) OX.out (by omega), own_only (grown_row RB1.out.2.2 G1.out (by omega)) OX.out (by omega)⟩)
          have Z2 : Hid (Y1.heap.size ≤ X2.heap.size) := hide OX.out.size
          go_upto_region 18 with fail
          clear y0 yf OX F1 F2 RA1 RB1 O1 G1 hX2
          have y0 : X2.cell? ⟨w.heap.size, 3, none⟩ = some (.slice (some ⟨g2, 0, none⟩) F.length k2) := cell_of F3.out.a rfl
          have y1 : X2.cell? ⟨w.heap.size + 1, 3, none⟩ = some (.slice (some ⟨h2, 0, none⟩) F'.length c2) := cell_of F3.out.b rfl
          go_wp2_with (at_builtin; refine wpList_append_own_at _ rfl _ _ _ rfl B 3 i3 _ 1 8 Tryz.underlying22 hi3 hz30 hz31 hz32 rfl (by omega) (.slice (some ⟨g2, 0, none⟩) F.length k2) F.length (F.map (Value.int .i64)) rfl RR2.out.2.2.1 ⟨h2, 0, none⟩ F'.length c2 ((shL na F').map (Value.int .i64)) rfl (by simp [shL]) (rd_news (rdN_own RR2.out.2.2.2.2.1 (List.prefix_refl _))) (ints_one _) (by unfold maxLen; omega) (by omega) (Nat.le_trans hBw F3.out.d.size) ?_)
          intro v2 Y2 ho hgr hnil hloc
          obtain ⟨r2, q2, rfl⟩ := own_form ho hnil
          have L2 : Hid (r2 = g2 ∨ r2 = X2.heap.size) := hide (by simpa [Value.ownBlock] using hloc)
          have G2 : Hid (X2.grownBy Y2 (some g2)) := hide hgr
          have O2 : Hid (Y2.ownsRow B 3 1 (.slice (some ⟨r2, 0, none⟩) (F.length + F'.length) q2) (F.length + F'.length) ((F ++ shL na F').map (Value.int .i64))) := hide (by rw [List.map_append]; exact ho)
          clear ho hgr hnil hloc y0 y1
          have F4 := hide (F3.out.grown G2.out ⟨HP.out.2.2.2.1, HP.out.1.2.1⟩)
          have y0 : Y2.cell? ⟨w.heap.size, 3, none⟩ = some (.slice (some ⟨g2, 0, none⟩) F.length k2) := cell_of F4.out.a rfl
          have yf : Y2.frozen? ⟨w.heap.size, 3, none⟩ = false := fz_of F4.out.a
          obtain ⟨X3, hX3⟩ : ∃ X3, Y2.setCell ⟨w.heap.size, 3, none⟩ (.slice (some ⟨r2, 0, none⟩) (F.length + F'.length) q2) = X3 := ⟨_, rfl⟩
          have F5 := hide (F4.out.set3 (.slice (some ⟨r2, 0, none⟩) (F.length + F'.length) q2) hBw)
          have OX := only_set Y2 w.heap.size 3 (.slice (some ⟨r2, 0, none⟩) (F.length + F'.length) q2)
          rw [hX3] at F5 OX
          have OX := hide OX
          have RR3 : Hid ((r1 ≠ r2 ∧ r1 < Y2.heap.size ∧ r2 < Y2.heap.size ∧ r1 ≠ w.heap.size ∧ r2 ≠ w.heap.size ∧ (r1 = g1 ∨ w.heap.size + 3 ≤ r1) ∧ (r2 = g2 ∨ w.heap.size + 3 ≤ r2)) ∧ X3.ownsRow B 3 1 (.slice (some ⟨r1, 0, none⟩) (S.length + S'.length) q1) (S.length + S'.length) ((S ++ shL na S').map (Value.int .i64)) ∧ X3.ownsRow B 3 1 (.slice (some ⟨r2, 0, none⟩) (F.length + F'.length) q2) (F.length + F'.length) ((F ++ shL na F').map (Value.int .i64)) ∧ X3.ownsRow B 61 3 (.slice (some ⟨g3, 0, none⟩) E.length k3) E.length (E.flatMap encE) ∧ X3.ownsRow B 61 3 (.slice (some ⟨h3, 0, none⟩) E'.length c3) E'.length ((shEs na E').flatMap encE)) := hide (by
           have hp := HP.out
           have hc := hC.out
           have n12 := hA.out.n12
           have n23 := hA.out.n23
           have l2 := L2.out
           have le := F3.out.le
           have rb := RR2.out.1
           have ra := own_at O2.out
           have z2 := Z2.out
           have gs := G2.out.size
           refine ⟨⟨by omega, by omega, ra.2, by omega, by omega, by omega, by omega⟩, own_only (grown_row RR2.out.2.1 G2.out (by omega)) OX.out (by omega), own_only O2.out OX.out (by omega), own_only (grown_row RR2.out.2.2.2.1 G2.out n23.symm) OX.out (by omega), own_only (grown_row RR2.out.2.2.2.2.2 G2.out (by omega)) OX.out (by omega)⟩)
          have Z3 : Hid (Y2.heap.size ≤ X3.heap.size) := hide OX.out.size
          go_upto_region 19 with fail
          clear y0 yf OX F3 F4 RR2 O2 G2 hX3
          have y0 : X3.cell? ⟨w.heap.size, 4, none⟩ = some (.slice (some ⟨g3, 0, none⟩) E.length k3) := cell_of F5.out.a rfl
          have y1 : X3.cell? ⟨w.heap.size + 1, 4, none⟩ = some (.slice (some ⟨h3, 0, none⟩) E'.length c3) := cell_of F5.out.b rfl
          go_wp2_with (at_builtin; refine wpList_append_own_at _ rfl _ _ _ rfl B 61 i5 _ 3 24 Tryz.underlying23 hi5 hz50 hz51 hz52 rfl (by omega) (.slice (some ⟨g3, 0, none⟩) E.length k3) E.length (E.flatMap encE) rfl RR3.out.2.2.2.1 ⟨h3, 0, none⟩ E'.length c3 ((shEs na E').flatMap encE) rfl (by rw [flatE_len]; simp [shEs]) (by have q := RR3.out.2.2.2.2; rw [show E'.length = (shEs na E').length by simp [shEs]] at q; exact rdE_news (rdE_own q)) (encE_one _) (by unfold maxLen; omega) (by omega) (Nat.le_trans hBw F5.out.d.size) ?_)
          intro v3 Y3 ho hgr hnil hloc
          obtain ⟨r3, q3, rfl⟩ := own_form ho hnil
          have L3 : Hid (r3 = g3 ∨ r3 = X3.heap.size) := hide (by simpa [Value.ownBlock] using hloc)
          have G3 : Hid (X3.grownBy Y3 (some g3)) := hide hgr
          have O3 : Hid (Y3.ownsRow B 61 3 (.slice (some ⟨r3, 0, none⟩) (E.length + E'.length) q3) (E.length + E'.length) ((E ++ shEs na E').flatMap encE)) := hide (by rw [List.flatMap_append]; exact ho)
          clear ho hgr hnil hloc y0 y1
          have F6 := hide (F5.out.grown G3.out ⟨HP.out.2.2.2.2.1, HP.out.1.2.2⟩)
          have y0 : Y3.cell? ⟨w.heap.size, 4, none⟩ = some (.slice (some ⟨g3, 0, none⟩) E.length k3) := cell_of F6.out.a rfl
          have yf : Y3.frozen? ⟨w.heap.size, 4, none⟩ = false := fz_of F6.out.a
          obtain ⟨X4, hX4⟩ : ∃ X4, Y3.setCell ⟨w.heap.size, 4, none⟩ (.slice (some ⟨r3, 0, none⟩) (E.length + E'.length) q3) = X4 := ⟨_, rfl⟩
          have F7 := hide (F6.out.set4 (.slice (some ⟨r3, 0, none⟩) (E.length + E'.length) q3) hBw)
          have OX := only_set Y3 w.heap.size 4 (.slice (some ⟨r3, 0, none⟩) (E.length + E'.length) q3)
          rw [hX4] at F7 OX
          have OX := hide OX
          have RR4 : Hid ((r1 ≠ r2 ∧ r1 ≠ r3 ∧ r2 ≠ r3 ∧ (r1 < w.heap.size ∨ w.heap.size + 3 ≤ r1) ∧ (r2 < w.heap.size ∨ w.heap.size + 3 ≤ r2) ∧ (r3 < w.heap.size ∨ w.heap.size + 3 ≤ r3)) ∧ X4.ownsRow B 3 1 (.slice (some ⟨r1, 0, none⟩) (S.length + S'.length) q1) (S.length + S'.length) ((S ++ shL na S').map (Value.int .i64)) ∧ X4.ownsRow B 3 1 (.slice (some ⟨r2, 0, none⟩) (F.length + F'.length) q2) (F.length + F'.length) ((F ++ shL na F').map (Value.int .i64)) ∧ X4.ownsRow B 61 3 (.slice (some ⟨r3, 0, none⟩) (E.length + E'.length) q3) (E.length + E'.length) ((E ++ shEs na E').flatMap encE)) := hide (by
           have hp := HP.out
           have n13 := hA.out.n13
           have n23 := hA.out.n23
           have l3 := L3.out
           have le := F5.out.le
           have rb := RR3.out.1
           have z3 := Z3.out
           refine ⟨⟨rb.1, by omega, by omega, by omega, by omega, by omega⟩, own_only (grown_row RR3.out.2.1 G3.out (by omega)) OX.out (by omega), own_only (grown_row RR3.out.2.2.1 G3.out (by omega)) OX.out (by omega), own_only O3.out OX.out (by omega)⟩)
          go_upto_region 20 with fail
          clear y0 yf OX F5 F6 RR3 O3 G3 hX4
          obtain ⟨a0, a1, a2, a3, a4⟩ := zd5 F7.out.a rfl rfl rfl rfl rfl
          have F3 := F7.out.z
          obtain ⟨o0, o1, o2, o3, o4⟩ := zd5 F3 rfl rfl rfl rfl rfl
          have f0 : X4.frozen? ⟨w.heap.size + 1 + 1, 0, none⟩ = false := fz_of F3
          have f1 : X4.frozen? ⟨w.heap.size + 1 + 1, 1, none⟩ = false := fz_of F3
          have f2 : X4.frozen? ⟨w.heap.size + 1 + 1, 2, none⟩ = false := fz_of F3
          have f3 : X4.frozen? ⟨w.heap.size + 1 + 1, 3, none⟩ = false := fz_of F3
          have f4 : X4.frozen? ⟨w.heap.size + 1 + 1, 4, none⟩ = false := fz_of F3
          have O6 := hide (And.intro (set5 X4 (w.heap.size + 1 + 1) _ _ _ _ _ (.int .i64 (na + nb)) (.int .i64 m) (.slice (some ⟨r1, 0, none⟩) (S.length + S'.length) q1) (.slice (some ⟨r2, 0, none⟩) (F.length + F'.length) q2) (.slice (some ⟨r3, 0, none⟩) (E.length + E'.length) q3) 25 F3) (only5 X4 (w.heap.size + 1 + 1) (.int .i64 (na + nb)) (.int .i64 m) (.slice (some ⟨r1, 0, none⟩) (S.length + S'.length) q1) (.slice (some ⟨r2, 0, none⟩) (F.length + F'.length) q2) (.slice (some ⟨r3, 0, none⟩) (E.length + E'.length) q3)))
          clear F3
          go_wp2_with fail
          refine bodyPost_ret (results_cell_row (p := 4) (ty := 25) rfl _ _ (w.heap.size + 1 + 1) 25 _ (0, 0) _ rfl O6.out.1 Tryz.underlying25 rfl (by kernel_rfl)) rfl ?_
          have e1 : (S ++ shL na S').length = S.length + S'.length := by simp [shL]
          have e2 : (F ++ shL na F').length = F.length + F'.length := by simp [shL]
          have e3 : (E ++ shEs na E').length = E.length + E'.length := by simp [shEs]
          have rr := RR4.out.1
          refine ⟨r1, q1, r2, q2, r3, q3, by rw [e1, e2, e3], ⟨by rw [e1]; exact own_only RR4.out.2.1 O6.out.2 (by omega), by rw [e2]; exact own_only RR4.out.2.2.1 O6.out.2 (by omega), by rw [e3]; exact own_only RR4.out.2.2.2 O6.out.2 (by omega), rr.1, rr.2.1, rr.2.2.1⟩, F7.out.d.trans (O6.out.2.toBelow (Nat.le_trans hBw F7.out.d.size) (fun k hk => by omega))⟩
end Go.Proofs.YtchoopnjckcohaaGreatDoor
namespace Go.Proofs.YtchoopnjckcohaaGreatDoor
open Go.RowKit Go.Maps Go.Shelf
theorem undrew2 {B : Nat} {X w : World} (d : Below B w X.drew) : Below B w X := ⟨d.os, d.tape, d.output, d.size, d.block⟩
structure Pre (W0 F : World) (p q : Nat) (g1 k1 g2 k2 g3 k3 h1 c1 h2 c2 h3 c3 : Nat) (S T : List Int) (E : List EdT) (S' T' : List Int) (E' : List EdT) : Prop where
 zp : F.heap[p]? = some (.cells #[.int .i64 0, .int .i64 0, .slice none 0 0, .slice none 0 0, .slice none 0 0] 25 (0, 0))
 zq : F.heap[q]? = some (.cells #[.int .i64 0, .int .i64 0, .slice none 0 0, .slice none 0 0, .slice none 0 0] 25 (0, 0))
 ne : p ≠ q
 o1 : Own W0.heap.size F g1 k1 g2 k2 g3 k3 S T E
 o2 : Own W0.heap.size F h1 c1 h2 c2 h3 c3 S' T' E'
 lt : ∃ C, g1 < C ∧ g2 < C ∧ g3 < C ∧ C ≤ h1 ∧ C ≤ h2 ∧ C ≤ h3
 np : (g1 ≠ p ∧ g2 ≠ p ∧ g3 ≠ p) ∧ h1 ≠ p ∧ h2 ≠ p ∧ h3 ≠ p
 nq : (g1 ≠ q ∧ g2 ≠ q ∧ g3 ≠ q) ∧ h1 ≠ q ∧ h2 ≠ q ∧ h3 ≠ q
 d : Below W0.heap.size W0 F
 lp : W0.heap.size ≤ p ∧ W0.heap.size ≤ q
theorem Own.on {B C : Nat} {w w' : World} {g1 k1 g2 k2 g3 k3 : Nat} {S F : List Int} {E : List EdT} (h : Own C w g1 k1 g2 k2 g3 k3 S F E) (hB : B ≤ C) (d : Below w.heap.size w w') : Own B w' g1 k1 g2 k2 g3 k3 S F E :=
 ⟨owns_down (own_on h.s d (own_at h.s).2) hB, owns_down (own_on h.f d (own_at h.f).2) hB, owns_down (own_on h.e d (own_at h.e).2) hB, h.n12, h.n13, h.n23⟩
theorem Own.only {B q : Nat} {w w' : World} {g1 k1 g2 k2 g3 k3 : Nat} {S F : List Int} {E : List EdT} (h : Own B w g1 k1 g2 k2 g3 k3 S F E) (o : Only w w' (fun k => k = q)) (hq : g1 ≠ q ∧ g2 ≠ q ∧ g3 ≠ q) : Own B w' g1 k1 g2 k2 g3 k3 S F E :=
 ⟨own_only h.s o hq.1, own_only h.f o hq.2.1, own_only h.e o hq.2.2, h.n12, h.n13, h.n23⟩
section
variable {W0 W Wc wa Wd wb F : World} {p q g1 k1 g2 k2 g3 k3 h1 c1 h2 c2 h3 c3 : Nat} {S T : List Int} {E : List EdT} {S' T' : List Int} {E' : List EdT}
theorem zero_cells {F : World} {p : Nat} (h : F.heap[p]? = some (.cells #[.int .i64 0, .int .i64 0, .slice none 0 0, .slice none 0 0, .slice none 0 0] 25 (0, 0))) : (F.cell? ⟨p, 0, none⟩ = some (.int .i64 0) ∧ F.cell? ⟨p, 1, none⟩ = some (.int .i64 0) ∧ F.cell? ⟨p, 2, none⟩ = some (.slice none 0 0) ∧ F.cell? ⟨p, 3, none⟩ = some (.slice none 0 0) ∧ F.cell? ⟨p, 4, none⟩ = some (.slice none 0 0)) ∧ F.frozen? ⟨p, 0, none⟩ = false ∧ F.frozen? ⟨p, 1, none⟩ = false ∧ F.frozen? ⟨p, 2, none⟩ = false ∧ F.frozen? ⟨p, 3, none⟩ = false ∧ F.frozen? ⟨p, 4, none⟩ = false :=
 ⟨⟨cell_of h rfl, cell_of h rfl, cell_of h rfl, cell_of h rfl, cell_of h rfl⟩, fz_of h, fz_of h, fz_of h, fz_of h, fz_of h⟩
theorem Pre.zq1 (h : Pre W0 F p q g1 k1 g2 k2 g3 k3 h1 c1 h2 c2 h3 c3 S T E S' T' E') (n m : Int) : (((((F.setCell ⟨p, 0, none⟩ (.int .i64 n)).setCell ⟨p, 1, none⟩ (.int .i64 m)).setCell ⟨p, 2, none⟩ (.slice (some ⟨g1, 0, none⟩) S.length k1)).setCell ⟨p, 3, none⟩ (.slice (some ⟨g2, 0, none⟩) T.length k2)).setCell ⟨p, 4, none⟩ (.slice (some ⟨g3, 0, none⟩) E.length k3)).heap[q]? = some (.cells #[.int .i64 0, .int .i64 0, .slice none 0 0, .slice none 0 0, .slice none 0 0] 25 (0, 0)) :=
 (only5 F p (.int .i64 n) (.int .i64 m) (.slice (some ⟨g1, 0, none⟩) S.length k1) (.slice (some ⟨g2, 0, none⟩) T.length k2) (.slice (some ⟨g3, 0, none⟩) E.length k3)).cellK h.zq h.ne.symm
structure Lai (W0 W : World) (p q : Nat) (n m n' m' : Int) (g1 k1 g2 k2 g3 k3 h1 c1 h2 c2 h3 c3 : Nat) (S T : List Int) (E : List EdT) (S' T' : List Int) (E' : List EdT) : Prop where
 bp : W.heap[p]? = some (.cells #[.int .i64 n, .int .i64 m, .slice (some ⟨g1, 0, none⟩) S.length k1, .slice (some ⟨g2, 0, none⟩) T.length k2, .slice (some ⟨g3, 0, none⟩) E.length k3] 25 (0, 0))
 bq : W.heap[q]? = some (.cells #[.int .i64 n', .int .i64 m', .slice (some ⟨h1, 0, none⟩) S'.length c1, .slice (some ⟨h2, 0, none⟩) T'.length c2, .slice (some ⟨h3, 0, none⟩) E'.length c3] 25 (0, 0))
 o1 : Own W0.heap.size W g1 k1 g2 k2 g3 k3 S T E
 o2 : Own W0.heap.size W h1 c1 h2 c2 h3 c3 S' T' E'
 lt : ∃ C, g1 < C ∧ g2 < C ∧ g3 < C ∧ C ≤ h1 ∧ C ≤ h2 ∧ C ≤ h3
 d : Below W0.heap.size W0 W
 lp : W0.heap.size ≤ p ∧ W0.heap.size ≤ q
theorem Pre.lai (h : Pre W0 F p q g1 k1 g2 k2 g3 k3 h1 c1 h2 c2 h3 c3 S T E S' T' E') (n m n' m' : Int) : Lai W0 ((((((((((F.setCell ⟨p, 0, none⟩ (.int .i64 n)).setCell ⟨p, 1, none⟩ (.int .i64 m)).setCell ⟨p, 2, none⟩ (.slice (some ⟨g1, 0, none⟩) S.length k1)).setCell ⟨p, 3, none⟩ (.slice (some ⟨g2, 0, none⟩) T.length k2)).setCell ⟨p, 4, none⟩ (.slice (some ⟨g3, 0, none⟩) E.length k3)).setCell ⟨q, 0, none⟩ (.int .i64 n')).setCell ⟨q, 1, none⟩ (.int .i64 m')).setCell ⟨q, 2, none⟩ (.slice (some ⟨h1, 0, none⟩) S'.length c1)).setCell ⟨q, 3, none⟩ (.slice (some ⟨h2, 0, none⟩) T'.length c2)).setCell ⟨q, 4, none⟩ (.slice (some ⟨h3, 0, none⟩) E'.length c3)) p q n m n' m' g1 k1 g2 k2 g3 k3 h1 c1 h2 c2 h3 c3 S T E S' T' E' := by
 have s1 := set5 F p _ _ _ _ _ (.int .i64 n) (.int .i64 m) (.slice (some ⟨g1, 0, none⟩) S.length k1) (.slice (some ⟨g2, 0, none⟩) T.length k2) (.slice (some ⟨g3, 0, none⟩) E.length k3) 25 h.zp
 have e1 := only5 F p (.int .i64 n) (.int .i64 m) (.slice (some ⟨g1, 0, none⟩) S.length k1) (.slice (some ⟨g2, 0, none⟩) T.length k2) (.slice (some ⟨g3, 0, none⟩) E.length k3)
 obtain ⟨G, hG⟩ : ∃ G, ((((F.setCell ⟨p, 0, none⟩ (.int .i64 n)).setCell ⟨p, 1, none⟩ (.int .i64 m)).setCell ⟨p, 2, none⟩ (.slice (some ⟨g1, 0, none⟩) S.length k1)).setCell ⟨p, 3, none⟩ (.slice (some ⟨g2, 0, none⟩) T.length k2)).setCell ⟨p, 4, none⟩ (.slice (some ⟨g3, 0, none⟩) E.length k3) = G := ⟨_, rfl⟩
 rw [hG] at s1 e1 ⊢
 have zq := e1.cellK h.zq h.ne.symm
 have s2 := set5 G q _ _ _ _ _ (.int .i64 n') (.int .i64 m') (.slice (some ⟨h1, 0, none⟩) S'.length c1) (.slice (some ⟨h2, 0, none⟩) T'.length c2) (.slice (some ⟨h3, 0, none⟩) E'.length c3) 25 zq
 have e2 := only5 G q (.int .i64 n') (.int .i64 m') (.slice (some ⟨h1, 0, none⟩) S'.length c1) (.slice (some ⟨h2, 0, none⟩) T'.length c2) (.slice (some ⟨h3, 0, none⟩) E'.length c3)
 have hp := h.lp
 have hs := h.d.size
 have hs2 := e1.size
 exact ⟨e2.cellK s1 h.ne, s2, (h.o1.only e1 h.np.1).only e2 h.nq.1, (h.o2.only e1 h.np.2).only e2 h.nq.2, h.lt, (h.d.trans (e1.toBelow hs (fun k hk => by omega))).trans (e2.toBelow (by omega) (fun k hk => by omega)), h.lp⟩
end
def ownP (n m : Int) (S T : List Int) (E : List EdT) : MkP := fun x lo hi W => ∃ g1 k1 g2 k2 g3 k3, x = .agg #[.int .i64 n, .int .i64 m, .slice (some ⟨g1, 0, none⟩) S.length k1, .slice (some ⟨g2, 0, none⟩) T.length k2, .slice (some ⟨g3, 0, none⟩) E.length k3] ∧ Own lo W g1 k1 g2 k2 g3 k3 S T E ∧ g1 < hi ∧ g2 < hi ∧ g3 < hi
def boxP : MkP := fun x lo hi W => x = .pointer (some ⟨lo, 0, none⟩) ∧ lo < hi ∧ W.heap[lo]? = some (.cells #[.int .i64 0, .int .i64 0, .slice none 0 0, .slice none 0 0, .slice none 0 0] 25 (0, 0))
theorem ownP_mono {n m : Int} {S T : List Int} {E : List EdT} : MonoP (ownP n m S T E) := fun _ _ _ _ _ _ d ⟨g1, k1, g2, k2, g3, k3, e, o, q⟩ => ⟨g1, k1, g2, k2, g3, k3, e, o.on (Nat.le_refl _) d, q⟩
theorem boxP_mono : MonoP boxP := fun _ _ _ _ _ hs d ⟨e, l, z⟩ => ⟨e, l, (d.block _ (by omega)).trans z⟩
theorem ownP_of {n m : Int} {S T : List Int} {E : List EdT} {B : Nat} {W : World} {g1 k1 g2 k2 g3 k3 : Nat} (o : Own B W g1 k1 g2 k2 g3 k3 S T E) : ownP n m S T E (.agg #[.int .i64 n, .int .i64 m, .slice (some ⟨g1, 0, none⟩) S.length k1, .slice (some ⟨g2, 0, none⟩) T.length k2, .slice (some ⟨g3, 0, none⟩) E.length k3]) B W.heap.size W := ⟨g1, k1, g2, k2, g3, k3, rfl, o, (own_at o.s).2, (own_at o.f).2, (own_at o.e).2⟩
theorem boxP_of (W : World) : boxP (.pointer (some ⟨W.heap.size, 0, none⟩)) W.heap.size (W.alloc (.cells #[.int .i64 0, .int .i64 0, .slice none 0 0, .slice none 0 0, .slice none 0 0] 25)).heap.size (W.alloc (.cells #[.int .i64 0, .int .i64 0, .slice none 0 0, .slice none 0 0, .slice none 0 0] 25)) := ⟨rfl, by simp, World.alloc_heap_new _ _⟩
theorem two_pre {A B : Value} {n m n' m' : Int} {S T : List Int} {E : List EdT} {S' T' : List Int} {E' : List EdT} {W0 w W : World} {ops : Array Oper} {k : Nat} {y : Nat → Value} {lo hi : Nat → Nat} (d0 : Below W0.heap.size W0 w) (hk : 6 ≤ k) (hM : Made w (phiL [isV A, ownP n m S T E, isV B, ownP n' m' S' T' E', boxP, boxP]) ops k (fun _ => true) y lo hi W) (ho : hi 1 ≤ lo 3) :
 ∃ p q g1 k1 g2 k2 g3 k3 h1 c1 h2 c2 h3 c3, y 1 = .agg #[.int .i64 n, .int .i64 m, .slice (some ⟨g1, 0, none⟩) S.length k1, .slice (some ⟨g2, 0, none⟩) T.length k2, .slice (some ⟨g3, 0, none⟩) E.length k3] ∧ y 3 = .agg #[.int .i64 n', .int .i64 m', .slice (some ⟨h1, 0, none⟩) S'.length c1, .slice (some ⟨h2, 0, none⟩) T'.length c2, .slice (some ⟨h3, 0, none⟩) E'.length c3] ∧ y 4 = .pointer (some ⟨p, 0, none⟩) ∧ y 5 = .pointer (some ⟨q, 0, none⟩) ∧ Pre W0 W p q g1 k1 g2 k2 g3 k3 h1 c1 h2 c2 h3 c3 S T E S' T' E' := by
 obtain ⟨g1, k1, g2, k2, g3, k3, e1, o1, q1⟩ := hM.fact 1 (by omega) rfl
 obtain ⟨h1, c1, h2, c2, h3, c3, e3, o3, q3⟩ := hM.fact 3 (by omega) rfl
 obtain ⟨e4, l4, z4⟩ := hM.fact 4 (by omega) rfl
 obtain ⟨e5, l5, z5⟩ := hM.fact 5 (by omega) rfl
 refine ⟨lo 4, lo 5, g1, k1, g2, k2, g3, k3, h1, c1, h2, c2, h3, c3, e1, e3, e4, e5, ?_⟩
 have a1 := own_at o1.s
 have a2 := own_at o1.f
 have a3 := own_at o1.e
 have b1 := own_at o3.s
 have b2 := own_at o3.f
 have b3 := own_at o3.e
 have s0 := d0.size
 have t1 := hM.at' 1 (by omega) rfl
 have t3 := hM.at' 3 (by omega) rfl
 have t4 := hM.at' 4 (by omega) rfl
 have t5 := hM.at' 5 (by omega) rfl
 have u45 := hM.apart 4 5 (by omega) (by omega) rfl rfl (by decide)
 have u14 := hM.apart 1 4 (by omega) (by omega) rfl rfl (by decide)
 have u34 := hM.apart 3 4 (by omega) (by omega) rfl rfl (by decide)
 have u15 := hM.apart 1 5 (by omega) (by omega) rfl rfl (by decide)
 have u35 := hM.apart 3 5 (by omega) (by omega) rfl rfl (by decide)
 have D := hM.d
 refine ⟨z4, z5, by omega, o1.on (by omega) (Below.refl _ _), o3.on (by omega) (Below.refl _ _), ⟨hi 1, by omega, by omega, by omega, by omega, by omega, by omega⟩, ⟨⟨by omega, by omega, by omega⟩, by omega, by omega, by omega⟩, ⟨⟨by omega, by omega, by omega⟩, by omega, by omega, by omega⟩, d0.trans (D.mono s0), by omega, by omega⟩
end Go.Proofs.YtchoopnjckcohaaGreatDoor
namespace Go.Proofs.YtchoopnjckcohaaGreatDoor
open Go.RowKit Go.Maps Go.Shelf
attribute [local go_sem] Oper.semAt_some
theorem own_rdN {W : World} {B c : Nat} {b : Option Addr} {X : List Int} (h : W.ownsRow B 3 1 (.slice b X.length c) X.length (X.map (Value.int .i64))) : RdN W b X := by
 obtain ⟨b', c', hv, hD⟩ := rd_own h
 cases hv
 exact hD
theorem own_keep {W W' : World} {B n sz p : Nat} {e t : TypeId} {v : Value} {xs : List Value} {cs : Array Value} (h : W.ownsRow B e sz v n xs) (z : W.heap[p]? = some (.cells cs t (0, 0))) (ne : e ≠ t) (o : Only W W' (fun k => k = p)) : W'.ownsRow B e sz v n xs := by
 refine ⟨h.1, ?_⟩
 rcases h.2 with h1 | ⟨g, cap, cur, hv, hb, hg, rest⟩
 · exact Or.inl h1
 · refine Or.inr ⟨g, cap, cur, hv, hb, o.cellK hg (fun e2 => ?_), rest⟩
   subst e2
   rw [z] at hg
   injection hg with hg
   injection hg with _ h2 _
   exact ne h2.symm
theorem one_cells {W : World} {v : Value} {t : TypeId} {p : Nat} (z : W.heap[p]? = some (.cells #[v] t (0, 0))) : ∀ (j : Nat) (u : Value), [v][j]? = some u → W.cell? ((⟨p, 0, none⟩ : Addr).add j) = some u := fun j u hu => by
 cases j with
 | zero =>
  obtain rfl : v = u := by simpa using hu
  rw [Addr.add_lit]
  exact cell_of z rfl
 | succ j => simp at hu
theorem wpList_appI {ops : Array Oper} {rest : List Oper} {o : Oper} {a : Act} {Q : Exit → Act → World → Prop} {w : World} (hgd : o.guard = none) (s x : Operand)
 (ho : o.op = .call { callee := .builtin .append, args := #[s, x], argTypes := #[22, 22] }) (B : Nat) (v : Value) (X : List Int) (hs : a.eval s = v) (hown : w.ownsRow B 3 1 v X.length (X.map (Value.int .i64))) (p : Nat) (y : Int) (hx : a.eval x = .slice (some ⟨p, 0, none⟩) 1 1) (hp : w.heap[p]? = some (.cells #[.int .i64 y] 3 (0, 0))) (hl : X.length ≤ 16777216) (w0 : World) (D : Below B w0 w) (hB : B ≤ w0.heap.size)
 (h : ∀ v' w', Hid (w'.ownsRow B 3 1 v' (X ++ [y]).length ((X ++ [y]).map (Value.int .i64))) → Hid (Below B w0 w') → wpList Tryz.prog ops Q rest (a.put o.dst v') w') : wpList Tryz.prog ops Q (o :: rest) a w := by
 obtain ⟨i3, hi3, hz30, hz31, hz32⟩ := info_parts info3
 have hs0 := D.size
 refine wpList_append_own_at _ hgd s x 22 ho B 3 i3 _ 1 8 Tryz.underlying22 hi3 hz30 hz31 hz32 rfl (by omega) v X.length (X.map (Value.int .i64)) hs hown ⟨p, 0, none⟩ 1 1 [.int .i64 y] hx rfl (one_cells hp) (by simp [Value.oneCell']) (by unfold maxLen; omega) (by omega) (by omega) ?_
 intro v2 w2 h2 hgr _ _
 have hb := hown.lt
 exact h v2 w2 (hide (by rw [List.map_append, List.length_append]; exact h2)) (hide (D.grown hgr (by omega) (fun k hk => (hb k hk).1)))
def stepW (n : Int) (s : Bool × List Int) (x : Int) : Bool × List Int :=
 let t : Bool × List Int := if s.1 = false ∧ n ≤ x then (true, s.2 ++ [n]) else s
 if x = n then t else (t.1, t.2 ++ [x])
def wS (n : Int) (L : List Int) : Bool × List Int := L.foldl (stepW n) (false, [])
def withF (L : List Int) (n : Int) : List Int := if (wS n L).1 then (wS n L).2 else (wS n L).2 ++ [n]
theorem wS_take {n : Int} {L : List Int} {i : Nat} (h : i < L.length) : wS n (L.take (i + 1)) = stepW n (wS n (L.take i)) L[i] := by
 unfold wS
 rw [List.take_succ_eq_append_getElem h, List.foldl_append]
 rfl
theorem stepW_len (n : Int) (s : Bool × List Int) (x : Int) : (stepW n s x).2.length ≤ s.2.length + 2 := by
 unfold stepW
 simp only
 split <;> split <;> simp <;> omega
theorem foldW_len (n : Int) : ∀ (L : List Int) (s : Bool × List Int), (L.foldl (stepW n) s).2.length ≤ s.2.length + 2 * L.length
 | [], s => by simp
 | x :: L, s => by
  have h1 := stepW_len n s x
  have h2 := foldW_len n L (stepW n s x)
  simp only [List.foldl_cons, List.length_cons]
  omega
theorem wS_len (n : Int) (L : List Int) (i : Nat) : (wS n (L.take i)).2.length ≤ 2 * L.length := by
 have h := foldW_len n (L.take i) (false, [])
 have h2 : (L.take i).length ≤ L.length := by rw [List.length_take]; omega
 unfold wS
 simp only [List.length_nil] at h
 omega
theorem with_any (w : World) (ao : Option Addr) (L : List Int) (cp : Nat) (n : Int) (hr : Hid (RdN w ao L)) (hl : L.length ≤ 4194304) :
 Calls Tryz.prog 79 #[.slice ao L.length cp, .int .i64 n] w fun e w' => ∃ b c, e = .returned (.slice b (withF L n).length c) ∧ Hid (w'.ownsRow w.heap.size 3 1 (.slice b (withF L n).length c) (withF L n).length ((withF L n).map (Value.int .i64))) ∧ Below w.heap.size w w' := by
 go_enter Tryz.func79, Tryz.ntmps79
 go_wp2
 go_loopw [5, 6, 7] (fun ov pv iv wr => ∃ i : Nat, i ≤ L.length ∧ pv = .bool (wS n (L.take i)).1 ∧ iv = .int .i64 i ∧ Hid (wr.ownsRow w.heap.size 3 1 ov (wS n (L.take i)).2.length ((wS n (L.take i)).2.map (Value.int .i64)) ∧ Below w.heap.size w wr)) (fun _ _ iv _ => L.length - (intOf iv).toNat)
 case atStart => exact ⟨0, Nat.zero_le _, rfl, rfl, hide ⟨World.ownsRow_nil _ _ _ _, Below.refl _ _⟩⟩
 case round =>
  obtain ⟨i, hi, rfl, rfl, HY⟩ := hrel
  by_cases hlt : i < L.length
  · have i0 : (i : Int) < (L.length : Int) := by omega
    have i1 : (0 : Int) ≤ (i : Int) := by omega
    have iw : IntKind.i64.wrap ((i : Int) + 1) = (i : Int) + 1 := by rw [IntKind.wrap_i64]; omega
    have HLn : Hid ((wS n (L.take i)).2.length ≤ 8388608) := hide (by have := wS_len n L i; omega)
    obtain ⟨g, o, hao, q0⟩ := hr.out i hlt
    subst hao
    have QC0 : Hid (∀ w2, Below w.heap.size w w2 → w2.cell? ⟨g, o + i, none⟩ = some (.int .i64 L[i])) := hide (fun w2 d => (d.cell (p := ⟨g, o + i, none⟩) (World.block_lt_of_cell? w _ q0)).trans q0)
    have q := QC0.out wr HY.out.2
    clear q0
    have HS := hide (wS_take (n := n) hlt)
    generalize L[i] = x at q HS QC0
    generalize wS n (L.take i) = s at HY HS HLn ⊢
    obtain ⟨p, X⟩ := s
    simp only at HY HLn ⊢
    have NX : Hid (∀ (p2 : Bool) (X2 : List Int) (v2 : Value) (w2 : World), stepW n (p, X) x = (p2, X2) → w2.ownsRow w.heap.size 3 1 v2 X2.length (X2.map (Value.int .i64)) → Below w.heap.size w w2 → ∃ j : Nat, j ≤ L.length ∧ Value.bool p2 = .bool (wS n (L.take j)).1 ∧ Value.int .i64 ((i : Int) + 1) = .int .i64 j ∧ Hid (w2.ownsRow w.heap.size 3 1 v2 (wS n (L.take j)).2.length ((wS n (L.take j)).2.map (Value.int .i64)) ∧ Below w.heap.size w w2)) := hide (fun p2 X2 v2 w2 e o d => ⟨i + 1, by omega, by rw [HS.out, e], by simp, hide ⟨by rw [HS.out, e]; exact o, d⟩⟩)
    have QC := QC0
    cases p with
    | false =>
     by_cases hge : n ≤ x
     · by_cases he : x = n
       · have b0 : (x != n) = false := by simpa using he
         have HN := hide (show stepW n (false, X) x = (true, X ++ [n]) by simp [stepW, he])
         clear he
         go_wp2_with (at_builtin; refine wpList_appI rfl _ _ rfl w.heap.size u5 X rfl (own_below HY.out.1 ((Below.refl _ _).alloc (Nat.le_refl _) _)) wr.heap.size n rfl (World.alloc_heap_new _ _) (by have := HLn.out; (try simp only [List.length_append, List.length_cons, List.length_nil]); omega) w (HY.out.2.alloc HY.out.2.size _) (Nat.le_refl _) ?_; intro v2 w2 HO2 HD2; have q2 := QC.out w2 HD2.out)
         go_roundw
         case rel => exact NX.out _ _ _ _ HN.out HO2.out HD2.out
         case measure => simp [intOf]; omega
       · have b0 : (x != n) = true := by simpa using he
         have HN := hide (show stepW n (false, X) x = (true, X ++ [n] ++ [x]) by simp [stepW, hge, he])
         clear he
         go_wp2_with (first
          | (at_builtin; refine wpList_appI rfl _ _ rfl w.heap.size u5 X rfl (own_below HY.out.1 ((Below.refl _ _).alloc (Nat.le_refl _) _)) wr.heap.size n rfl (World.alloc_heap_new _ _) (by have := HLn.out; (try simp only [List.length_append, List.length_cons, List.length_nil]); omega) w (HY.out.2.alloc HY.out.2.size _) (Nat.le_refl _) ?_; intro v2 w2 HO2 HD2; have q2 := QC.out w2 HD2.out)
          | (at_builtin; refine wpList_appI rfl _ _ rfl w.heap.size v2 (X ++ [n]) rfl (own_below HO2.out ((Below.refl _ _).alloc (Nat.le_refl _) _)) w2.heap.size x rfl (World.alloc_heap_new _ _) (by have := HLn.out; (try simp only [List.length_append, List.length_cons, List.length_nil]); omega) w (HD2.out.alloc HD2.out.size _) (Nat.le_refl _) ?_; intro v3 w3 HO3 HD3))
         go_roundw
         case rel => exact NX.out _ _ _ _ HN.out HO3.out HD3.out
         case measure => simp [intOf]; omega
     · have he : ¬ x = n := by omega
       have b0 : (x != n) = true := by simpa using he
       have HN := hide (show stepW n (false, X) x = (false, X ++ [x]) by simp [stepW, hge, he])
       clear he
       go_wp2_with (at_builtin; refine wpList_appI rfl _ _ rfl w.heap.size u5 X rfl (own_below HY.out.1 ((Below.refl _ _).alloc (Nat.le_refl _) _)) wr.heap.size x rfl (World.alloc_heap_new _ _) (by have := HLn.out; (try simp only [List.length_append, List.length_cons, List.length_nil]); omega) w (HY.out.2.alloc HY.out.2.size _) (Nat.le_refl _) ?_; intro v2 w2 HO2 HD2)
       go_roundw
       case rel => exact NX.out _ _ _ _ HN.out HO2.out HD2.out
       case measure => simp [intOf]; omega
    | true =>
     by_cases he : x = n
     · have b0 : (x != n) = false := by simpa using he
       have HN := hide (show stepW n (true, X) x = (true, X) by simp [stepW, he])
       clear he
       go_wp2_with fail
       go_roundw
       case rel => exact NX.out _ _ _ _ HN.out HY.out.1 HY.out.2
       case measure => simp [intOf]; omega
     · have b0 : (x != n) = true := by simpa using he
       have HN := hide (show stepW n (true, X) x = (true, X ++ [x]) by simp [stepW, he])
       clear he
       go_wp2_with (at_builtin; refine wpList_appI rfl _ _ rfl w.heap.size u5 X rfl (own_below HY.out.1 ((Below.refl _ _).alloc (Nat.le_refl _) _)) wr.heap.size x rfl (World.alloc_heap_new _ _) (by have := HLn.out; (try simp only [List.length_append, List.length_cons, List.length_nil]); omega) w (HY.out.2.alloc HY.out.2.size _) (Nat.le_refl _) ?_; intro v2 w2 HO2 HD2)
       go_roundw
       case rel => exact NX.out _ _ _ _ HN.out HO2.out HD2.out
       case measure => simp [intOf]; omega
  · have i0 : ¬ (i : Int) < (L.length : Int) := by omega
    have etk : L.take i = L := List.take_of_length_le (by omega)
    have HLn : Hid ((wS n (L.take i)).2.length ≤ 8388608) := hide (by have := wS_len n L i; omega)
    rw [etk] at HY HLn ⊢
    have HF : Hid (withF L n = if (wS n L).1 then (wS n L).2 else (wS n L).2 ++ [n]) := hide rfl
    generalize wS n L = s at HY HF HLn ⊢
    obtain ⟨p, X⟩ := s
    simp only at HY HF HLn ⊢
    cases p with
    | false =>
     go_wp2_with (at_builtin; refine wpList_appI rfl _ _ rfl w.heap.size u5 X rfl (own_below HY.out.1 ((Below.refl _ _).alloc (Nat.le_refl _) _)) wr.heap.size n rfl (World.alloc_heap_new _ _) (by have := HLn.out; (try simp only [List.length_append, List.length_cons, List.length_nil]); omega) w (HY.out.2.alloc HY.out.2.size _) (Nat.le_refl _) ?_; intro v2 w2 HO2 HD2; have HF2 := HF.out; simp only [Bool.false_eq_true, if_false] at HF2; obtain ⟨b, c, hv⟩ := own_slice HO2.out; subst hv; have HF3 := hide HF2; clear HF2)
     refine bodyPost_ret (results_tmp rfl _ _ _) rfl ?_
     exact ⟨b, c, by rw [HF3.out, List.length_append]; rfl, by rw [HF3.out]; exact HO2, HD2.out⟩
    | true =>
     have HF2 := HF.out
     simp only [if_true] at HF2
     have HF3 := hide HF2
     clear HF2
     obtain ⟨b, c, hv⟩ := own_slice HY.out.1
     subst hv
     go_wp2_with fail
     refine bodyPost_ret (results_tmp rfl _ _ _) rfl ?_
     exact ⟨b, c, by rw [HF3.out]; rfl, by rw [HF3.out]; exact hide HY.out.1, HY.out.2⟩
theorem foldW_put (n : Int) : ∀ (X O : List Int), X.foldl (stepW n) (true, O) = (true, O ++ X.filter (fun x => decide (x ≠ n)))
 | [], O => by simp
 | x :: X, O => by
  rw [List.foldl_cons]
  by_cases h : x = n
  · rw [show stepW n (true, O) x = (true, O) by simp [stepW, h], foldW_put n X O]
    simp [h]
  · rw [show stepW n (true, O) x = (true, O ++ [x]) by simp [stepW, h], foldW_put n X (O ++ [x])]
    simp [h]
theorem foldW_up (n : Int) : ∀ (X O : List Int), X.Pairwise (· < ·) → (if (X.foldl (stepW n) (false, O)).1 then (X.foldl (stepW n) (false, O)).2 else (X.foldl (stepW n) (false, O)).2 ++ [n]) = O ++ X.filter (fun x => decide (x < n)) ++ [n] ++ X.filter (fun x => decide (n < x))
 | [], O, _ => by simp
 | x :: X, O, h => by
  rw [List.pairwise_cons] at h
  rw [List.foldl_cons]
  by_cases hx : x < n
  · rw [show stepW n (false, O) x = (false, O ++ [x]) by simp [stepW, show ¬ n ≤ x by omega, show ¬ x = n by omega], foldW_up n X (O ++ [x]) h.2]
    simp [hx, show ¬ n < x by omega]
  · have hgt : ∀ y ∈ X, n < y := fun y hy => by have := h.1 y hy; omega
    have f1 : X.filter (fun x => decide (x < n)) = [] := List.filter_eq_nil_iff.2 fun y hy => by have := hgt y hy; simp; omega
    have f2 : X.filter (fun x => decide (n < x)) = X := List.filter_eq_self.2 fun y hy => by simpa using hgt y hy
    have f3 : X.filter (fun x => decide (x ≠ n)) = X := List.filter_eq_self.2 fun y hy => by have := hgt y hy; simp; omega
    by_cases he : x = n
    · rw [show stepW n (false, O) x = (true, O ++ [n]) by simp [stepW, he], foldW_put, f3]
      simp [f1, f2, he]
    · rw [show stepW n (false, O) x = (true, O ++ [n] ++ [x]) by simp [stepW, he, show n ≤ x by omega], foldW_put, f3]
      simp [f1, f2, hx, show n < x by omega]
theorem with_up {X : List Int} (n : Int) (h : X.Pairwise (· < ·)) : withF X n = X.filter (fun x => decide (x < n)) ++ [n] ++ X.filter (fun x => decide (n < x)) := by
 unfold withF wS
 rw [foldW_up n X [] h, List.nil_append]
theorem rise_nil : riseL [] = [] := List.eq_nil_of_length_eq_zero (Nat.le_zero.1 (riseL_len []))
theorem with_rise (A : List Int) (n : Int) : withF (riseL A) n = riseL (A ++ [n]) := by
 have hs := riseL_ss A
 refine ssL_eq _ _ ?_ (riseL_ss _) fun x => ?_
 · rw [with_up n hs, List.append_assoc, List.pairwise_append]
   refine ⟨hs.filter _, ?_, ?_⟩
   · rw [List.singleton_append, List.pairwise_cons]
     exact ⟨fun y hy => by simpa using (List.mem_filter.1 hy).2, hs.filter _⟩
   · intro a ha b hb
     have h1 : a < n := by simpa using (List.mem_filter.1 ha).2
     rw [List.singleton_append, List.mem_cons] at hb
     rcases hb with rfl | hb
     · exact h1
     · have h2 : n < b := by simpa using (List.mem_filter.1 hb).2
       omega
 · rw [with_up n hs, riseL_iff]
   simp only [List.mem_append, List.mem_filter, List.mem_singleton, decide_eq_true_eq, riseL_iff]
   constructor
   · rintro ((⟨h, _⟩ | h) | ⟨h, _⟩)
     · exact Or.inl h
     · exact Or.inr h
     · exact Or.inl h
   · rintro (h | h)
     · rcases Int.lt_trichotomy x n with h1 | h1 | h1
       · exact Or.inl (Or.inl ⟨h, h1⟩)
       · exact Or.inl (Or.inr h1)
       · exact Or.inr ⟨h, h1⟩
     · exact Or.inl (Or.inr h)
theorem set_any (w : World) (ao : Option Addr) (L : List Int) (cp : Nat) (hr : Hid (RdN w ao L)) (hl : L.length ≤ 4194304) :
 Calls Tryz.prog 44 #[.slice ao L.length cp] w fun e w' => ∃ b c, e = .returned (.slice b (riseL L).length c) ∧ Hid (w'.ownsRow w.heap.size 3 1 (.slice b (riseL L).length c) (riseL L).length ((riseL L).map (Value.int .i64))) ∧ Below w.heap.size w w' := by
 go_enter Tryz.func44, Tryz.ntmps44
 go_wp2
 go_loopw [3, 4] (fun ov iv wr => ∃ i b c, i ≤ L.length ∧ ov = .slice b (riseL (L.take i)).length c ∧ iv = .int .i64 (i : Nat) ∧ Hid (wr.ownsRow w.heap.size 3 1 (.slice b (riseL (L.take i)).length c) (riseL (L.take i)).length ((riseL (L.take i)).map (Value.int .i64)) ∧ Below w.heap.size w wr)) (fun _ iv _ => L.length - (intOf iv).toNat)
 case atStart => exact ⟨0, none, 0, Nat.zero_le _, by rw [List.take_zero, rise_nil]; rfl, rfl, hide ⟨by rw [List.take_zero, rise_nil]; exact World.ownsRow_nil _ _ _ _, Below.refl _ _⟩⟩
 case round =>
  obtain ⟨i, b, c, hi, rfl, rfl, HY⟩ := hrel
  by_cases hlt : i < L.length
  · have i0 : (i : Int) < (L.length : Int) := by omega
    have i1 : (0 : Int) ≤ (i : Int) := by omega
    have iw : IntKind.i64.wrap ((i : Int) + 1) = (i : Int) + 1 := by rw [IntKind.wrap_i64]; omega
    obtain ⟨g, o, hao, q⟩ := (hr.out.on HY.out.2) i hlt
    subst hao
    have hlen : (riseL (L.take i)).length ≤ 4194304 := Nat.le_trans (riseL_len _) (by rw [List.length_take]; omega)
    have T := with_any wr b (riseL (L.take i)) c L[i] (hide (own_rdN HY.out.1)) hlen
    rw [with_rise, ← List.take_succ_eq_append_getElem hlt] at T
    generalize L[i] = x at q T
    generalize riseL (L.take i) = X at HY T ⊢
    clear hlen
    obtain ⟨Y, hY⟩ : ∃ Y, riseL (L.take (i + 1)) = Y := ⟨_, rfl⟩
    rw [hY] at T
    have HE := hide hY
    clear hY
    go_wp2_with (go_at_call 79; refine T.mono ?_; rintro e w2 ⟨b2, c2, rfl, HR, d2⟩; have HD := hide (HY.out.2.trans (d2.mono HY.out.2.size)); have HR2 := hide (owns_down HR.out HY.out.2.size); clear d2 HR)
    go_roundw
    case rel => exact ⟨i + 1, b2, c2, by omega, by rw [HE.out], by go_num, hide ⟨by rw [HE.out]; exact HR2.out, HD.out⟩⟩
    case measure => simp [intOf]; omega
  · have i0 : ¬ (i : Int) < (L.length : Int) := by omega
    have etk : L.take i = L := List.take_of_length_le (by omega)
    rw [etk] at HY ⊢
    go_wp2_with fail
    refine bodyPost_ret (results_tmp rfl _ _ _) rfl ?_
    exact ⟨b, c, rfl, hide HY.out.1, HY.out.2⟩
theorem kE_less (m : Nat) (L : List EdT) (c : Nat) : lessC (kE m L) c = (L.filter fun e => decide (e.1 * (m : Int) + e.2.1 < (c : Int))).length := by
 unfold lessC kE
 rw [List.filter_map, List.length_map]
 rfl
theorem key_up {m : Nat} {a b : EdT} (h : ltE a b = true) (ha : a.2.1 < (m : Int)) (hb : 0 ≤ b.2.1) : a.1 * (m : Int) + a.2.1 ≤ b.1 * (m : Int) + b.2.1 := by
 rw [ltE_iff] at h
 by_cases e : a.1 = b.1
 · rw [e]
   omega
 · have h2 : a.1 + 1 ≤ b.1 := by omega
   have h3 := Int.mul_le_mul_of_nonneg_right h2 (show (0 : Int) ≤ (m : Int) by omega)
   rw [Int.add_mul, Int.one_mul] at h3
   omega
theorem key_at {m : Nat} {Ed : List EdT} (hS : SsE Ed) (hF : ∀ e ∈ Ed, 0 ≤ e.2.1 ∧ e.2.1 < (m : Int)) (c i : Nat) (h : i < Ed.length) : Ed[i].1 * (m : Int) + Ed[i].2.1 < (c : Int) ↔ i < lessC (kE m Ed) c := by
 have := pre_count (fun e : EdT => decide (e.1 * (m : Int) + e.2.1 < (c : Int))) Ed (List.Pairwise.imp_of_mem (fun {a b} ha hb hab hc => by
  rw [decide_eq_true_eq] at hc ⊢
  have := key_up (m := m) hab (hF a ha).2 (hF b hb).1
  omega) hS) i h
 rw [kE_less, ← this, decide_eq_true_eq]
theorem key_one {m : Nat} {x1 x2 p s : Int} (hx : 0 ≤ x2 ∧ x2 < (m : Int)) (hs : 0 ≤ s ∧ s < (m : Int)) (h : x1 * (m : Int) + x2 = p * (m : Int) + s) : x1 = p ∧ x2 = s := by
 have m0 : (0 : Int) ≤ (m : Int) := by omega
 by_cases e : x1 = p
 · subst e
   exact ⟨rfl, by omega⟩
 · exfalso
   rcases Int.lt_or_gt_of_ne e with q | q
   · have h3 := Int.mul_le_mul_of_nonneg_right (show x1 + 1 ≤ p by omega) m0
     rw [Int.add_mul, Int.one_mul] at h3
     omega
   · have h3 := Int.mul_le_mul_of_nonneg_right (show p + 1 ≤ x1 by omega) m0
     rw [Int.add_mul, Int.one_mul] at h3
     omega
theorem row_eq {m p s k : Nat} {Ed : List EdT} (hS : SsE Ed) (hF : ∀ e ∈ Ed, 0 ≤ e.2.1 ∧ e.2.1 < (m : Int)) (hs : s < m) (hk : p * m + s = k) : subL Ed (lessC (kE m Ed) k) (lessC (kE m Ed) (k + 1)) = fromL Ed p (s : Int) := by
 have ek : (k : Int) = (p : Int) * (m : Int) + (s : Int) := by rw [← hk]; simp
 have le : lessC (kE m Ed) (k + 1) ≤ Ed.length := Nat.le_trans (lessC_le _ _) (Nat.le_of_eq (kE_len _ _))
 refine ss_eq _ _ (subL_ss hS _ _) (fromL_ss hS _ _) fun x => ⟨fun hx => ?_, fun hx => ?_⟩
 · obtain ⟨t, ht, rfl⟩ := List.getElem_of_mem hx
   obtain ⟨h2, e⟩ := subL_get t ht
   rw [subL_len le] at ht
   have a1 := key_at hS hF k _ h2
   have a2 := key_at hS hF (k + 1) _ h2
   have b1 : ¬ Ed[lessC (kE m Ed) k + t].1 * (m : Int) + Ed[lessC (kE m Ed) k + t].2.1 < (k : Int) := fun q => by have := a1.1 q; omega
   have b2 := a2.2 (by omega)
   have hm := List.getElem_mem h2
   rw [e, fromL_iff]
   exact ⟨hm, key_one (hF _ hm) ⟨by omega, by omega⟩ (by omega)⟩
 · rw [fromL_iff] at hx
   obtain ⟨hx, h1, h2⟩ := hx
   obtain ⟨i, hi, rfl⟩ := List.getElem_of_mem hx
   have a1 := key_at hS hF k i hi
   have a2 := key_at hS hF (k + 1) i hi
   rw [h1, h2] at a1 a2
   have b1 : lessC (kE m Ed) k ≤ i := Nat.le_of_not_lt fun q => by have := a1.2 q; omega
   have b2 := a2.1 (by omega)
   obtain ⟨t, rfl⟩ : ∃ t, i = lessC (kE m Ed) k + t := ⟨i - lessC (kE m Ed) k, by omega⟩
   have ht : t < (subL Ed (lessC (kE m Ed) k) (lessC (kE m Ed) (k + 1))).length := by rw [subL_len le]; omega
   obtain ⟨h3, e⟩ := subL_get t ht
   rw [← e]
   exact List.getElem_mem ht
theorem toL_len (L : List EdT) : (toL L).length = L.length := by simp [toL]
theorem toL_rd {w : World} {g o : Nat} {Ed : List EdT} (h : RdN w (some ⟨g, o, none⟩) (toL Ed)) (lo hi : Nat) : RdN w (some ⟨g, o + lo, none⟩) (toL (subL Ed lo hi)) := fun j hj => by
 have hj' : j < (subL Ed lo hi).length := by rw [toL_len] at hj; exact hj
 obtain ⟨h2, e⟩ := subL_get j hj'
 obtain ⟨g', o', he, q⟩ := h (lo + j) (by rw [toL_len]; exact h2)
 cases he
 refine ⟨g, o + lo, rfl, ?_⟩
 have e1 : (toL Ed)[lo + j]'(by rw [toL_len]; exact h2) = Ed[lo + j].2.2 := by simp [toL]
 have e2 : (toL (subL Ed lo hi))[j] = (subL Ed lo hi)[j].2.2 := by simp [toL]
 rw [show o + lo + j = o + (lo + j) by omega, q, e2, e, e1]
theorem row_cap {W : World} {B n c sz : Nat} {e : TypeId} {b : Option Addr} {xs : List Value} (h : W.ownsRow B e sz (.slice b n c) n xs) : (b = none ∧ n = 0 ∧ c = 0) ∨ ∃ g, b = some ⟨g, 0, none⟩ ∧ n ≤ c ∧ B ≤ g := by
 rcases h.2 with ⟨hv, hn⟩ | ⟨g', cap', cur', hv, hb, _, hc, _⟩
 · cases hv
   exact .inl ⟨rfl, rfl, rfl⟩
 · cases hv
   exact .inr ⟨g', rfl, hc, hb⟩
theorem of_any (w : World) (B m R p s n k : Nat) (aE : Option Addr) (cE g : Nat) (Ed : List EdT) (hn : Ed.length = n) (hA : Hid (RwA B w m R Ed aE n cE g)) (hS : Hid (SsE Ed)) (hF : Hid (∀ e ∈ Ed, 0 ≤ e.2.1 ∧ e.2.1 < (m : Int))) (hs : s < m) (hk : p * m + s = k) (hkR : k < R) (hR : R ≤ 524288) (hl : n ≤ 4194304) :
 Calls Tryz.prog 96 #[.agg #[.int .i64 (m : Int), .slice aE n cE, .slice (some ⟨g, 0, none⟩) (R + 1) (R + 1)], .int .i64 (p : Int), .int .i64 (s : Int)] w fun e w' => ∃ a c, e = .returned (.slice a (fromL Ed p (s : Int)).length c) ∧ Hid (RdN w a (toL (fromL Ed p (s : Int))) ∧ (fromL Ed p (s : Int)).length ≤ c ∧ Below w.heap.size w w') := by
 obtain ⟨W0, hW0⟩ : ∃ W0, w.alloc (.cells #[.int .i64 (m : Int), .slice aE n cE, .slice (some ⟨g, 0, none⟩) (R + 1) (R + 1)] 93) = W0 := ⟨_, rfl⟩
 have HD : Hid (Below w.heap.size w W0) := hide (by rw [← hW0]; exact (Below.refl _ _).alloc (Nat.le_refl _) _)
 have b0 : W0.heap[w.heap.size]? = some (.cells #[.int .i64 (m : Int), .slice aE n cE, .slice (some ⟨g, 0, none⟩) (R + 1) (R + 1)] 93 (0, 0)) := by rw [← hW0]; exact World.alloc_heap_new _ _
 obtain ⟨k0, k1, k2⟩ := zd3 b0 rfl rfl rfl
 have HM := hide (hA.out.fi.below HD.out hA.out.fi.lt)
 have r0 := HM.out.at k (by omega)
 have r1 := HM.out.at (k + 1) (by omega)
 have u0 := lessC_le (kE m Ed) k
 have u1 := lessC_le (kE m Ed) (k + 1)
 have u2 : lessC (kE m Ed) k ≤ lessC (kE m Ed) (k + 1) := by rw [lessC_succ]; omega
 rw [kE_len, hn] at u0 u1
 have HL := hide (subL_len (Es := Ed) (lo := lessC (kE m Ed) k) (hi := lessC (kE m Ed) (k + 1)) (by rw [hn]; exact u1))
 have HC := hide (row_cap hA.out.ow)
 have HO : Hid (RdN w aE (toL Ed)) := hide (own_rdN (c := cE) (by rw [toL_len, hn]; exact hA.out.ow))
 have HR : Hid (∀ g', aE = some ⟨g', 0, none⟩ → RdN w (some ⟨g', lessC (kE m Ed) k, none⟩) (toL (subL Ed (lessC (kE m Ed) k) (lessC (kE m Ed) (k + 1))))) := hide (fun g' e => by
  have q := HO.out
  rw [e] at q
  have q2 := toL_rd q (lessC (kE m Ed) k) (lessC (kE m Ed) (k + 1))
  rw [Nat.zero_add] at q2
  exact q2)
 rw [row_eq hS.out hF.out hs hk] at HL HR
 generalize fromL Ed p (s : Int) = F at HL HR ⊢
 generalize lessC (kE m Ed) k = lo at *
 generalize lessC (kE m Ed) (k + 1) = hi at *
 have epm : (p : Int) * (m : Int) = ((p * m : Nat) : Int) := by simp
 have e1 : IntKind.i64.wrap ((p : Int) * (m : Int)) = (p : Int) * (m : Int) := by rw [epm, IntKind.wrap_i64]; omega
 have e2 : IntKind.i64.wrap ((p : Int) * (m : Int) + (s : Int)) = (k : Int) := by rw [epm, IntKind.wrap_i64]; omega
 have e3 : IntKind.i64.wrap ((k : Int) + 1) = (k : Int) + 1 := by rw [IntKind.wrap_i64]; omega
 have v0 : (0 : Int) ≤ (k : Int) := by omega
 have v1 : (k : Int) < (R : Int) + 1 := by omega
 have v2 : (k : Int) + 1 < (R : Int) + 1 := by omega
 have v3 : (lo : Int) ≤ (hi : Int) := by omega
 have v5 : (k : Int) ≤ 524288 := by omega
 have v6 : (0 : Int) ≤ (lo : Int) := by omega
 clear b0 hA hS hF HO HM epm hk hn
 rcases HC.out with ⟨rfl, rfl, rfl⟩ | ⟨gE, rfl, hc, -⟩
 · obtain rfl : lo = 0 := by omega
   obtain rfl : hi = 0 := by omega
   have hn : F = [] := List.eq_nil_of_length_eq_zero (by have := HL.out; omega)
   subst hn
   clear HR HL HC u0 u1 u2
   go_enter Tryz.func96, Tryz.ntmps96
   go_upto_region 2 with fail
   refine wp_region_phase 13 #[true, true, true, true, true, true, true, true, true, true, true, true, true, false, false] (by kernel_rfl) (by kernel_rfl) ?_
   simp only [List.take_succ_cons, List.take_zero, List.drop_succ_cons, List.drop_zero]
   repeat (go_big_quiet_step (fail))
   refine wpQuiet_nil ?_
   intro wz hzz
   obtain ⟨nq, rfl⟩ := hzz
   go_wp2_with fail
   refine bodyPost_ret (results_tmp rfl _ _ _) rfl ?_
   exact ⟨none, 0, rfl, hide ⟨fun j hj => absurd hj (Nat.not_lt_zero _), Nat.le_refl _, below_drewN2 HD.out nq⟩⟩
 · have v4 : (hi : Int) ≤ (cE : Int) := by omega
   have HR2 := hide (HR.out gE rfl)
   clear HR HC
   go_enter Tryz.func96, Tryz.ntmps96
   go_upto_region 2 with fail
   refine wp_region_phase 13 #[true, true, true, true, true, true, true, true, true, true, true, true, true, false, false] (by kernel_rfl) (by kernel_rfl) ?_
   simp only [List.take_succ_cons, List.take_zero, List.drop_succ_cons, List.drop_zero]
   repeat (go_big_quiet_step (fail))
   refine wpQuiet_nil ?_
   intro wz hzz
   obtain ⟨nq, rfl⟩ := hzz
   go_wp2_with fail
   · rename cE = lo => hkl
     subst hkl
     refine bodyPost_ret (results_tmp rfl _ _ _) rfl ?_
     have hn : F = [] := List.eq_nil_of_length_eq_zero (by have := HL.out; omega)
     refine ⟨some ⟨gE, 0, none⟩, 0, by rw [HL.out]; rfl, hide ⟨by rw [hn]; intro j hj; exact absurd hj (Nat.not_lt_zero _), by rw [hn]; exact Nat.le_refl _, below_drewN2 HD.out nq⟩⟩
   · refine bodyPost_ret (results_tmp rfl _ _ _) rfl ?_
     exact ⟨some ⟨gE, lo, none⟩, cE - lo, by rw [HL.out]; rfl, hide ⟨HR2.out, by rw [HL.out]; omega, below_drewN2 HD.out nq⟩⟩
end Go.Proofs.YtchoopnjckcohaaGreatDoor
namespace Go.Proofs
open Go.Shelf Go.RowKit Go.Lib Go.Sort
def Tryz.lays189_ren : Go.Shelf.Ren := ⟨fun | 189 => 148 | 125 => 162 | 257 => 161 | 128 => 179 | 129 => 180 | 294 => 170 | 295 => 171 | 296 => 172 | 297 => 173 | 298 => 174 | 299 => 175 | 216 => 176 | 300 => 177 | 301 => 178 | 328 => 197 | 329 => 198 | 330 => 199 | 331 => 200 | 332 => 201 | 215 => 158 | 343 => 208 | n => n, fun | 28 => 22 | 3 => 3 | 46 => 160 | 0 => 0 | 51 => 180 | 53 => 143 | 4 => 4 | 183 => 174 | 182 => 173 | 131 => 154 | 5 => 5 | 9 => 9 | 218 => 191 | 222 => 195 | 228 => 201 | 229 => 159 | n => n, fun | n => n⟩
theorem Tryz.lays189 : Go.Proofs.Lays.n189 Tryz.prog Tryz.lays189_ren := {
 mixed := by kernel_rfl
 f125 := Tryz.func162.trans (congrArg some (by kernel_rfl))
 f128 := Tryz.func179.trans (congrArg some (by kernel_rfl))
 f129 := Tryz.func180.trans (congrArg some (by kernel_rfl))
 f189 := Tryz.func148.trans (congrArg some (by kernel_rfl))
 f215 := Tryz.func158.trans (congrArg some (by kernel_rfl))
 f216 := Tryz.func176.trans (congrArg some (by kernel_rfl))
 f257 := Tryz.func161.trans (congrArg some (by kernel_rfl))
 f294 := Tryz.func170.trans (congrArg some (by kernel_rfl))
 f295 := Tryz.func171.trans (congrArg some (by kernel_rfl))
 f296 := Tryz.func172.trans (congrArg some (by kernel_rfl))
 f297 := Tryz.func173.trans (congrArg some (by kernel_rfl))
 f298 := Tryz.func174.trans (congrArg some (by kernel_rfl))
 f299 := Tryz.func175.trans (congrArg some (by kernel_rfl))
 f300 := Tryz.func177.trans (congrArg some (by kernel_rfl))
 f301 := Tryz.func178.trans (congrArg some (by kernel_rfl))
 f328 := Tryz.func197.trans (congrArg some (by kernel_rfl))
 f329 := Tryz.func198.trans (congrArg some (by kernel_rfl))
 f330 := Tryz.func199.trans (congrArg some (by kernel_rfl))
 f331 := Tryz.func200.trans (congrArg some (by kernel_rfl))
 f332 := Tryz.func201.trans (congrArg some (by kernel_rfl))
 f343 := Tryz.func208.trans (congrArg some (by kernel_rfl))
 t0 := Tryz.underlying0
 a0 := Tryz.isAgg0
 z0 := Tryz.sizeOf0
 v0 := Tryz.zeroValue0
 t3 := Tryz.underlying3
 a3 := Tryz.isAgg3
 z3 := Tryz.sizeOf3
 v3 := Tryz.zeroValue3
 t4 := Tryz.underlying4
 a4 := Tryz.isAgg4
 z4 := Tryz.sizeOf4
 v4 := Tryz.zeroValue4
 t5 := Tryz.underlying5
 a5 := Tryz.isAgg5
 z5 := Tryz.sizeOf5
 v5 := Tryz.zeroValue5
 t9 := Tryz.underlying9
 a9 := Tryz.isAgg9
 z9 := Tryz.sizeOf9
 v9 := Tryz.zeroValue9
 t28 := Tryz.underlying22
 a28 := Tryz.isAgg22
 z28 := Tryz.sizeOf22
 v28 := Tryz.zeroValue22
 t46 := Tryz.underlying160
 a46 := Tryz.isAgg160
 z46 := Tryz.sizeOf160
 v46 := Tryz.zeroValue160
 t51 := Tryz.underlying180
 a51 := Tryz.isAgg180
 z51 := Tryz.sizeOf180
 v51 := Tryz.zeroValue180
 t53 := Tryz.underlying143
 a53 := Tryz.isAgg143
 z53 := Tryz.sizeOf143
 v53 := Tryz.zeroValue143
 t131 := Tryz.underlying154
 a131 := Tryz.isAgg154
 z131 := Tryz.sizeOf154
 v131 := Tryz.zeroValue154
 t182 := Tryz.underlying173
 a182 := Tryz.isAgg173
 z182 := Tryz.sizeOf173
 v182 := Tryz.zeroValue173
 t183 := Tryz.underlying174
 a183 := Tryz.isAgg174
 z183 := Tryz.sizeOf174
 v183 := Tryz.zeroValue174
 t218 := Tryz.underlying191
 a218 := Tryz.isAgg191
 z218 := Tryz.sizeOf191
 v218 := Tryz.zeroValue191
 t222 := Tryz.underlying195
 a222 := Tryz.isAgg195
 z222 := Tryz.sizeOf195
 v222 := Tryz.zeroValue195
 t228 := Tryz.underlying201
 a228 := Tryz.isAgg201
 z228 := Tryz.sizeOf201
 v228 := Tryz.zeroValue201
 t229 := Tryz.underlying159
 a229 := Tryz.isAgg159
 z229 := Tryz.sizeOf159
 v229 := Tryz.zeroValue159 }
open Go.Sort Go.RowKit in
theorem Tryz.slices_Sort_int (blk off cap : Nat) (zs : List Int) (w : World) (hH : Holds (Value.int .i64) w blk off zs.toArray) (hblk : blk < w.heap.size) (hsz : zs.length < 4611686018427387904) :
 Calls Tryz.prog 148 #[.slice (some ⟨blk, off, none⟩) zs.length cap] w fun e w' =>
  e = .returned (.tuple #[]) ∧ ∃ n os, w' = grow (putRow (Value.int .i64) (Sort.ahead w n) blk off (zs.mergeSort fun x y => decide (x ≤ y)).toArray) os := Any.slices_Sort_int Tryz.lays189 blk off cap zs w hH hblk hsz
def Tryz.laysNm215_ren : Go.Shelf.Ren := ⟨fun | 15 => 62 | n => n, fun | 22 => 22 | 3 => 3 | 4 => 4 | n => n, fun | n => n⟩
theorem Tryz.laysNm215 : Go.Proofs.Lays2.n15 Tryz.prog Tryz.laysNm215_ren := {
 mixed := by kernel_rfl
 f15 := Tryz.func62.trans (congrArg some (by kernel_rfl))
 t3 := Tryz.underlying3
 a3 := Tryz.isAgg3
 z3 := Tryz.sizeOf3
 v3 := Tryz.zeroValue3
 t4 := Tryz.underlying4
 a4 := Tryz.isAgg4
 z4 := Tryz.sizeOf4
 v4 := Tryz.zeroValue4
 t22 := Tryz.underlying22
 a22 := Tryz.isAgg22
 z22 := Tryz.sizeOf22
 v22 := Tryz.zeroValue22
 i3 := by kernel_rfl }
theorem Tryz.slices_Clone_int (b off n c : Nat) (zs : List Int) (w : World) (hz : n ≤ zs.length) (hbig : n * 8 ≤ 140737488355328) (hc : ∀ j, j < zs.length → w.cell? ⟨b, off + j, none⟩ = some (.int .i64 (zs.getD j 0))) :
 Calls Tryz.prog 62 #[.slice (some ⟨b, off, none⟩) n c] w fun e w' => ∃ v', e = .returned v' ∧ w'.ownsRow w.heap.size 3 1 v' n ((zs.take n).map (Value.int .i64)) ∧ v' ≠ .slice none 0 0 ∧ Below w.heap.size w w' := Any.slices_Clone_int Tryz.laysNm215 b off n c zs w hz hbig hc
theorem Tryz.slices_Clone_int_nil (n c : Nat) (w : World) :
 Calls Tryz.prog 62 #[.slice none n c] w fun e w' => e = .returned (.slice none 0 0) ∧ w' = w := Any.slices_Clone_int_nil Tryz.laysNm215 n c w
theorem Tryz.slices_Clone_int_zero (a : Addr) (c : Nat) (w : World) :
 Calls Tryz.prog 62 #[.slice (some a) 0 c] w fun e w' => ∃ v', e = .returned v' ∧ w'.ownsRow w.heap.size 3 1 v' 0 [] ∧ v' ≠ .slice none 0 0 ∧ Below w.heap.size w w' := Any.slices_Clone_int_zero Tryz.laysNm215 a c w
theorem Tryz.slices_Sort_int_none (p : Option Addr) (cap : Nat) (w : World) :
 Calls Tryz.prog 148 #[.slice p 0 cap] w fun e w' => e = .returned (.tuple #[]) ∧ w' = w := Any.slices_Sort_int_none Tryz.lays189 p cap w
end Go.Proofs
namespace Go.Proofs.YtchoopnjckcohaaGreatDoor
open Go.RowKit Go.Maps Go.Sort Go.Proofs
theorem sort_own (W : World) (B n : Nat) (v : Value) (L : List Int) (hn : n = L.length) (hv : W.ownsRow B 3 1 v n (L.map (Value.int .i64))) (hl : n ≤ 4194304) :
 Calls Tryz.prog 148 #[v] W fun e w' => e = .returned (.tuple #[]) ∧ w'.ownsRow B 3 1 v n ((sortI L).map (Value.int .i64)) ∧ W.grownBy w' v.ownBlock := by
 rcases hv.2 with ⟨ev, e0⟩ | ⟨g, cap, cur, rfl, hB, hb, h1, h2, h3, h4⟩
 · subst ev e0
   obtain rfl : L = [] := List.eq_nil_of_length_eq_zero hn.symm
   refine (Tryz.slices_Sort_int_none none 0 W).mono ?_
   rintro e w' ⟨rfl, rfl⟩
   exact ⟨rfl, by rw [show sortI [] = [] from List.mergeSort_nil]; exact hv, rfl, rfl, rfl, Nat.le_refl _, fun _ _ _ => rfl⟩
 · subst hn
   rw [Nat.mul_one] at h4
   refine (Tryz.slices_Sort_int g 0 cap L W (holds_of_blockI hb h4) (Array.getElem?_eq_some_iff.1 hb).1 (by omega)).mono ?_
   rintro e w' ⟨rfl, k, os, rfl⟩
   exact ⟨rfl, ownsRow_sortedI (ts := sortI L) (ss := L) (sortI_len L) hB hb h1 h2 h3, grownBy_sortedI _⟩
theorem compact_own (W : World) (B n : Nat) (v : Value) (L : List Int) (hn : n = L.length) (hv : W.ownsRow B 3 1 v n (L.map (Value.int .i64))) (hl : n ≤ 4194304) :
 Calls Tryz.prog 149 #[v] W fun e w' => ∃ v', e = .returned v' ∧ w'.ownsRow B 3 1 v' (Lib.compact L).length ((Lib.compact L).map (Value.int .i64)) ∧ W.grownBy w' v.ownBlock ∧ v'.ownBlock = v.ownBlock := by
 rcases hv.2 with ⟨ev, e0⟩ | ⟨g, cap, cur, rfl, _⟩
 · subst ev e0
   obtain rfl : L = [] := List.eq_nil_of_length_eq_zero hn.symm
   refine (Tryz.slices_Compact_int_empty none 0 W).mono ?_
   rintro e w' ⟨rfl, rfl⟩
   have : Lib.compact ([] : List Int) = [] := List.eq_nil_of_length_eq_zero (Nat.le_zero.1 (compact_len _))
   rw [this]
   exact ⟨_, rfl, hv, ⟨rfl, rfl, rfl, Nat.le_refl _, fun _ _ _ => rfl⟩, rfl⟩
 · refine (compactI_any W B g cap n L hn hv hl).mono ?_
   rintro e w' ⟨rfl, a, b⟩
   exact ⟨_, rfl, a, b, rfl⟩
theorem clone_own (w : World) (ao : Option Addr) (n c : Nat) (L : List Int) (hn : L.length = n) (hA : Hid (RdN w ao L)) (hl : n ≤ 4194304) :
 Calls Tryz.prog 62 #[.slice ao n c] w fun e w' => ∃ v', e = .returned v' ∧ Hid (w'.ownsRow w.heap.size 3 1 v' n (L.map (Value.int .i64)) ∧ Below w.heap.size w w') := by
 subst hn
 cases ao with
 | none =>
  obtain rfl : L = [] := by
   cases L with
   | nil => rfl
   | cons x L => obtain ⟨g, o, e, _⟩ := hA.out 0 (by simp); cases e
  refine (Tryz.slices_Clone_int_nil _ c w).mono ?_
  rintro e w' ⟨rfl, rfl⟩
  exact ⟨_, rfl, hide ⟨World.ownsRow_nil _ _ _ _, Below.refl _ _⟩⟩
 | some a =>
  by_cases h0 : L.length = 0
  · obtain rfl := List.eq_nil_of_length_eq_zero h0
    refine (Tryz.slices_Clone_int_zero a c w).mono ?_
    rintro e w' ⟨v, rfl, o, _, d⟩
    exact ⟨v, rfl, hide ⟨o, d⟩⟩
  · obtain ⟨g, o, e, _⟩ := hA.out 0 (by omega)
    cases e
    refine (Tryz.slices_Clone_int g o L.length c L w (Nat.le_refl _) (by omega) (fun j hj => by
     obtain ⟨g', o', e, q⟩ := hA.out j hj
     cases e
     rw [q]
     simp [List.getD, List.getElem?_eq_getElem hj])).mono ?_
    rintro e w' ⟨v, rfl, o, _, d⟩
    rw [List.take_length] at o
    exact ⟨v, rfl, hide ⟨o, d⟩⟩
end Go.Proofs.YtchoopnjckcohaaGreatDoor
namespace Go.Proofs.YtchoopnjckcohaaGreatDoor
open Go.RowKit Go.Maps Go.Shelf
attribute [local go_sem] Oper.semAt_some
def ledL (E : List EdT) (p s : Int) (C : List Int) : List EdT := E ++ C.map fun q => (p, s, q)
theorem ledL_snoc (E : List EdT) (p s : Int) (C : List Int) (i : Nat) (h : i < C.length) : ledL E p s (C.take (i + 1)) = ledL E p s (C.take i) ++ [(p, s, C[i])] := by
 unfold ledL
 rw [List.take_succ_eq_append_getElem h, List.map_append, ← List.append_assoc]
 rfl
theorem ledL_len (E : List EdT) (p s : Int) (C : List Int) : (ledL E p s C).length = E.length + C.length := by simp [ledL]
theorem grown_only {w w' : World} {r : Option Nat} (h : w.grownBy w' r) : Only w w' (fun k => r = some k) := ⟨h.os, h.tape, h.output, h.size, fun k hk hn => h.block k hk (fun e => hn e.symm)⟩
theorem rows_differ {W : World} {B C n m sz sy : Nat} {e t : TypeId} {v u : Value} {xs ys : List Value} (h : W.ownsRow B e sz v n xs) (h2 : W.ownsRow C t sy u m ys) (hne : t ≠ e) {k : Nat} (hk : v.ownBlock = some k) (hk2 : u.ownBlock = some k) : False := by
 rcases h2.2 with ⟨hv, _⟩ | ⟨g', cap', cur', hv, _, hgc, _⟩
 · subst hv
   cases hk2
 · subst hv
   have e2 : g' = k := by simpa [Value.ownBlock] using hk2
   subst e2
   exact row_tag h hgc hne hk
theorem wpList_appG {ops : Array Oper} {rest : List Oper} {o : Oper} {a : Act} {Q : Exit → Act → World → Prop} {w : World} (hgd : o.guard = none) (s x : Operand)
 (ho : o.op = .call { callee := .builtin .append, args := #[s, x], argTypes := #[23, 23] }) (B : Nat) (v : Value) (X : List EdT) (hs : a.eval s = v) (hown : w.ownsRow B 61 3 v X.length (X.flatMap encE)) (p : Nat) (y : EdT) (hx : a.eval x = .slice (some ⟨p, 0, none⟩) 1 1) (hp : w.heap[p]? = some (.cells #[.int .i64 y.1, .int .i64 y.2.1, .int .i64 y.2.2] 61 (0, 0))) (hl : X.length ≤ 16777216) (hB : B ≤ w.heap.size)
 (h : ∀ v' w', Hid (w'.ownsRow B 61 3 v' (X ++ [y]).length ((X ++ [y]).flatMap encE)) → Hid (Only w w' (fun k => v.ownBlock = some k)) → wpList Tryz.prog ops Q rest (a.put o.dst v') w') : wpList Tryz.prog ops Q (o :: rest) a w := by
 obtain ⟨i5, hi5, hz50, hz51, hz52⟩ := info_parts info59
 refine wpList_append_own_at _ hgd s x 23 ho B 61 i5 _ 3 24 Tryz.underlying23 hi5 hz50 hz51 hz52 rfl (by omega) v X.length (X.flatMap encE) hs hown ⟨p, 0, none⟩ 1 1 (encE y) hx rfl (three_cells hp) (by simp [encE, Value.oneCell']) (by unfold maxLen; omega) (by omega) (by omega) ?_
 intro v2 w2 h2 hgr _ _
 exact h v2 w2 (hide (by rw [List.flatMap_append, List.length_append]; simpa using h2)) (hide (grown_only hgr))
structure LedI (w : World) (B : Nat) (E : List EdT) (p s : Int) (C : List Int) (i : Nat) (vc v : Value) (wr : World) : Prop where
 ed : wr.ownsRow B 61 3 v (ledL E p s (C.take i)).length ((ledL E p s (C.take i)).flatMap encE)
 en : wr.ownsRow B 3 1 vc C.length (C.map (Value.int .i64))
 be : Below B w wr
theorem ledI_next {w wr w5 : World} {B i : Nat} {E : List EdT} {p s : Int} {C : List Int} {vc v v5 : Value} {cs : Array Value} (hB : B ≤ w.heap.size) (h : LedI w B E p s C i vc v wr) (hi : i < C.length) (ho : w5.ownsRow B 61 3 v5 (ledL E p s (C.take i) ++ [(p, s, C[i])]).length ((ledL E p s (C.take i) ++ [(p, s, C[i])]).flatMap encE)) (oo : Only (wr.alloc (.cells cs 61)) w5 (fun k => v.ownBlock = some k)) : LedI w B E p s C (i + 1) vc v5 w5 := by
 have d1 : Below wr.heap.size wr (wr.alloc (.cells cs 61)) := (Below.refl _ _).alloc (Nat.le_refl _) _
 have e1 := own_below h.ed d1
 have c1 := own_below h.en d1
 have b1 := h.be.trans (d1.mono (Nat.le_trans hB h.be.size))
 refine ⟨by rw [ledL_snoc _ _ _ _ _ hi]; exact ho, row_only c1 oo (fun k hk hk2 => rows_differ e1 c1 (by decide) hk2 hk), b1.trans (oo.toBelow (Nat.le_trans hB b1.size) (fun k hk => (e1.lt k hk).1))⟩
theorem lead_any (w : World) (B : Nat) (vE vL : Value) (E : List EdT) (p s : Int) (n : Nat) (L : List Int) (hn : n = L.length) (hE : Hid (w.ownsRow B 61 3 vE E.length (E.flatMap encE))) (hL : Hid (w.ownsRow B 3 1 vL n (L.map (Value.int .i64)))) (hB : B ≤ w.heap.size) (hl : n ≤ 4194304) (hl2 : E.length ≤ 4194304) :
 Calls Tryz.prog 123 #[vE, .int .i64 p, .int .i64 s, vL] w fun e w' => ∃ v', e = .returned v' ∧ Hid (w'.ownsRow B 61 3 v' (ledL E p s (riseL L)).length ((ledL E p s (riseL L)).flatMap encE) ∧ Below B w w') := by
 have TS := sort_own w B n vL L hn hL.out hl
 obtain ⟨C, hC⟩ : ∃ C, riseL L = C := ⟨_, rfl⟩
 have hCl : C.length ≤ 4194304 := by rw [← hC]; have := riseL_len L; omega
 rw [hC]
 have HC := hide hC
 clear hC
 go_enter Tryz.func123, Tryz.ntmps123
 go_wp2_with (go_at_call 148; refine TS.mono ?_; rintro e w1 ⟨rfl, o1, g1⟩)
 have HO := hide (And.intro o1 g1)
 clear TS o1 g1
 have TC := compact_own w1 B n vL (sortI L) (by rw [sortI_len]; exact hn) HO.out.1 hl
 rw [show Lib.compact (sortI L) = riseL L from rfl, HC.out] at TC
 go_wp2_with (go_at_call 149; refine TC.mono ?_; rintro e w2 ⟨v2, rfl, o2, g2, b2⟩; obtain ⟨ac, cc, rfl⟩ := own_slice o2)
 have H0 : Hid (LedI w B E p s C 0 (.slice ac C.length cc) vE w2) := hide (by
  have e1 := row_only hE.out (grown_only HO.out.2) (fun k hk hk2 => rows_differ hE.out hL.out (by decide) hk hk2)
  have e2 := row_only e1 (grown_only g2) (fun k hk hk2 => rows_differ e1 HO.out.1 (by decide) hk hk2)
  have d1 := (grown_only HO.out.2).toBelow hB (fun k hk => (hL.out.lt k hk).1)
  have d2 := (grown_only g2).toBelow (Nat.le_trans hB d1.size) (fun k hk => (HO.out.1.lt k hk).1)
  have z : ledL E p s (C.take 0) = E := by simp [ledL]
  exact ⟨by rw [z]; exact e2, o2, d1.trans d2⟩)
 clear TC HO o2 g2 b2 hL hE hn HC
 go_loopw [0, 16] (fun ev iv wr => ∃ i : Nat, i ≤ C.length ∧ iv = .int .i64 (i : Int) ∧ Hid (LedI w B E p s C i (.slice ac C.length cc) ev wr)) (fun _ iv _ => C.length - (intOf iv).toNat)
 case atStart => exact ⟨0, Nat.zero_le _, rfl, H0⟩
 case round =>
  obtain ⟨i, hi, rfl, HY⟩ := hrel
  clear H0
  by_cases hil : i < C.length
  · have i0 : (0 : Int) ≤ (i : Int) := by omega
    have i1 : (i : Int) < (C.length : Int) := by omega
    obtain ⟨g, o, rfl, q⟩ := own_rdN HY.out.en i hil
    have hbw : B ≤ wr.heap.size := Nat.le_trans hB HY.out.be.size
    have hll : (ledL E p s (C.take i)).length ≤ 16777216 := by rw [ledL_len, List.length_take]; omega
    obtain ⟨x, hx⟩ : ∃ x, C[i] = x := ⟨_, rfl⟩
    rw [hx] at q
    have HX := hide hx
    clear hx
    go_wp2_with (at_builtin; refine wpList_appG rfl _ _ rfl B u0 (ledL E p s (C.take i)) rfl (own_below HY.out.ed ((Below.refl _ _).alloc (Nat.le_refl _) _)) wr.heap.size (p, s, x) rfl (World.alloc_heap_new _ _) hll (by rw [World.size_alloc]; omega) ?_; intro v5 w5 HO5 HG5)
    refine ⟨⟨i + 1, by omega, by go_num, hide (ledI_next hB HY.out hil (by rw [HX.out]; exact HO5.out) HG5.out)⟩, by simp [intOf]; omega⟩
  · obtain rfl : i = C.length := by omega
    have i1 : ¬ (C.length : Int) < (C.length : Int) := by omega
    go_wp2_with fail
    refine bodyPost_ret (results_tmp rfl _ _ _) rfl ?_
    have z := HY.out.ed
    rw [List.take_length] at z
    exact ⟨_, rfl, hide ⟨z, HY.out.be⟩⟩
theorem Only.grown {w w' : World} {r : Option Nat} {R : Nat → Prop} (h : w.grownBy w' r) (hr : ∀ k, r = some k → R k) : Only w w' R :=
 ⟨h.os, h.tape, h.output, h.size, fun k hk hn => h.block k hk (fun e => hn (hr k e.symm))⟩
section
variable {w W W' : World} {N : Nat} {v : Nat → Value} {bx : List (Nat × Array Value × TypeId)} {e sz n : Nat → Nat} {mk : Nat → Nat → Value} {x : Nat → List Value} {a : Nat → Nat}
end
theorem RwA.down {B : Nat} {w : World} {m R : Nat} {Ed : List EdT} {aE : Option Addr} {n cE g : Nat} (h : RwA B w m R Ed aE n cE g) : RwA 0 w m R Ed aE n cE g := ⟨owns_down h.ow (Nat.zero_le _), h.fi, Nat.zero_le _⟩
theorem RwA.on {B : Nat} {w w' : World} {m R : Nat} {Ed : List EdT} {aE : Option Addr} {n cE g : Nat} (h : RwA B w m R Ed aE n cE g) (d : Below w.heap.size w w') : RwA B w' m R Ed aE n cE g := ⟨own_below h.ow d, h.fi.below d h.fi.lt, h.ge⟩
def rwsP (m R n : Nat) (Ed : List EdT) : MkP := fun x _ _ W => ∃ aE cE g, x = .agg #[.int .i64 (m : Int), .slice aE n cE, .slice (some ⟨g, 0, none⟩) (R + 1) (R + 1)] ∧ RwA 0 W m R Ed aE n cE g
theorem rwsP_mono {m R n : Nat} {Ed : List EdT} : MonoP (rwsP m R n Ed) := fun _ _ _ _ _ _ d ⟨aE, cE, g, e, h⟩ => ⟨aE, cE, g, e, h.on d⟩
def finP (N : Nat) (Fi : List Int) : MkP := fun x _ _ W => ∃ gf, x = .slice (some ⟨gf, 0, none⟩) N N ∧ Mrw W gf 4 N (fun c => .bool (finB Fi c)) N
theorem finP_mono {N : Nat} {Fi : List Int} : MonoP (finP N Fi) := fun _ _ _ _ _ _ d ⟨gf, e, h⟩ => ⟨gf, e, h.below d h.lt⟩
def b3P : MkP := fun x lo hi W => x = .pointer (some ⟨lo, 0, none⟩) ∧ lo < hi ∧ W.heap[lo]? = some (.cells #[.int .i64 0, .slice none 0 0, .slice none 0 0] 93 (0, 0))
theorem b3P_mono : MonoP b3P := fun _ _ _ _ _ hs d ⟨e, l, z⟩ => ⟨e, l, (d.block _ (by omega)).trans z⟩
def b1P : MkP := fun x lo hi W => x = .pointer (some ⟨lo, 0, none⟩) ∧ lo < hi ∧ W.heap[lo]? = some (.cells #[.slice none 0 0] 77 (0, 0))
theorem b1P_mono : MonoP b1P := fun _ _ _ _ _ hs d ⟨e, l, z⟩ => ⟨e, l, (d.block _ (by omega)).trans z⟩
structure BrA (w W : World) (N m R n : Nat) (Ed : List EdT) (Fi : List Int) (p6 p7 : Nat) (aE : Option Addr) (cE g gf : Nat) : Prop where
 b6 : W.heap[p6]? = some (.cells #[.int .i64 (m : Int), .slice aE n cE, .slice (some ⟨g, 0, none⟩) (R + 1) (R + 1)] 93 (0, 0))
 b7 : W.heap[p7]? = some (.cells #[.slice (some ⟨gf, 0, none⟩) N N] 77 (0, 0))
 rw : RwA 0 W m R Ed aE n cE g
 fi : Mrw W gf 4 N (fun c => .bool (finB Fi c)) N
 be : Below w.heap.size w W
theorem BrA.on {w W W' : World} {N m R n : Nat} {Ed : List EdT} {Fi : List Int} {p6 p7 : Nat} {aE : Option Addr} {cE g gf : Nat} (h : BrA w W N m R n Ed Fi p6 p7 aE cE g gf) (d : Below W.heap.size W W') : BrA w W' N m R n Ed Fi p6 p7 aE cE g gf :=
 ⟨blk_on h.b6 d, blk_on h.b7 d, h.rw.on d, h.fi.below d h.fi.lt, h.be.trans (d.mono h.be.size)⟩
theorem mrw_tag {W : World} {g N k : Nat} {t t' : TypeId} {f : Nat → Value} {cs : Array Value} (h : Mrw W g t N f N) (z : W.heap[k]? = some (.cells cs t' (0, 0))) (ne : t ≠ t') : g ≠ k := fun e => by
 obtain ⟨cur, h1, _⟩ := h
 rw [e, z] at h1
 cases h1
 exact ne rfl
theorem brA_of {w W : World} {N m R n : Nat} {Ed : List EdT} {Fi : List Int} {p6 p7 : Nat} {aE : Option Addr} {cE g gf : Nat} (z1 : RwA 0 W m R Ed aE n cE g) (z3 : Mrw W gf 4 N (fun c => .bool (finB Fi c)) N) (z4 : W.heap[p6]? = some (.cells #[.int .i64 0, .slice none 0 0, .slice none 0 0] 93 (0, 0))) (z5 : W.heap[p7]? = some (.cells #[.slice none 0 0] 77 (0, 0))) (d : Below w.heap.size w W) (a4 : w.heap.size ≤ p6) (a5 : w.heap.size ≤ p7) :
 BrA w ((((W.setCell ⟨p6, 0, none⟩ (.int .i64 (m : Int))).setCell ⟨p6, 1, none⟩ (.slice aE n cE)).setCell ⟨p6, 2, none⟩ (.slice (some ⟨g, 0, none⟩) (R + 1) (R + 1))).setCell ⟨p7, 0, none⟩ (.slice (some ⟨gf, 0, none⟩) N N)) N m R n Ed Fi p6 p7 aE cE g gf := by
 have o1 := only3 W p6 0 1 2 (.int .i64 (m : Int)) (.slice aE n cE) (.slice (some ⟨g, 0, none⟩) (R + 1) (R + 1))
 have s1 := set3 W p6 _ _ _ (.int .i64 (m : Int)) (.slice aE n cE) (.slice (some ⟨g, 0, none⟩) (R + 1) (R + 1)) 93 z4
 have ne : p7 ≠ p6 := fun e => by rw [e, z4] at z5; cases z5
 have t5 := (o1.block p7 (Array.getElem?_eq_some_iff.1 z5).1 ne).trans z5
 have r1 := row_only z1.ow o1 (fun k hk e => by subst e; exact row_tag z1.ow z4 (by decide) hk)
 have m1 := z1.fi.only o1 (mrw_tag z1.fi z4 (by decide))
 have f1 := z3.only o1 (mrw_tag z3 z4 (by decide))
 have d1 := d.trans (o1.toBelow d.size (fun k hk => by rw [hk]; exact a4))
 generalize ((W.setCell ⟨p6, 0, none⟩ (.int .i64 (m : Int))).setCell ⟨p6, 1, none⟩ (.slice aE n cE)).setCell ⟨p6, 2, none⟩ (.slice (some ⟨g, 0, none⟩) (R + 1) (R + 1)) = W1 at *
 have o2 := only_set W1 p7 0 (.slice (some ⟨gf, 0, none⟩) N N)
 exact ⟨(o2.block p6 (Array.getElem?_eq_some_iff.1 s1).1 (fun e => ne e.symm)).trans s1, heap_setCell_same _ _ 0 _ 77 _ t5, ⟨row_only r1 o2 (fun k hk e => by subst e; exact row_tag r1 t5 (by decide) hk), m1.only o2 (mrw_tag m1 t5 (by decide)), Nat.zero_le _⟩, f1.only o2 (mrw_tag f1 t5 (by decide)), d1.trans (o2.toBelow d1.size (fun k hk => by rw [hk]; exact a5))⟩
def endL (Ed : List EdT) (Fi Bg : List Int) (p s : Nat) : List Int := if (toL (fromL Ed p (s : Int))).any (fun x => finB Fi x.toNat) then toL (fromL Ed p (s : Int)) ++ Bg else toL (fromL Ed p (s : Int))
def celL (Ed : List EdT) (Fi Bg : List Int) (p s : Nat) : List EdT := (riseL (endL Ed Fi Bg p s)).map fun q => ((p : Int), (s : Int), q)
def rowL (Ed : List EdT) (Fi Bg : List Int) (p k : Nat) : List EdT := (List.range k).flatMap (celL Ed Fi Bg p)
def brL (Ed : List EdT) (Fi Bg : List Int) (m p : Nat) : List EdT := (List.range p).flatMap (fun q => rowL Ed Fi Bg q m)
theorem rowL_next (Ed : List EdT) (Fi Bg : List Int) (p k : Nat) : rowL Ed Fi Bg p (k + 1) = rowL Ed Fi Bg p k ++ celL Ed Fi Bg p k := by simp [rowL, List.range_succ]
theorem brL_next (Ed : List EdT) (Fi Bg : List Int) (m p : Nat) : brL Ed Fi Bg m (p + 1) = brL Ed Fi Bg m p ++ rowL Ed Fi Bg p m := by simp [brL, List.range_succ]
theorem rowL_le (Ed : List EdT) (Fi Bg : List Int) (p : Nat) {k j : Nat} (h : k ≤ j) : (rowL Ed Fi Bg p k).length ≤ (rowL Ed Fi Bg p j).length := by
 induction h with
 | refl => exact Nat.le_refl _
 | step h ih => rw [rowL_next, List.length_append]; omega
theorem brL_le (Ed : List EdT) (Fi Bg : List Int) (m : Nat) {k j : Nat} (h : k ≤ j) : (brL Ed Fi Bg m k).length ≤ (brL Ed Fi Bg m j).length := by
 induction h with
 | refl => exact Nat.le_refl _
 | step h ih => rw [brL_next, List.length_append]; omega
theorem brL_part (Ed : List EdT) (Fi Bg : List Int) (m N : Nat) {p k : Nat} (hp : p < N) (hk : k ≤ m) : (brL Ed Fi Bg m p ++ rowL Ed Fi Bg p k).length ≤ (brL Ed Fi Bg m N).length := by
 have h1 := brL_le Ed Fi Bg m (show p + 1 ≤ N from hp)
 have h2 := rowL_le Ed Fi Bg p hk
 rw [brL_next, List.length_append] at h1
 rw [List.length_append]
 omega
theorem endL_len (Ed : List EdT) (Fi Bg : List Int) (p s : Nat) : (endL Ed Fi Bg p s).length ≤ Ed.length + Bg.length := by
 have h : (fromL Ed p (s : Int)).length ≤ Ed.length := List.length_filter_le _ _
 unfold endL
 split
 · rw [List.length_append, toL_len]; omega
 · rw [toL_len]; omega
theorem wpList_appL {ops : Array Oper} {rest : List Oper} {o : Oper} {a : Act} {Q : Exit → Act → World → Prop} {w : World} (hgd : o.guard = none) (s x : Operand)
 (ho : o.op = .call { callee := .builtin .append, args := #[s, x], argTypes := #[22, 22] }) (B : Nat) (v : Value) (X : List Int) (hs : a.eval s = v) (hown : w.ownsRow B 3 1 v X.length (X.map (Value.int .i64))) (ao : Option Addr) (n c : Nat) (Y : List Int) (hn : Y.length = n) (hz : ao = none → c = 0) (hx : a.eval x = .slice ao n c) (hr : RdN w ao Y) (hl : X.length + Y.length ≤ 16777216) (hB : B ≤ w.heap.size)
 (h : ∀ v' w', Hid (w'.ownsRow B 3 1 v' (X ++ Y).length ((X ++ Y).map (Value.int .i64))) → Hid (Only w w' (fun k => v.ownBlock = some k)) → wpList Tryz.prog ops Q rest (a.put o.dst v') w') : wpList Tryz.prog ops Q (o :: rest) a w := by
 obtain ⟨i3, hi3, hz30, hz31, hz32⟩ := info_parts info3
 subst hn
 cases ao with
 | none =>
  obtain rfl : Y = [] := by
   cases Y with
   | nil => rfl
   | cons y Y => obtain ⟨g, o, e, _⟩ := hr 0 (by simp); cases e
  obtain rfl := hz rfl
  refine wpList_append_own_none hgd s x 22 ho B 3 i3 1 Tryz.underlying22 hi3 v X.length (X.map (Value.int .i64)) hs hown hx ?_
  exact h v w (hide (by rw [List.append_nil]; exact hown)) (hide (Only.ofBelow (Below.refl _ _)))
 | some ad =>
  refine wpList_append_own _ hgd s x 22 ho B 3 i3 _ 1 8 Tryz.underlying22 hi3 hz30 hz31 hz32 rfl (by omega) v X.length (X.map (Value.int .i64)) hs hown ad Y.length c (Y.map (Value.int .i64)) hx (by simp) (fun j u hu => ?_) (by simp [Value.oneCell']) (by unfold maxLen; omega) (by omega) hB ?_
  · have hj : j < Y.length := by
     have := (List.getElem?_eq_some_iff.1 hu).1
     simpa using this
    obtain ⟨g, o, e, q⟩ := hr j hj
    cases e
    rw [Addr.add_lit, q]
    rw [List.getElem?_map, List.getElem?_eq_getElem hj] at hu
    exact hu
  · intro v2 w2 h2 hgr _
    exact h v2 w2 (hide (by rw [List.map_append, List.length_append]; exact h2)) (hide (grown_only hgr))
structure BrI (wx : World) (E : List EdT) (v : Value) (wr : World) : Prop where
 ow : wr.ownsRow wx.heap.size 61 3 v E.length (E.flatMap encE)
 be : Below wx.heap.size wx wr
 le : E.length ≤ 65536
theorem celL_led (E : List EdT) (Ed : List EdT) (Fi Bg : List Int) (p s : Nat) : ledL E (p : Int) (s : Int) (riseL (endL Ed Fi Bg p s)) = E ++ celL Ed Fi Bg p s := rfl
def BrP (w : World) (E : List EdT) (e : Ending) (w' : World) : Prop :=
 if 65536 < E.length then e = .returned (.tuple #[.slice none 0 0, .int .i64 8]) ∧ Below w.heap.size w w'
 else ∃ v, e = .returned (.tuple #[v, .int .i64 0]) ∧ w'.ownsRow w.heap.size 61 3 v E.length (E.flatMap encE) ∧ Below w.heap.size w w'
theorem brP_big {w w' : World} {E : List EdT} {e : Ending} (h : 65536 < E.length) (he : e = .returned (.tuple #[.slice none 0 0, .int .i64 8])) (d : Below w.heap.size w w') : BrP w E e w' := by
 unfold BrP
 rw [if_pos h]
 exact ⟨he, d⟩
theorem brP_ok {w w' : World} {E : List EdT} {e : Ending} {v : Value} (h : E.length ≤ 65536) (he : e = .returned (.tuple #[v, .int .i64 0])) (o : w'.ownsRow w.heap.size 61 3 v E.length (E.flatMap encE)) (d : Below w.heap.size w w') : BrP w E e w' := by
 unfold BrP
 rw [if_neg (by omega)]
 exact ⟨v, he, o, d⟩
theorem bridged_any (w : World) (N m n1 n2 n3 : Nat) (a1 a2 a3 aB : Option Addr) (c1 c2 c3 nB cB : Nat) (Ed : List EdT) (Fi Bg : List Int) (e2 : Fi.length = n2) (e3 : Ed.length = n3) (eB : Bg.length = nB) (zB : aB = none → cB = 0) (hN : N ≤ 4096) (hm : m ≤ 128) (hE : Hid (RdE w a3 Ed)) (hfi : Hid (RdN w a2 Fi)) (hBg : Hid (RdN w aB Bg)) (h2 : n2 ≤ 2000000) (h3 : n3 ≤ 2000000) (hB : nB ≤ 2000000) (hS : Hid (SsE Ed)) (hF : Hid (∀ e ∈ Ed, (0 ≤ e.1 ∧ e.1 < (N : Int)) ∧ (0 ≤ e.2.1 ∧ e.2.1 < (m : Int)) ∧ (0 ≤ e.2.2 ∧ e.2.2 < (N : Int)))) (hG : Hid (∀ x ∈ Fi, ∃ q : Nat, q < N ∧ x = (q : Int))) :
 Calls Tryz.prog 82 #[.agg #[.int .i64 (N : Int), .int .i64 (m : Int), .slice a1 n1 c1, .slice a2 n2 c2, .slice a3 n3 c3], .slice aB nB cB] w fun e w' => BrP w (brL Ed Fi Bg m N) e w' := by
 obtain ⟨R, hR⟩ : ∃ R, N * m = R := ⟨_, rfl⟩
 have hRl : R ≤ 524288 := by rw [← hR]; exact Nat.le_trans (Nat.mul_le_mul hN hm) (by decide)
 obtain ⟨W0, hW0⟩ : ∃ W0, w.alloc (.cells #[.int .i64 (N : Int), .int .i64 (m : Int), .slice a1 n1 c1, .slice a2 n2 c2, .slice a3 n3 c3] 25) = W0 := ⟨_, rfl⟩
 have HD : Hid (W0.heap[w.heap.size]? = some (.cells #[.int .i64 (N : Int), .int .i64 (m : Int), .slice a1 n1 c1, .slice a2 n2 c2, .slice a3 n3 c3] 25 (0, 0)) ∧ Below w.heap.size w W0 ∧ W0.heap.size = w.heap.size + 1) := hide (by rw [← hW0]; exact ⟨World.alloc_heap_new _ _, (Below.refl _ _).alloc (Nat.le_refl _) _, by simp⟩)
 have TR : Hid (∀ W : World, Below W0.heap.size W0 W → Calls Tryz.prog 89 #[.agg #[.int .i64 (N : Int), .int .i64 (m : Int), .slice a1 n1 c1, .slice a2 n2 c2, .slice a3 n3 c3]] W fun e w' => ∃ aE cE g, e = .returned (.agg #[.int .i64 (m : Int), .slice aE n3 cE, .slice (some ⟨g, 0, none⟩) (R + 1) (R + 1)]) ∧ Hid (RwA W.heap.size w' m R Ed aE n3 cE g) ∧ Below W.heap.size W w') := hide (fun W d => by
  have q := newRows_any W N m a1 a2 a3 n1 n2 c1 c2 c3 Ed hN hm (hide (hE.out.on (HD.out.2.1.trans (d.mono HD.out.2.1.size)))) (by omega) (hide (fun e he => ⟨(hF.out e he).1, (hF.out e he).2.1⟩))
  rw [hR, e3] at q
  exact q)
 have TF : Hid (∀ W : World, Below W0.heap.size W0 W → Calls Tryz.prog 93 #[.agg #[.int .i64 (N : Int), .int .i64 (m : Int), .slice a1 n1 c1, .slice a2 n2 c2, .slice a3 n3 c3]] W fun e w' => ∃ gf, e = .returned (.slice (some ⟨gf, 0, none⟩) N N) ∧ Hid (Mrw w' gf 4 N (fun c => .bool (finB Fi c)) N ∧ W.heap.size ≤ gf) ∧ Below W.heap.size W w') := hide (fun W d => by
  have q := finals_any W N (m : Int) a1 a2 a3 c1 c2 c3 n1 n3 Fi (hide (hfi.out.on (HD.out.2.1.trans (d.mono HD.out.2.1.size)))) hG (by omega) (by omega)
  rw [e2] at q
  exact q)
 have HR := hide hR
 have HL := hide (And.intro e2 (And.intro e3 eB))
 clear hR e2 e3 eB
 go_enter Tryz.func82, Tryz.ntmps82
 go_upto_region 1 with fail
 go_cut [6, 7] from 6 to 15 (fun v6 v7 W => ∃ p6 p7 aE cE g gf, v6 = .pointer (some ⟨p6, 0, none⟩) ∧ v7 = .pointer (some ⟨p7, 0, none⟩) ∧ Hid (BrA W0 W N m R n3 Ed Fi p6 p7 aE cE g gf))
 case first =>
  have hmo : MonIL 0 [vI 0 (.agg #[.int .i64 (N : Int), .int .i64 (m : Int), .slice a1 n1 c1, .slice a2 n2 c2, .slice a3 n3 c3]), pI 1 (rwsP m R n3 Ed), vI 2 (.agg #[.int .i64 (N : Int), .int .i64 (m : Int), .slice a1 n1 c1, .slice a2 n2 c2, .slice a3 n3 c3]), pI 3 (finP N Fi), pI 4 (b3P), pI 5 (b1P)] := ⟨vI_mono _ _, pI_mono rwsP_mono, vI_mono _ _, pI_mono finP_mono, pI_mono b3P_mono, pI_mono b1P_mono, trivial⟩
  refine wp_region_sl _ (by kernel_rfl) (by kernel_rfl) (by kernel_rfl) (by kernel_rfl) hmo ⟨?o0, ?o1, ?o2, ?o3, ?o4, ?o5, trivial⟩ ?fin
  case o0 | o2 =>
   intro At yy W hy hb d hd K hK
   obtain ⟨s2, s2'⟩ := zsb (hb 2 rfl : _ = .pointer (some ⟨w.heap.size, 0, none⟩))
   clear hd hy hb
   have bx := blk_on HD.out.1 d
   obtain ⟨y0, y1, y2, y3, y4⟩ := zd5 bx rfl rfl rfl rfl rfl
   clear bx
   go_simp
   exact zkq hK hmo d (if_pos rfl)
  case o1 =>
   intro At yy W hy hb d hd K hK
   obtain ⟨s12, s12'⟩ := zsg 0 12 .data hy hd rfl
   clear hd hy hb
   go_simp
   go_wp2_with (go_at_call 89; refine (TR.out _ d).mono ?_; rintro e wa ⟨aE, cE, g, rfl, hR, da⟩)
   exact hK.out _ wa (stp_of hmo d da) ⟨aE, cE, g, if_pos rfl, hR.out.down⟩
  case o3 =>
   intro At yy W hy hb d hd K hK
   obtain ⟨s14, s14'⟩ := zsg 2 14 .data hy hd rfl
   clear hd hy hb
   go_simp
   go_wp2_with (go_at_call 93; refine (TF.out _ d).mono ?_; rintro e wa ⟨gf, rfl, hR, da⟩)
   exact hK.out _ wa (stp_of hmo d da) ⟨gf, if_pos rfl, hR.out.1⟩
  case o4 | o5 =>
   intro At yy W hy hb d hd K hK
   clear hd hy hb
   go_simp
   exact hK.out _ _ (stp_of hmo d ((Below.refl _ _).alloc (Nat.le_refl _) _)) ⟨if_pos rfl, by simp, World.alloc_heap_new _ _⟩
  case fin =>
   intro yy lo hi W hM
   show wpList _ _ _ [_, _] _ _
   have e0 := hM.v 0 (by simp) rfl rfl rfl
   have e2 := hM.v 2 (by simp) rfl rfl rfl
   obtain ⟨aE, cE, g, e1, z1⟩ := hM.fact 1 (by simp) rfl (notR_all 1 rfl)
   obtain ⟨gf, e3, z3⟩ := hM.fact 3 (by simp) rfl (notR_all 3 rfl)
   obtain ⟨e4, l4, z4⟩ := hM.fact 4 (by simp) rfl (notR_all 4 rfl)
   obtain ⟨e5, l5, z5⟩ := hM.fact 5 (by simp) rfl (notR_all 5 rfl)
   have dd := hM.d
   have a4 := hM.at' 4 (by simp) rfl
   have a5 := hM.at' 5 (by simp) rfl
   simp only [fills, Act.put, List.take, List.length, List.setIfInBounds_toArray, List.set_cons_zero, List.set_cons_succ, e0, e2, e1, e3, e4, e5]
   generalize lo 4 = p6 at z4 a4 l4 ⊢
   generalize lo 5 = p7 at z5 a5 l5 ⊢
   clear hM hmo e0 e2 e1 e3 e4 e5
   have HF := hide (brA_of (m := m) z1 z3 z4 z5 dd a4.1 a5.1)
   clear z1 z3 dd
   have ne : p6 ≠ p7 := fun e => by rw [e, z5] at z4; cases z4
   obtain ⟨o0, o1, o2⟩ := zd3 z4 rfl rfl rfl
   have f0 : W.frozen? ⟨p6, 0, none⟩ = false := fz_of z4
   have f1 : W.frozen? ⟨p6, 1, none⟩ = false := fz_of z4
   have f2 : W.frozen? ⟨p6, 2, none⟩ = false := fz_of z4
   have q0 : W.cell? ⟨p7, 0, none⟩ = some (.slice none 0 0) := cell_of z5 rfl
   have g0 : W.frozen? ⟨p7, 0, none⟩ = false := fz_of z5
   clear z4 z5
   go_wp2_with fail
   go_meet
   exact ⟨p6, p7, aE, cE, g, gf, rfl, rfl, HF⟩
 case rest =>
  obtain ⟨p6, p7, aE, cE, g, gf, rfl, rfl, HA⟩ := hcut
  rename World => wx
  have y0 : wx.cell? ⟨w.heap.size, 0, none⟩ = some (.int .i64 (N : Int)) := cell_of (blk_on HD.out.1 HA.out.be) rfl
  have H0 : Hid (BrI wx (brL Ed Fi Bg m 0) (.slice none 0 0) wx) := hide ⟨World.ownsRow_nil _ _ _ _, Below.refl _ _, Nat.zero_le _⟩
  clear TR TF
  go_wp2_with fail
  clear y0
  go_loopw [8, 18] (fun v8 v18 wr => ∃ p : Nat, p ≤ N ∧ v18 = .int .i64 (p : Int) ∧ Hid (BrI wx (brL Ed Fi Bg m p) v8 wr)) (fun _ v18 _ => N - (intOf v18).toNat)
  case atStart => exact ⟨0, Nat.zero_le _, rfl, H0⟩
  case round =>
   obtain ⟨p, hp, rfl, HY⟩ := hrel
   clear H0
   by_cases hpl : p < N
   · have i0 : (p : Int) < (N : Int) := by omega
     have y1 : wr.cell? ⟨w.heap.size, 1, none⟩ = some (.int .i64 (m : Int)) := cell_of (blk_on HD.out.1 (HA.out.on HY.out.be).be) rfl
     rename World => wo
     have H1 : Hid (BrI wx (brL Ed Fi Bg m p ++ rowL Ed Fi Bg p 0) u8 wo) := hide (by
      have q := HY.out
      rw [show rowL Ed Fi Bg p 0 = [] from rfl, List.append_nil]
      exact q)
     clear HY
     go_wp2_with fail
     clear y1
     go_loopw [8, 23] (fun v8 v23 wr => ∃ s : Nat, s ≤ m ∧ v23 = .int .i64 (s : Int) ∧ Hid (BrI wx (brL Ed Fi Bg m p ++ rowL Ed Fi Bg p s) v8 wr)) (fun _ v23 _ => m - (intOf v23).toNat)
     case atStart => exact ⟨0, Nat.zero_le _, rfl, H1⟩
     case round =>
      obtain ⟨s, hs, rfl, HI⟩ := hrel
      clear H1
      by_cases hsl : s < m
      · have j0 : (s : Int) < (m : Int) := by omega
        obtain ⟨k, hk⟩ : ∃ k, p * m + s = k := ⟨_, rfl⟩
        have hkR : k < R := by
         rw [← hk, ← HR.out]
         have : (p + 1) * m ≤ N * m := Nat.mul_le_mul_right _ hpl
         rw [Nat.add_mul, Nat.one_mul] at this
         omega
        have HAr := hide (HA.out.on HI.out.be)
        obtain ⟨z0, z1, z2⟩ := zd3 HAr.out.b6 rfl rfl rfl
        have TO := of_any wr 0 m R p s n3 k aE cE g Ed HL.out.2.1 (hide HAr.out.rw) hS (hide (fun e he => (hF.out e he).2.1)) hsl hk hkR hRl (by omega)
        have HFr : Hid ((∀ x ∈ toL (fromL Ed p (s : Int)), ∃ q : Nat, q < N ∧ x = (q : Int)) ∧ (fromL Ed p (s : Int)).length ≤ n3) := hide ⟨fun x hx => by
         obtain ⟨e, he, rfl⟩ := List.mem_map.1 hx
         have q := (hF.out e (List.mem_filter.1 he).1).2.2
         obtain ⟨t, ht⟩ := Int.eq_ofNat_of_zero_le q.1
         exact ⟨t, by omega, ht⟩, by rw [← HL.out.2.1]; exact List.length_filter_le _ _⟩
        have HEn : Hid (endL Ed Fi Bg p s = if (toL (fromL Ed p (s : Int))).any (fun x => finB Fi x.toNat) then toL (fromL Ed p (s : Int)) ++ Bg else toL (fromL Ed p (s : Int))) := hide rfl
        have HTL := hide (toL_len (fromL Ed p (s : Int)))
        have HKK := hide (And.intro hk hkR)
        clear hk hkR
        generalize toL (fromL Ed p (s : Int)) = X at TO HFr HEn HTL
        generalize (fromL Ed p (s : Int)).length = nf at TO HFr HTL
        have hnf : nf ≤ 2000000 := by have := HFr.out.2; omega
        obtain ⟨y, hy⟩ : ∃ y, X.any (fun x => finB Fi x.toNat) = y := ⟨_, rfl⟩
        rw [hy] at HEn
        have HYY := hide hy
        clear hy
        go_wp2_with (go_at_call 96; refine TO.mono ?_; rintro e w1 ⟨ao, co, rfl, H1⟩)
        clear TO z0 z1 z2
        have T62 := clone_own w1 ao nf co X HTL.out (hide (H1.out.1.on H1.out.2.2)) (by omega)
        go_wp2_with (go_at_call 62; refine T62.mono ?_; rintro e w2 ⟨v2, rfl, H2⟩; obtain ⟨b2, d2, rfl⟩ := own_slice H2.out.1)
        clear T62
        have HB2 : Hid (Below wr.heap.size wr w2) := hide (H1.out.2.2.trans (H2.out.2.mono H1.out.2.2.size))
        have T52 := cont122 w2 b2 d2 X p7 gf N (finB Fi) (hide (cell_of (blk_on HAr.out.b7 HB2.out) rfl)) (hide (HAr.out.fi.below HB2.out HAr.out.fi.lt)) (hide HFr.out.1) (hide (own_rdN (c := d2) (by rw [HTL.out]; exact H2.out.1))) (by rw [HTL.out]; omega)
        rw [HTL.out, HYY.out] at T52
        have G3 : Hid (∀ w3, Below w2.heap.size w2 w3 → w3.ownsRow wx.heap.size 3 1 (.slice b2 nf d2) nf (X.map (Value.int .i64)) ∧ Below wr.heap.size wr w3 ∧ wx.heap.size ≤ w3.heap.size) := hide (fun w3 d3 => by
         have q1 := HI.out.be.size
         have q2 := H1.out.2.2.size
         have q3 := HB2.out.size
         have q4 := d3.size
         exact ⟨owns_down (own_below H2.out.1 d3) (by omega), HB2.out.trans (d3.mono q3), by omega⟩)
        clear H1 HAr
        obtain ⟨E, hE'⟩ : ∃ E, brL Ed Fi Bg m p ++ rowL Ed Fi Bg p s = E := ⟨_, rfl⟩
        have HEE : Hid (brL Ed Fi Bg m p ++ rowL Ed Fi Bg p (s + 1) = ledL E (p : Int) (s : Int) (riseL (endL Ed Fi Bg p s)) ∧ (brL Ed Fi Bg m p ++ rowL Ed Fi Bg p (s + 1)).length ≤ (brL Ed Fi Bg m N).length) := hide ⟨by rw [celL_led, ← hE', rowL_next, List.append_assoc], brL_part Ed Fi Bg m N hpl hsl⟩
        rw [hE'] at HI
        clear hE'
        have HEL : Hid ((endL Ed Fi Bg p s).length ≤ 4194304) := hide (by have q := endL_len Ed Fi Bg p s; have := HL.out; omega)
        generalize endL Ed Fi Bg p s = Z at HEn HEE HEL
        have GI : Hid (∀ w3, Below wr.heap.size wr w3 → w3.ownsRow wx.heap.size 61 3 u8 E.length (E.flatMap encE) ∧ Below wx.heap.size wx w3) := hide (fun w3 d => ⟨own_below HI.out.ow d, HI.out.be.trans (d.mono HI.out.be.size)⟩)
        have HIl := hide HI.out.le
        clear HI HFr HB2 H2
        obtain ⟨E2, hE2⟩ : ∃ E2, brL Ed Fi Bg m p ++ rowL Ed Fi Bg p (s + 1) = E2 := ⟨_, rfl⟩
        rw [hE2] at HEE
        have HE2 := hide hE2
        clear hE2
        have key : ∀ (v4 : Value) (w4 : World), Hid (w4.ownsRow wx.heap.size 3 1 v4 Z.length (Z.map (Value.int .i64))) → Hid (w4.ownsRow wx.heap.size 61 3 u8 E.length (E.flatMap encE)) → Hid (Below wx.heap.size wx w4) → Calls Tryz.prog 123 #[u8, .int .i64 (p : Int), .int .i64 (s : Int), v4] w4 fun e w' => ∃ b5 d5, e = .returned (.slice b5 E2.length d5) ∧ Hid (w'.ownsRow wx.heap.size 61 3 (.slice b5 E2.length d5) E2.length (E2.flatMap encE) ∧ Below wx.heap.size wx w') := fun v4 w4 o1 o2 o3 => by
         refine (lead_any w4 wx.heap.size u8 v4 E (p : Int) (s : Int) Z.length Z rfl o2 o1 o3.out.size HEL.out (by have := HIl.out; omega)).mono ?_
         rintro e w5 ⟨v5, rfl, H5⟩
         rw [HEE.out.1]
         obtain ⟨b5, d5, rfl⟩ := own_slice H5.out.1
         exact ⟨b5, d5, rfl, hide ⟨H5.out.1, o3.out.trans H5.out.2⟩⟩
        have HK2 := hide key
        clear key
        have HZ := hide HEE.out.2
        clear HEE HEL
        cases y with
        | true =>
         obtain rfl := HTL.out
         go_wp2_with (first
          | (go_at_call 52; refine T52.mono ?_; rintro e w3 ⟨rfl, d3⟩; have H3 := hide (G3.out w3 d3); have HI3 := hide (GI.out w3 H3.out.2.1); clear d3)
          | (at_builtin; refine wpList_appL rfl _ _ rfl wx.heap.size (.slice b2 X.length d2) X rfl H3.out.1 aB nB cB Bg HL.out.2.2 zB rfl (hBg.out.on (HD.out.2.1.trans ((HA.out.be.trans (HI3.out.2.mono HA.out.be.size)).mono HD.out.2.1.size))) (by have := HL.out.2.2; omega) H3.out.2.2 ?_; intro v4 w4 HO4 HG4))
         have T := HK2.out v4 w4 (hide (by rw [HEn.out]; exact HO4.out)) (hide (row_only HI3.out.1 HG4.out (fun k hk hk2 => rows_differ HI3.out.1 H3.out.1 (by decide) hk hk2))) (hide (HI3.out.2.trans (HG4.out.toBelow H3.out.2.2 (fun k hk => (H3.out.1.lt k hk).1))))
         by_cases hbig : 65536 < E2.length
         · have jb : (65536 : Int) < (E2.length : Int) := by omega
           go_wp2_with (go_at_call 123; refine T.mono ?_; rintro e w5 ⟨b5, d5, rfl, H5⟩)
           refine bodyPost_ret (results_tmp2 rfl _ _ _) rfl ?_
           refine brP_big (Nat.lt_of_lt_of_le hbig HZ.out) rfl ?_
           have q := HA.out.be.trans (H5.out.2.mono HA.out.be.size)
           exact HD.out.2.1.trans (q.mono HD.out.2.1.size)
         · have jb : ¬ (65536 : Int) < (E2.length : Int) := by omega
           go_wp2_with (go_at_call 123; refine T.mono ?_; rintro e w5 ⟨b5, d5, rfl, H5⟩)
           refine ⟨⟨s + 1, by omega, by go_num, hide (by rw [HE2.out]; exact ⟨H5.out.1, H5.out.2, by omega⟩)⟩, by simp [intOf]; omega⟩
        | false =>
         go_wp2_with (go_at_call 52; refine T52.mono ?_; rintro e w3 ⟨rfl, d3⟩; have H3 := hide (G3.out w3 d3); have HI3 := hide (GI.out w3 H3.out.2.1); clear d3)
         have T := HK2.out (.slice b2 nf d2) w3 (hide (by rw [HEn.out, if_neg (by decide), HTL.out]; exact H3.out.1)) (hide HI3.out.1) (hide HI3.out.2)
         by_cases hbig : 65536 < E2.length
         · have jb : (65536 : Int) < (E2.length : Int) := by omega
           go_wp2_with (go_at_call 123; refine T.mono ?_; rintro e w5 ⟨b5, d5, rfl, H5⟩)
           refine bodyPost_ret (results_tmp2 rfl _ _ _) rfl ?_
           refine brP_big (Nat.lt_of_lt_of_le hbig HZ.out) rfl ?_
           have q := HA.out.be.trans (H5.out.2.mono HA.out.be.size)
           exact HD.out.2.1.trans (q.mono HD.out.2.1.size)
         · have jb : ¬ (65536 : Int) < (E2.length : Int) := by omega
           go_wp2_with (go_at_call 123; refine T.mono ?_; rintro e w5 ⟨b5, d5, rfl, H5⟩)
           refine ⟨⟨s + 1, by omega, by go_num, hide (by rw [HE2.out]; exact ⟨H5.out.1, H5.out.2, by omega⟩)⟩, by simp [intOf]; omega⟩
      · obtain rfl : m = s := by omega
        have j0 : ¬ (m : Int) < (m : Int) := by omega
        have HN : Hid (BrI wx (brL Ed Fi Bg m (p + 1)) u8 wr) := hide (by rw [brL_next]; exact HI.out)
        clear HI
        go_wp2_with fail
        refine ⟨⟨p + 1, by omega, by go_num, HN⟩, by simp [intOf]; omega⟩
   · obtain rfl : N = p := by omega
     have i0 : ¬ (N : Int) < (N : Int) := by omega
     go_wp2_with fail
     refine bodyPost_ret (results_tmp2 rfl _ _ _) rfl ?_
     have q := HA.out.be.trans (HY.out.be.mono HA.out.be.size)
     have s1 := HD.out.2.2
     have s2 := HA.out.be.size
     exact brP_ok HY.out.le rfl (owns_down HY.out.ow (by omega)) (HD.out.2.1.trans (q.mono HD.out.2.1.size))
def movN (L : List Int) (b : Int) : List Int := L.map (· + b)
theorem movN_len (L : List Int) (b : Int) : (movN L b).length = L.length := by simp [movN]
theorem mrw_row {W : World} {B H n : Nat} {K : List Int} (h : Mrw W H 3 n (fun c => .int .i64 (K.getD c 0)) n) (hK : K.length = n) (hB : B ≤ H) (hn : n ≤ maxLen) : W.ownsRow B 3 1 (.slice (some ⟨H, 0, none⟩) n n) n (K.map (Value.int .i64)) := by
 obtain ⟨cur, h1, h2, h3⟩ := h
 refine ⟨by simp [hK], .inr ⟨H, n, cur, rfl, hB, h1, Nat.le_refl _, hn, by omega, ?_⟩⟩
 rw [Nat.mul_one, List.take_of_length_le (by simp; omega)]
 apply List.ext_getElem?
 intro j
 by_cases hj : j < n
 · rw [Array.getElem?_toList, h3 j hj, List.getElem?_map, List.getElem?_eq_getElem (by omega)]
   simp [List.getD, List.getElem?_eq_getElem (show j < K.length by omega)]
 · rw [List.getElem?_eq_none (by simp; omega), List.getElem?_eq_none (by simp; omega)]
theorem movedS_any (w : World) (ao : Option Addr) (n c : Nat) (L : List Int) (b : Int) (hn : L.length = n) (hA : Hid (RdN w ao L)) (hl : n ≤ 4194304) (hb : 0 ≤ b ∧ b ≤ 4194304) (hin : Hid (∀ x ∈ L, 0 ≤ x ∧ x ≤ 4194304)) :
 Calls Tryz.prog 84 #[.slice ao n c, .int .i64 b] w fun e w' => ∃ g, e = .returned (.slice (some ⟨g, 0, none⟩) n n) ∧ Hid (w'.ownsRow w.heap.size 3 1 (.slice (some ⟨g, 0, none⟩) n n) n ((movN L b).map (Value.int .i64)) ∧ Below w.heap.size w w') := by
 have HN := hide hn
 clear hn
 obtain ⟨i9, hi9, hz90, hz91, hz92⟩ := info_parts info3
 go_enter Tryz.func84, Tryz.ntmps84
 go_upto_region 2 with (at_make; refine wpList_make_full _ rfl _ _ 22 rfl w.heap.size 3 i9 (.int .i64 0) 1 Tryz.underlying22 hi9 hz90 hz91 _ _ _ _ n rfl rfl (by go_num) (by go_num) (by rw [hz92]; omega) (by unfold maxLen; omega) (Nat.le_refl _) ?_; intro w6 ho hg)
 have D6 : Below w.heap.size w w6 := (Below.refl _ _).grown hg (Nat.le_refl _) (by intro k hk; cases hk)
 have M6 : Mrw w6 w.heap.size 3 n (fun c => .int .i64 ((movN L b).getD c 0)) 0 := by
  have q := Mrw.ofRow (fun c => .int .i64 ((movN L b).getD c 0)) ho
  rw [Nat.mul_one] at q
  exact q
 have H6 := hide (And.intro M6 D6)
 clear ho hg D6 M6
 go_wp2_with fail
 go_loopw [13] (fun iv wr => ∃ i : Nat, i ≤ n ∧ iv = .int .i64 (i : Int) ∧ Hid (Mrw wr w.heap.size 3 n (fun c => .int .i64 ((movN L b).getD c 0)) i ∧ Below w.heap.size w wr)) (fun iv _ => n - (intOf iv).toNat)
 case atStart => exact ⟨0, Nat.zero_le _, rfl, H6⟩
 case round =>
  obtain ⟨i, hi, rfl, HY⟩ := hrel
  clear H6
  by_cases hlt : i < n
  · have l0 : (i : Int) < (n : Int) := by omega
    have i0 : (0 : Int) ≤ (i : Int) := by omega
    have hil : i < L.length := by have := HN.out; omega
    obtain ⟨g, o, ea, ca⟩ := (hA.out.on HY.out.2) i hil
    subst ea
    have hx := hin.out _ (List.getElem_mem hil)
    have HV : Hid ((movN L b).getD i 0 = L[i] + b) := hide (by simp [movN, List.getD, List.getElem?_eq_getElem hil])
    generalize L[i] = x at ca hx HV
    have ew : IntKind.i64.wrap (x + b) = x + b := by rw [IntKind.wrap_i64]; omega
    obtain ⟨u, cu⟩ := HY.out.1.cell i hlt
    have zu := HY.out.1.fz i
    have J : Hid (Mrw (wr.setCell ⟨w.heap.size, i, none⟩ (.int .i64 (x + b))) w.heap.size 3 n (fun c => .int .i64 ((movN L b).getD c 0)) (i + 1) ∧ Below w.heap.size w (wr.setCell ⟨w.heap.size, i, none⟩ (.int .i64 (x + b)))) := hide ⟨HY.out.1.put hlt _ (by rw [HV.out]), HY.out.2.setCell (Nat.le_refl _) _⟩
    clear HY
    go_wp2_with fail
    go_roundw
    case rel => exact ⟨i + 1, by omega, by go_num, J⟩
    case measure => simp [intOf]; omega
  · have l0 : ¬ (i : Int) < (n : Int) := by omega
    obtain rfl : i = n := by omega
    have J := hide (And.intro (mrw_row HY.out.1 ((movN_len L b).trans HN.out) (Nat.le_refl _) (by unfold maxLen; omega)) HY.out.2)
    clear HY
    go_wp2_with fail
    go_ret
    exact ⟨_, rfl, J⟩
theorem riseE_one {L : List EdT} (h : L.length < 2) : riseE L = L :=
 ss_eq _ _ (riseE_ss _) (by
  match L, h with
  | [], _ => exact List.Pairwise.nil
  | [x], _ => exact List.pairwise_singleton _ _) fun x => riseE_iff L x
theorem may_not {n m : Int} {St Fi : List Int} {Ed : List EdT} (h : mayA n m St Fi Ed = true → False) : mayA n m St Fi Ed = false := by
 cases q : mayA n m St Fi Ed with
 | false => rfl
 | true => exact (h q).elim
theorem below_any (w : World) (ao : Option Addr) (L : List Int) (c : Nat) (n : Int) (hr : Hid (RdN w ao L)) (hl : L.length ≤ 4194304) :
 Calls Tryz.prog 41 #[.slice ao L.length c, .int .i64 n] w fun e w' => e = .returned (.bool (L.all (inB n))) ∧ w' = w := by
 go_enter Tryz.func41, Tryz.ntmps41
 go_wp2
 go_loopw [5] (fun iv wr => ∃ i : Nat, i ≤ L.length ∧ iv = .int .i64 i ∧ Hid ((L.take i).all (inB n) = true) ∧ wr = w) (fun iv _ => L.length - (intOf iv).toNat)
 case atStart => exact ⟨0, Nat.zero_le _, rfl, hide (by simp), rfl⟩
 case round =>
  obtain ⟨i, hi, rfl, HY, hw⟩ := hrel
  obtain rfl := hw.symm
  clear hw
  by_cases hlt : i < L.length
  · have l0 : (i : Int) < (L.length : Int) := by omega
    have l1 : (0 : Int) ≤ (i : Int) := by omega
    have iw : IntKind.i64.wrap ((i : Int) + 1) = (i : Int) + 1 := by rw [IntKind.wrap_i64]; omega
    obtain ⟨g, o, rfl, q⟩ := hr.out i hlt
    by_cases hb : inB n L[i] = true
    · have HN : Hid ((L.take (i + 1)).all (inB n) = true) := hide (by rw [List.take_succ_eq_append_getElem hlt, List.all_append, HY.out]; simp [hb])
      have h2 := inB_iff.1 hb
      clear hb
      generalize L[i] = x at q h2
      have x0 : ¬ x < 0 := by omega
      have x1 : ¬ x ≥ n := by omega
      clear h2
      go_wp2
      go_roundw
      case rel => exact ⟨i + 1, by omega, by go_num, HN, by simp⟩
      case measure => simp [intOf]; omega
    · have HD : Hid (L.all (inB n) = false) := hide (by
       rw [List.all_eq_false]
       exact ⟨L[i], List.getElem_mem hlt, hb⟩)
      have h2 : ¬ (0 ≤ L[i] ∧ L[i] < n) := fun h => hb (inB_iff.2 h)
      clear hb
      generalize L[i] = x at q h2
      by_cases x0 : x < 0
      · clear h2
        go_wp2
        refine bodyPost_ret (results_tmp rfl _ _ _) rfl ?_
        exact ⟨by rw [HD.out]; rfl, rfl⟩
      · have x1 : x ≥ n := by omega
        clear h2
        go_wp2
        refine bodyPost_ret (results_tmp rfl _ _ _) rfl ?_
        exact ⟨by rw [HD.out]; rfl, rfl⟩
  · have l0 : ¬ (i : Int) < (L.length : Int) := by omega
    have HD : Hid (L.all (inB n) = true) := hide (by have := HY.out; rwa [List.take_of_length_le (by omega)] at this)
    go_wp2
    refine bodyPost_ret (results_tmp rfl _ _ _) rfl ?_
    exact ⟨by rw [HD.out]; rfl, rfl⟩
theorem rvalid_any (w : World) (n m : Int) (a1 a2 a3 : Option Addr) (c1 c2 c3 : Nat) (St Fi : List Int) (Ed : List EdT) (hA : Hid (RdA w a1 a2 a3 St Fi Ed)) (h1 : St.length ≤ 4194304) (h2 : Fi.length ≤ 4194304) (h3 : Ed.length ≤ 4194304) :
 Calls Tryz.prog 10 #[.agg #[.int .i64 n, .int .i64 m, .slice a1 St.length c1, .slice a2 Fi.length c2, .slice a3 Ed.length c3]] w fun e w' => e = .returned (.int .i64 (if mayA n m St Fi Ed then 0 else 2)) ∧ Below w.heap.size w w' := by
 obtain ⟨r, hr⟩ : ∃ r : Int, (if mayA n m St Fi Ed then (0 : Int) else 2) = r := ⟨_, rfl⟩
 rw [hr]
 have HRr := hide hr
 clear hr
 obtain ⟨W0, hW0⟩ : ∃ W0, w.alloc (.cells #[.int .i64 n, .int .i64 m, .slice a1 St.length c1, .slice a2 Fi.length c2, .slice a3 Ed.length c3] 25) = W0 := ⟨_, rfl⟩
 have D0 : Hid (Below w.heap.size w W0) := hide (by rw [← hW0]; exact (Below.refl _ _).alloc (Nat.le_refl _) _)
 have B0 : Hid (W0.heap[w.heap.size]? = some (.cells #[.int .i64 n, .int .i64 m, .slice a1 St.length c1, .slice a2 Fi.length c2, .slice a3 Ed.length c3] 25 (0, 0))) := hide (by rw [← hW0]; exact World.alloc_heap_new _ _)
 obtain ⟨y0, y1, y2, y3, y4⟩ := zd5 B0.out rfl rfl rfl rfl rfl
 have T1 := below_any W0 a1 St c1 n (hide (hA.out.s.on D0.out)) h1
 have T2 := below_any W0 a2 Fi c2 n (hide (hA.out.f.on D0.out)) h2
 go_enter Tryz.func10, Tryz.ntmps10
 by_cases x0 : n < 0
 · have HM : Hid (mayA n m St Fi Ed = false) := hide (may_not fun h => by
    have := may_parts h
    omega)
   go_wp2_with fail
   refine bodyPost_ret (results_tmp rfl _ _ _) rfl ?_
   exact ⟨by rw [← HRr.out, HM.out]; rfl, D0.out⟩
 · by_cases x1 : n > 4096
   · have HM : Hid (mayA n m St Fi Ed = false) := hide (may_not fun h => by
      have := may_parts h
      omega)
     go_wp2_with fail
     refine bodyPost_ret (results_tmp rfl _ _ _) rfl ?_
     exact ⟨by rw [← HRr.out, HM.out]; rfl, D0.out⟩
   · by_cases x2 : m < 0
     · have HM : Hid (mayA n m St Fi Ed = false) := hide (may_not fun h => by
        have := may_parts h
        omega)
       go_wp2_with fail
       refine bodyPost_ret (results_tmp rfl _ _ _) rfl ?_
       exact ⟨by rw [← HRr.out, HM.out]; rfl, D0.out⟩
     · by_cases x3 : m > 128
       · have HM : Hid (mayA n m St Fi Ed = false) := hide (may_not fun h => by
          have := may_parts h
          omega)
         go_wp2_with fail
         refine bodyPost_ret (results_tmp rfl _ _ _) rfl ?_
         exact ⟨by rw [← HRr.out, HM.out]; rfl, D0.out⟩
       · by_cases x4 : (Ed.length : Int) > 65536
         · have HM : Hid (mayA n m St Fi Ed = false) := hide (may_not fun h => by
            have := may_parts h
            omega)
           go_wp2_with fail
           refine bodyPost_ret (results_tmp rfl _ _ _) rfl ?_
           exact ⟨by rw [← HRr.out, HM.out]; rfl, D0.out⟩
         · cases hs : St.all (inB n) with
           | false =>
            rw [hs] at T1
            have HM : Hid (mayA n m St Fi Ed = false) := hide (may_not fun h => by
             have := (may_parts h).2.2.2.1
             rw [hs] at this
             cases this)
            clear hs T2
            go_wp2_with (go_at_call 41; refine T1.mono ?_; rintro e wa ⟨rfl, hw⟩; obtain rfl := hw.symm; clear hw)
            refine bodyPost_ret (results_tmp rfl _ _ _) rfl ?_
            exact ⟨by rw [← HRr.out, HM.out]; rfl, D0.out⟩
           | true =>
            rw [hs] at T1
            cases hf : Fi.all (inB n) with
            | false =>
             rw [hf] at T2
             have HM : Hid (mayA n m St Fi Ed = false) := hide (may_not fun h => by
              have := (may_parts h).2.2.2.2.1
              rw [hf] at this
              cases this)
             clear hf hs
             go_wp2_with (first
              | (go_at_call 41; refine T1.mono ?_; rintro e wa ⟨rfl, hw⟩; obtain rfl := hw.symm; clear hw T1)
              | (go_at_call 41; refine T2.mono ?_; rintro e wa ⟨rfl, hw⟩; obtain rfl := hw.symm; clear hw))
             refine bodyPost_ret (results_tmp rfl _ _ _) rfl ?_
             exact ⟨by rw [← HRr.out, HM.out]; rfl, D0.out⟩
            | true =>
             rw [hf] at T2
             have HSF := hide (And.intro hs hf)
             clear hf hs
             have HNM : Hid ((0 ≤ n ∧ n ≤ 4096) ∧ (0 ≤ m ∧ m ≤ 128) ∧ Ed.length ≤ 65536) := hide (by omega)
             go_wp2_with (first
              | (go_at_call 41; refine T1.mono ?_; rintro e wa ⟨rfl, hw⟩; obtain rfl := hw.symm; clear hw T1)
              | (go_at_call 41; refine T2.mono ?_; rintro e wa ⟨rfl, hw⟩; obtain rfl := hw.symm; clear hw T2))
             go_loopw [3] (fun iv wr => ∃ i : Nat, i ≤ Ed.length ∧ iv = .int .i64 i ∧ Hid ((∀ e ∈ Ed.take i, edOk n m e = true) ∧ Below W0.heap.size W0 wr)) (fun iv _ => Ed.length - (intOf iv).toNat)
             case atStart => exact ⟨0, Nat.zero_le _, rfl, hide ⟨by simp, Below.refl _ _⟩⟩
             case round =>
              obtain ⟨i, hi, rfl, HY⟩ := hrel
              clear y0 y1 y2 y3 y4
              have KE := hide (D0.out.trans (HY.out.2.mono D0.out.size))
              by_cases hlt : i < Ed.length
              · have l0 : (i : Int) < (Ed.length : Int) := by omega
                have l1 : (0 : Int) ≤ (i : Int) := by omega
                have iw : IntKind.i64.wrap ((i : Int) + 1) = (i : Int) + 1 := by rw [IntKind.wrap_i64]; omega
                obtain ⟨g, o, haa, q1, q2, q3⟩ := (hA.out.e.on KE.out) i hlt
                subst haa
                have HIN := hide (List.getElem_mem hlt)
                have HTK := hide (List.take_succ_eq_append_getElem hlt)
                generalize Ed[i] = x at q1 q2 q3 HIN HTK
                obtain ⟨X1, hX1⟩ : ∃ X1, wr.alloc (.cells #[.int .i64 x.1, .int .i64 x.2.1, .int .i64 x.2.2] 61) = X1 := ⟨_, rfl⟩
                have HX : Hid (X1.heap[wr.heap.size]? = some (.cells #[.int .i64 x.1, .int .i64 x.2.1, .int .i64 x.2.2] 61 (0, 0)) ∧ Below wr.heap.size wr X1) := hide (by rw [← hX1]; exact ⟨World.alloc_heap_new _ _, (Below.refl _ _).alloc (Nat.le_refl _) _⟩)
                have HD := hide (HY.out.2.trans (HX.out.2.mono HY.out.2.size))
                have KX := hide (D0.out.trans (HD.out.mono D0.out.size))
                obtain ⟨z0, z1, z2⟩ := zd3 HX.out.1 rfl rfl rfl
                have B1 := blk_on B0.out HY.out.2
                have B2 := blk_on B0.out HD.out
                have y4 : wr.cell? ⟨w.heap.size, 4, none⟩ = some (.slice (some ⟨g, o, none⟩) Ed.length c3) := cell_of B1 rfl
                obtain ⟨y0, y1⟩ := zd2 B2 rfl rfl
                clear B1 B2
                have NO : Hid (edOk n m x = false → mayA n m St Fi Ed = false) := hide (fun hx => may_not fun h => by
                 have := (may_parts h).2.2.2.2.2 x HIN.out
                 rw [show edOk n m x = true by unfold edOk; simp only [Bool.and_eq_true, inB_iff]; omega] at hx
                 cases hx)
                cases hx : edOk n m x with
                | true =>
                 have hxx := hx
                 unfold edOk at hxx
                 simp only [Bool.and_eq_true, inB_iff] at hxx
                 have p0 : ¬ x.1 < 0 := by omega
                 have p1 : ¬ x.1 ≥ n := by omega
                 have p2 : ¬ x.2.2 < 0 := by omega
                 have p3 : ¬ x.2.2 ≥ n := by omega
                 have p4 : ¬ x.2.1 < 0 := by omega
                 have p5 : ¬ x.2.1 ≥ m := by omega
                 have HX2 : Hid (∀ e ∈ Ed.take (i + 1), edOk n m e = true) := hide (fun e he => by
                  rw [HTK.out, List.mem_append] at he
                  rcases he with he | he
                  · exact HY.out.1 e he
                  · rw [List.mem_singleton] at he
                    rw [he]
                    exact hx)
                 clear hxx hx NO
                 go_wp2_with fail
                 go_roundw
                 case rel => exact ⟨i + 1, by omega, by go_num, hide ⟨HX2.out, HD.out⟩⟩
                 case measure => simp [intOf]; omega
                | false =>
                 have HM := hide (NO.out hx)
                 have hxx : ¬ (((0 ≤ x.1 ∧ x.1 < n) ∧ 0 ≤ x.2.1 ∧ x.2.1 < m) ∧ 0 ≤ x.2.2 ∧ x.2.2 < n) := fun h => by
                  rw [show edOk n m x = true by unfold edOk; simp only [Bool.and_eq_true, inB_iff]; exact h] at hx
                  cases hx
                 clear hx NO
                 by_cases p0 : x.1 < 0
                 · clear hxx
                   go_wp2_with fail
                   refine bodyPost_ret (results_tmp rfl _ _ _) rfl ?_
                   exact ⟨by rw [← HRr.out, HM.out]; rfl, KX.out⟩
                 · by_cases p1 : x.1 ≥ n
                   · clear hxx
                     go_wp2_with fail
                     refine bodyPost_ret (results_tmp rfl _ _ _) rfl ?_
                     exact ⟨by rw [← HRr.out, HM.out]; rfl, KX.out⟩
                   · by_cases p2 : x.2.2 < 0
                     · clear hxx
                       go_wp2_with fail
                       refine bodyPost_ret (results_tmp rfl _ _ _) rfl ?_
                       exact ⟨by rw [← HRr.out, HM.out]; rfl, KX.out⟩
                     · by_cases p3 : x.2.2 ≥ n
                       · clear hxx
                         go_wp2_with fail
                         refine bodyPost_ret (results_tmp rfl _ _ _) rfl ?_
                         exact ⟨by rw [← HRr.out, HM.out]; rfl, KX.out⟩
                       · by_cases p4 : x.2.1 < 0
                         · clear hxx
                           go_wp2_with fail
                           refine bodyPost_ret (results_tmp rfl _ _ _) rfl ?_
                           exact ⟨by rw [← HRr.out, HM.out]; rfl, KX.out⟩
                         · have p5 : x.2.1 ≥ m := by omega
                           clear hxx
                           go_wp2_with fail
                           refine bodyPost_ret (results_tmp rfl _ _ _) rfl ?_
                           exact ⟨by rw [← HRr.out, HM.out]; rfl, KX.out⟩
              · have l0 : ¬ (i : Int) < (Ed.length : Int) := by omega
                have y4 : wr.cell? ⟨w.heap.size, 4, none⟩ = some (.slice a3 Ed.length c3) := cell_of (blk_on B0.out HY.out.2) rfl
                have HM : Hid (mayA n m St Fi Ed = true) := hide (by
                 have h5 := HY.out.1
                 rw [List.take_of_length_le (by omega)] at h5
                 have h6 := HNM.out
                 unfold mayA
                 simp only [Bool.and_eq_true, decide_eq_true_eq, inB_iff]
                 exact ⟨⟨⟨⟨⟨by omega, by omega⟩, by omega⟩, HSF.out.1⟩, HSF.out.2⟩, List.all_eq_true.2 h5⟩)
                go_wp2_with fail
                refine bodyPost_ret (results_tmp rfl _ _ _) rfl ?_
                exact ⟨by rw [← HRr.out, HM.out]; rfl, KE.out⟩
def ownNI (X : List Int) : MkP := fun x lo hi W => W.ownsRow lo 3 1 x X.length (X.map (Value.int .i64)) ∧ ∀ g, x.ownBlock = some g → g < hi
theorem ownNI_mono {X : List Int} : MonoP (ownNI X) := fun _ _ _ _ _ _ d h => ⟨own_below h.1 d, h.2⟩
theorem ownNI_of {X : List Int} {B : Nat} {W : World} {x v : Value} (e : x = v) (h : W.ownsRow B 3 1 v X.length (X.map (Value.int .i64))) : ownNI X x B W.heap.size W := by
 subst e
 exact ⟨h, fun g hg => (h.lt g hg).2⟩
structure OwnO (B : Nat) (w : World) (v1 v2 v3 : Value) (S F : List Int) (E : List EdT) : Prop where
 s : w.ownsRow B 3 1 v1 S.length (S.map (Value.int .i64))
 f : w.ownsRow B 3 1 v2 F.length (F.map (Value.int .i64))
 e : w.ownsRow B 61 3 v3 E.length (E.flatMap encE)
 ne : ∀ g, v1.ownBlock = some g → v2.ownBlock ≠ some g
theorem ownO_of {B l1 l2 l3 h1 h2 : Nat} {w : World} {v1 v2 v3 : Value} {S F : List Int} {E : List EdT} (s : w.ownsRow l1 3 1 v1 S.length (S.map (Value.int .i64))) (f : w.ownsRow l2 3 1 v2 F.length (F.map (Value.int .i64))) (e : w.ownsRow l3 61 3 v3 E.length (E.flatMap encE)) (g1 : ∀ g, v1.ownBlock = some g → g < h1) (g2 : ∀ g, v2.ownBlock = some g → g < h2) (hB1 : B ≤ l1) (hB2 : B ≤ l2) (hB3 : B ≤ l3) (ap : h1 ≤ l2 ∨ h2 ≤ l1) : OwnO B w v1 v2 v3 S F E :=
 ⟨owns_down s hB1, owns_down f hB2, owns_down e hB3, fun g hg hh => by
  have a1 := s.lt g hg
  have a2 := f.lt g hh
  have b1 := g1 g hg
  have b2 := g2 g hh
  omega⟩
theorem OwnO.on {B : Nat} {w w' : World} {v1 v2 v3 : Value} {S F : List Int} {E : List EdT} (h : OwnO B w v1 v2 v3 S F E) (d : Below w.heap.size w w') : OwnO B w' v1 v2 v3 S F E := ⟨own_below h.s d, own_below h.f d, own_below h.e d, h.ne⟩
theorem OwnO.down {B C : Nat} {w : World} {v1 v2 v3 : Value} {S F : List Int} {E : List EdT} (h : OwnO C w v1 v2 v3 S F E) (hB : B ≤ C) : OwnO B w v1 v2 v3 S F E := ⟨owns_down h.s hB, owns_down h.f hB, owns_down h.e hB, h.ne⟩
theorem OwnO.keep {B p : Nat} {w w' : World} {v1 v2 v3 : Value} {S F : List Int} {E : List EdT} {cs : Array Value} (h : OwnO B w v1 v2 v3 S F E) (z : w.heap[p]? = some (.cells cs 25 (0, 0))) (o : Only w w' (fun k => k = p)) : OwnO B w' v1 v2 v3 S F E := ⟨own_keep h.s z (by decide) o, own_keep h.f z (by decide) o, own_keep h.e z (by decide) o, h.ne⟩
theorem OwnO.rd {B : Nat} {w : World} {b1 b2 b3 : Option Addr} {k1 k2 k3 : Nat} {S F : List Int} {E : List EdT} (h : OwnO B w (.slice b1 S.length k1) (.slice b2 F.length k2) (.slice b3 E.length k3) S F E) : RdA w b1 b2 b3 S F E := ⟨own_rdN h.s, own_rdN h.f, own_rdE h.e⟩
end Go.Proofs.YtchoopnjckcohaaGreatDoor
