import Derived.Test.YtchoopnjckcohaaGreatDoorQak
set_option maxRecDepth 100000
set_option maxHeartbeats 40000000
namespace Go.Proofs.YtchoopnjckcohaaGreatDoor
open Go.RowKit Go.Maps Go.Shelf
attribute [local go_sem] Oper.semAt_some
def mixG {α : Type} (f : α → α) (L : List α) (i : Nat) : List α := (L.take i).map f ++ L.drop i
theorem mixG_len {α : Type} (f : α → α) (L : List α) (i : Nat) : (mixG f L i).length = L.length := by simp [mixG]; omega
theorem mixG_zero {α : Type} (f : α → α) (L : List α) : mixG f L 0 = L := by simp [mixG]
theorem mixG_full {α : Type} (f : α → α) (L : List α) : mixG f L L.length = L.map f := by simp [mixG]
theorem mixG_get {α : Type} (f : α → α) (L : List α) (i : Nat) (h : i < L.length) : (mixG f L i)[i]? = some L[i] := by
 unfold mixG
 rw [List.getElem?_append_right (by simp; omega)]
 simp [List.length_take, Nat.min_eq_left (Nat.le_of_lt h)]
theorem mixG_set {α : Type} (f : α → α) (L : List α) (i : Nat) (h : i < L.length) : (mixG f L i).set i (f L[i]) = mixG f L (i + 1) := by
 unfold mixG
 have hl : ((L.take i).map f).length = i := by simp; omega
 rw [List.drop_eq_getElem_cons h, List.set_append_right _ _ (by omega), hl, Nat.sub_self, List.set_cons_zero, ← List.take_append_getElem h, List.map_append, List.append_assoc]
 rfl
theorem row1_set {W : World} {B b n cap : Nat} {e : TypeId} {xs : List Value} (h : W.ownsRow B e 1 (.slice (some ⟨b, 0, none⟩) n cap) n xs) (j : Nat) (u : Value) :
 (W.setCell ⟨b, j, none⟩ u).ownsRow B e 1 (.slice (some ⟨b, 0, none⟩) n cap) n (xs.set j u) := by
 refine ⟨by rw [List.length_set]; exact h.1, ?_⟩
 rcases h.2 with ⟨z, _⟩ | ⟨g, cap', cur, e1, hb, hg, hn, hc, hs, ht⟩
 · cases z
 · cases e1
   refine .inr ⟨b, cap, _, rfl, hb, heap_setCell_same _ _ _ _ e _ hg, hn, hc, by simpa using hs, ?_⟩
   rw [← ht, Array.toList_setIfInBounds, List.take_set]
theorem flatE_len (X : List EdT) : (X.flatMap encE).length = X.length * 3 := by
 induction X with
 | nil => rfl
 | cons x X ih => rw [List.flatMap_cons, List.length_append, ih, encE_len, List.length_cons]; omega
theorem flatE_at (X : List EdT) (t : Nat) (h : t / 3 < X.length) : (X.flatMap encE)[t]? = (encE X[t / 3])[t % 3]? := by
 have := flat_get encE 3 encE_len X (t / 3) (t % 3) h (by omega)
 rwa [show t / 3 * 3 + t % 3 = t by omega] at this
theorem flatE_none (X : List EdT) (t : Nat) (h : ¬ t / 3 < X.length) : (X.flatMap encE)[t]? = none := List.getElem?_eq_none (by rw [flatE_len]; omega)
theorem rowE_set {W : World} {B b cap : Nat} {X : List EdT} (h : W.ownsRow B 61 3 (.slice (some ⟨b, 0, none⟩) X.length cap) X.length (X.flatMap encE)) (j : Nat) (x : EdT) (hj : j < X.length) :
 (((W.setCell ⟨b, j * 3, none⟩ (.int .i64 x.1)).setCell ⟨b, j * 3 + 1, none⟩ (.int .i64 x.2.1)).setCell ⟨b, j * 3 + 2, none⟩ (.int .i64 x.2.2)).ownsRow B 61 3 (.slice (some ⟨b, 0, none⟩) (X.set j x).length cap) (X.set j x).length ((X.set j x).flatMap encE) := by
 refine ⟨by rw [flatE_len], ?_⟩
 rcases h.2 with ⟨z, _⟩ | ⟨g, cap', cur, e, hb, hg, hn, hc, hs, ht⟩
 · cases z
 · cases e
   refine .inr ⟨b, cap, _, rfl, hb, heap_setCell_same _ _ _ _ 61 _ (heap_setCell_same _ _ _ _ 61 _ (heap_setCell_same _ _ _ _ 61 _ hg)), by rw [List.length_set]; exact hn, hc, by simpa using hs, ?_⟩
   rw [List.length_set]
   apply List.ext_getElem?
   intro t
   have hcz : X.length * 3 ≤ cur.size := by rw [hs]; exact Nat.mul_le_mul_right 3 hn
   by_cases hq : t / 3 < X.length
   · have htl : t < X.length * 3 := by omega
     rw [List.getElem?_take_of_lt htl, flatE_at _ t (by rw [List.length_set]; exact hq), List.getElem_set, Array.getElem?_toList]
     simp only [Array.getElem?_setIfInBounds, Array.size_setIfInBounds]
     by_cases hjq : j = t / 3
     · rw [if_pos hjq]
       have : t = j * 3 ∨ t = j * 3 + 1 ∨ t = j * 3 + 2 := by omega
       rcases this with rfl | rfl | rfl
       · rw [if_neg (by omega), if_neg (by omega), if_pos rfl, if_pos (by omega), show j * 3 % 3 = 0 by omega]; rfl
       · rw [if_neg (by omega), if_pos rfl, if_pos (by omega), show (j * 3 + 1) % 3 = 1 by omega]; rfl
       · rw [if_pos rfl, if_pos (by omega), show (j * 3 + 2) % 3 = 2 by omega]; rfl
     · rw [if_neg hjq, if_neg (by omega), if_neg (by omega), if_neg (by omega), ← flatE_at X t hq, ← ht, List.getElem?_take_of_lt htl, Array.getElem?_toList]
   · rw [flatE_none _ t (by rw [List.length_set]; exact hq), List.getElem?_take_eq_none (by omega)]
theorem own_fz {W : World} {B g c n : Nat} {e : TypeId} {sz : Nat} {xs : List Value} (h : W.ownsRow B e sz (.slice (some ⟨g, 0, none⟩) n c) n xs) (j : Nat) : W.frozen? ⟨g, j, none⟩ = false := by
 rcases h.2 with ⟨z, _⟩ | ⟨g', cap', cur, e1, hb, hg, hn, hc, hs, ht⟩
 · cases z
 · cases e1
   exact fz_of hg
theorem own_get {W : World} {B g c n : Nat} {e : TypeId} {sz : Nat} {xs : List Value} (h : W.ownsRow B e sz (.slice (some ⟨g, 0, none⟩) n c) n xs) {j : Nat} {u : Value} (hu : xs[j]? = some u) : W.cell? ⟨g, j, none⟩ = some u := by
 have := h.cells (g := g) rfl j u hu
 rw [Addr.add_lit] at this
 simpa using this
theorem box3z (w : World) (A Z : Array Value) (O : Array Value) (t : TypeId) : Below w.heap.size w (((w.alloc (.cells A t)).alloc (.cells Z t)).alloc (.cells O t)) ∧ (((w.alloc (.cells A t)).alloc (.cells Z t)).alloc (.cells O t)).heap[w.heap.size]? = some (.cells A t (0, 0)) ∧ (((w.alloc (.cells A t)).alloc (.cells Z t)).alloc (.cells O t)).heap[w.heap.size + 1]? = some (.cells Z t (0, 0)) ∧ (((w.alloc (.cells A t)).alloc (.cells Z t)).alloc (.cells O t)).heap[w.heap.size + 1 + 1]? = some (.cells O t (0, 0)) ∧ (((w.alloc (.cells A t)).alloc (.cells Z t)).alloc (.cells O t)).heap.size = w.heap.size + 3 := by
 refine ⟨(((Below.refl _ _).alloc (Nat.le_refl _) _).alloc (by simp) _).alloc (by simp <;> omega) _, ?_, ?_, ?_, by simp⟩
 · exact (Below.heap_alloc _ _ _ (by simp <;> omega)).trans ((Below.heap_alloc _ _ _ (by simp)).trans (World.alloc_heap_new _ _))
 · have := World.alloc_heap_new (w.alloc (.cells A t)) (.cells Z t)
   rw [World.size_alloc] at this
   exact (Below.heap_alloc _ _ _ (by simp)).trans this
 · have := World.alloc_heap_new ((w.alloc (.cells A t)).alloc (.cells Z t)) (.cells O t)
   rw [World.size_alloc, World.size_alloc] at this
   exact this
theorem Only.cellK {w w' : World} {R : Nat → Prop} (h : Only w w' R) {b : Nat} {o : Obj} (hb : w.heap[b]? = some o) (hn : ¬ R b) : w'.heap[b]? = some o := (h.block b (Array.getElem?_eq_some_iff.1 hb).1 hn).trans hb
structure BeI (W0 : World) (B : Nat) (na : Int) (h1 c1 h2 c2 h3 c3 : Nat) (S F : List Int) (E : List EdT) (i j l : Nat) (W : World) : Prop where
 o : Only W0 W (fun k => k = h1 ∨ k = h2 ∨ k = h3)
 s : W.ownsRow B 3 1 (.slice (some ⟨h1, 0, none⟩) S.length c1) S.length ((mixG (· + na) S i).map (Value.int .i64))
 f : W.ownsRow B 3 1 (.slice (some ⟨h2, 0, none⟩) F.length c2) F.length ((mixG (· + na) F j).map (Value.int .i64))
 e : W.ownsRow B 61 3 (.slice (some ⟨h3, 0, none⟩) E.length c3) E.length ((mixG (shE na) E l).flatMap encE)
 n12 : h1 ≠ h2
 n13 : h1 ≠ h3
 n23 : h2 ≠ h3
section
variable {W0 W : World} {B : Nat} {na : Int} {h1 c1 h2 c2 h3 c3 : Nat} {S F : List Int} {E : List EdT} {i j l : Nat}
theorem BeI.getS (h : BeI W0 B na h1 c1 h2 c2 h3 c3 S F E i j l W) (hi : i < S.length) : W.cell? ⟨h1, i, none⟩ = some (.int .i64 S[i]) := own_get h.s (by rw [List.getElem?_map, mixG_get _ _ _ hi]; rfl)
theorem BeI.getF (h : BeI W0 B na h1 c1 h2 c2 h3 c3 S F E i j l W) (hi : j < F.length) : W.cell? ⟨h2, j, none⟩ = some (.int .i64 F[j]) := own_get h.f (by rw [List.getElem?_map, mixG_get _ _ _ hi]; rfl)
theorem BeI.getE (h : BeI W0 B na h1 c1 h2 c2 h3 c3 S F E i j l W) (hi : l < E.length) : W.cell? ⟨h3, l * 3, none⟩ = some (.int .i64 E[l].1) ∧ W.cell? ⟨h3, l * 3 + 1, none⟩ = some (.int .i64 E[l].2.1) ∧ W.cell? ⟨h3, l * 3 + 2, none⟩ = some (.int .i64 E[l].2.2) := by
 have hr := h.e
 have hl := mixG_len (shE na) E l
 rw [← hl] at hr
 have q := rdE_cells hr l (by rw [hl]; exact hi)
 have e : (mixG (shE na) E l)[l]'(by rw [hl]; exact hi) = E[l] := by
  have := mixG_get (shE na) E l hi
  rw [List.getElem?_eq_getElem (by rw [hl]; exact hi)] at this
  exact Option.some.inj this
 rw [e] at q
 exact q
theorem BeI.putS (h : BeI W0 B na h1 c1 h2 c2 h3 c3 S F E i j l W) (hi : i < S.length) : BeI W0 B na h1 c1 h2 c2 h3 c3 S F E (i + 1) j l (W.setCell ⟨h1, i, none⟩ (.int .i64 (S[i] + na))) := by
 refine ⟨h.o.trans ((only_set W h1 i _).mono fun k _ hk => Or.inl hk), ?_, own_only h.f (only_set W h1 i _) h.n12.symm, own_only h.e (only_set W h1 i _) h.n13.symm, h.n12, h.n13, h.n23⟩
 have q := row1_set h.s i (.int .i64 (S[i] + na))
 rwa [← List.map_set, mixG_set (· + na) S i hi] at q
theorem BeI.putF (h : BeI W0 B na h1 c1 h2 c2 h3 c3 S F E i j l W) (hi : j < F.length) : BeI W0 B na h1 c1 h2 c2 h3 c3 S F E i (j + 1) l (W.setCell ⟨h2, j, none⟩ (.int .i64 (F[j] + na))) := by
 refine ⟨h.o.trans ((only_set W h2 j _).mono fun k _ hk => Or.inr (Or.inl hk)), own_only h.s (only_set W h2 j _) h.n12, ?_, own_only h.e (only_set W h2 j _) h.n23.symm, h.n12, h.n13, h.n23⟩
 have q := row1_set h.f j (.int .i64 (F[j] + na))
 rwa [← List.map_set, mixG_set (· + na) F j hi] at q
theorem BeI.putE (h : BeI W0 B na h1 c1 h2 c2 h3 c3 S F E i j l W) (hi : l < E.length) : BeI W0 B na h1 c1 h2 c2 h3 c3 S F E i j (l + 1) (((W.setCell ⟨h3, l * 3, none⟩ (.int .i64 (E[l].1 + na))).setCell ⟨h3, l * 3 + 1, none⟩ (.int .i64 E[l].2.1)).setCell ⟨h3, l * 3 + 2, none⟩ (.int .i64 (E[l].2.2 + na))) := by
 have o3 := only3 W h3 (l * 3) (l * 3 + 1) (l * 3 + 2) (.int .i64 (E[l].1 + na)) (.int .i64 E[l].2.1) (.int .i64 (E[l].2.2 + na))
 refine ⟨h.o.trans (o3.mono fun k _ hk => Or.inr (Or.inr hk)), own_only h.s o3 h.n13, own_only h.f o3 h.n23, ?_, h.n12, h.n13, h.n23⟩
 have hr := h.e
 have hl := mixG_len (shE na) E l
 rw [← hl] at hr
 have q := rowE_set hr l (shE na E[l]) (by rw [hl]; exact hi)
 rw [mixG_set (shE na) E l hi, mixG_len] at q
 exact q
theorem BeI.alloc (h : BeI W0 B na h1 c1 h2 c2 h3 c3 S F E i j l W) (o : Obj) : BeI W0 B na h1 c1 h2 c2 h3 c3 S F E i j l (W.alloc o) :=
 ⟨h.o.trans (Only.ofBelow ((Below.refl _ _).alloc (Nat.le_refl _) _)), h.s.alloc o, h.f.alloc o, h.e.alloc o, h.n12, h.n13, h.n23⟩
end
theorem grown_row {W W' : World} {B g c n q : Nat} {e : TypeId} {sz : Nat} {xs : List Value} (h : W.ownsRow B e sz (.slice (some ⟨g, 0, none⟩) n c) n xs) (hg : W.grownBy W' (some q)) (hne : g ≠ q) : W'.ownsRow B e sz (.slice (some ⟨g, 0, none⟩) n c) n xs :=
 h.kept hg (Or.inr (by simp [Value.ownBlock]; exact hne))
theorem grown_blk {W W' : World} {b q : Nat} {o : Obj} (h : W.heap[b]? = some o) (hg : W.grownBy W' (some q)) (hne : b ≠ q) : W'.heap[b]? = some o :=
 (hg.block b (Array.getElem?_eq_some_iff.1 h).1 (by simp; exact hne)).trans h
theorem own_form {W : World} {B : Nat} {e : TypeId} {sz n : Nat} {v : Value} {xs : List Value} (h : W.ownsRow B e sz v n xs) (hv : v ≠ .slice none 0 0) : ∃ g c, v = .slice (some ⟨g, 0, none⟩) n c := by
 rcases h.2 with ⟨z, _⟩ | ⟨g, cap', cur, e1, _⟩
 · exact absurd z hv
 · exact ⟨g, cap', e1⟩
structure BeF (w : World) (B : Nat) (W : World) (v0 v1 v2 v3 v4 : Value) (bb : Array Value) : Prop where
 a : W.heap[w.heap.size]? = some (.cells #[v0, v1, v2, v3, v4] 25 (0, 0))
 b : W.heap[w.heap.size + 1]? = some (.cells bb 25 (0, 0))
 z : W.heap[w.heap.size + 1 + 1]? = some (.cells #[.int .i64 0, .int .i64 0, .slice none 0 0, .slice none 0 0, .slice none 0 0] 25 (0, 0))
 d : Below B w W
 le : w.heap.size + 3 ≤ W.heap.size
section
variable {w W W' : World} {B : Nat} {v0 v1 v2 v3 v4 : Value} {bb : Array Value}
theorem BeF.only (h : BeF w B W v0 v1 v2 v3 v4 bb) (i : Nat) (u : Value) (hB : B ≤ w.heap.size) : (W.setCell ⟨w.heap.size, i, none⟩ u).heap[w.heap.size + 1]? = some (.cells bb 25 (0, 0)) ∧ (W.setCell ⟨w.heap.size, i, none⟩ u).heap[w.heap.size + 1 + 1]? = some (.cells #[.int .i64 0, .int .i64 0, .slice none 0 0, .slice none 0 0, .slice none 0 0] 25 (0, 0)) ∧ Below B w (W.setCell ⟨w.heap.size, i, none⟩ u) ∧ w.heap.size + 3 ≤ (W.setCell ⟨w.heap.size, i, none⟩ u).heap.size := by
 have o := only_set W w.heap.size i u
 exact ⟨o.cellK h.b (by omega), o.cellK h.z (by omega), h.d.trans (o.toBelow (Nat.le_trans hB h.d.size) (fun k hk => by omega)), Nat.le_trans h.le o.size⟩
theorem BeF.set0 (h : BeF w B W v0 v1 v2 v3 v4 bb) (u : Value) (hB : B ≤ w.heap.size) : BeF w B (W.setCell ⟨w.heap.size, 0, none⟩ u) u v1 v2 v3 v4 bb := by
 have q := h.only 0 u hB
 exact ⟨heap_setCell_same _ _ 0 _ 25 _ h.a, q.1, q.2.1, q.2.2.1, q.2.2.2⟩
theorem BeF.set2 (h : BeF w B W v0 v1 v2 v3 v4 bb) (u : Value) (hB : B ≤ w.heap.size) : BeF w B (W.setCell ⟨w.heap.size, 2, none⟩ u) v0 v1 u v3 v4 bb := by
 have q := h.only 2 u hB
 exact ⟨heap_setCell_same _ _ 2 _ 25 _ h.a, q.1, q.2.1, q.2.2.1, q.2.2.2⟩
theorem BeF.set3 (h : BeF w B W v0 v1 v2 v3 v4 bb) (u : Value) (hB : B ≤ w.heap.size) : BeF w B (W.setCell ⟨w.heap.size, 3, none⟩ u) v0 v1 v2 u v4 bb := by
 have q := h.only 3 u hB
 exact ⟨heap_setCell_same _ _ 3 _ 25 _ h.a, q.1, q.2.1, q.2.2.1, q.2.2.2⟩
theorem BeF.set4 (h : BeF w B W v0 v1 v2 v3 v4 bb) (u : Value) (hB : B ≤ w.heap.size) : BeF w B (W.setCell ⟨w.heap.size, 4, none⟩ u) v0 v1 v2 v3 u bb := by
 have q := h.only 4 u hB
 exact ⟨heap_setCell_same _ _ 4 _ 25 _ h.a, q.1, q.2.1, q.2.2.1, q.2.2.2⟩
theorem BeF.grown (h : BeF w B W v0 v1 v2 v3 v4 bb) {q : Nat} (hg : W.grownBy W' (some q)) (hq : B ≤ q ∧ q < w.heap.size) : BeF w B W' v0 v1 v2 v3 v4 bb :=
 ⟨grown_blk h.a hg (by omega), grown_blk h.b hg (by omega), grown_blk h.z hg (by omega), h.d.grown hg (Nat.le_trans (Nat.le_trans hq.1 (Nat.le_of_lt hq.2)) h.d.size) (fun k hk => by cases hk; exact hq.1), Nat.le_trans h.le hg.size⟩
end
theorem beside_any (w : World) (B C : Nat) (na nb m mb : Int) (g1 k1 g2 k2 g3 k3 h1 c1 h2 c2 h3 c3 : Nat) (S F S' F' : List Int) (E E' : List EdT) (hA : Hid (Own B w g1 k1 g2 k2 g3 k3 S F E)) (hB : Hid (Own B w h1 c1 h2 c2 h3 c3 S' F' E')) (hC : Hid (g1 < C ∧ g2 < C ∧ g3 < C ∧ C ≤ h1 ∧ C ≤ h2 ∧ C ≤ h3)) (hBw : B ≤ w.heap.size) (hn : 0 ≤ na ∧ na ≤ 4096) (hnb : 0 ≤ nb ∧ nb ≤ 4096) (hS : Hid (∀ x ∈ S', 0 ≤ x ∧ x < 4096)) (hF : Hid (∀ x ∈ F', 0 ≤ x ∧ x < 4096)) (hE : Hid (∀ e ∈ E', (0 ≤ e.1 ∧ e.1 < 4096) ∧ 0 ≤ e.2.2 ∧ e.2.2 < 4096)) (l1 : S.length ≤ 4194304) (l2 : F.length ≤ 4194304) (l3 : E.length ≤ 4194304) (l4 : S'.length ≤ 4194304) (l5 : F'.length ≤ 4194304) (l6 : E'.length ≤ 4194304) :
 Calls Tryz.prog 97 #[.agg #[.int .i64 na, .int .i64 m, .slice (some ⟨g1, 0, none⟩) S.length k1, .slice (some ⟨g2, 0, none⟩) F.length k2, .slice (some ⟨g3, 0, none⟩) E.length k3], .agg #[.int .i64 nb, .int .i64 mb, .slice (some ⟨h1, 0, none⟩) S'.length c1, .slice (some ⟨h2, 0, none⟩) F'.length c2, .slice (some ⟨h3, 0, none⟩) E'.length c3]] w fun e w' => ∃ r1 q1 r2 q2 r3 q3, e = .returned (.agg #[.int .i64 (na + nb), .int .i64 m, .slice (some ⟨r1, 0, none⟩) (S ++ shL na S').length q1, .slice (some ⟨r2, 0, none⟩) (F ++ shL na F').length q2, .slice (some ⟨r3, 0, none⟩) (E ++ shEs na E').length q3]) ∧ Own B w' r1 q1 r2 q2 r3 q3 (S ++ shL na S') (F ++ shL na F') (E ++ shEs na E') ∧ Below B w w' := by
 obtain ⟨i3, hi3, hz30, hz31, hz32⟩ := info_parts info3
 obtain ⟨i5, hi5, hz50, hz51, hz52⟩ := info_parts info59
 obtain ⟨W0, hW0⟩ : ∃ W0, ((w.alloc (.cells #[.int .i64 na, .int .i64 m, .slice (some ⟨g1, 0, none⟩) S.length k1, .slice (some ⟨g2, 0, none⟩) F.length k2, .slice (some ⟨g3, 0, none⟩) E.length k3] 25)).alloc (.cells #[.int .i64 nb, .int .i64 mb, .slice (some ⟨h1, 0, none⟩) S'.length c1, .slice (some ⟨h2, 0, none⟩) F'.length c2, .slice (some ⟨h3, 0, none⟩) E'.length c3] 25)).alloc (.cells #[.int .i64 0, .int .i64 0, .slice none 0 0, .slice none 0 0, .slice none 0 0] 25) = W0 := ⟨_, rfl⟩
 have HD := hide (box3z w #[.int .i64 na, .int .i64 m, .slice (some ⟨g1, 0, none⟩) S.length k1, .slice (some ⟨g2, 0, none⟩) F.length k2, .slice (some ⟨g3, 0, none⟩) E.length k3] #[.int .i64 nb, .int .i64 mb, .slice (some ⟨h1, 0, none⟩) S'.length c1, .slice (some ⟨h2, 0, none⟩) F'.length c2, .slice (some ⟨h3, 0, none⟩) E'.length c3] #[.int .i64 0, .int .i64 0, .slice none 0 0, .slice none 0 0, .slice none 0 0] 25)
 rw [hW0] at HD
 have HP : Hid ((g1 < w.heap.size ∧ g2 < w.heap.size ∧ g3 < w.heap.size) ∧ (h1 < w.heap.size ∧ h2 < w.heap.size ∧ h3 < w.heap.size) ∧ B ≤ g1 ∧ B ≤ g2 ∧ B ≤ g3 ∧ B ≤ h1 ∧ B ≤ h2 ∧ B ≤ h3) := hide ⟨⟨(own_at hA.out.s).2, (own_at hA.out.f).2, (own_at hA.out.e).2⟩, ⟨(own_at hB.out.s).2, (own_at hB.out.f).2, (own_at hB.out.e).2⟩, (own_at hA.out.s).1, (own_at hA.out.f).1, (own_at hA.out.e).1, (own_at hB.out.s).1, (own_at hB.out.f).1, (own_at hB.out.e).1⟩
 have H0 : Hid (BeI W0 B na h1 c1 h2 c2 h3 c3 S' F' E' 0 0 0 W0) := hide ⟨Only.ofBelow (Below.refl _ _), by rw [mixG_zero]; exact own_on hB.out.s HD.out.1 HP.out.2.1.1, by rw [mixG_zero]; exact own_on hB.out.f HD.out.1 HP.out.2.1.2.1, by rw [mixG_zero]; exact own_on hB.out.e HD.out.1 HP.out.2.1.2.2, hB.out.n12, hB.out.n13, hB.out.n23⟩
 have BK : Hid (∀ (W : World) (i j l : Nat), BeI W0 B na h1 c1 h2 c2 h3 c3 S' F' E' i j l W → W.heap[w.heap.size]? = some (.cells #[.int .i64 na, .int .i64 m, .slice (some ⟨g1, 0, none⟩) S.length k1, .slice (some ⟨g2, 0, none⟩) F.length k2, .slice (some ⟨g3, 0, none⟩) E.length k3] 25 (0, 0)) ∧ W.heap[w.heap.size + 1]? = some (.cells #[.int .i64 nb, .int .i64 mb, .slice (some ⟨h1, 0, none⟩) S'.length c1, .slice (some ⟨h2, 0, none⟩) F'.length c2, .slice (some ⟨h3, 0, none⟩) E'.length c3] 25 (0, 0)) ∧ W.heap[w.heap.size + 1 + 1]? = some (.cells #[.int .i64 0, .int .i64 0, .slice none 0 0, .slice none 0 0, .slice none 0 0] 25 (0, 0))) := hide (fun W i j l h => by
  have hp := HP.out
  refine ⟨h.o.cellK HD.out.2.1 ?_, h.o.cellK HD.out.2.2.1 ?_, h.o.cellK HD.out.2.2.2.1 ?_⟩ <;> omega)
 have CK : Hid (∀ (W : World) (i j l : Nat), BeI W0 B na h1 c1 h2 c2 h3 c3 S' F' E' i j l W → W.cell? ⟨w.heap.size, 0, none⟩ = some (.int .i64 na) ∧ W.cell? ⟨w.heap.size + 1, 2, none⟩ = some (.slice (some ⟨h1, 0, none⟩) S'.length c1) ∧ W.cell? ⟨w.heap.size + 1, 3, none⟩ = some (.slice (some ⟨h2, 0, none⟩) F'.length c2) ∧ W.cell? ⟨w.heap.size + 1, 4, none⟩ = some (.slice (some ⟨h3, 0, none⟩) E'.length c3)) := hide (fun W i j l h => by
  have q := BK.out W i j l h
  exact ⟨cell_of q.1 rfl, cell_of q.2.1 rfl, cell_of q.2.1 rfl, cell_of q.2.1 rfl⟩)
 obtain ⟨y0, y1, y2, y3⟩ := CK.out W0 0 0 0 H0.out
 go_enter Tryz.func97, Tryz.ntmps97
 go_wp2
 clear y0 y1 y2 y3
 go_loopw [14] (fun iv wr => ∃ i : Nat, i ≤ S'.length ∧ iv = .int .i64 i ∧ Hid (BeI W0 B na h1 c1 h2 c2 h3 c3 S' F' E' i 0 0 wr)) (fun iv _ => S'.length - (intOf iv).toNat)
 case atStart => exact ⟨0, Nat.zero_le _, rfl, H0⟩
 case round =>
  obtain ⟨i, hi, rfl, HY⟩ := hrel
  clear H0
  obtain ⟨y0, y1, y2, y3⟩ := CK.out wr i 0 0 HY.out
  by_cases hil : i < S'.length
  · have i0 : (0 : Int) ≤ (i : Int) := by omega
    have i1 : (i : Int) < (S'.length : Int) := by omega
    have z := HY.out.getS hil
    have zf := own_fz HY.out.s i
    have HN := hide (HY.out.putS hil)
    have hb := hS.out _ (List.getElem_mem hil)
    generalize S'[i] = x at z HN hb
    have iw : IntKind.i64.wrap (x + na) = x + na := by rw [IntKind.wrap_i64]; omega
    go_wp2
    go_roundw
    case rel => exact ⟨i + 1, by omega, by go_num, HN⟩
    case measure => simp [intOf]; omega
  · obtain rfl : i = S'.length := by omega
    have i1 : ¬ (S'.length : Int) < (S'.length : Int) := by omega
    go_wp2
    clear y0 y1 y2 y3 i1 hi hil
    go_loopw [31] (fun iv wr => ∃ i : Nat, i ≤ F'.length ∧ iv = .int .i64 i ∧ Hid (BeI W0 B na h1 c1 h2 c2 h3 c3 S' F' E' S'.length i 0 wr)) (fun iv _ => F'.length - (intOf iv).toNat)
    case atStart => exact ⟨0, Nat.zero_le _, rfl, HY⟩
    case round =>
     obtain ⟨i, hi, rfl, HZ⟩ := hrel
     clear HY
     obtain ⟨y0, y1, y2, y3⟩ := CK.out _ S'.length i 0 HZ.out
     by_cases hil : i < F'.length
     · have i0 : (0 : Int) ≤ (i : Int) := by omega
       have i1 : (i : Int) < (F'.length : Int) := by omega
       have z := HZ.out.getF hil
       have zf := own_fz HZ.out.f i
       have HN := hide (HZ.out.putF hil)
       have hb := hF.out _ (List.getElem_mem hil)
       generalize F'[i] = x at z HN hb
       have iw : IntKind.i64.wrap (x + na) = x + na := by rw [IntKind.wrap_i64]; omega
       go_wp2
       go_roundw
       case rel => exact ⟨i + 1, by omega, by go_num, HN⟩
       case measure => simp [intOf]; omega
     · obtain rfl : i = F'.length := by omega
       have i1 : ¬ (F'.length : Int) < (F'.length : Int) := by omega
       go_wp2
       clear y0 y1 y2 y3 i1 hi hil
       go_loopw [48] (fun iv wr => ∃ i : Nat, i ≤ E'.length ∧ iv = .int .i64 i ∧ Hid (BeI W0 B na h1 c1 h2 c2 h3 c3 S' F' E' S'.length F'.length i wr)) (fun iv _ => E'.length - (intOf iv).toNat)
       case atStart => exact ⟨0, Nat.zero_le _, rfl, HZ⟩
       case round =>
        obtain ⟨i, hi, rfl, HV⟩ := hrel
        clear HZ
        rename World => wv
        by_cases hil : i < E'.length
        · have i0 : (0 : Int) ≤ (i : Int) := by omega
          have i1 : (i : Int) < (E'.length : Int) := by omega
          obtain ⟨z0, z1, z2⟩ := HV.out.getE hil
          have HE := hide (fun (o : Obj) => (HV.out.alloc o).putE hil)
          have HA := hide (fun (o : Obj) => HV.out.alloc o)
          have hb := hE.out _ (List.getElem_mem hil)
          generalize E'[i] = x at z0 z1 z2 HE hb
          obtain ⟨x1, x2, x3⟩ := x
          simp only at z0 z1 z2 HE hb
          have iw : IntKind.i64.wrap (x1 + na) = x1 + na := by rw [IntKind.wrap_i64]; omega
          have iv : IntKind.i64.wrap (x3 + na) = x3 + na := by rw [IntKind.wrap_i64]; omega
          obtain ⟨W1, hW1⟩ : ∃ W1, wv.alloc (.cells #[.int .i64 x1, .int .i64 x2, .int .i64 x3] 61) = W1 := ⟨_, rfl⟩
          have HW : Hid (W1.heap[wv.heap.size]? = some (.cells #[.int .i64 x1, .int .i64 x2, .int .i64 x3] 61 (0, 0))) := hide (by rw [← hW1]; exact World.alloc_heap_new _ _)
          have I1 : Hid (BeI W0 B na h1 c1 h2 c2 h3 c3 S' F' E' S'.length F'.length i W1) := hide (by rw [← hW1]; exact HA.out _)
          have HN := HE.out (.cells #[.int .i64 x1, .int .i64 x2, .int .i64 x3] 61)
          rw [hW1] at HN
          have HN := hide HN
          obtain ⟨y0, y1, y2, y3⟩ := CK.out W1 S'.length F'.length i I1.out
          obtain ⟨u0, u1, u2⟩ := zd3 HW.out rfl rfl rfl
          have t0 : W1.cell? ⟨h3, i * 3, none⟩ = some (.int .i64 x1) := by rw [← hW1]; exact (((Below.refl _ wv).alloc (Nat.le_refl _) _).cell (p := ⟨h3, i * 3, none⟩) (World.block_lt_of_cell? wv _ z0)).trans z0
          have t1 : W1.cell? ⟨h3, i * 3 + 1, none⟩ = some (.int .i64 x2) := by rw [← hW1]; exact (((Below.refl _ wv).alloc (Nat.le_refl _) _).cell (p := ⟨h3, i * 3 + 1, none⟩) (World.block_lt_of_cell? wv _ z1)).trans z1
          have t2 : W1.cell? ⟨h3, i * 3 + 2, none⟩ = some (.int .i64 x3) := by rw [← hW1]; exact (((Below.refl _ wv).alloc (Nat.le_refl _) _).cell (p := ⟨h3, i * 3 + 2, none⟩) (World.block_lt_of_cell? wv _ z2)).trans z2
          have f0 := own_fz I1.out.e (i * 3)
          have f1 := own_fz I1.out.e (i * 3 + 1)
          have f2 := own_fz I1.out.e (i * 3 + 2)
          clear HE HA
          go_wp2
          refine ⟨⟨i + 1, by omega, by go_num, HN⟩, by simp [intOf]; omega⟩
        · obtain rfl : i = E'.length := by omega
          have i1 : ¬ (E'.length : Int) < (E'.length : Int) := by omega
          have bq := BK.out wv _ _ _ HV.out
          have q0 : wv.cell? ⟨w.heap.size, 0, none⟩ = some (.int .i64 na) := cell_of bq.1 rfl
          have q1 : wv.cell? ⟨w.heap.size + 1, 0, none⟩ = some (.int .i64 nb) := cell_of bq.2.1 rfl
          have qf : wv.frozen? ⟨w.heap.size, 0, none⟩ = false := fz_of bq.1
          have iw : IntKind.i64.wrap (na + nb) = na + nb := by rw [IntKind.wrap_i64]; omega
          have F0 : Hid (BeF w B wv (.int .i64 na) (.int .i64 m) (.slice (some ⟨g1, 0, none⟩) S.length k1) (.slice (some ⟨g2, 0, none⟩) F.length k2) (.slice (some ⟨g3, 0, none⟩) E.length k3) #[.int .i64 nb, .int .i64 mb, .slice (some ⟨h1, 0, none⟩) S'.length c1, .slice (some ⟨h2, 0, none⟩) F'.length c2, .slice (some ⟨h3, 0, none⟩) E'.length c3]) := hide ⟨bq.1, bq.2.1, bq.2.2, (HD.out.1.mono hBw).trans (HV.out.o.toBelow (Nat.le_trans hBw HD.out.1.size) (fun k hk => by have hp := HP.out; omega)), by have := HV.out.o.size; have := HD.out.2.2.2.2; omega⟩
          have RA : Hid (wv.ownsRow B 3 1 (.slice (some ⟨g1, 0, none⟩) S.length k1) S.length (S.map (Value.int .i64)) ∧ wv.ownsRow B 3 1 (.slice (some ⟨g2, 0, none⟩) F.length k2) F.length (F.map (Value.int .i64)) ∧ wv.ownsRow B 61 3 (.slice (some ⟨g3, 0, none⟩) E.length k3) E.length (E.flatMap encE)) := hide (by
           have hp := HP.out
           have hc := hC.out
           refine ⟨row_only (own_on hA.out.s HD.out.1 hp.1.1) HV.out.o ?_, row_only (own_on hA.out.f HD.out.1 hp.1.2.1) HV.out.o ?_, row_only (own_on hA.out.e HD.out.1 hp.1.2.2) HV.out.o ?_⟩ <;> (intro k hk; cases hk; intro hk2; simp only at hk2; omega))
          have RB : Hid (wv.ownsRow B 3 1 (.slice (some ⟨h1, 0, none⟩) S'.length c1) S'.length ((shL na S').map (Value.int .i64)) ∧ wv.ownsRow B 3 1 (.slice (some ⟨h2, 0, none⟩) F'.length c2) F'.length ((shL na F').map (Value.int .i64)) ∧ wv.ownsRow B 61 3 (.slice (some ⟨h3, 0, none⟩) E'.length c3) E'.length ((shEs na E').flatMap encE)) := hide ⟨by have := HV.out.s; rw [mixG_full] at this; exact this, by have := HV.out.f; rw [mixG_full] at this; exact this, by have := HV.out.e; rw [mixG_full] at this; exact this⟩
          obtain ⟨X1, hX1⟩ : ∃ X1, wv.setCell ⟨w.heap.size, 0, none⟩ (.int .i64 (na + nb)) = X1 := ⟨_, rfl⟩
          have F1 := hide (F0.out.set0 (.int .i64 (na + nb)) hBw)
          have OX := only_set wv w.heap.size 0 (.int .i64 (na + nb))
          rw [hX1] at F1 OX
          have OX := hide OX
          have RA1 : Hid (X1.ownsRow B 3 1 (.slice (some ⟨g1, 0, none⟩) S.length k1) S.length (S.map (Value.int .i64)) ∧ X1.ownsRow B 3 1 (.slice (some ⟨g2, 0, none⟩) F.length k2) F.length (F.map (Value.int .i64)) ∧ X1.ownsRow B 61 3 (.slice (some ⟨g3, 0, none⟩) E.length k3) E.length (E.flatMap encE)) := hide (by
           have hp := HP.out
           exact ⟨own_only RA.out.1 OX.out (by omega), own_only RA.out.2.1 OX.out (by omega), own_only RA.out.2.2 OX.out (by omega)⟩)
          have RB1 : Hid (X1.ownsRow B 3 1 (.slice (some ⟨h1, 0, none⟩) S'.length c1) S'.length ((shL na S').map (Value.int .i64)) ∧ X1.ownsRow B 3 1 (.slice (some ⟨h2, 0, none⟩) F'.length c2) F'.length ((shL na F').map (Value.int .i64)) ∧ X1.ownsRow B 61 3 (.slice (some ⟨h3, 0, none⟩) E'.length c3) E'.length ((shEs na E').flatMap encE)) := hide (by
           have hp := HP.out
           exact ⟨own_only RB.out.1 OX.out (by omega), own_only RB.out.2.1 OX.out (by omega), own_only RB.out.2.2 OX.out (by omega)⟩)
          go_upto_region 17 with fail
          clear q0 q1 qf bq RA RB OX F0 HV iw i1 hi hil
          have y0 : X1.cell? ⟨w.heap.size, 2, none⟩ = some (.slice (some ⟨g1, 0, none⟩) S.length k1) := cell_of F1.out.a rfl
          have y1 : X1.cell? ⟨w.heap.size + 1, 2, none⟩ = some (.slice (some ⟨h1, 0, none⟩) S'.length c1) := cell_of F1.out.b rfl
          go_wp2_with (at_builtin; refine wpList_append_own_at _ rfl _ _ _ rfl B 3 i3 _ 1 8 Tryz.underlying22 hi3 hz30 hz31 hz32 rfl (by omega) (.slice (some ⟨g1, 0, none⟩) S.length k1) S.length (S.map (Value.int .i64)) rfl RA1.out.1 ⟨h1, 0, none⟩ S'.length c1 ((shL na S').map (Value.int .i64)) rfl (by simp [shL]) (rd_news (rdN_own RB1.out.1 (List.prefix_refl _))) (ints_one _) (by unfold maxLen; omega) (by omega) (Nat.le_trans hBw F1.out.d.size) ?_)
          intro v1 Y1 ho hgr hnil hloc
          obtain ⟨r1, q1, rfl⟩ := own_form ho hnil
          have L1 : Hid (r1 = g1 ∨ r1 = X1.heap.size) := hide (by simpa [Value.ownBlock] using hloc)
          have G1 : Hid (X1.grownBy Y1 (some g1)) := hide hgr
          have O1 : Hid (Y1.ownsRow B 3 1 (.slice (some ⟨r1, 0, none⟩) (S.length + S'.length) q1) (S.length + S'.length) ((S ++ shL na S').map (Value.int .i64))) := hide (by rw [List.map_append]; exact ho)
          clear ho hgr hnil hloc y0 y1
          have F2 := hide (F1.out.grown G1.out ⟨HP.out.2.2.1, HP.out.1.1⟩)
          have y0 : Y1.cell? ⟨w.heap.size, 2, none⟩ = some (.slice (some ⟨g1, 0, none⟩) S.length k1) := cell_of F2.out.a rfl
          have yf : Y1.frozen? ⟨w.heap.size, 2, none⟩ = false := fz_of F2.out.a
          obtain ⟨X2, hX2⟩ : ∃ X2, Y1.setCell ⟨w.heap.size, 2, none⟩ (.slice (some ⟨r1, 0, none⟩) (S.length + S'.length) q1) = X2 := ⟨_, rfl⟩
          have F3 := hide (F2.out.set2 (.slice (some ⟨r1, 0, none⟩) (S.length + S'.length) q1) hBw)
          have OX := only_set Y1 w.heap.size 2 (.slice (some ⟨r1, 0, none⟩) (S.length + S'.length) q1)
          rw [hX2] at F3 OX
          have OX := hide OX
          have RR2 : Hid ((r1 < Y1.heap.size ∧ r1 ≠ w.heap.size ∧ (r1 = g1 ∨ w.heap.size + 3 ≤ r1)) ∧ X2.ownsRow B 3 1 (.slice (some ⟨r1, 0, none⟩) (S.length + S'.length) q1) (S.length + S'.length) ((S ++ shL na S').map (Value.int .i64)) ∧ X2.ownsRow B 3 1 (.slice (some ⟨g2, 0, none⟩) F.length k2) F.length (F.map (Value.int .i64)) ∧ X2.ownsRow B 61 3 (.slice (some ⟨g3, 0, none⟩) E.length k3) E.length (E.flatMap encE) ∧ X2.ownsRow B 3 1 (.slice (some ⟨h2, 0, none⟩) F'.length c2) F'.length ((shL na F').map (Value.int .i64)) ∧ X2.ownsRow B 61 3 (.slice (some ⟨h3, 0, none⟩) E'.length c3) E'.length ((shEs na E').flatMap encE)) := hide (by
           have hp := HP.out
           have hc := hC.out
           have n12 := hA.out.n12
           have n13 := hA.out.n13
           have l1 := L1.out
           have le := F1.out.le
           have ra := own_at O1.out
           refine ⟨⟨ra.2, by omega, by omega⟩, own_only O1.out OX.out (by omega), own_only (grown_row RA1.out.2.1 G1.out n12.symm) OX.out (by omega), own_only (grown_row RA1.out.2.2 G1.out n13.symm) OX.out (by omega), own_only (grown_row RB1.out.2.1 G1.out (by omega)) OX.out (by omega), own_only (grown_row RB1.out.2.2 G1.out (by omega)) OX.out (by omega)⟩)
          have Z2 : Hid (Y1.heap.size ≤ X2.heap.size) := hide OX.out.size
          go_upto_region 18 with fail
          clear y0 yf OX F1 F2 RA1 RB1 O1 G1 hX2
          have y0 : X2.cell? ⟨w.heap.size, 3, none⟩ = some (.slice (some ⟨g2, 0, none⟩) F.length k2) := cell_of F3.out.a rfl
          have y1 : X2.cell? ⟨w.heap.size + 1, 3, none⟩ = some (.slice (some ⟨h2, 0, none⟩) F'.length c2) := cell_of F3.out.b rfl
          go_wp2_with (at_builtin; refine wpList_append_own_at _ rfl _ _ _ rfl B 3 i3 _ 1 8 Tryz.underlying22 hi3 hz30 hz31 hz32 rfl (by omega) (.slice (some ⟨g2, 0, none⟩) F.length k2) F.length (F.map (Value.int .i64)) rfl RR2.out.2.2.1 ⟨h2, 0, none⟩ F'.length c2 ((shL na F').map (Value.int .i64)) rfl (by simp [shL]) (rd_news (rdN_own RR2.out.2.2.2.2.1 (List.prefix_refl _))) (ints_one _) (by unfold maxLen; omega) (by omega) (Nat.le_trans hBw F3.out.d.size) ?_)
          intro v2 Y2 ho hgr hnil hloc
          obtain ⟨r2, q2, rfl⟩ := own_form ho hnil
          have L2 : Hid (r2 = g2 ∨ r2 = X2.heap.size) := hide (by simpa [Value.ownBlock] using hloc)
          have G2 : Hid (X2.grownBy Y2 (some g2)) := hide hgr
          have O2 : Hid (Y2.ownsRow B 3 1 (.slice (some ⟨r2, 0, none⟩) (F.length + F'.length) q2) (F.length + F'.length) ((F ++ shL na F').map (Value.int .i64))) := hide (by rw [List.map_append]; exact ho)
          clear ho hgr hnil hloc y0 y1
          have F4 := hide (F3.out.grown G2.out ⟨HP.out.2.2.2.1, HP.out.1.2.1⟩)
          have y0 : Y2.cell? ⟨w.heap.size, 3, none⟩ = some (.slice (some ⟨g2, 0, none⟩) F.length k2) := cell_of F4.out.a rfl
          have yf : Y2.frozen? ⟨w.heap.size, 3, none⟩ = false := fz_of F4.out.a
          obtain ⟨X3, hX3⟩ : ∃ X3, Y2.setCell ⟨w.heap.size, 3, none⟩ (.slice (some ⟨r2, 0, none⟩) (F.length + F'.length) q2) = X3 := ⟨_, rfl⟩
          have F5 := hide (F4.out.set3 (.slice (some ⟨r2, 0, none⟩) (F.length + F'.length) q2) hBw)
          have OX := only_set Y2 w.heap.size 3 (.slice (some ⟨r2, 0, none⟩) (F.length + F'.length) q2)
          rw [hX3] at F5 OX
          have OX := hide OX
          have RR3 : Hid ((r1 ≠ r2 ∧ r1 < Y2.heap.size ∧ r2 < Y2.heap.size ∧ r1 ≠ w.heap.size ∧ r2 ≠ w.heap.size ∧ (r1 = g1 ∨ w.heap.size + 3 ≤ r1) ∧ (r2 = g2 ∨ w.heap.size + 3 ≤ r2)) ∧ X3.ownsRow B 3 1 (.slice (some ⟨r1, 0, none⟩) (S.length + S'.length) q1) (S.length + S'.length) ((S ++ shL na S').map (Value.int .i64)) ∧ X3.ownsRow B 3 1 (.slice (some ⟨r2, 0, none⟩) (F.length + F'.length) q2) (F.length + F'.length) ((F ++ shL na F').map (Value.int .i64)) ∧ X3.ownsRow B 61 3 (.slice (some ⟨g3, 0, none⟩) E.length k3) E.length (E.flatMap encE) ∧ X3.ownsRow B 61 3 (.slice (some ⟨h3, 0, none⟩) E'.length c3) E'.length ((shEs na E').flatMap encE)) := hide (by
           have hp := HP.out
           have hc := hC.out
           have n12 := hA.out.n12
           have n23 := hA.out.n23
           have l2 := L2.out
           have le := F3.out.le
           have rb := RR2.out.1
           have ra := own_at O2.out
           have z2 := Z2.out
           have gs := G2.out.size
           refine ⟨⟨by omega, by omega, ra.2, by omega, by omega, by omega, by omega⟩, own_only (grown_row RR2.out.2.1 G2.out (by omega)) OX.out (by omega), own_only O2.out OX.out (by omega), own_only (grown_row RR2.out.2.2.2.1 G2.out n23.symm) OX.out (by omega), own_only (grown_row RR2.out.2.2.2.2.2 G2.out (by omega)) OX.out (by omega)⟩)
          have Z3 : Hid (Y2.heap.size ≤ X3.heap.size) := hide OX.out.size
          go_upto_region 19 with fail
          clear y0 yf OX F3 F4 RR2 O2 G2 hX3
          have y0 : X3.cell? ⟨w.heap.size, 4, none⟩ = some (.slice (some ⟨g3, 0, none⟩) E.length k3) := cell_of F5.out.a rfl
          have y1 : X3.cell? ⟨w.heap.size + 1, 4, none⟩ = some (.slice (some ⟨h3, 0, none⟩) E'.length c3) := cell_of F5.out.b rfl
          go_wp2_with (at_builtin; refine wpList_append_own_at _ rfl _ _ _ rfl B 61 i5 _ 3 24 Tryz.underlying23 hi5 hz50 hz51 hz52 rfl (by omega) (.slice (some ⟨g3, 0, none⟩) E.length k3) E.length (E.flatMap encE) rfl RR3.out.2.2.2.1 ⟨h3, 0, none⟩ E'.length c3 ((shEs na E').flatMap encE) rfl (by rw [flatE_len]; simp [shEs]) (by have q := RR3.out.2.2.2.2; rw [show E'.length = (shEs na E').length by simp [shEs]] at q; exact rdE_news (rdE_own q)) (encE_one _) (by unfold maxLen; omega) (by omega) (Nat.le_trans hBw F5.out.d.size) ?_)
          intro v3 Y3 ho hgr hnil hloc
          obtain ⟨r3, q3, rfl⟩ := own_form ho hnil
          have L3 : Hid (r3 = g3 ∨ r3 = X3.heap.size) := hide (by simpa [Value.ownBlock] using hloc)
          have G3 : Hid (X3.grownBy Y3 (some g3)) := hide hgr
          have O3 : Hid (Y3.ownsRow B 61 3 (.slice (some ⟨r3, 0, none⟩) (E.length + E'.length) q3) (E.length + E'.length) ((E ++ shEs na E').flatMap encE)) := hide (by rw [List.flatMap_append]; exact ho)
          clear ho hgr hnil hloc y0 y1
          have F6 := hide (F5.out.grown G3.out ⟨HP.out.2.2.2.2.1, HP.out.1.2.2⟩)
          have y0 : Y3.cell? ⟨w.heap.size, 4, none⟩ = some (.slice (some ⟨g3, 0, none⟩) E.length k3) := cell_of F6.out.a rfl
          have yf : Y3.frozen? ⟨w.heap.size, 4, none⟩ = false := fz_of F6.out.a
          obtain ⟨X4, hX4⟩ : ∃ X4, Y3.setCell ⟨w.heap.size, 4, none⟩ (.slice (some ⟨r3, 0, none⟩) (E.length + E'.length) q3) = X4 := ⟨_, rfl⟩
          have F7 := hide (F6.out.set4 (.slice (some ⟨r3, 0, none⟩) (E.length + E'.length) q3) hBw)
          have OX := only_set Y3 w.heap.size 4 (.slice (some ⟨r3, 0, none⟩) (E.length + E'.length) q3)
          rw [hX4] at F7 OX
          have OX := hide OX
          have RR4 : Hid ((r1 ≠ r2 ∧ r1 ≠ r3 ∧ r2 ≠ r3 ∧ (r1 < w.heap.size ∨ w.heap.size + 3 ≤ r1) ∧ (r2 < w.heap.size ∨ w.heap.size + 3 ≤ r2) ∧ (r3 < w.heap.size ∨ w.heap.size + 3 ≤ r3)) ∧ X4.ownsRow B 3 1 (.slice (some ⟨r1, 0, none⟩) (S.length + S'.length) q1) (S.length + S'.length) ((S ++ shL na S').map (Value.int .i64)) ∧ X4.ownsRow B 3 1 (.slice (some ⟨r2, 0, none⟩) (F.length + F'.length) q2) (F.length + F'.length) ((F ++ shL na F').map (Value.int .i64)) ∧ X4.ownsRow B 61 3 (.slice (some ⟨r3, 0, none⟩) (E.length + E'.length) q3) (E.length + E'.length) ((E ++ shEs na E').flatMap encE)) := hide (by
           have hp := HP.out
           have n13 := hA.out.n13
           have n23 := hA.out.n23
           have l3 := L3.out
           have le := F5.out.le
           have rb := RR3.out.1
           have z3 := Z3.out
           refine ⟨⟨rb.1, by omega, by omega, by omega, by omega, by omega⟩, own_only (grown_row RR3.out.2.1 G3.out (by omega)) OX.out (by omega), own_only (grown_row RR3.out.2.2.1 G3.out (by omega)) OX.out (by omega), own_only O3.out OX.out (by omega)⟩)
          go_upto_region 20 with fail
          clear y0 yf OX F5 F6 RR3 O3 G3 hX4
          obtain ⟨a0, a1, a2, a3, a4⟩ := zd5 F7.out.a rfl rfl rfl rfl rfl
          have F3 := F7.out.z
          obtain ⟨o0, o1, o2, o3, o4⟩ := zd5 F3 rfl rfl rfl rfl rfl
          have f0 : X4.frozen? ⟨w.heap.size + 1 + 1, 0, none⟩ = false := fz_of F3
          have f1 : X4.frozen? ⟨w.heap.size + 1 + 1, 1, none⟩ = false := fz_of F3
          have f2 : X4.frozen? ⟨w.heap.size + 1 + 1, 2, none⟩ = false := fz_of F3
          have f3 : X4.frozen? ⟨w.heap.size + 1 + 1, 3, none⟩ = false := fz_of F3
          have f4 : X4.frozen? ⟨w.heap.size + 1 + 1, 4, none⟩ = false := fz_of F3
          have O6 := hide (And.intro (set5 X4 (w.heap.size + 1 + 1) _ _ _ _ _ (.int .i64 (na + nb)) (.int .i64 m) (.slice (some ⟨r1, 0, none⟩) (S.length + S'.length) q1) (.slice (some ⟨r2, 0, none⟩) (F.length + F'.length) q2) (.slice (some ⟨r3, 0, none⟩) (E.length + E'.length) q3) 25 F3) (only5 X4 (w.heap.size + 1 + 1) (.int .i64 (na + nb)) (.int .i64 m) (.slice (some ⟨r1, 0, none⟩) (S.length + S'.length) q1) (.slice (some ⟨r2, 0, none⟩) (F.length + F'.length) q2) (.slice (some ⟨r3, 0, none⟩) (E.length + E'.length) q3)))
          clear F3
          go_wp2_with fail
          refine bodyPost_ret (results_cell_row (p := 4) (ty := 25) rfl _ _ (w.heap.size + 1 + 1) 25 _ (0, 0) _ rfl O6.out.1 Tryz.underlying25 rfl (by kernel_rfl)) rfl ?_
          have e1 : (S ++ shL na S').length = S.length + S'.length := by simp [shL]
          have e2 : (F ++ shL na F').length = F.length + F'.length := by simp [shL]
          have e3 : (E ++ shEs na E').length = E.length + E'.length := by simp [shEs]
          have rr := RR4.out.1
          refine ⟨r1, q1, r2, q2, r3, q3, by rw [e1, e2, e3], ⟨by rw [e1]; exact own_only RR4.out.2.1 O6.out.2 (by omega), by rw [e2]; exact own_only RR4.out.2.2.1 O6.out.2 (by omega), by rw [e3]; exact own_only RR4.out.2.2.2 O6.out.2 (by omega), rr.1, rr.2.1, rr.2.2.1⟩, F7.out.d.trans (O6.out.2.toBelow (Nat.le_trans hBw F7.out.d.size) (fun k hk => by omega))⟩
end Go.Proofs.YtchoopnjckcohaaGreatDoor
