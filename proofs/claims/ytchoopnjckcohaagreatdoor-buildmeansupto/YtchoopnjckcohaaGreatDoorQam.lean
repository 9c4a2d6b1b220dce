import Derived.Test.YtchoopnjckcohaaGreatDoorBen
import Derived.Shelf.Sort.Plain
import Derived.Shelf.Slices.Clone
import Derived.Shelf.Slices.In.SortNone
set_option maxRecDepth 100000
set_option maxHeartbeats 40000000
namespace Go.Proofs.YtchoopnjckcohaaGreatDoor
open Go.RowKit Go.Maps Go.Shelf
theorem undrew2 {B : Nat} {X w : World} (d : Below B w X.drew) : Below B w X := ⟨d.os, d.tape, d.output, d.size, d.block⟩
structure Pre (W0 F : World) (p q : Nat) (g1 k1 g2 k2 g3 k3 h1 c1 h2 c2 h3 c3 : Nat) (S T : List Int) (E : List EdT) (S' T' : List Int) (E' : List EdT) : Prop where
 zp : F.heap[p]? = some (.cells #[.int .i64 0, .int .i64 0, .slice none 0 0, .slice none 0 0, .slice none 0 0] 25 (0, 0))
 zq : F.heap[q]? = some (.cells #[.int .i64 0, .int .i64 0, .slice none 0 0, .slice none 0 0, .slice none 0 0] 25 (0, 0))
 ne : p ≠ q
 o1 : Own W0.heap.size F g1 k1 g2 k2 g3 k3 S T E
 o2 : Own W0.heap.size F h1 c1 h2 c2 h3 c3 S' T' E'
 lt : ∃ C, g1 < C ∧ g2 < C ∧ g3 < C ∧ C ≤ h1 ∧ C ≤ h2 ∧ C ≤ h3
 np : (g1 ≠ p ∧ g2 ≠ p ∧ g3 ≠ p) ∧ h1 ≠ p ∧ h2 ≠ p ∧ h3 ≠ p
 nq : (g1 ≠ q ∧ g2 ≠ q ∧ g3 ≠ q) ∧ h1 ≠ q ∧ h2 ≠ q ∧ h3 ≠ q
 d : Below W0.heap.size W0 F
 lp : W0.heap.size ≤ p ∧ W0.heap.size ≤ q
theorem Own.on {B C : Nat} {w w' : World} {g1 k1 g2 k2 g3 k3 : Nat} {S F : List Int} {E : List EdT} (h : Own C w g1 k1 g2 k2 g3 k3 S F E) (hB : B ≤ C) (d : Below w.heap.size w w') : Own B w' g1 k1 g2 k2 g3 k3 S F E :=
 ⟨owns_down (own_on h.s d (own_at h.s).2) hB, owns_down (own_on h.f d (own_at h.f).2) hB, owns_down (own_on h.e d (own_at h.e).2) hB, h.n12, h.n13, h.n23⟩
theorem Own.only {B q : Nat} {w w' : World} {g1 k1 g2 k2 g3 k3 : Nat} {S F : List Int} {E : List EdT} (h : Own B w g1 k1 g2 k2 g3 k3 S F E) (o : Only w w' (fun k => k = q)) (hq : g1 ≠ q ∧ g2 ≠ q ∧ g3 ≠ q) : Own B w' g1 k1 g2 k2 g3 k3 S F E :=
 ⟨own_only h.s o hq.1, own_only h.f o hq.2.1, own_only h.e o hq.2.2, h.n12, h.n13, h.n23⟩
section
variable {W0 W Wc wa Wd wb F : World} {p q g1 k1 g2 k2 g3 k3 h1 c1 h2 c2 h3 c3 : Nat} {S T : List Int} {E : List EdT} {S' T' : List Int} {E' : List EdT}
theorem zero_cells {F : World} {p : Nat} (h : F.heap[p]? = some (.cells #[.int .i64 0, .int .i64 0, .slice none 0 0, .slice none 0 0, .slice none 0 0] 25 (0, 0))) : (F.cell? ⟨p, 0, none⟩ = some (.int .i64 0) ∧ F.cell? ⟨p, 1, none⟩ = some (.int .i64 0) ∧ F.cell? ⟨p, 2, none⟩ = some (.slice none 0 0) ∧ F.cell? ⟨p, 3, none⟩ = some (.slice none 0 0) ∧ F.cell? ⟨p, 4, none⟩ = some (.slice none 0 0)) ∧ F.frozen? ⟨p, 0, none⟩ = false ∧ F.frozen? ⟨p, 1, none⟩ = false ∧ F.frozen? ⟨p, 2, none⟩ = false ∧ F.frozen? ⟨p, 3, none⟩ = false ∧ F.frozen? ⟨p, 4, none⟩ = false :=
 ⟨⟨cell_of h rfl, cell_of h rfl, cell_of h rfl, cell_of h rfl, cell_of h rfl⟩, fz_of h, fz_of h, fz_of h, fz_of h, fz_of h⟩
theorem Pre.zq1 (h : Pre W0 F p q g1 k1 g2 k2 g3 k3 h1 c1 h2 c2 h3 c3 S T E S' T' E') (n m : Int) : (((((F.setCell ⟨p, 0, none⟩ (.int .i64 n)).setCell ⟨p, 1, none⟩ (.int .i64 m)).setCell ⟨p, 2, none⟩ (.slice (some ⟨g1, 0, none⟩) S.length k1)).setCell ⟨p, 3, none⟩ (.slice (some ⟨g2, 0, none⟩) T.length k2)).setCell ⟨p, 4, none⟩ (.slice (some ⟨g3, 0, none⟩) E.length k3)).heap[q]? = some (.cells #[.int .i64 0, .int .i64 0, .slice none 0 0, .slice none 0 0, .slice none 0 0] 25 (0, 0)) :=
 (only5 F p (.int .i64 n) (.int .i64 m) (.slice (some ⟨g1, 0, none⟩) S.length k1) (.slice (some ⟨g2, 0, none⟩) T.length k2) (.slice (some ⟨g3, 0, none⟩) E.length k3)).cellK h.zq h.ne.symm
structure Lai (W0 W : World) (p q : Nat) (n m n' m' : Int) (g1 k1 g2 k2 g3 k3 h1 c1 h2 c2 h3 c3 : Nat) (S T : List Int) (E : List EdT) (S' T' : List Int) (E' : List EdT) : Prop where
 bp : W.heap[p]? = some (.cells #[.int .i64 n, .int .i64 m, .slice (some ⟨g1, 0, none⟩) S.length k1, .slice (some ⟨g2, 0, none⟩) T.length k2, .slice (some ⟨g3, 0, none⟩) E.length k3] 25 (0, 0))
 bq : W.heap[q]? = some (.cells #[.int .i64 n', .int .i64 m', .slice (some ⟨h1, 0, none⟩) S'.length c1, .slice (some ⟨h2, 0, none⟩) T'.length c2, .slice (some ⟨h3, 0, none⟩) E'.length c3] 25 (0, 0))
 o1 : Own W0.heap.size W g1 k1 g2 k2 g3 k3 S T E
 o2 : Own W0.heap.size W h1 c1 h2 c2 h3 c3 S' T' E'
 lt : ∃ C, g1 < C ∧ g2 < C ∧ g3 < C ∧ C ≤ h1 ∧ C ≤ h2 ∧ C ≤ h3
 d : Below W0.heap.size W0 W
 lp : W0.heap.size ≤ p ∧ W0.heap.size ≤ q
theorem Pre.lai (h : Pre W0 F p q g1 k1 g2 k2 g3 k3 h1 c1 h2 c2 h3 c3 S T E S' T' E') (n m n' m' : Int) : Lai W0 ((((((((((F.setCell ⟨p, 0, none⟩ (.int .i64 n)).setCell ⟨p, 1, none⟩ (.int .i64 m)).setCell ⟨p, 2, none⟩ (.slice (some ⟨g1, 0, none⟩) S.length k1)).setCell ⟨p, 3, none⟩ (.slice (some ⟨g2, 0, none⟩) T.length k2)).setCell ⟨p, 4, none⟩ (.slice (some ⟨g3, 0, none⟩) E.length k3)).setCell ⟨q, 0, none⟩ (.int .i64 n')).setCell ⟨q, 1, none⟩ (.int .i64 m')).setCell ⟨q, 2, none⟩ (.slice (some ⟨h1, 0, none⟩) S'.length c1)).setCell ⟨q, 3, none⟩ (.slice (some ⟨h2, 0, none⟩) T'.length c2)).setCell ⟨q, 4, none⟩ (.slice (some ⟨h3, 0, none⟩) E'.length c3)) p q n m n' m' g1 k1 g2 k2 g3 k3 h1 c1 h2 c2 h3 c3 S T E S' T' E' := by
 have s1 := set5 F p _ _ _ _ _ (.int .i64 n) (.int .i64 m) (.slice (some ⟨g1, 0, none⟩) S.length k1) (.slice (some ⟨g2, 0, none⟩) T.length k2) (.slice (some ⟨g3, 0, none⟩) E.length k3) 25 h.zp
 have e1 := only5 F p (.int .i64 n) (.int .i64 m) (.slice (some ⟨g1, 0, none⟩) S.length k1) (.slice (some ⟨g2, 0, none⟩) T.length k2) (.slice (some ⟨g3, 0, none⟩) E.length k3)
 obtain ⟨G, hG⟩ : ∃ G, ((((F.setCell ⟨p, 0, none⟩ (.int .i64 n)).setCell ⟨p, 1, none⟩ (.int .i64 m)).setCell ⟨p, 2, none⟩ (.slice (some ⟨g1, 0, none⟩) S.length k1)).setCell ⟨p, 3, none⟩ (.slice (some ⟨g2, 0, none⟩) T.length k2)).setCell ⟨p, 4, none⟩ (.slice (some ⟨g3, 0, none⟩) E.length k3) = G := ⟨_, rfl⟩
 rw [hG] at s1 e1 ⊢
 have zq := e1.cellK h.zq h.ne.symm
 have s2 := set5 G q _ _ _ _ _ (.int .i64 n') (.int .i64 m') (.slice (some ⟨h1, 0, none⟩) S'.length c1) (.slice (some ⟨h2, 0, none⟩) T'.length c2) (.slice (some ⟨h3, 0, none⟩) E'.length c3) 25 zq
 have e2 := only5 G q (.int .i64 n') (.int .i64 m') (.slice (some ⟨h1, 0, none⟩) S'.length c1) (.slice (some ⟨h2, 0, none⟩) T'.length c2) (.slice (some ⟨h3, 0, none⟩) E'.length c3)
 have hp := h.lp
 have hs := h.d.size
 have hs2 := e1.size
 exact ⟨e2.cellK s1 h.ne, s2, (h.o1.only e1 h.np.1).only e2 h.nq.1, (h.o2.only e1 h.np.2).only e2 h.nq.2, h.lt, (h.d.trans (e1.toBelow hs (fun k hk => by omega))).trans (e2.toBelow (by omega) (fun k hk => by omega)), h.lp⟩
end
def ownP (n m : Int) (S T : List Int) (E : List EdT) : MkP := fun x lo hi W => ∃ g1 k1 g2 k2 g3 k3, x = .agg #[.int .i64 n, .int .i64 m, .slice (some ⟨g1, 0, none⟩) S.length k1, .slice (some ⟨g2, 0, none⟩) T.length k2, .slice (some ⟨g3, 0, none⟩) E.length k3] ∧ Own lo W g1 k1 g2 k2 g3 k3 S T E ∧ g1 < hi ∧ g2 < hi ∧ g3 < hi
def boxP : MkP := fun x lo hi W => x = .pointer (some ⟨lo, 0, none⟩) ∧ lo < hi ∧ W.heap[lo]? = some (.cells #[.int .i64 0, .int .i64 0, .slice none 0 0, .slice none 0 0, .slice none 0 0] 25 (0, 0))
theorem ownP_mono {n m : Int} {S T : List Int} {E : List EdT} : MonoP (ownP n m S T E) := fun _ _ _ _ _ _ d ⟨g1, k1, g2, k2, g3, k3, e, o, q⟩ => ⟨g1, k1, g2, k2, g3, k3, e, o.on (Nat.le_refl _) d, q⟩
theorem boxP_mono : MonoP boxP := fun _ _ _ _ _ hs d ⟨e, l, z⟩ => ⟨e, l, (d.block _ (by omega)).trans z⟩
theorem ownP_of {n m : Int} {S T : List Int} {E : List EdT} {B : Nat} {W : World} {g1 k1 g2 k2 g3 k3 : Nat} (o : Own B W g1 k1 g2 k2 g3 k3 S T E) : ownP n m S T E (.agg #[.int .i64 n, .int .i64 m, .slice (some ⟨g1, 0, none⟩) S.length k1, .slice (some ⟨g2, 0, none⟩) T.length k2, .slice (some ⟨g3, 0, none⟩) E.length k3]) B W.heap.size W := ⟨g1, k1, g2, k2, g3, k3, rfl, o, (own_at o.s).2, (own_at o.f).2, (own_at o.e).2⟩
theorem boxP_of (W : World) : boxP (.pointer (some ⟨W.heap.size, 0, none⟩)) W.heap.size (W.alloc (.cells #[.int .i64 0, .int .i64 0, .slice none 0 0, .slice none 0 0, .slice none 0 0] 25)).heap.size (W.alloc (.cells #[.int .i64 0, .int .i64 0, .slice none 0 0, .slice none 0 0, .slice none 0 0] 25)) := ⟨rfl, by simp, World.alloc_heap_new _ _⟩
theorem two_pre {A B : Value} {n m n' m' : Int} {S T : List Int} {E : List EdT} {S' T' : List Int} {E' : List EdT} {W0 w W : World} {ops : Array Oper} {k : Nat} {y : Nat → Value} {lo hi : Nat → Nat} (d0 : Below W0.heap.size W0 w) (hk : 6 ≤ k) (hM : Made w (phiL [isV A, ownP n m S T E, isV B, ownP n' m' S' T' E', boxP, boxP]) ops k (fun _ => true) y lo hi W) (ho : hi 1 ≤ lo 3) :
 ∃ p q g1 k1 g2 k2 g3 k3 h1 c1 h2 c2 h3 c3, y 1 = .agg #[.int .i64 n, .int .i64 m, .slice (some ⟨g1, 0, none⟩) S.length k1, .slice (some ⟨g2, 0, none⟩) T.length k2, .slice (some ⟨g3, 0, none⟩) E.length k3] ∧ y 3 = .agg #[.int .i64 n', .int .i64 m', .slice (some ⟨h1, 0, none⟩) S'.length c1, .slice (some ⟨h2, 0, none⟩) T'.length c2, .slice (some ⟨h3, 0, none⟩) E'.length c3] ∧ y 4 = .pointer (some ⟨p, 0, none⟩) ∧ y 5 = .pointer (some ⟨q, 0, none⟩) ∧ Pre W0 W p q g1 k1 g2 k2 g3 k3 h1 c1 h2 c2 h3 c3 S T E S' T' E' := by
 obtain ⟨g1, k1, g2, k2, g3, k3, e1, o1, q1⟩ := hM.fact 1 (by omega) rfl
 obtain ⟨h1, c1, h2, c2, h3, c3, e3, o3, q3⟩ := hM.fact 3 (by omega) rfl
 obtain ⟨e4, l4, z4⟩ := hM.fact 4 (by omega) rfl
 obtain ⟨e5, l5, z5⟩ := hM.fact 5 (by omega) rfl
 refine ⟨lo 4, lo 5, g1, k1, g2, k2, g3, k3, h1, c1, h2, c2, h3, c3, e1, e3, e4, e5, ?_⟩
 have a1 := own_at o1.s
 have a2 := own_at o1.f
 have a3 := own_at o1.e
 have b1 := own_at o3.s
 have b2 := own_at o3.f
 have b3 := own_at o3.e
 have s0 := d0.size
 have t1 := hM.at' 1 (by omega) rfl
 have t3 := hM.at' 3 (by omega) rfl
 have t4 := hM.at' 4 (by omega) rfl
 have t5 := hM.at' 5 (by omega) rfl
 have u45 := hM.apart 4 5 (by omega) (by omega) rfl rfl (by decide)
 have u14 := hM.apart 1 4 (by omega) (by omega) rfl rfl (by decide)
 have u34 := hM.apart 3 4 (by omega) (by omega) rfl rfl (by decide)
 have u15 := hM.apart 1 5 (by omega) (by omega) rfl rfl (by decide)
 have u35 := hM.apart 3 5 (by omega) (by omega) rfl rfl (by decide)
 have D := hM.d
 refine ⟨z4, z5, by omega, o1.on (by omega) (Below.refl _ _), o3.on (by omega) (Below.refl _ _), ⟨hi 1, by omega, by omega, by omega, by omega, by omega, by omega⟩, ⟨⟨by omega, by omega, by omega⟩, by omega, by omega, by omega⟩, ⟨⟨by omega, by omega, by omega⟩, by omega, by omega, by omega⟩, d0.trans (D.mono s0), by omega, by omega⟩
end Go.Proofs.YtchoopnjckcohaaGreatDoor
namespace Go.Proofs.YtchoopnjckcohaaGreatDoor
open Go.RowKit Go.Maps Go.Shelf
attribute [local go_sem] Oper.semAt_some
theorem own_rdN {W : World} {B c : Nat} {b : Option Addr} {X : List Int} (h : W.ownsRow B 3 1 (.slice b X.length c) X.length (X.map (Value.int .i64))) : RdN W b X := by
 obtain ⟨b', c', hv, hD⟩ := rd_own h
 cases hv
 exact hD
theorem own_keep {W W' : World} {B n sz p : Nat} {e t : TypeId} {v : Value} {xs : List Value} {cs : Array Value} (h : W.ownsRow B e sz v n xs) (z : W.heap[p]? = some (.cells cs t (0, 0))) (ne : e ≠ t) (o : Only W W' (fun k => k = p)) : W'.ownsRow B e sz v n xs := by
 refine ⟨h.1, ?_⟩
 rcases h.2 with h1 | ⟨g, cap, cur, hv, hb, hg, rest⟩
 · exact Or.inl h1
 · refine Or.inr ⟨g, cap, cur, hv, hb, o.cellK hg (fun e2 => ?_), rest⟩
   subst e2
   rw [z] at hg
   injection hg with hg
   injection hg with _ h2 _
   exact ne h2.symm
theorem one_cells {W : World} {v : Value} {t : TypeId} {p : Nat} (z : W.heap[p]? = some (.cells #[v] t (0, 0))) : ∀ (j : Nat) (u : Value), [v][j]? = some u → W.cell? ((⟨p, 0, none⟩ : Addr).add j) = some u := fun j u hu => by
 cases j with
 | zero =>
  obtain rfl : v = u := by simpa using hu
  rw [Addr.add_lit]
  exact cell_of z rfl
 | succ j => simp at hu
theorem wpList_appI {ops : Array Oper} {rest : List Oper} {o : Oper} {a : Act} {Q : Exit → Act → World → Prop} {w : World} (hgd : o.guard = none) (s x : Operand)
 (ho : o.op = .call { callee := .builtin .append, args := #[s, x], argTypes := #[22, 22] }) (B : Nat) (v : Value) (X : List Int) (hs : a.eval s = v) (hown : w.ownsRow B 3 1 v X.length (X.map (Value.int .i64))) (p : Nat) (y : Int) (hx : a.eval x = .slice (some ⟨p, 0, none⟩) 1 1) (hp : w.heap[p]? = some (.cells #[.int .i64 y] 3 (0, 0))) (hl : X.length ≤ 16777216) (w0 : World) (D : Below B w0 w) (hB : B ≤ w0.heap.size)
 (h : ∀ v' w', Hid (w'.ownsRow B 3 1 v' (X ++ [y]).length ((X ++ [y]).map (Value.int .i64))) → Hid (Below B w0 w') → wpList Tryz.prog ops Q rest (a.put o.dst v') w') : wpList Tryz.prog ops Q (o :: rest) a w := by
 obtain ⟨i3, hi3, hz30, hz31, hz32⟩ := info_parts info3
 have hs0 := D.size
 refine wpList_append_own_at _ hgd s x 22 ho B 3 i3 _ 1 8 Tryz.underlying22 hi3 hz30 hz31 hz32 rfl (by omega) v X.length (X.map (Value.int .i64)) hs hown ⟨p, 0, none⟩ 1 1 [.int .i64 y] hx rfl (one_cells hp) (by simp [Value.oneCell']) (by unfold maxLen; omega) (by omega) (by omega) ?_
 intro v2 w2 h2 hgr _ _
 have hb := hown.lt
 exact h v2 w2 (hide (by rw [List.map_append, List.length_append]; exact h2)) (hide (D.grown hgr (by omega) (fun k hk => (hb k hk).1)))
def stepW (n : Int) (s : Bool × List Int) (x : Int) : Bool × List Int :=
 let t : Bool × List Int := if s.1 = false ∧ n ≤ x then (true, s.2 ++ [n]) else s
 if x = n then t else (t.1, t.2 ++ [x])
def wS (n : Int) (L : List Int) : Bool × List Int := L.foldl (stepW n) (false, [])
def withF (L : List Int) (n : Int) : List Int := if (wS n L).1 then (wS n L).2 else (wS n L).2 ++ [n]
theorem wS_take {n : Int} {L : List Int} {i : Nat} (h : i < L.length) : wS n (L.take (i + 1)) = stepW n (wS n (L.take i)) L[i] := by
 unfold wS
 rw [List.take_succ_eq_append_getElem h, List.foldl_append]
 rfl
theorem stepW_len (n : Int) (s : Bool × List Int) (x : Int) : (stepW n s x).2.length ≤ s.2.length + 2 := by
 unfold stepW
 simp only
 split <;> split <;> simp <;> omega
theorem foldW_len (n : Int) : ∀ (L : List Int) (s : Bool × List Int), (L.foldl (stepW n) s).2.length ≤ s.2.length + 2 * L.length
 | [], s => by simp
 | x :: L, s => by
  have h1 := stepW_len n s x
  have h2 := foldW_len n L (stepW n s x)
  simp only [List.foldl_cons, List.length_cons]
  omega
theorem wS_len (n : Int) (L : List Int) (i : Nat) : (wS n (L.take i)).2.length ≤ 2 * L.length := by
 have h := foldW_len n (L.take i) (false, [])
 have h2 : (L.take i).length ≤ L.length := by rw [List.length_take]; omega
 unfold wS
 simp only [List.length_nil] at h
 omega
theorem with_any (w : World) (ao : Option Addr) (L : List Int) (cp : Nat) (n : Int) (hr : Hid (RdN w ao L)) (hl : L.length ≤ 4194304) :
 Calls Tryz.prog 79 #[.slice ao L.length cp, .int .i64 n] w fun e w' => ∃ b c, e = .returned (.slice b (withF L n).length c) ∧ Hid (w'.ownsRow w.heap.size 3 1 (.slice b (withF L n).length c) (withF L n).length ((withF L n).map (Value.int .i64))) ∧ Below w.heap.size w w' := by
 go_enter Tryz.func79, Tryz.ntmps79
 go_wp2
 go_loopw [5, 6, 7] (fun ov pv iv wr => ∃ i : Nat, i ≤ L.length ∧ pv = .bool (wS n (L.take i)).1 ∧ iv = .int .i64 i ∧ Hid (wr.ownsRow w.heap.size 3 1 ov (wS n (L.take i)).2.length ((wS n (L.take i)).2.map (Value.int .i64)) ∧ Below w.heap.size w wr)) (fun _ _ iv _ => L.length - (intOf iv).toNat)
 case atStart => exact ⟨0, Nat.zero_le _, rfl, rfl, hide ⟨World.ownsRow_nil _ _ _ _, Below.refl _ _⟩⟩
 case round =>
  obtain ⟨i, hi, rfl, rfl, HY⟩ := hrel
  by_cases hlt : i < L.length
  · have i0 : (i : Int) < (L.length : Int) := by omega
    have i1 : (0 : Int) ≤ (i : Int) := by omega
    have iw : IntKind.i64.wrap ((i : Int) + 1) = (i : Int) + 1 := by rw [IntKind.wrap_i64]; omega
    have HLn : Hid ((wS n (L.take i)).2.length ≤ 8388608) := hide (by have := wS_len n L i; omega)
    obtain ⟨g, o, hao, q0⟩ := hr.out i hlt
    subst hao
    have QC0 : Hid (∀ w2, Below w.heap.size w w2 → w2.cell? ⟨g, o + i, none⟩ = some (.int .i64 L[i])) := hide (fun w2 d => (d.cell (p := ⟨g, o + i, none⟩) (World.block_lt_of_cell? w _ q0)).trans q0)
    have q := QC0.out wr HY.out.2
    clear q0
    have HS := hide (wS_take (n := n) hlt)
    generalize L[i] = x at q HS QC0
    generalize wS n (L.take i) = s at HY HS HLn ⊢
    obtain ⟨p, X⟩ := s
    simp only at HY HLn ⊢
    have NX : Hid (∀ (p2 : Bool) (X2 : List Int) (v2 : Value) (w2 : World), stepW n (p, X) x = (p2, X2) → w2.ownsRow w.heap.size 3 1 v2 X2.length (X2.map (Value.int .i64)) → Below w.heap.size w w2 → ∃ j : Nat, j ≤ L.length ∧ Value.bool p2 = .bool (wS n (L.take j)).1 ∧ Value.int .i64 ((i : Int) + 1) = .int .i64 j ∧ Hid (w2.ownsRow w.heap.size 3 1 v2 (wS n (L.take j)).2.length ((wS n (L.take j)).2.map (Value.int .i64)) ∧ Below w.heap.size w w2)) := hide (fun p2 X2 v2 w2 e o d => ⟨i + 1, by omega, by rw [HS.out, e], by simp, hide ⟨by rw [HS.out, e]; exact o, d⟩⟩)
    have QC := QC0
    cases p with
    | false =>
     by_cases hge : n ≤ x
     · by_cases he : x = n
       · have b0 : (x != n) = false := by simpa using he
         have HN := hide (show stepW n (false, X) x = (true, X ++ [n]) by simp [stepW, he])
         clear he
         go_wp2_with (at_builtin; refine wpList_appI rfl _ _ rfl w.heap.size u5 X rfl (own_below HY.out.1 ((Below.refl _ _).alloc (Nat.le_refl _) _)) wr.heap.size n rfl (World.alloc_heap_new _ _) (by have := HLn.out; (try simp only [List.length_append, List.length_cons, List.length_nil]); omega) w (HY.out.2.alloc HY.out.2.size _) (Nat.le_refl _) ?_; intro v2 w2 HO2 HD2; have q2 := QC.out w2 HD2.out)
         go_roundw
         case rel => exact NX.out _ _ _ _ HN.out HO2.out HD2.out
         case measure => simp [intOf]; omega
       · have b0 : (x != n) = true := by simpa using he
         have HN := hide (show stepW n (false, X) x = (true, X ++ [n] ++ [x]) by simp [stepW, hge, he])
         clear he
         go_wp2_with (first
          | (at_builtin; refine wpList_appI rfl _ _ rfl w.heap.size u5 X rfl (own_below HY.out.1 ((Below.refl _ _).alloc (Nat.le_refl _) _)) wr.heap.size n rfl (World.alloc_heap_new _ _) (by have := HLn.out; (try simp only [List.length_append, List.length_cons, List.length_nil]); omega) w (HY.out.2.alloc HY.out.2.size _) (Nat.le_refl _) ?_; intro v2 w2 HO2 HD2; have q2 := QC.out w2 HD2.out)
          | (at_builtin; refine wpList_appI rfl _ _ rfl w.heap.size v2 (X ++ [n]) rfl (own_below HO2.out ((Below.refl _ _).alloc (Nat.le_refl _) _)) w2.heap.size x rfl (World.alloc_heap_new _ _) (by have := HLn.out; (try simp only [List.length_append, List.length_cons, List.length_nil]); omega) w (HD2.out.alloc HD2.out.size _) (Nat.le_refl _) ?_; intro v3 w3 HO3 HD3))
         go_roundw
         case rel => exact NX.out _ _ _ _ HN.out HO3.out HD3.out
         case measure => simp [intOf]; omega
     · have he : ¬ x = n := by omega
       have b0 : (x != n) = true := by simpa using he
       have HN := hide (show stepW n (false, X) x = (false, X ++ [x]) by simp [stepW, hge, he])
       clear he
       go_wp2_with (at_builtin; refine wpList_appI rfl _ _ rfl w.heap.size u5 X rfl (own_below HY.out.1 ((Below.refl _ _).alloc (Nat.le_refl _) _)) wr.heap.size x rfl (World.alloc_heap_new _ _) (by have := HLn.out; (try simp only [List.length_append, List.length_cons, List.length_nil]); omega) w (HY.out.2.alloc HY.out.2.size _) (Nat.le_refl _) ?_; intro v2 w2 HO2 HD2)
       go_roundw
       case rel => exact NX.out _ _ _ _ HN.out HO2.out HD2.out
       case measure => simp [intOf]; omega
    | true =>
     by_cases he : x = n
     · have b0 : (x != n) = false := by simpa using he
       have HN := hide (show stepW n (true, X) x = (true, X) by simp [stepW, he])
       clear he
       go_wp2_with fail
       go_roundw
       case rel => exact NX.out _ _ _ _ HN.out HY.out.1 HY.out.2
       case measure => simp [intOf]; omega
     · have b0 : (x != n) = true := by simpa using he
       have HN := hide (show stepW n (true, X) x = (true, X ++ [x]) by simp [stepW, he])
       clear he
       go_wp2_with (at_builtin; refine wpList_appI rfl _ _ rfl w.heap.size u5 X rfl (own_below HY.out.1 ((Below.refl _ _).alloc (Nat.le_refl _) _)) wr.heap.size x rfl (World.alloc_heap_new _ _) (by have := HLn.out; (try simp only [List.length_append, List.length_cons, List.length_nil]); omega) w (HY.out.2.alloc HY.out.2.size _) (Nat.le_refl _) ?_; intro v2 w2 HO2 HD2)
       go_roundw
       case rel => exact NX.out _ _ _ _ HN.out HO2.out HD2.out
       case measure => simp [intOf]; omega
  · have i0 : ¬ (i : Int) < (L.length : Int) := by omega
    have etk : L.take i = L := List.take_of_length_le (by omega)
    have HLn : Hid ((wS n (L.take i)).2.length ≤ 8388608) := hide (by have := wS_len n L i; omega)
    rw [etk] at HY HLn ⊢
    have HF : Hid (withF L n = if (wS n L).1 then (wS n L).2 else (wS n L).2 ++ [n]) := hide rfl
    generalize wS n L = s at HY HF HLn ⊢
    obtain ⟨p, X⟩ := s
    simp only at HY HF HLn ⊢
    cases p with
    | false =>
     go_wp2_with (at_builtin; refine wpList_appI rfl _ _ rfl w.heap.size u5 X rfl (own_below HY.out.1 ((Below.refl _ _).alloc (Nat.le_refl _) _)) wr.heap.size n rfl (World.alloc_heap_new _ _) (by have := HLn.out; (try simp only [List.length_append, List.length_cons, List.length_nil]); omega) w (HY.out.2.alloc HY.out.2.size _) (Nat.le_refl _) ?_; intro v2 w2 HO2 HD2; have HF2 := HF.out; simp only [Bool.false_eq_true, if_false] at HF2; obtain ⟨b, c, hv⟩ := own_slice HO2.out; subst hv; have HF3 := hide HF2; clear HF2)
     refine bodyPost_ret (results_tmp rfl _ _ _) rfl ?_
     exact ⟨b, c, by rw [HF3.out, List.length_append]; rfl, by rw [HF3.out]; exact HO2, HD2.out⟩
    | true =>
     have HF2 := HF.out
     simp only [if_true] at HF2
     have HF3 := hide HF2
     clear HF2
     obtain ⟨b, c, hv⟩ := own_slice HY.out.1
     subst hv
     go_wp2_with fail
     refine bodyPost_ret (results_tmp rfl _ _ _) rfl ?_
     exact ⟨b, c, by rw [HF3.out]; rfl, by rw [HF3.out]; exact hide HY.out.1, HY.out.2⟩
theorem foldW_put (n : Int) : ∀ (X O : List Int), X.foldl (stepW n) (true, O) = (true, O ++ X.filter (fun x => decide (x ≠ n)))
 | [], O => by simp
 | x :: X, O => by
  rw [List.foldl_cons]
  by_cases h : x = n
  · rw [show stepW n (true, O) x = (true, O) by simp [stepW, h], foldW_put n X O]
    simp [h]
  · rw [show stepW n (true, O) x = (true, O ++ [x]) by simp [stepW, h], foldW_put n X (O ++ [x])]
    simp [h]
theorem foldW_up (n : Int) : ∀ (X O : List Int), X.Pairwise (· < ·) → (if (X.foldl (stepW n) (false, O)).1 then (X.foldl (stepW n) (false, O)).2 else (X.foldl (stepW n) (false, O)).2 ++ [n]) = O ++ X.filter (fun x => decide (x < n)) ++ [n] ++ X.filter (fun x => decide (n < x))
 | [], O, _ => by simp
 | x :: X, O, h => by
  rw [List.pairwise_cons] at h
  rw [List.foldl_cons]
  by_cases hx : x < n
  · rw [show stepW n (false, O) x = (false, O ++ [x]) by simp [stepW, show ¬ n ≤ x by omega, show ¬ x = n by omega], foldW_up n X (O ++ [x]) h.2]
    simp [hx, show ¬ n < x by omega]
  · have hgt : ∀ y ∈ X, n < y := fun y hy => by have := h.1 y hy; omega
    have f1 : X.filter (fun x => decide (x < n)) = [] := List.filter_eq_nil_iff.2 fun y hy => by have := hgt y hy; simp; omega
    have f2 : X.filter (fun x => decide (n < x)) = X := List.filter_eq_self.2 fun y hy => by simpa using hgt y hy
    have f3 : X.filter (fun x => decide (x ≠ n)) = X := List.filter_eq_self.2 fun y hy => by have := hgt y hy; simp; omega
    by_cases he : x = n
    · rw [show stepW n (false, O) x = (true, O ++ [n]) by simp [stepW, he], foldW_put, f3]
      simp [f1, f2, he]
    · rw [show stepW n (false, O) x = (true, O ++ [n] ++ [x]) by simp [stepW, he, show n ≤ x by omega], foldW_put, f3]
      simp [f1, f2, hx, show n < x by omega]
theorem with_up {X : List Int} (n : Int) (h : X.Pairwise (· < ·)) : withF X n = X.filter (fun x => decide (x < n)) ++ [n] ++ X.filter (fun x => decide (n < x)) := by
 unfold withF wS
 rw [foldW_up n X [] h, List.nil_append]
theorem rise_nil : riseL [] = [] := List.eq_nil_of_length_eq_zero (Nat.le_zero.1 (riseL_len []))
theorem with_rise (A : List Int) (n : Int) : withF (riseL A) n = riseL (A ++ [n]) := by
 have hs := riseL_ss A
 refine ssL_eq _ _ ?_ (riseL_ss _) fun x => ?_
 · rw [with_up n hs, List.append_assoc, List.pairwise_append]
   refine ⟨hs.filter _, ?_, ?_⟩
   · rw [List.singleton_append, List.pairwise_cons]
     exact ⟨fun y hy => by simpa using (List.mem_filter.1 hy).2, hs.filter _⟩
   · intro a ha b hb
     have h1 : a < n := by simpa using (List.mem_filter.1 ha).2
     rw [List.singleton_append, List.mem_cons] at hb
     rcases hb with rfl | hb
     · exact h1
     · have h2 : n < b := by simpa using (List.mem_filter.1 hb).2
       omega
 · rw [with_up n hs, riseL_iff]
   simp only [List.mem_append, List.mem_filter, List.mem_singleton, decide_eq_true_eq, riseL_iff]
   constructor
   · rintro ((⟨h, _⟩ | h) | ⟨h, _⟩)
     · exact Or.inl h
     · exact Or.inr h
     · exact Or.inl h
   · rintro (h | h)
     · rcases Int.lt_trichotomy x n with h1 | h1 | h1
       · exact Or.inl (Or.inl ⟨h, h1⟩)
       · exact Or.inl (Or.inr h1)
       · exact Or.inr ⟨h, h1⟩
     · exact Or.inl (Or.inr h)
theorem set_any (w : World) (ao : Option Addr) (L : List Int) (cp : Nat) (hr : Hid (RdN w ao L)) (hl : L.length ≤ 4194304) :
 Calls Tryz.prog 44 #[.slice ao L.length cp] w fun e w' => ∃ b c, e = .returned (.slice b (riseL L).length c) ∧ Hid (w'.ownsRow w.heap.size 3 1 (.slice b (riseL L).length c) (riseL L).length ((riseL L).map (Value.int .i64))) ∧ Below w.heap.size w w' := by
 go_enter Tryz.func44, Tryz.ntmps44
 go_wp2
 go_loopw [3, 4] (fun ov iv wr => ∃ i b c, i ≤ L.length ∧ ov = .slice b (riseL (L.take i)).length c ∧ iv = .int .i64 (i : Nat) ∧ Hid (wr.ownsRow w.heap.size 3 1 (.slice b (riseL (L.take i)).length c) (riseL (L.take i)).length ((riseL (L.take i)).map (Value.int .i64)) ∧ Below w.heap.size w wr)) (fun _ iv _ => L.length - (intOf iv).toNat)
 case atStart => exact ⟨0, none, 0, Nat.zero_le _, by rw [List.take_zero, rise_nil]; rfl, rfl, hide ⟨by rw [List.take_zero, rise_nil]; exact World.ownsRow_nil _ _ _ _, Below.refl _ _⟩⟩
 case round =>
  obtain ⟨i, b, c, hi, rfl, rfl, HY⟩ := hrel
  by_cases hlt : i < L.length
  · have i0 : (i : Int) < (L.length : Int) := by omega
    have i1 : (0 : Int) ≤ (i : Int) := by omega
    have iw : IntKind.i64.wrap ((i : Int) + 1) = (i : Int) + 1 := by rw [IntKind.wrap_i64]; omega
    obtain ⟨g, o, hao, q⟩ := (hr.out.on HY.out.2) i hlt
    subst hao
    have hlen : (riseL (L.take i)).length ≤ 4194304 := Nat.le_trans (riseL_len _) (by rw [List.length_take]; omega)
    have T := with_any wr b (riseL (L.take i)) c L[i] (hide (own_rdN HY.out.1)) hlen
    rw [with_rise, ← List.take_succ_eq_append_getElem hlt] at T
    generalize L[i] = x at q T
    generalize riseL (L.take i) = X at HY T ⊢
    clear hlen
    obtain ⟨Y, hY⟩ : ∃ Y, riseL (L.take (i + 1)) = Y := ⟨_, rfl⟩
    rw [hY] at T
    have HE := hide hY
    clear hY
    go_wp2_with (go_at_call 79; refine T.mono ?_; rintro e w2 ⟨b2, c2, rfl, HR, d2⟩; have HD := hide (HY.out.2.trans (d2.mono HY.out.2.size)); have HR2 := hide (owns_down HR.out HY.out.2.size); clear d2 HR)
    go_roundw
    case rel => exact ⟨i + 1, b2, c2, by omega, by rw [HE.out], by go_num, hide ⟨by rw [HE.out]; exact HR2.out, HD.out⟩⟩
    case measure => simp [intOf]; omega
  · have i0 : ¬ (i : Int) < (L.length : Int) := by omega
    have etk : L.take i = L := List.take_of_length_le (by omega)
    rw [etk] at HY ⊢
    go_wp2_with fail
    refine bodyPost_ret (results_tmp rfl _ _ _) rfl ?_
    exact ⟨b, c, rfl, hide HY.out.1, HY.out.2⟩
theorem kE_less (m : Nat) (L : List EdT) (c : Nat) : lessC (kE m L) c = (L.filter fun e => decide (e.1 * (m : Int) + e.2.1 < (c : Int))).length := by
 unfold lessC kE
 rw [List.filter_map, List.length_map]
 rfl
theorem key_up {m : Nat} {a b : EdT} (h : ltE a b = true) (ha : a.2.1 < (m : Int)) (hb : 0 ≤ b.2.1) : a.1 * (m : Int) + a.2.1 ≤ b.1 * (m : Int) + b.2.1 := by
 rw [ltE_iff] at h
 by_cases e : a.1 = b.1
 · rw [e]
   omega
 · have h2 : a.1 + 1 ≤ b.1 := by omega
   have h3 := Int.mul_le_mul_of_nonneg_right h2 (show (0 : Int) ≤ (m : Int) by omega)
   rw [Int.add_mul, Int.one_mul] at h3
   omega
theorem key_at {m : Nat} {Ed : List EdT} (hS : SsE Ed) (hF : ∀ e ∈ Ed, 0 ≤ e.2.1 ∧ e.2.1 < (m : Int)) (c i : Nat) (h : i < Ed.length) : Ed[i].1 * (m : Int) + Ed[i].2.1 < (c : Int) ↔ i < lessC (kE m Ed) c := by
 have := pre_count (fun e : EdT => decide (e.1 * (m : Int) + e.2.1 < (c : Int))) Ed (List.Pairwise.imp_of_mem (fun {a b} ha hb hab hc => by
  rw [decide_eq_true_eq] at hc ⊢
  have := key_up (m := m) hab (hF a ha).2 (hF b hb).1
  omega) hS) i h
 rw [kE_less, ← this, decide_eq_true_eq]
theorem key_one {m : Nat} {x1 x2 p s : Int} (hx : 0 ≤ x2 ∧ x2 < (m : Int)) (hs : 0 ≤ s ∧ s < (m : Int)) (h : x1 * (m : Int) + x2 = p * (m : Int) + s) : x1 = p ∧ x2 = s := by
 have m0 : (0 : Int) ≤ (m : Int) := by omega
 by_cases e : x1 = p
 · subst e
   exact ⟨rfl, by omega⟩
 · exfalso
   rcases Int.lt_or_gt_of_ne e with q | q
   · have h3 := Int.mul_le_mul_of_nonneg_right (show x1 + 1 ≤ p by omega) m0
     rw [Int.add_mul, Int.one_mul] at h3
     omega
   · have h3 := Int.mul_le_mul_of_nonneg_right (show p + 1 ≤ x1 by omega) m0
     rw [Int.add_mul, Int.one_mul] at h3
     omega
theorem row_eq {m p s k : Nat} {Ed : List EdT} (hS : SsE Ed) (hF : ∀ e ∈ Ed, 0 ≤ e.2.1 ∧ e.2.1 < (m : Int)) (hs : s < m) (hk : p * m + s = k) : subL Ed (lessC (kE m Ed) k) (lessC (kE m Ed) (k + 1)) = fromL Ed p (s : Int) := by
 have ek : (k : Int) = (p : Int) * (m : Int) + (s : Int) := by rw [← hk]; simp
 have le : lessC (kE m Ed) (k + 1) ≤ Ed.length := Nat.le_trans (lessC_le _ _) (Nat.le_of_eq (kE_len _ _))
 refine ss_eq _ _ (subL_ss hS _ _) (fromL_ss hS _ _) fun x => ⟨fun hx => ?_, fun hx => ?_⟩
 · obtain ⟨t, ht, rfl⟩ := List.getElem_of_mem hx
   obtain ⟨h2, e⟩ := subL_get t ht
   rw [subL_len le] at ht
   have a1 := key_at hS hF k _ h2
   have a2 := key_at hS hF (k + 1) _ h2
   have b1 : ¬ Ed[lessC (kE m Ed) k + t].1 * (m : Int) + Ed[lessC (kE m Ed) k + t].2.1 < (k : Int) := fun q => by have := a1.1 q; omega
   have b2 := a2.2 (by omega)
   have hm := List.getElem_mem h2
   rw [e, fromL_iff]
   exact ⟨hm, key_one (hF _ hm) ⟨by omega, by omega⟩ (by omega)⟩
 · rw [fromL_iff] at hx
   obtain ⟨hx, h1, h2⟩ := hx
   obtain ⟨i, hi, rfl⟩ := List.getElem_of_mem hx
   have a1 := key_at hS hF k i hi
   have a2 := key_at hS hF (k + 1) i hi
   rw [h1, h2] at a1 a2
   have b1 : lessC (kE m Ed) k ≤ i := Nat.le_of_not_lt fun q => by have := a1.2 q; omega
   have b2 := a2.1 (by omega)
   obtain ⟨t, rfl⟩ : ∃ t, i = lessC (kE m Ed) k + t := ⟨i - lessC (kE m Ed) k, by omega⟩
   have ht : t < (subL Ed (lessC (kE m Ed) k) (lessC (kE m Ed) (k + 1))).length := by rw [subL_len le]; omega
   obtain ⟨h3, e⟩ := subL_get t ht
   rw [← e]
   exact List.getElem_mem ht
theorem toL_len (L : List EdT) : (toL L).length = L.length := by simp [toL]
theorem toL_rd {w : World} {g o : Nat} {Ed : List EdT} (h : RdN w (some ⟨g, o, none⟩) (toL Ed)) (lo hi : Nat) : RdN w (some ⟨g, o + lo, none⟩) (toL (subL Ed lo hi)) := fun j hj => by
 have hj' : j < (subL Ed lo hi).length := by rw [toL_len] at hj; exact hj
 obtain ⟨h2, e⟩ := subL_get j hj'
 obtain ⟨g', o', he, q⟩ := h (lo + j) (by rw [toL_len]; exact h2)
 cases he
 refine ⟨g, o + lo, rfl, ?_⟩
 have e1 : (toL Ed)[lo + j]'(by rw [toL_len]; exact h2) = Ed[lo + j].2.2 := by simp [toL]
 have e2 : (toL (subL Ed lo hi))[j] = (subL Ed lo hi)[j].2.2 := by simp [toL]
 rw [show o + lo + j = o + (lo + j) by omega, q, e2, e, e1]
theorem row_cap {W : World} {B n c sz : Nat} {e : TypeId} {b : Option Addr} {xs : List Value} (h : W.ownsRow B e sz (.slice b n c) n xs) : (b = none ∧ n = 0 ∧ c = 0) ∨ ∃ g, b = some ⟨g, 0, none⟩ ∧ n ≤ c ∧ B ≤ g := by
 rcases h.2 with ⟨hv, hn⟩ | ⟨g', cap', cur', hv, hb, _, hc, _⟩
 · cases hv
   exact .inl ⟨rfl, rfl, rfl⟩
 · cases hv
   exact .inr ⟨g', rfl, hc, hb⟩
theorem of_any (w : World) (B m R p s n k : Nat) (aE : Option Addr) (cE g : Nat) (Ed : List EdT) (hn : Ed.length = n) (hA : Hid (RwA B w m R Ed aE n cE g)) (hS : Hid (SsE Ed)) (hF : Hid (∀ e ∈ Ed, 0 ≤ e.2.1 ∧ e.2.1 < (m : Int))) (hs : s < m) (hk : p * m + s = k) (hkR : k < R) (hR : R ≤ 524288) (hl : n ≤ 4194304) :
 Calls Tryz.prog 96 #[.agg #[.int .i64 (m : Int), .slice aE n cE, .slice (some ⟨g, 0, none⟩) (R + 1) (R + 1)], .int .i64 (p : Int), .int .i64 (s : Int)] w fun e w' => ∃ a c, e = .returned (.slice a (fromL Ed p (s : Int)).length c) ∧ Hid (RdN w a (toL (fromL Ed p (s : Int))) ∧ (fromL Ed p (s : Int)).length ≤ c ∧ Below w.heap.size w w') := by
 obtain ⟨W0, hW0⟩ : ∃ W0, w.alloc (.cells #[.int .i64 (m : Int), .slice aE n cE, .slice (some ⟨g, 0, none⟩) (R + 1) (R + 1)] 93) = W0 := ⟨_, rfl⟩
 have HD : Hid (Below w.heap.size w W0) := hide (by rw [← hW0]; exact (Below.refl _ _).alloc (Nat.le_refl _) _)
 have b0 : W0.heap[w.heap.size]? = some (.cells #[.int .i64 (m : Int), .slice aE n cE, .slice (some ⟨g, 0, none⟩) (R + 1) (R + 1)] 93 (0, 0)) := by rw [← hW0]; exact World.alloc_heap_new _ _
 obtain ⟨k0, k1, k2⟩ := zd3 b0 rfl rfl rfl
 have HM := hide (hA.out.fi.below HD.out hA.out.fi.lt)
 have r0 := HM.out.at k (by omega)
 have r1 := HM.out.at (k + 1) (by omega)
 have u0 := lessC_le (kE m Ed) k
 have u1 := lessC_le (kE m Ed) (k + 1)
 have u2 : lessC (kE m Ed) k ≤ lessC (kE m Ed) (k + 1) := by rw [lessC_succ]; omega
 rw [kE_len, hn] at u0 u1
 have HL := hide (subL_len (Es := Ed) (lo := lessC (kE m Ed) k) (hi := lessC (kE m Ed) (k + 1)) (by rw [hn]; exact u1))
 have HC := hide (row_cap hA.out.ow)
 have HO : Hid (RdN w aE (toL Ed)) := hide (own_rdN (c := cE) (by rw [toL_len, hn]; exact hA.out.ow))
 have HR : Hid (∀ g', aE = some ⟨g', 0, none⟩ → RdN w (some ⟨g', lessC (kE m Ed) k, none⟩) (toL (subL Ed (lessC (kE m Ed) k) (lessC (kE m Ed) (k + 1))))) := hide (fun g' e => by
  have q := HO.out
  rw [e] at q
  have q2 := toL_rd q (lessC (kE m Ed) k) (lessC (kE m Ed) (k + 1))
  rw [Nat.zero_add] at q2
  exact q2)
 rw [row_eq hS.out hF.out hs hk] at HL HR
 generalize fromL Ed p (s : Int) = F at HL HR ⊢
 generalize lessC (kE m Ed) k = lo at *
 generalize lessC (kE m Ed) (k + 1) = hi at *
 have epm : (p : Int) * (m : Int) = ((p * m : Nat) : Int) := by simp
 have e1 : IntKind.i64.wrap ((p : Int) * (m : Int)) = (p : Int) * (m : Int) := by rw [epm, IntKind.wrap_i64]; omega
 have e2 : IntKind.i64.wrap ((p : Int) * (m : Int) + (s : Int)) = (k : Int) := by rw [epm, IntKind.wrap_i64]; omega
 have e3 : IntKind.i64.wrap ((k : Int) + 1) = (k : Int) + 1 := by rw [IntKind.wrap_i64]; omega
 have v0 : (0 : Int) ≤ (k : Int) := by omega
 have v1 : (k : Int) < (R : Int) + 1 := by omega
 have v2 : (k : Int) + 1 < (R : Int) + 1 := by omega
 have v3 : (lo : Int) ≤ (hi : Int) := by omega
 have v5 : (k : Int) ≤ 524288 := by omega
 have v6 : (0 : Int) ≤ (lo : Int) := by omega
 clear b0 hA hS hF HO HM epm hk hn
 rcases HC.out with ⟨rfl, rfl, rfl⟩ | ⟨gE, rfl, hc, -⟩
 · obtain rfl : lo = 0 := by omega
   obtain rfl : hi = 0 := by omega
   have hn : F = [] := List.eq_nil_of_length_eq_zero (by have := HL.out; omega)
   subst hn
   clear HR HL HC u0 u1 u2
   go_enter Tryz.func96, Tryz.ntmps96
   go_upto_region 2 with fail
   refine wp_region_phase 13 #[true, true, true, true, true, true, true, true, true, true, true, true, true, false, false] (by kernel_rfl) (by kernel_rfl) ?_
   simp only [List.take_succ_cons, List.take_zero, List.drop_succ_cons, List.drop_zero]
   repeat (go_big_quiet_step (fail))
   refine wpQuiet_nil ?_
   intro wz hzz
   obtain ⟨nq, rfl⟩ := hzz
   go_wp2_with fail
   refine bodyPost_ret (results_tmp rfl _ _ _) rfl ?_
   exact ⟨none, 0, rfl, hide ⟨fun j hj => absurd hj (Nat.not_lt_zero _), Nat.le_refl _, below_drewN2 HD.out nq⟩⟩
 · have v4 : (hi : Int) ≤ (cE : Int) := by omega
   have HR2 := hide (HR.out gE rfl)
   clear HR HC
   go_enter Tryz.func96, Tryz.ntmps96
   go_upto_region 2 with fail
   refine wp_region_phase 13 #[true, true, true, true, true, true, true, true, true, true, true, true, true, false, false] (by kernel_rfl) (by kernel_rfl) ?_
   simp only [List.take_succ_cons, List.take_zero, List.drop_succ_cons, List.drop_zero]
   repeat (go_big_quiet_step (fail))
   refine wpQuiet_nil ?_
   intro wz hzz
   obtain ⟨nq, rfl⟩ := hzz
   go_wp2_with fail
   · rename cE = lo => hkl
     subst hkl
     refine bodyPost_ret (results_tmp rfl _ _ _) rfl ?_
     have hn : F = [] := List.eq_nil_of_length_eq_zero (by have := HL.out; omega)
     refine ⟨some ⟨gE, 0, none⟩, 0, by rw [HL.out]; rfl, hide ⟨by rw [hn]; intro j hj; exact absurd hj (Nat.not_lt_zero _), by rw [hn]; exact Nat.le_refl _, below_drewN2 HD.out nq⟩⟩
   · refine bodyPost_ret (results_tmp rfl _ _ _) rfl ?_
     exact ⟨some ⟨gE, lo, none⟩, cE - lo, by rw [HL.out]; rfl, hide ⟨HR2.out, by rw [HL.out]; omega, below_drewN2 HD.out nq⟩⟩
end Go.Proofs.YtchoopnjckcohaaGreatDoor
namespace Go.Proofs
open Go.Shelf Go.RowKit Go.Lib Go.Sort
open Go.Sort Go.RowKit in
end Go.Proofs
namespace Go.Proofs.YtchoopnjckcohaaGreatDoor
open Go.RowKit Go.Maps Go.Sort Go.Proofs
theorem sort_own (W : World) (B n : Nat) (v : Value) (L : List Int) (hn : n = L.length) (hv : W.ownsRow B 3 1 v n (L.map (Value.int .i64))) (hl : n ≤ 4194304) :
 Calls Tryz.prog 148 #[v] W fun e w' => e = .returned (.tuple #[]) ∧ w'.ownsRow B 3 1 v n ((sortI L).map (Value.int .i64)) ∧ W.grownBy w' v.ownBlock := by
 rcases hv.2 with ⟨ev, e0⟩ | ⟨g, cap, cur, rfl, hB, hb, h1, h2, h3, h4⟩
 · subst ev e0
   obtain rfl : L = [] := List.eq_nil_of_length_eq_zero hn.symm
   refine (Tryz.slices_Sort_int_none none 0 W).mono ?_
   rintro e w' ⟨rfl, rfl⟩
   exact ⟨rfl, by rw [show sortI [] = [] from List.mergeSort_nil]; exact hv, rfl, rfl, rfl, Nat.le_refl _, fun _ _ _ => rfl⟩
 · subst hn
   rw [Nat.mul_one] at h4
   refine (Tryz.slices_Sort_int g 0 cap L W (holds_of_blockI hb h4) (Array.getElem?_eq_some_iff.1 hb).1 (by omega)).mono ?_
   rintro e w' ⟨rfl, k, os, rfl⟩
   exact ⟨rfl, ownsRow_sortedI (ts := sortI L) (ss := L) (sortI_len L) hB hb h1 h2 h3, grownBy_sortedI _⟩
theorem compact_own (W : World) (B n : Nat) (v : Value) (L : List Int) (hn : n = L.length) (hv : W.ownsRow B 3 1 v n (L.map (Value.int .i64))) (hl : n ≤ 4194304) :
 Calls Tryz.prog 149 #[v] W fun e w' => ∃ v', e = .returned v' ∧ w'.ownsRow B 3 1 v' (Lib.compact L).length ((Lib.compact L).map (Value.int .i64)) ∧ W.grownBy w' v.ownBlock ∧ v'.ownBlock = v.ownBlock := by
 rcases hv.2 with ⟨ev, e0⟩ | ⟨g, cap, cur, rfl, _⟩
 · subst ev e0
   obtain rfl : L = [] := List.eq_nil_of_length_eq_zero hn.symm
   refine (Tryz.slices_Compact_int_empty none 0 W).mono ?_
   rintro e w' ⟨rfl, rfl⟩
   have : Lib.compact ([] : List Int) = [] := List.eq_nil_of_length_eq_zero (Nat.le_zero.1 (compact_len _))
   rw [this]
   exact ⟨_, rfl, hv, ⟨rfl, rfl, rfl, Nat.le_refl _, fun _ _ _ => rfl⟩, rfl⟩
 · refine (compactI_any W B g cap n L hn hv hl).mono ?_
   rintro e w' ⟨rfl, a, b⟩
   exact ⟨_, rfl, a, b, rfl⟩
theorem clone_own (w : World) (ao : Option Addr) (n c : Nat) (L : List Int) (hn : L.length = n) (hA : Hid (RdN w ao L)) (hl : n ≤ 4194304) :
 Calls Tryz.prog 62 #[.slice ao n c] w fun e w' => ∃ v', e = .returned v' ∧ Hid (w'.ownsRow w.heap.size 3 1 v' n (L.map (Value.int .i64)) ∧ Below w.heap.size w w') := by
 subst hn
 cases ao with
 | none =>
  obtain rfl : L = [] := by
   cases L with
   | nil => rfl
   | cons x L => obtain ⟨g, o, e, _⟩ := hA.out 0 (by simp); cases e
  refine (Tryz.slices_Clone_int_nil _ c w).mono ?_
  rintro e w' ⟨rfl, rfl⟩
  exact ⟨_, rfl, hide ⟨World.ownsRow_nil _ _ _ _, Below.refl _ _⟩⟩
 | some a =>
  by_cases h0 : L.length = 0
  · obtain rfl := List.eq_nil_of_length_eq_zero h0
    refine (Tryz.slices_Clone_int_zero a c w).mono ?_
    rintro e w' ⟨v, rfl, o, _, d⟩
    exact ⟨v, rfl, hide ⟨o, d⟩⟩
  · obtain ⟨g, o, e, _⟩ := hA.out 0 (by omega)
    cases e
    refine (Tryz.slices_Clone_int g o L.length c L w (Nat.le_refl _) (by omega) (fun j hj => by
     obtain ⟨g', o', e, q⟩ := hA.out j hj
     cases e
     rw [q]
     simp [List.getD, List.getElem?_eq_getElem hj])).mono ?_
    rintro e w' ⟨v, rfl, o, _, d⟩
    rw [List.take_length] at o
    exact ⟨v, rfl, hide ⟨o, d⟩⟩
end Go.Proofs.YtchoopnjckcohaaGreatDoor
