import Derived.Test.YtfoahpideglghaaGreatDoorZK
import Derived.Laws.IdiomStrings
namespace Go.Proofs.YtfoahpideglghaaGreatDoor
open Go.RowKit Go.Maps Go.Shelf
attribute [local go_sem] Oper.semAt_some

/-- append of one item: in its row, or in a new block, and then nothing that was there has turned. -/
theorem app_gen {T e : TypeId} {sz bytes : Nat} {i : TypeInfo} {z : Value} (hT : Tryz.prog.underlying T = some (.slice e)) (hi : Tryz.prog.info? e = some i) (hz0 : i.zero = some z) (hz1 : i.size = sz) (hz2 : i.bytes = bytes) (hzs : z.cells.size = sz) (hsz : 0 < sz) (hby : bytes ≤ 48)
    (w : World) (ty : TypeId) (v : Value) (n : Nat) (xs ys : List Value) (hown : w.ownsRow 0 e sz v n xs) (ad : Addr) (hys : ys.length = 1 * sz) (hnews : ∀ j u, ys[j]? = some u → w.cell? (ad.add j) = some u) (hone : ∀ u ∈ ys, u.oneCell' = true) (hl : n ≤ 4194304) :
    ∃ gv cv w', (Builtin.append_ #[T, T] ty #[v, .slice (some ad) 1 1]).run Tryz.prog w = .ok (.slice (some ⟨gv, 0, none⟩) (n + 1) cv) w' ∧ w'.ownsRow 0 e sz (.slice (some ⟨gv, 0, none⟩) (n + 1) cv) (n + 1) (xs ++ ys) ∧
      ((v.ownBlock = some gv ∧ w.grownBy w' (some gv)) ∨ (gv = w.heap.size ∧ w.grownBy w' none)) := by
  have hb48 : (n + 1) * bytes ≤ (n + 1) * 48 := Nat.mul_le_mul_left _ hby
  obtain ⟨v', w', hr, h2, h3, _, h4⟩ := run_append_own_at (P := Tryz.prog) w 0 T ty e i z sz bytes hT hi hz0 hz1 hz2 hzs hsz v n xs hown ad 1 1 ys hys hnews hone (by unfold maxLen; omega) (by omega) (Nat.zero_le _)
  obtain ⟨gv, cv, rfl, _, _⟩ := h2.form (by omega)
  refine ⟨gv, cv, w', hr, h2, ?_⟩
  rcases hown.2 with ⟨rfl, hn⟩ | ⟨g, cap, cur, rfl, hb, hg, hnc, hcm, hcs, htake⟩
  · right
    refine ⟨?_, h3⟩
    rcases h4 with e | e
    · simp [Value.ownBlock] at e
    · simpa [Value.ownBlock] using e
  · by_cases hroom : n + 1 ≤ cap
    · left
      have hr2 := run_append_room (P := Tryz.prog) w T ty e i hT hi g n cap cur hg ad 1 1 ys (by rw [hz1]; exact hys) hnews hone hroom (by rw [hz1, hys]; have : (n + 1) * sz ≤ cap * sz := Nat.mul_le_mul_right _ hroom; rw [Nat.add_mul] at this; omega)
      rw [hr] at hr2
      simp only [Result.ok.injEq, Value.slice.injEq, Option.some.injEq, Addr.mk.injEq] at hr2
      have e : gv = g := hr2.1.1.1
      subst e
      exact ⟨rfl, h3⟩
    · right
      have holds : ∀ j u, xs[j]? = some u → w.cell? ((⟨g, 0, none⟩ : Addr).add j) = some u := World.ownsRow.cells hown (g := g) rfl
      have hr2 := run_append_grow (P := Tryz.prog) w T ty e i _ hT hi hz0 ⟨g, 0, none⟩ n cap xs (by rw [hz1]; exact hown.1) holds ad 1 1 ys (by rw [hz1]; exact hys) hnews (by omega) (by omega) (growslice_fits (by omega) (by rw [hz2]; omega))
      rw [hr] at hr2
      simp only [Result.ok.injEq, Value.slice.injEq, Option.some.injEq, Addr.mk.injEq] at hr2
      refine ⟨hr2.1.1.1, ?_⟩
      rw [hr2.2]
      exact ⟨rfl, rfl, rfl, by simp, fun k hk _ => Below.heap_alloc w.drew _ k hk⟩
end Go.Proofs.YtfoahpideglghaaGreatDoor
namespace Go.Proofs.YtfoahpideglghaaGreatDoor
open Go.RowKit Go.Maps Go.Shelf
attribute [local go_sem] Oper.semAt_some

theorem Only.grown {w w' : World} {r : Option Nat} {R : Nat → Prop} (h : w.grownBy w' r) (hr : ∀ k, r = some k → R k) : Only w w' R :=
  ⟨h.os, h.tape, h.output, h.size, fun k hk hn => h.block k hk (fun e => hn (hr k e.symm))⟩
/-! ### Several rows that are written full, then grown -/
/-- The first i of a list are marks. -/
def gx {α : Type} (m : Nat → α) (d : α) (L : List α) (i : Nat) : List α := (List.range L.length).map fun j => if j < i then m j else L.getD j d
theorem gx_len {α : Type} (m : Nat → α) (d : α) (L : List α) (i : Nat) : (gx m d L i).length = L.length := by simp [gx]
theorem gx_zero {α : Type} (m : Nat → α) (d : α) (L : List α) : gx m d L 0 = L := by
  apply List.ext_getElem
  · simp [gx]
  · intro j h1 h2
    simp [gx, h2]
theorem gx_set {α : Type} (m : Nat → α) (d : α) (L : List α) (i : Nat) : (gx m d L i).set i (m i) = gx m d L (i + 1) := by
  apply List.ext_getElem
  · simp [gx]
  · intro j h1 h2
    have hj : j < L.length := by simpa [gx] using h2
    rw [List.getElem_set]
    by_cases e : i = j
    · subst e; simp [gx]
    · rw [if_neg e]
      simp only [gx, List.getElem_map, List.getElem_range]
      by_cases h : j < i
      · rw [if_pos h, if_pos (by omega)]
      · rw [if_neg h, if_neg (by omega)]
def upd {α : Type} (a : Nat → α) (i : Nat) (y : α) : Nat → α := fun j => if j = i then y else a j
/-- A slice's cells read as a list. -/
def Rv (W : World) (v : Value) (xs : List Value) : Prop := ∀ g, v.ownBlock = some g → ∀ j (h : j < xs.length), W.cell? ⟨g, j, none⟩ = some xs[j]
theorem rv_of {W : World} {B e sz n : Nat} {v : Value} {xs : List Value} (h : W.ownsRow B e sz v n xs) : Rv W v xs := fun g hg j hj => by
  have := h.cells hg j xs[j] (List.getElem?_eq_getElem hj)
  rwa [Addr.add_lit, Nat.zero_add] at this
theorem Rv.only {W W' : World} {v : Value} {xs : List Value} {R : Nat → Prop} (h : Rv W v xs) (o : Only W W' R) (hn : ∀ k, v.ownBlock = some k → ¬ R k) : Rv W' v xs := fun g hg j hj => by
  have c := h g hg j hj
  exact (World.cell?_of_block (w := W) (o.block g (World.block_lt_of_cell? W _ c) (hn g hg))).trans c
/-- What never changes: the rows lie in memory that was there, apart; the boxes lie in new memory. -/
structure Gst (w : World) (N : Nat) (v : Nat → Value) (bx : List (Nat × Array Value × TypeId)) : Prop where
  lt : ∀ i, i < N → ∀ k, (v i).ownBlock = some k → k < w.heap.size
  ap : ∀ i j, i < N → j < N → i ≠ j → ∀ k, (v i).ownBlock = some k → (v j).ownBlock ≠ some k
  bge : ∀ q ∈ bx, w.heap.size ≤ q.1
/-- While they are filled: of row i the first a i cells are marks. -/
structure Gf (w W : World) (N : Nat) (v : Nat → Value) (bx : List (Nat × Array Value × TypeId)) (e sz n : Nat → Nat) (mk : Nat → Nat → Value) (x : Nat → List Value) (a : Nat → Nat) : Prop where
  b : ∀ q ∈ bx, W.heap[q.1]? = some (.cells q.2.1 q.2.2 (0, 0))
  on : Only w W (fun k => ∃ i, i < N ∧ (v i).ownBlock = some k)
  r : ∀ i, i < N → W.ownsRow 0 (e i) (sz i) (v i) (n i) (gx (mk i) undef (x i) (a i))
section
variable {w W W' : World} {N : Nat} {v : Nat → Value} {bx : List (Nat × Array Value × TypeId)} {e sz n : Nat → Nat} {mk : Nat → Nat → Value} {x : Nat → List Value} {a : Nat → Nat}
theorem Gf.below (h : Gf w W N v bx e sz n mk x a) (d : Below W.heap.size W W') : Gf w W' N v bx e sz n mk x a :=
  ⟨fun q hq => (d.block _ (Array.getElem?_eq_some_iff.1 (h.b q hq)).1).trans (h.b q hq), h.on.trans (Only.ofBelow d), fun i hi => own_below (h.r i hi) d⟩
theorem Gf.put (s : Gst w N v bx) (h : Gf w W N v bx e sz n mk x a) (i : Nat) (hi : i < N) {g cap m : Nat} (hv : v i = .slice (some ⟨g, 0, none⟩) m cap) (hm : n i = m) (u : Value) (hu : mk i (a i) = u) : Gf w (W.setCell ⟨g, a i, none⟩ u) N v bx e sz n mk x (upd a i (a i + 1)) := by
  have hg : (v i).ownBlock = some g := by rw [hv]; rfl
  have o1 := only_set W g (a i) u
  refine ⟨fun q hq => (o1.block _ (Array.getElem?_eq_some_iff.1 (h.b q hq)).1 ?_).trans (h.b q hq), h.on.trans (o1.mono fun k _ z => ⟨i, hi, by rw [z]; exact hg⟩), fun j hj => ?_⟩
  · have := s.bge q hq
    have := s.lt i hi g hg
    omega
  · by_cases e1 : j = i
    · subst e1
      have k := h.r j hj
      rw [hv, hm] at k
      have k2 := (k.stored (a j) u).1
      rw [← hu, gx_set] at k2
      rw [hv, hm, hu] at *
      simpa [upd] using k2
    · have k := row_only (h.r j hj) o1 fun b q z => s.ap j i hj hi e1 b q (by rw [z]; exact hg)
      simpa [upd, e1] using k
theorem gx_full (m : Nat → Value) (d : Value) (L : List Value) (i : Nat) (h : L.length ≤ i) : gx m d L i = (List.range L.length).map m := by
  apply List.ext_getElem
  · simp [gx]
  · intro j h1 h2
    simp only [gx, List.length_map, List.length_range] at h1
    simp only [gx, List.getElem_map, List.getElem_range]
    rw [if_pos (by omega)]
/-- While they are grown: each reads as it was written. -/
structure Gg (w W : World) (N : Nat) (v : Nat → Value) (bx : List (Nat × Array Value × TypeId)) (x : Nat → List Value) : Prop where
  b : ∀ q ∈ bx, W.heap[q.1]? = some (.cells q.2.1 q.2.2 (0, 0))
  on : Only w W (fun k => ∃ i, i < N ∧ (v i).ownBlock = some k)
  r : ∀ i, i < N → Rv W (v i) (x i)
theorem Gg.below {y : Nat → List Value} (h : Gg w W N v bx y) (d : Below W.heap.size W W') : Gg w W' N v bx y :=
  ⟨fun q hq => (d.block _ (Array.getElem?_eq_some_iff.1 (h.b q hq)).1).trans (h.b q hq), h.on.trans (Only.ofBelow d), fun i hi => (h.r i hi).only (Only.ofBelow (R := fun _ => False) d) fun _ _ z => z⟩
/-- A row that stays. -/
def Kr (W W' : World) (u : Value) : Prop := ∀ B e sz n xs, W.ownsRow B e sz u n xs → W'.ownsRow B e sz u n xs
/-- The row that is being grown. -/
structure Gx (w W : World) (v : Value) (bx : List (Nat × Array Value × TypeId)) (e sz n : Nat) (xs ys : List Value) (vm : Value) (j : Nat) : Prop where
  o : W.ownsRow 0 e sz vm (n + j) (xs ++ (List.replicate j ys).flatten)
  rel : vm.ownBlock = v.ownBlock ∨ ∃ b, vm.ownBlock = some b ∧ w.heap.size ≤ b ∧ ∀ q ∈ bx, q.1 ≠ b
theorem Gx.below {v : Value} {e sz n j : Nat} {xs ys : List Value} {vm : Value} (h : Gx w W v bx e sz n xs ys vm j) (d : Below W.heap.size W W') : Gx w W' v bx e sz n xs ys vm j := ⟨own_below h.o d, h.rel⟩
theorem Gx.zero {v : Value} {e sz n : Nat} {xs ys : List Value} (h : W.ownsRow 0 e sz v n xs) : Gx w W v bx e sz n xs ys v 0 := ⟨by simpa using h, .inl rfl⟩
theorem Gx.only {v : Value} {e sz n j : Nat} {xs ys : List Value} {vm : Value} {R : Nat → Prop} (h : Gx w W v bx e sz n xs ys vm j) (o : Only W W' R) (hn : ∀ k, vm.ownBlock = some k → ¬ R k) : Gx w W' v bx e sz n xs ys vm j := ⟨row_only h.o o hn, h.rel⟩
theorem Gf.full {z : Nat → Nat} (h : Gf w W N v bx e sz n mk x a) (hl : ∀ i, i < N → (x i).length = z i ∧ z i ≤ a i) : Gg w W N v bx (fun i => (List.range (z i)).map (mk i)) ∧ ∀ i, i < N → W.ownsRow 0 (e i) (sz i) (v i) (n i) ((List.range (z i)).map (mk i)) := by
  have k : ∀ i, i < N → W.ownsRow 0 (e i) (sz i) (v i) (n i) ((List.range (z i)).map (mk i)) := fun i hi => by
    obtain ⟨e1, e2⟩ := hl i hi
    have := h.r i hi
    rwa [gx_full _ _ _ _ (by omega), e1] at this
  exact ⟨⟨h.b, h.on, fun i hi => rv_of (k i hi)⟩, k⟩
end
theorem tag_ne2 {W : World} {B C e d sz tz n m k : Nat} {u v : Value} {xs ys : List Value} (h : W.ownsRow B e sz u n xs) (h' : W.ownsRow C d tz v m ys) (hed : e ≠ d) (q : u.ownBlock = some k) (z : v.ownBlock = some k) : False := by
  rcases h.2 with ⟨rfl, _⟩ | ⟨g, cap, cur, rfl, _, hg, _⟩
  · cases q
  · rcases h'.2 with ⟨rfl, _⟩ | ⟨g', cap', cur', rfl, _, hg', _⟩
    · cases z
    · cases q
      cases z
      rw [hg] at hg'
      cases hg'
      exact hed rfl
theorem upd_upd {α : Type} (a : Nat → α) (i : Nat) (x y : α) : upd (upd a i x) i y = upd a i y := by
  funext r
  unfold upd
  by_cases e : r = i
  · simp [e]
  · simp [e]
theorem upd_at {α : Type} (a : Nat → α) (i : Nat) (x : α) : upd a i x i = x := by simp [upd]
theorem cnewL (W : World) (xs : List Value) (t : TypeId) : ∀ j u, xs[j]? = some u → (W.alloc (.cells xs.toArray t)).cell? ((⟨W.heap.size, 0, none⟩ : Addr).add j) = some u := by
  intro j u hu
  rw [Addr.add_lit, Nat.zero_add]
  exact cell_of (World.alloc_heap_new W _) (by simpa using hu)
theorem Gf.puti {w W : World} {N : Nat} {v : Nat → Value} {bx : List (Nat × Array Value × TypeId)} {e sz n : Nat → Nat} {mk : Nat → Nat → Value} {x : Nat → List Value} {a : Nat → Nat} (s : Gst w N v bx) (i c : Nat) (h : Gf w W N v bx e sz n mk x (upd a i c)) (hi : i < N) {g cap m : Nat} (hv : v i = .slice (some ⟨g, 0, none⟩) m cap) (hm : n i = m) (u : Value) (hu : mk i c = u) : Gf w (W.setCell ⟨g, c, none⟩ u) N v bx e sz n mk x (upd a i (c + 1)) := by
  have k := Gf.put s h i hi hv hm u (by rw [upd_at]; exact hu)
  rwa [upd_at, upd_upd] at k
theorem Gf.cell {w W : World} {N : Nat} {v : Nat → Value} {bx : List (Nat × Array Value × TypeId)} {e sz n : Nat → Nat} {mk : Nat → Nat → Value} {x : Nat → List Value} {a : Nat → Nat} (h : Gf w W N v bx e sz n mk x a) (i : Nat) (hi : i < N) {ao : Option Addr} {cap m z : Nat} (hv : v i = .slice ao m cap) (hm : n i = m) (hz : sz i = z) (j : Nat) (hj : j < m * z) : ∃ g, ao = some ⟨g, 0, none⟩ ∧ ∀ c, c < m * z → (∃ u, W.cell? ⟨g, c, none⟩ = some u) ∧ W.frozen? ⟨g, c, none⟩ = false := by
  have k := h.r i hi
  rw [hv, hm, hz] at k
  obtain ⟨g, cp, e1, _, _⟩ := k.form (Nat.pos_of_ne_zero fun e0 => by rw [e0] at hj; omega)
  cases e1
  refine ⟨g, rfl, fun c hc => ⟨⟨_, rv_of k g rfl c (by rw [k.1]; exact hc)⟩, ?_⟩⟩
  rcases k.2 with ⟨e2, _⟩ | ⟨g', cap', cur, e2, _, hg, _⟩
  · cases e2
  · cases e2
    simp [World.frozen?, hg]
end Go.Proofs.YtfoahpideglghaaGreatDoor
namespace Go.Proofs.YtfoahpideglghaaGreatDoor
open Go.RowKit Go.Maps Go.Shelf
attribute [local go_sem] Oper.semAt_some

section
variable {w W W' : World} {N : Nat} {v : Nat → Value} {bx : List (Nat × Array Value × TypeId)} {e sz n : Nat → Nat} {mk : Nat → Nat → Value} {x : Nat → List Value} {a : Nat → Nat}
theorem gx_app2 {T E : TypeId} {sZ bytes : Nat} {inf : TypeInfo} {z0 : Value} (hT : Tryz.prog.underlying T = some (.slice E)) (hi : Tryz.prog.info? E = some inf) (hz0 : inf.zero = some z0) (hz1 : inf.size = sZ) (hz2 : inf.bytes = bytes) (hzs : z0.cells.size = sZ) (hsz : 0 < sZ) (hby : bytes ≤ 48)
    (s : Gst w N v bx) {y : Nat → List Value} (h : Gg w W N v bx y) (i : Nat) (hN : i < N) {m j : Nat} {ys : List Value} {vm : Value} (hx : Gx w W (v i) bx E sZ m (y i) ys vm j) (ty : TypeId) (ad : Addr) (hys : ys.length = 1 * sZ) (hnews : ∀ j u, ys[j]? = some u → W.cell? (ad.add j) = some u) (hone : ∀ u ∈ ys, u.oneCell' = true) (hl : m + j ≤ 4194304) :
    ∃ gv cv w', (Builtin.append_ #[T, T] ty #[vm, .slice (some ad) 1 1]).run Tryz.prog W = .ok (.slice (some ⟨gv, 0, none⟩) (m + j + 1) cv) w' ∧ Gx w w' (v i) bx E sZ m (y i) ys (.slice (some ⟨gv, 0, none⟩) (m + j + 1) cv) (j + 1) ∧ Gg w w' N v bx y ∧ Only W w' (fun k => vm.ownBlock = some k) ∧ (vm.ownBlock = some gv ∨ gv = W.heap.size) ∧ ∀ c, c < N → c ≠ i → Kr W w' (v c) := by
  obtain ⟨gv, cv, w', hr, ho, hd⟩ := app_gen hT hi hz0 hz1 hz2 hzs hsz hby W ty vm (m + j) _ ys hx.o ad hys hnews hone hl
  have ho' : w'.ownsRow 0 E sZ (.slice (some ⟨gv, 0, none⟩) (m + j + 1) cv) (m + (j + 1)) (y i ++ (List.replicate (j + 1) ys).flatten) := by
    rw [List.replicate_succ', List.flatten_append, ← List.append_assoc]
    simpa [Nat.add_assoc] using ho
  refine ⟨gv, cv, w', hr, ?_⟩
  rcases hd with ⟨hb, hg⟩ | ⟨rfl, hg⟩
  · have o1 : Only W w' (fun k => k = gv) := Only.grown hg fun k q => by cases q; rfl
    have o2 : Only W w' (fun k => vm.ownBlock = some k) := o1.mono fun k _ q => by rw [q]; exact hb
    rcases hx.rel with q | ⟨b, q, q1, q2⟩
    · have hvi : (v i).ownBlock = some gv := by rw [← q]; exact hb
      have hlt := s.lt i hN gv hvi
      refine ⟨⟨ho', .inl (by rw [hvi]; rfl)⟩, ⟨fun t ht => (o1.block _ (Array.getElem?_eq_some_iff.1 (h.b t ht)).1 ?_).trans (h.b t ht), h.on.trans (o1.mono fun k _ z => ⟨i, hN, by rw [z]; exact hvi⟩), fun c hc => ?_⟩, o2, .inl hb, fun c hc e1 _ _ _ _ _ hr => ?_⟩
      · have := s.bge t ht
        omega
      · by_cases e1 : c = i
        · subst e1
          intro g hg j hj
          rw [hvi] at hg
          cases hg
          have := rv_of ho' gv rfl j (by simp; omega)
          rw [this, List.getElem_append_left hj]
        · exact (h.r c hc).only o1 fun k qk z => s.ap c i hc hN e1 k qk (by rw [z]; exact hvi)
      · exact row_only hr o1 fun k qk z => s.ap c i hc hN e1 k qk (by rw [z]; exact hvi)
    · have e0 : b = gv := by rw [q] at hb; cases hb; rfl
      subst e0
      refine ⟨⟨ho', .inr ⟨b, rfl, q1, q2⟩⟩, ⟨fun t ht => (o1.block _ (Array.getElem?_eq_some_iff.1 (h.b t ht)).1 (q2 t ht)).trans (h.b t ht), h.on.andNew o1 fun k hk z => by omega, fun c hc => ?_⟩, o2, .inl hb, fun c hc _ _ _ _ _ _ hr => row_only hr o1 fun k qk z => by have := s.lt c hc k qk; omega⟩
      exact (h.r c hc).only o1 fun k qk z => by have := s.lt c hc k qk; omega
  · have o1 : Only W w' (fun _ => False) := Only.grown hg fun k q => by cases q
    have hs := h.on.size
    refine ⟨⟨ho', .inr ⟨W.heap.size, rfl, hs, fun t ht z => ?_⟩⟩, ⟨fun t ht => (o1.block _ (Array.getElem?_eq_some_iff.1 (h.b t ht)).1 fun z => z).trans (h.b t ht), h.on.andNew o1 fun k hk z => z.elim, fun c hc => (h.r c hc).only o1 fun _ _ z => z⟩, o1.mono fun _ _ z => z.elim, .inr rfl, fun c _ _ _ _ _ _ _ hr => row_only hr o1 fun _ _ z => z⟩
    have := (Array.getElem?_eq_some_iff.1 (h.b t ht)).1
    omega
theorem wpList_gx2 {T E : TypeId} {sZ bytes : Nat} {inf : TypeInfo} {z0 : Value} (hT : Tryz.prog.underlying T = some (.slice E)) (hi : Tryz.prog.info? E = some inf) (hz0 : inf.zero = some z0) (hz1 : inf.size = sZ) (hz2 : inf.bytes = bytes) (hzs : z0.cells.size = sZ) (hsz : 0 < sZ) (hby : bytes ≤ 48)
    (s : Gst w N v bx) {y : Nat → List Value} (h : Gg w W N v bx y) (i : Nat) (hN : i < N) {m j : Nat} {ys : List Value} {vm : Value} (hx : Gx w W (v i) bx E sZ m (y i) ys vm j) {ops : Array Oper} {rest : List Oper} {o : Oper} {ac : Act} {Q : Exit → Act → World → Prop} (hgd : o.guard = none) (s1 y1 : Operand)
    (ho : o.op = .call { callee := .builtin .append, args := #[s1, y1], argTypes := #[T, T] }) (hs : ac.eval s1 = vm) (ad : Addr) (hy : ac.eval y1 = .slice (some ad) 1 1) (hys : ys.length = 1 * sZ) (hnews : ∀ j u, ys[j]? = some u → W.cell? (ad.add j) = some u) (hone : ∀ u ∈ ys, u.oneCell' = true) (hl : m + j ≤ 4194304)
    (hK : ∀ gv cv w', Hid (Gx w w' (v i) bx E sZ m (y i) ys (.slice (some ⟨gv, 0, none⟩) (m + j + 1) cv) (j + 1) ∧ Gg w w' N v bx y ∧ Only W w' (fun k => vm.ownBlock = some k) ∧ (vm.ownBlock = some gv ∨ gv = W.heap.size) ∧ ∀ c, c < N → c ≠ i → Kr W w' (v c)) → wpList Tryz.prog ops Q rest (ac.put o.dst (.slice (some ⟨gv, 0, none⟩) (m + j + 1) cv)) w') :
    wpList Tryz.prog ops Q (o :: rest) ac W := by
  refine wpList_plain hgd fun K hKK => ?_
  obtain ⟨gv, cv, w', hr, h2, h3, h4⟩ := gx_app2 hT hi hz0 hz1 hz2 hzs hsz hby s h i hN hx o.type ad hys hnews hone hl
  unfold Oper.wp execOp
  simp only [ho, resolve, invoke, builtin, Sem.run_bind, Sem.run_pure, Result.andThen_ok, List.map_toArray, List.map_cons, List.map_nil, hs, hy, hr]
  exact hKK _ _ (hK gv cv w' (hide ⟨h2, h3, h4⟩))
end
theorem info22 : (Tryz.prog.info? 22).map (fun i => (i.zero, i.size, i.bytes)) = some (some (.slice none 0 0), 1, 24) := by kernel_rfl
/-- One item behind a row, as a step of the walk. -/
theorem wpList_appA {T e : TypeId} {sz bytes : Nat} {i : TypeInfo} {z : Value} (hT : Tryz.prog.underlying T = some (.slice e)) (hi : Tryz.prog.info? e = some i) (hz0 : i.zero = some z) (hz1 : i.size = sz) (hz2 : i.bytes = bytes) (hzs : z.cells.size = sz) (hsz : 0 < sz) (hby : bytes ≤ 48)
    {W : World} {ops : Array Oper} {rest : List Oper} {o : Oper} {ac : Act} {Q : Exit → Act → World → Prop} (hgd : o.guard = none) (s1 y1 : Operand) (ho : o.op = .call { callee := .builtin .append, args := #[s1, y1], argTypes := #[T, T] })
    (v : Value) (n : Nat) (xs ys : List Value) (hs : ac.eval s1 = v) (hown : W.ownsRow 0 e sz v n xs) (ad : Addr) (hy : ac.eval y1 = .slice (some ad) 1 1) (hys : ys.length = 1 * sz) (hnews : ∀ j u, ys[j]? = some u → W.cell? (ad.add j) = some u) (hone : ∀ u ∈ ys, u.oneCell' = true) (hl : n ≤ 4194304)
    (hK : ∀ gv cv w', Hid (w'.ownsRow 0 e sz (.slice (some ⟨gv, 0, none⟩) (n + 1) cv) (n + 1) (xs ++ ys)) → Hid ((v.ownBlock = some gv ∧ W.grownBy w' (some gv)) ∨ (gv = W.heap.size ∧ W.grownBy w' none)) → wpList Tryz.prog ops Q rest (ac.put o.dst (.slice (some ⟨gv, 0, none⟩) (n + 1) cv)) w') : wpList Tryz.prog ops Q (o :: rest) ac W := by
  refine wpList_plain hgd fun K hKK => ?_
  obtain ⟨gv, cv, w', hr, h2, h3⟩ := app_gen hT hi hz0 hz1 hz2 hzs hsz hby W o.type v n xs ys hown ad hys hnews hone hl
  unfold Oper.wp execOp
  simp only [ho, resolve, invoke, builtin, Sem.run_bind, Sem.run_pure, Result.andThen_ok, List.map_toArray, List.map_cons, List.map_nil, hs, hy, hr]
  exact hKK _ _ (hK gv cv w' (hide h2) (hide h3))

/-! ### Lists written full, then grown and kept in a row of lists -/
def mkI (k : Nat) : Value := .int .i64 (-(k : Int) - 1)
abbrev Bx := List (Nat × Array Value × TypeId)
structure Ow (w W : World) (K : Nat) (v : Nat → Value) (bx : Bx) (n : Nat → Nat) (u : Nat → Value) (k c : Nat) (lv : Value) : Prop where
  g : Gg w W K v bx (fun i => List.replicate (n i) (mkI i))
  rest : ∀ r, r < K → c ≤ r → W.ownsRow 0 3 1 (v r) (n r) (List.replicate (n r) (mkI r))
  up : ∀ r, r < k → W.ownsRow 0 3 1 (u r) (n r + 70) (List.replicate (n r + 70) (mkI r))
  ur : ∀ r, r < k → (u r).ownBlock = (v r).ownBlock ∨ ∃ b, (u r).ownBlock = some b ∧ w.heap.size ≤ b ∧ ∀ q ∈ bx, q.1 ≠ b
  ll : W.ownsRow 0 22 1 lv k ((List.range k).map u)
  ln : ∀ b, lv.ownBlock = some b → w.heap.size ≤ b ∧ ∀ q ∈ bx, q.1 ≠ b
/-- The row that grows is none of those that have grown. -/
def Apt (u : Nat → Value) (k : Nat) (vm : Value) : Prop := ∀ r, r < k → ∀ b, (u r).ownBlock = some b → vm.ownBlock ≠ some b
section
variable {w W W' : World} {K : Nat} {v : Nat → Value} {bx : Bx} {n : Nat → Nat} {u : Nat → Value} {k c : Nat} {lv : Value}
theorem Ow.below (h : Ow w W K v bx n u k c lv) (d : Below W.heap.size W W') : Ow w W' K v bx n u k c lv :=
  ⟨h.g.below d, fun r hr hc => own_below (h.rest r hr hc) d, fun r hr => own_below (h.up r hr) d, h.ur, own_below h.ll d, h.ln⟩
theorem Ow.start (h : Gg w W K v bx (fun i => List.replicate (n i) (mkI i)) ∧ ∀ r, r < K → W.ownsRow 0 3 1 (v r) (n r) (List.replicate (n r) (mkI r))) : Ow w W K v bx n (fun _ => .slice none 0 0) 0 0 (.slice none 0 0) :=
  ⟨h.1, fun r hr _ => h.2 r hr, fun r hr => absurd hr (by omega), fun r hr => absurd hr (by omega), ⟨rfl, .inl ⟨rfl, rfl⟩⟩, fun b q => by cases q⟩
theorem Ow.open (s : Gst w K v bx) (h : Ow w W K v bx n u k k lv) (hk : k < K) {vk : Value} (hv : v k = vk) : Ow w W K v bx n u k (k + 1) lv ∧ Gx w W (v k) bx 3 1 (n k) (List.replicate (n k) (mkI k)) [mkI k] vk 0 ∧ Apt u k vk := by
  subst hv
  refine ⟨⟨h.g, fun r hr hc => h.rest r hr (by omega), h.up, h.ur, h.ll, h.ln⟩, Gx.zero (h.rest k hk (Nat.le_refl _)), fun r hr b q z => ?_⟩
  rcases h.ur r hr with e | ⟨b', e1, e2, _⟩
  · exact s.ap r k (by omega) hk (by omega) b (by rw [← e]; exact q) z
  · have := s.lt k hk b z
    rw [e1] at q
    cases q
    omega
theorem Ow.grow (h : Ow w W K v bx n u k (k + 1) lv) {y : List Value} {ys : List Value} {vm : Value} {m j : Nat} (hx : Gx w W (v k) bx 3 1 m y ys vm j) (ha : Apt u k vm) {gv : Nat} {vm' : Value} (hb : vm'.ownBlock = some gv) (hg : Gg w W' K v bx (fun i => List.replicate (n i) (mkI i))) (ho : Only W W' (fun b => vm.ownBlock = some b)) (hd : vm.ownBlock = some gv ∨ gv = W.heap.size) (hkr : ∀ c, c < K → c ≠ k → Kr W W' (v c)) : Ow w W' K v bx n u k (k + 1) lv ∧ Apt u k vm' := by
  refine ⟨⟨hg, fun r hr hc => hkr r hr (by omega) _ _ _ _ _ (h.rest r hr hc), fun r hr => row_only (h.up r hr) ho fun b q z => ha r hr b q z, h.ur, row_only h.ll ho fun b q z => tag_ne2 h.ll hx.o (by decide) q z, h.ln⟩, fun r hr b q z => ?_⟩
  rw [hb] at z
  cases z
  rcases hd with e | e
  · exact ha r hr _ q e
  · have := ((h.up r hr).lt _ q).2
    omega
theorem rep_flat (m : Nat) (x : Value) (j : Nat) : List.replicate m x ++ (List.replicate j [x]).flatten = List.replicate (m + j) x := by
  have e : (List.replicate j [x]).flatten = List.replicate j x := by
    induction j with
    | zero => rfl
    | succ j ih => rw [List.replicate_succ, List.flatten_cons, ih, List.replicate_succ]; rfl
  rw [e, List.replicate_append_replicate]
theorem Ow.next (s : Gst w K v bx) (h : Ow w W K v bx n u k (k + 1) lv) (hk : k < K) {vm : Value} (hx : Gx w W (v k) bx 3 1 (n k) (List.replicate (n k) (mkI k)) [mkI k] vm 70) {gv cv : Nat} {w' : World}
    (ho : w'.ownsRow 0 22 1 (.slice (some ⟨gv, 0, none⟩) (k + 1) cv) (k + 1) ((List.range k).map u ++ [vm])) (hd : (lv.ownBlock = some gv ∧ W.grownBy w' (some gv)) ∨ (gv = W.heap.size ∧ W.grownBy w' none)) : Ow w w' K v bx n (upd u k vm) (k + 1) (k + 1) (.slice (some ⟨gv, 0, none⟩) (k + 1) cv) := by
  have o1 : Only W w' (fun b => lv.ownBlock = some b) := by
    rcases hd with ⟨hb, hg⟩ | ⟨_, hg⟩
    · exact Only.grown hg fun k q => by cases q; exact hb
    · exact Only.grown hg fun k q => by cases q
  have e0 : ∀ r, r ≠ k → upd u k vm r = u r := fun r hr => if_neg hr
  refine ⟨⟨fun t ht => (o1.block _ (Array.getElem?_eq_some_iff.1 (h.g.b t ht)).1 fun z => (h.ln _ z).2 t ht rfl).trans (h.g.b t ht), h.g.on.andNew o1 fun b hb z => ?_, fun r hr => (h.g.r r hr).only o1 fun b q z => ?_⟩, fun r hr hc => row_only (h.rest r hr hc) o1 fun b q z => tag_ne2 (h.rest r hr hc) h.ll (by decide) q z, fun r hr => ?_, fun r hr => ?_, ?_, fun b q => ?_⟩
  · have := (h.ln b z).1
    omega
  · have := (h.ln b z).1
    have := s.lt r hr b q
    omega
  · by_cases e : r = k
    · subst e
      rw [upd_at]
      have k1 := hx.o
      rw [rep_flat] at k1
      exact row_only k1 o1 fun b q z => tag_ne2 k1 h.ll (by decide) q z
    · rw [e0 r e]
      have k1 := h.up r (by omega)
      exact row_only k1 o1 fun b q z => tag_ne2 k1 h.ll (by decide) q z
  · by_cases e : r = k
    · subst e
      rw [upd_at]
      exact hx.rel
    · rw [e0 r e]
      exact h.ur r (by omega)
  · have e1 : (List.range (k + 1)).map (upd u k vm) = (List.range k).map u ++ [vm] := by
      rw [List.range_succ, List.map_append]
      congr 1
      · exact List.map_congr_left fun r hr => e0 r (by have := List.mem_range.1 hr; omega)
      · simp [upd_at]
    rw [e1]
    exact ho
  · have e : gv = b := by simpa [Value.ownBlock] using q
    subst e
    rcases hd with ⟨hb, _⟩ | ⟨rfl, _⟩
    · exact h.ln _ hb
    · exact ⟨h.g.on.size, fun t ht z => by have := (Array.getElem?_eq_some_iff.1 (h.g.b t ht)).1; omega⟩
end
end Go.Proofs.YtfoahpideglghaaGreatDoor
namespace Go.Proofs.YtfoahpideglghaaGreatDoor
open Go.RowKit Go.Maps Go.Shelf
attribute [local go_sem] Oper.semAt_some

/-! ### The law's over -/
def aW (n : Nat → Nat) (k : Nat) : Nat → Nat := fun r => if r < k then n r else 0
theorem aW_next (n : Nat → Nat) (k : Nat) : upd (aW n k) k (n k) = aW n (k + 1) := by
  funext r
  unfold upd aW
  by_cases e : r = k
  · subst e; simp
  · rw [if_neg e]
    by_cases h : r < k
    · rw [if_pos h, if_pos (by omega)]
    · rw [if_neg h, if_neg (by omega)]
theorem aW_zero (n : Nat → Nat) (k : Nat) : upd (aW n k) k 0 = aW n k := by
  funext r
  unfold upd aW
  by_cases e : r = k
  · subst e; rw [if_pos rfl, if_neg (by omega)]
  · rw [if_neg e]
theorem map_rep (m : Nat) (y : Value) : (List.range m).map (fun _ => y) = List.replicate m y := by
  apply List.ext_getElem <;> simp
theorem Gf.over {w W : World} {K : Nat} {v : Nat → Value} {bx : Bx} {n : Nat → Nat} {x : Nat → List Value} (h : Gf w W K v bx (fun _ => 3) (fun _ => 1) n (fun i _ => mkI i) x (aW n K)) : Gg w W K v bx (fun i => List.replicate (n i) (mkI i)) ∧ ∀ r, r < K → W.ownsRow 0 3 1 (v r) (n r) (List.replicate (n r) (mkI r)) := by
  have q := Gf.full (z := n) h (fun i hi => ⟨by have t := (h.r i hi).1; rw [gx_len] at t; omega, by unfold aW; rw [if_pos hi]; exact Nat.le_refl _⟩)
  simp only [map_rep] at q
  exact q
theorem rep_cell {W : World} {m n g : Nat} {c : Nat} {y : Value} (h : W.ownsRow 0 3 1 (.slice (some ⟨g, 0, none⟩) n c) n (List.replicate m y)) (i : Nat) (hi : i < m) : W.cell? ⟨g, i, none⟩ = some y := by
  have := rv_of h g rfl i (by simpa using hi)
  rw [this]
  simp
set_option maxRecDepth 100000 in
set_option maxHeartbeats 8000000 in
theorem over_any (w W : World) (K : Nat) (v : Nat → Value) (n : Nat → Nat) (x : Nat → List Value) (gL cL : Nat) (A : Array Value) (hK : K ≤ 1024) (hS : Hid (Gst w K v [(gL, A, 22)]))
    (hF : Hid (Gf w W K v [(gL, A, 22)] (fun _ => 3) (fun _ => 1) n (fun i _ => mkI i) x (aW n 0))) (hA : Hid (∀ k, k < K → ∃ ao cp, v k = .slice ao (n k) cp ∧ A[k]? = some (.slice ao (n k) cp) ∧ n k ≤ 4194000)) :
    Calls Tryz.prog 47 #[.slice (some ⟨gL, 0, none⟩) K cL] W fun e w' => e = .returned (.bool true) ∧ Only w w' (fun b => ∃ i, i < K ∧ (v i).ownBlock = some b) := by
  obtain ⟨i3, hi3, hz30, hz31, hz32⟩ := info_parts info3
  obtain ⟨i2, hi2, hz20, hz21, hz22⟩ := info_parts info22
  have hA2 : Hid (∀ k, k < K → 0 < n k → ∀ ao cp, v k = .slice ao (n k) cp → ∃ g, ao = some ⟨g, 0, none⟩) := hide (fun k hk h0 ao cp hv => by
    have t := hF.out.r k hk
    rw [hv] at t
    obtain ⟨g, c, e, _, _⟩ := t.form h0
    cases e
    exact ⟨g, rfl⟩)
  go_enter Tryz.func47, Tryz.ntmps47
  go_wp2
  go_loopw [3] (fun kv wr => ∃ k : Nat, k ≤ K ∧ kv = .int .i64 k ∧ Hid (Gf w wr K v [(gL, A, 22)] (fun _ => 3) (fun _ => 1) n (fun i _ => mkI i) x (aW n k))) (fun kv _ => K - (intOf kv).toNat)
  case atStart => exact ⟨0, Nat.zero_le _, rfl, hF⟩
  case round =>
    obtain ⟨k, hk, rfl, HX⟩ := hrel
    obtain ⟨wo, rfl⟩ : ∃ z, z = wr := ⟨_, rfl⟩
    by_cases hlt : k < K
    · have i1 : (k : Int) < (K : Int) := by omega
      have i0 : (0 : Int) ≤ (k : Int) := by omega
      obtain ⟨ao, cp, hkv, hkc, hm⟩ := hA.out k hlt
      obtain ⟨m, hmm⟩ : ∃ m, n k = m := ⟨_, rfl⟩
      rw [hmm] at hkv hkc hm
      have HK := hide (And.intro hkv (And.intro hmm hkc))
      clear hkv hmm hkc
      go_wp2
      go_loopw [4] (fun iv wr => ∃ i : Nat, i ≤ m ∧ iv = .int .i64 i ∧ Hid (Gf w wr K v [(gL, A, 22)] (fun _ => 3) (fun _ => 1) n (fun i _ => mkI i) x (upd (aW n k) k i))) (fun iv _ => m - (intOf iv).toNat)
      case atStart => exact ⟨0, Nat.zero_le _, rfl, hide (by rw [aW_zero]; exact HX.out)⟩
      case round =>
        obtain ⟨i, hi, rfl, HY⟩ := hrel
        have q0 : wr.cell? ⟨gL, k, none⟩ = some (.slice ao m cp) := cell_of (HY.out.b (gL, A, 22) (by simp)) HK.out.2.2
        have i2 : (0 : Int) ≤ (i : Int) := by omega
        by_cases hil : i < m
        · have i3 : (i : Int) < (m : Int) := by omega
          obtain ⟨g, rfl, hcs⟩ := HY.out.cell k hlt (z := 1) HK.out.1 HK.out.2.1 rfl i (by omega)
          obtain ⟨⟨u, q1⟩, f1⟩ := hcs i (by omega)
          clear hcs
          go_wp2
          go_roundw
          case rel =>
            refine ⟨i + 1, by omega, by go_num, hide ?_⟩
            exact Gf.puti hS.out k i HY.out hlt HK.out.1 HK.out.2.1 _ (by unfold mkI; first | rfl | go_num)
          case measure => simp [intOf]; omega
        · obtain rfl : i = m := by omega
          have i3 : ¬ (i : Int) < (i : Int) := by omega
          go_wp2
          go_roundw
          case rel => exact ⟨k + 1, by omega, by go_num, hide (by have q := HY.out; rw [← HK.out.2.1, aW_next] at q; exact q)⟩
          case measure => simp [intOf]; omega
    · obtain rfl : K = k := by omega
      have i1 : ¬ (K : Int) < (K : Int) := by omega
      have HO := hide (Ow.start (Gf.over HX.out))
      clear HX hF
      go_wp2
      go_loopw [5, 6] (fun lv kv wr => ∃ k la lc u, k ≤ K ∧ lv = .slice la k lc ∧ kv = .int .i64 (k : Nat) ∧ Hid (Ow w wr K v [(gL, A, 22)] n u k k (.slice la k lc))) (fun _ kv _ => K - (intOf kv).toNat)
      case atStart => exact ⟨0, none, 0, _, Nat.zero_le _, rfl, rfl, HO⟩
      case round =>
        obtain ⟨k, la, lc, u, hk, rfl, rfl, HX⟩ := hrel
        obtain ⟨ws, rfl⟩ : ∃ z, z = wr := ⟨_, rfl⟩
        clear HO
        by_cases hlt : k < K
        · have i4 : (k : Int) < (K : Int) := by omega
          have i0 : (0 : Int) ≤ (k : Int) := by omega
          obtain ⟨ao, cp, hkv, hkc, hm⟩ := hA.out k hlt
          obtain ⟨m, hmm⟩ : ∃ m, n k = m := ⟨_, rfl⟩
          rw [hmm] at hkv hkc hm
          have q0 : ws.cell? ⟨gL, k, none⟩ = some (.slice ao m cp) := cell_of (HX.out.g.b (gL, A, 22) (by simp)) hkc
          have HZ := hide (Ow.open hS.out HX.out hlt hkv)
          have HK := hide (And.intro hkv (And.intro hmm hkc))
          clear hkv hmm hkc HX
          go_wp2
          go_loopw [7, 8] (fun mv jv wr => ∃ j av cv, j ≤ 70 ∧ mv = .slice av (m + j) cv ∧ jv = .int .i64 (j : Nat) ∧ Hid (Ow w wr K v [(gL, A, 22)] n u k (k + 1) (.slice la k lc) ∧ Gx w wr (v k) [(gL, A, 22)] 3 1 (n k) (List.replicate (n k) (mkI k)) [mkI k] (.slice av (m + j) cv) j ∧ Apt u k (.slice av (m + j) cv))) (fun _ jv _ => 70 - (intOf jv).toNat)
          case atStart => exact ⟨0, ao, cp, Nat.zero_le _, rfl, rfl, HZ⟩
          case round =>
            obtain ⟨j, av, cv, hj, rfl, rfl, HY⟩ := hrel
            clear HZ
            by_cases hjl : j < 70
            · have i2 : (j : Int) < 70 := by omega
              have dA : Below wr.heap.size wr (wr.alloc (.cells #[mkI k] 3)) := (Below.refl _ _).alloc (Nat.le_refl _) _
              have HB := hide (And.intro (HY.out.1.below dA) (And.intro (HY.out.2.1.below dA) HY.out.2.2))
              clear dA
              go_wp2_with (at_builtin; refine wpList_gx2 Tryz.underlying22 hi3 hz30 hz31 hz32 rfl (by omega) (by omega) hS.out HB.out.1.g k hlt HB.out.2.1 rfl _ _ rfl rfl ⟨wr.heap.size, 0, none⟩ rfl rfl (cnewL wr [mkI k] 3) (fun u hu => by rw [List.mem_singleton.1 hu]; rfl) (by have := HK.out.2.1; omega) ?_)
              intro gv cw w9 H9
              have hz : (wr.alloc (.cells #[mkI k] 3)).heap.size = wr.heap.size + 1 := by simp
              have HC := hide (Ow.grow HB.out.1 HB.out.2.1 HB.out.2.2 (vm' := .slice (some ⟨gv, 0, none⟩) (n k + j + 1) cw) rfl H9.out.2.1 H9.out.2.2.1 (by rw [hz]; exact H9.out.2.2.2.1) H9.out.2.2.2.2)
              clear hz
              go_wp2
              go_roundw
              case rel => exact ⟨j + 1, some ⟨gv, 0, none⟩, cw, by omega, by rw [HK.out.2.1]; rfl, by go_num, hide ⟨HC.out.1, by have t := H9.out.1; rw [HK.out.2.1] at t ⊢; exact t, by have t := HC.out.2; rw [HK.out.2.1] at t; exact t⟩⟩
              case measure => simp [intOf]; omega
            · obtain rfl : j = 70 := by omega
              have i2 : ¬ ((70 : Nat) : Int) < 70 := by omega
              have dA : Below wr.heap.size wr (wr.alloc (.cells #[.slice av (m + 70) cv] 22)) := (Below.refl _ _).alloc (Nat.le_refl _) _
              have HB := hide (And.intro (HY.out.1.below dA) (HY.out.2.1.below dA))
              clear dA
              go_wp2_with (at_builtin; refine wpList_appA Tryz.underlying50 hi2 hz20 hz21 hz22 rfl (by omega) (by omega) rfl _ _ rfl (.slice la k lc) k _ [.slice av (m + 70) cv] rfl HB.out.1.ll ⟨wr.heap.size, 0, none⟩ rfl rfl (cnewL wr [.slice av (m + 70) cv] 22) (fun u hu => by rw [List.mem_singleton.1 hu]; rfl) (by omega) ?_)
              intro gv cw w9 H9 H8
              have hz : (wr.alloc (.cells #[.slice av (m + 70) cv] 22)).heap.size = wr.heap.size + 1 := by simp
              have HC := hide (Ow.next hS.out HB.out.1 hlt HB.out.2 H9.out (by rw [hz]; exact H8.out))
              clear hz
              go_wp2
              go_roundw
              case rel => exact ⟨k + 1, some ⟨gv, 0, none⟩, cw, _, by omega, rfl, by go_num, HC⟩
              case measure => simp [intOf]; omega
        · obtain rfl : K = k := by omega
          have i4 : ¬ (K : Int) < (K : Int) := by omega
          go_wp2
          go_loopw [9] (fun kv wr => ∃ k : Nat, k ≤ K ∧ kv = .int .i64 k ∧ wr = ws) (fun kv _ => K - (intOf kv).toNat)
          case atStart => exact ⟨0, Nat.zero_le _, rfl, rfl⟩
          case round =>
            obtain ⟨k, hk, rfl, rfl⟩ := hrel
            by_cases hlt : k < K
            · have i5 : (k : Int) < (K : Int) := by omega
              have i0 : (0 : Int) ≤ (k : Int) := by omega
              obtain ⟨ao, cp, hkv, hkc, hm⟩ := hA.out k hlt
              have q0 : wr.cell? ⟨gL, k, none⟩ = some (.slice ao (n k) cp) := cell_of (HX.out.g.b (gL, A, 22) (by simp)) hkc
              obtain ⟨gl, cl, hl, _, _⟩ := HX.out.ll.form (by omega)
              cases hl
              have q1 : wr.cell? ⟨gl, k, none⟩ = some (u k) := by have t := rv_of HX.out.ll gl rfl k (by simpa using hlt); rw [t]; simp
              have HU := HX.out.up k hlt
              obtain ⟨gk, ck, hu, _, _⟩ := HU.form (by omega)
              rw [hu] at q1 HU
              have HR := hide (And.intro HU (And.intro (HX.out.g.r k hlt) (And.intro hkv fun h0 => hA2.out k hlt h0 ao cp hkv)))
              obtain ⟨m, hmm⟩ : ∃ m, n k = m := ⟨_, rfl⟩
              rw [hmm] at q0 q1 hm HR
              clear hu HU hkv hkc hmm
              go_wp2
              go_loopw [10] (fun iv wz => ∃ i : Nat, i ≤ m + 70 ∧ iv = .int .i64 i ∧ wz = wr) (fun iv _ => m + 70 - (intOf iv).toNat)
              case atStart => exact ⟨0, Nat.zero_le _, rfl, rfl⟩
              case round =>
                obtain ⟨i, hi, rfl, rfl⟩ := hrel
                have i2 : (0 : Int) ≤ (i : Int) := by omega
                by_cases hil : i < m + 70
                · have i3 : (i : Int) < (m : Int) + 70 := by omega
                  have i7 : (i : Int) < ((m + 70 : Nat) : Int) := by omega
                  have q2 : wr.cell? ⟨gk, i, none⟩ = some (.int .i64 (-(k : Int) - 1)) := rep_cell HR.out.1 i hil
                  by_cases him : i < m
                  · have i6 : (i : Int) < (m : Int) := by omega
                    obtain ⟨g, rfl⟩ := HR.out.2.2.2 (by omega)
                    have q3 : wr.cell? ⟨g, i, none⟩ = some (.int .i64 (-(k : Int) - 1)) := by have t := HR.out.2.1 g (by rw [HR.out.2.2.1]; rfl) i (by simpa using him); rw [t]; simp [mkI]
                    go_wp2
                    go_roundw
                    case rel => exact ⟨i + 1, by omega, by go_num, by trivial⟩
                    case measure => simp [intOf]; omega
                  · have i6 : ¬ (i : Int) < (m : Int) := by omega
                    go_wp2
                    go_roundw
                    case rel => exact ⟨i + 1, by omega, by go_num, by trivial⟩
                    case measure => simp [intOf]; omega
                · obtain rfl : i = m + 70 := by omega
                  have i3 : ¬ ((m + 70 : Nat) : Int) < ((m + 70 : Nat) : Int) := by omega
                  go_wp2
                  go_roundw
                  case rel => exact ⟨k + 1, by omega, by go_num, by trivial⟩
                  case measure => simp [intOf]; omega
            · obtain rfl : K = k := by omega
              have i5 : ¬ (K : Int) < (K : Int) := by omega
              go_wp2
              refine bodyPost_ret (results_tmp rfl _ _ _) rfl ?_
              exact ⟨rfl, HX.out.g.on⟩
end Go.Proofs.YtfoahpideglghaaGreatDoor
