import Derived.Test.YtchoopnjckcohaaGreatDoorQat
import Derived.Test.YtchoopnjckcohaaGreatDoorQap
import Derived.Test.YtchoopnjckcohaaGreatDoorQan
import Derived.Deep.RegionHeld3
import Derived.Test.YtchoopnjckcohaaGreatDoorQam
import Derived.Test.YtchoopnjckcohaaGreatDoorQal
namespace Go.Proofs.YtchoopnjckcohaaGreatDoor
open Go.RowKit Go.Maps Go.Shelf
attribute [local go_sem] Oper.semAt_some

theorem Only.grown {w w' : World} {r : Option Nat} {R : Nat → Prop} (h : w.grownBy w' r) (hr : ∀ k, r = some k → R k) : Only w w' R :=
  ⟨h.os, h.tape, h.output, h.size, fun k hk hn => h.block k hk (fun e => hn (hr k e.symm))⟩
/-! ### Several rows that are written full, then grown -/
/-- The first i of a list are marks. -/
def gx {α : Type} (m : Nat → α) (d : α) (L : List α) (i : Nat) : List α := (List.range L.length).map fun j => if j < i then m j else L.getD j d
theorem gx_len {α : Type} (m : Nat → α) (d : α) (L : List α) (i : Nat) : (gx m d L i).length = L.length := by simp [gx]
theorem gx_set {α : Type} (m : Nat → α) (d : α) (L : List α) (i : Nat) : (gx m d L i).set i (m i) = gx m d L (i + 1) := by
  apply List.ext_getElem
  · simp [gx]
  · intro j h1 h2
    have hj : j < L.length := by simpa [gx] using h2
    rw [List.getElem_set]
    by_cases e : i = j
    · subst e; simp [gx]
    · rw [if_neg e]
      simp only [gx, List.getElem_map, List.getElem_range]
      by_cases h : j < i
      · rw [if_pos h, if_pos (by omega)]
      · rw [if_neg h, if_neg (by omega)]
def upd {α : Type} (a : Nat → α) (i : Nat) (y : α) : Nat → α := fun j => if j = i then y else a j
/-- A slice's cells read as a list. -/
def Rv (W : World) (v : Value) (xs : List Value) : Prop := ∀ g, v.ownBlock = some g → ∀ j (h : j < xs.length), W.cell? ⟨g, j, none⟩ = some xs[j]
theorem rv_of {W : World} {B e sz n : Nat} {v : Value} {xs : List Value} (h : W.ownsRow B e sz v n xs) : Rv W v xs := fun g hg j hj => by
  have := h.cells hg j xs[j] (List.getElem?_eq_getElem hj)
  rwa [Addr.add_lit, Nat.zero_add] at this
theorem Rv.only {W W' : World} {v : Value} {xs : List Value} {R : Nat → Prop} (h : Rv W v xs) (o : Only W W' R) (hn : ∀ k, v.ownBlock = some k → ¬ R k) : Rv W' v xs := fun g hg j hj => by
  have c := h g hg j hj
  exact (World.cell?_of_block (w := W) (o.block g (World.block_lt_of_cell? W _ c) (hn g hg))).trans c
/-- What never changes: the rows lie in memory that was there, apart; the boxes lie in new memory. -/
structure Gst (w : World) (N : Nat) (v : Nat → Value) (bx : List (Nat × Array Value × TypeId)) : Prop where
  lt : ∀ i, i < N → ∀ k, (v i).ownBlock = some k → k < w.heap.size
  ap : ∀ i j, i < N → j < N → i ≠ j → ∀ k, (v i).ownBlock = some k → (v j).ownBlock ≠ some k
  bge : ∀ q ∈ bx, w.heap.size ≤ q.1
/-- While they are filled: of row i the first a i cells are marks. -/
structure Gf (w W : World) (N : Nat) (v : Nat → Value) (bx : List (Nat × Array Value × TypeId)) (e sz n : Nat → Nat) (mk : Nat → Nat → Value) (x : Nat → List Value) (a : Nat → Nat) : Prop where
  b : ∀ q ∈ bx, W.heap[q.1]? = some (.cells q.2.1 q.2.2 (0, 0))
  on : Only w W (fun k => ∃ i, i < N ∧ (v i).ownBlock = some k)
  r : ∀ i, i < N → W.ownsRow 0 (e i) (sz i) (v i) (n i) (gx (mk i) undef (x i) (a i))
section
variable {w W W' : World} {N : Nat} {v : Nat → Value} {bx : List (Nat × Array Value × TypeId)} {e sz n : Nat → Nat} {mk : Nat → Nat → Value} {x : Nat → List Value} {a : Nat → Nat}
theorem Gf.below (h : Gf w W N v bx e sz n mk x a) (d : Below W.heap.size W W') : Gf w W' N v bx e sz n mk x a :=
  ⟨fun q hq => (d.block _ (Array.getElem?_eq_some_iff.1 (h.b q hq)).1).trans (h.b q hq), h.on.trans (Only.ofBelow d), fun i hi => own_below (h.r i hi) d⟩
theorem Gf.put (s : Gst w N v bx) (h : Gf w W N v bx e sz n mk x a) (i : Nat) (hi : i < N) {g cap m : Nat} (hv : v i = .slice (some ⟨g, 0, none⟩) m cap) (hm : n i = m) (u : Value) (hu : mk i (a i) = u) : Gf w (W.setCell ⟨g, a i, none⟩ u) N v bx e sz n mk x (upd a i (a i + 1)) := by
  have hg : (v i).ownBlock = some g := by rw [hv]; rfl
  have o1 := only_set W g (a i) u
  refine ⟨fun q hq => (o1.block _ (Array.getElem?_eq_some_iff.1 (h.b q hq)).1 ?_).trans (h.b q hq), h.on.trans (o1.mono fun k _ z => ⟨i, hi, by rw [z]; exact hg⟩), fun j hj => ?_⟩
  · have := s.bge q hq
    have := s.lt i hi g hg
    omega
  · by_cases e1 : j = i
    · subst e1
      have k := h.r j hj
      rw [hv, hm] at k
      have k2 := (k.stored (a j) u).1
      rw [← hu, gx_set] at k2
      rw [hv, hm, hu] at *
      simpa [upd] using k2
    · have k := row_only (h.r j hj) o1 fun b q z => s.ap j i hj hi e1 b q (by rw [z]; exact hg)
      simpa [upd, e1] using k
theorem gx_full (m : Nat → Value) (d : Value) (L : List Value) (i : Nat) (h : L.length ≤ i) : gx m d L i = (List.range L.length).map m := by
  apply List.ext_getElem
  · simp [gx]
  · intro j h1 h2
    simp only [gx, List.length_map, List.length_range] at h1
    simp only [gx, List.getElem_map, List.getElem_range]
    rw [if_pos (by omega)]
/-- While they are grown: each reads as it was written. -/
structure Gg (w W : World) (N : Nat) (v : Nat → Value) (bx : List (Nat × Array Value × TypeId)) (x : Nat → List Value) : Prop where
  b : ∀ q ∈ bx, W.heap[q.1]? = some (.cells q.2.1 q.2.2 (0, 0))
  on : Only w W (fun k => ∃ i, i < N ∧ (v i).ownBlock = some k)
  r : ∀ i, i < N → Rv W (v i) (x i)
theorem Gg.below {y : Nat → List Value} (h : Gg w W N v bx y) (d : Below W.heap.size W W') : Gg w W' N v bx y :=
  ⟨fun q hq => (d.block _ (Array.getElem?_eq_some_iff.1 (h.b q hq)).1).trans (h.b q hq), h.on.trans (Only.ofBelow d), fun i hi => (h.r i hi).only (Only.ofBelow (R := fun _ => False) d) fun _ _ z => z⟩
/-- A row that stays. -/
def Kr (W W' : World) (u : Value) : Prop := ∀ B e sz n xs, W.ownsRow B e sz u n xs → W'.ownsRow B e sz u n xs
/-- The row that is being grown. -/
structure Gx (w W : World) (v : Value) (bx : List (Nat × Array Value × TypeId)) (e sz n : Nat) (xs ys : List Value) (vm : Value) (j : Nat) : Prop where
  o : W.ownsRow 0 e sz vm (n + j) (xs ++ (List.replicate j ys).flatten)
  rel : vm.ownBlock = v.ownBlock ∨ ∃ b, vm.ownBlock = some b ∧ w.heap.size ≤ b ∧ ∀ q ∈ bx, q.1 ≠ b
theorem Gx.below {v : Value} {e sz n j : Nat} {xs ys : List Value} {vm : Value} (h : Gx w W v bx e sz n xs ys vm j) (d : Below W.heap.size W W') : Gx w W' v bx e sz n xs ys vm j := ⟨own_below h.o d, h.rel⟩
theorem Gx.zero {v : Value} {e sz n : Nat} {xs ys : List Value} (h : W.ownsRow 0 e sz v n xs) : Gx w W v bx e sz n xs ys v 0 := ⟨by simpa using h, .inl rfl⟩
theorem Gx.only {v : Value} {e sz n j : Nat} {xs ys : List Value} {vm : Value} {R : Nat → Prop} (h : Gx w W v bx e sz n xs ys vm j) (o : Only W W' R) (hn : ∀ k, vm.ownBlock = some k → ¬ R k) : Gx w W' v bx e sz n xs ys vm j := ⟨row_only h.o o hn, h.rel⟩
theorem Gf.full {z : Nat → Nat} (h : Gf w W N v bx e sz n mk x a) (hl : ∀ i, i < N → (x i).length = z i ∧ z i ≤ a i) : Gg w W N v bx (fun i => (List.range (z i)).map (mk i)) ∧ ∀ i, i < N → W.ownsRow 0 (e i) (sz i) (v i) (n i) ((List.range (z i)).map (mk i)) := by
  have k : ∀ i, i < N → W.ownsRow 0 (e i) (sz i) (v i) (n i) ((List.range (z i)).map (mk i)) := fun i hi => by
    obtain ⟨e1, e2⟩ := hl i hi
    have := h.r i hi
    rwa [gx_full _ _ _ _ (by omega), e1] at this
  exact ⟨⟨h.b, h.on, fun i hi => rv_of (k i hi)⟩, k⟩
end
theorem tag_ne2 {W : World} {B C e d sz tz n m k : Nat} {u v : Value} {xs ys : List Value} (h : W.ownsRow B e sz u n xs) (h' : W.ownsRow C d tz v m ys) (hed : e ≠ d) (q : u.ownBlock = some k) (z : v.ownBlock = some k) : False := by
  rcases h.2 with ⟨rfl, _⟩ | ⟨g, cap, cur, rfl, _, hg, _⟩
  · cases q
  · rcases h'.2 with ⟨rfl, _⟩ | ⟨g', cap', cur', rfl, _, hg', _⟩
    · cases z
    · cases q
      cases z
      rw [hg] at hg'
      cases hg'
      exact hed rfl
theorem upd_at {α : Type} (a : Nat → α) (i : Nat) (x : α) : upd a i x i = x := by simp [upd]
theorem Gf.cell {w W : World} {N : Nat} {v : Nat → Value} {bx : List (Nat × Array Value × TypeId)} {e sz n : Nat → Nat} {mk : Nat → Nat → Value} {x : Nat → List Value} {a : Nat → Nat} (h : Gf w W N v bx e sz n mk x a) (i : Nat) (hi : i < N) {ao : Option Addr} {cap m z : Nat} (hv : v i = .slice ao m cap) (hm : n i = m) (hz : sz i = z) (j : Nat) (hj : j < m * z) : ∃ g, ao = some ⟨g, 0, none⟩ ∧ ∀ c, c < m * z → (∃ u, W.cell? ⟨g, c, none⟩ = some u) ∧ W.frozen? ⟨g, c, none⟩ = false := by
  have k := h.r i hi
  rw [hv, hm, hz] at k
  obtain ⟨g, cp, e1, _, _⟩ := k.form (Nat.pos_of_ne_zero fun e0 => by rw [e0] at hj; omega)
  cases e1
  refine ⟨g, rfl, fun c hc => ⟨⟨_, rv_of k g rfl c (by rw [k.1]; exact hc)⟩, ?_⟩⟩
  rcases k.2 with ⟨e2, _⟩ | ⟨g', cap', cur, e2, _, hg, _⟩
  · cases e2
  · cases e2
    simp [World.frozen?, hg]
end Go.Proofs.YtchoopnjckcohaaGreatDoor
namespace Go.Proofs.YtchoopnjckcohaaGreatDoor
open Go.RowKit Go.Maps Go.Shelf
attribute [local go_sem] Oper.semAt_some

section
variable {w W W' : World} {N : Nat} {v : Nat → Value} {bx : List (Nat × Array Value × TypeId)} {e sz n : Nat → Nat} {mk : Nat → Nat → Value} {x : Nat → List Value} {a : Nat → Nat}
end
/-! ### Lists written full, then grown and kept in a row of lists -/
def mkI (k : Nat) : Value := .int .i64 (-(k : Int) - 1)
abbrev Bx := List (Nat × Array Value × TypeId)
structure Ow (w W : World) (K : Nat) (v : Nat → Value) (bx : Bx) (n : Nat → Nat) (u : Nat → Value) (k c : Nat) (lv : Value) : Prop where
  g : Gg w W K v bx (fun i => List.replicate (n i) (mkI i))
  rest : ∀ r, r < K → c ≤ r → W.ownsRow 0 3 1 (v r) (n r) (List.replicate (n r) (mkI r))
  up : ∀ r, r < k → W.ownsRow 0 3 1 (u r) (n r + 70) (List.replicate (n r + 70) (mkI r))
  ur : ∀ r, r < k → (u r).ownBlock = (v r).ownBlock ∨ ∃ b, (u r).ownBlock = some b ∧ w.heap.size ≤ b ∧ ∀ q ∈ bx, q.1 ≠ b
  ll : W.ownsRow 0 22 1 lv k ((List.range k).map u)
  ln : ∀ b, lv.ownBlock = some b → w.heap.size ≤ b ∧ ∀ q ∈ bx, q.1 ≠ b
/-- The row that grows is none of those that have grown. -/
def Apt (u : Nat → Value) (k : Nat) (vm : Value) : Prop := ∀ r, r < k → ∀ b, (u r).ownBlock = some b → vm.ownBlock ≠ some b
section
variable {w W W' : World} {K : Nat} {v : Nat → Value} {bx : Bx} {n : Nat → Nat} {u : Nat → Value} {k c : Nat} {lv : Value}
theorem Ow.below (h : Ow w W K v bx n u k c lv) (d : Below W.heap.size W W') : Ow w W' K v bx n u k c lv :=
  ⟨h.g.below d, fun r hr hc => own_below (h.rest r hr hc) d, fun r hr => own_below (h.up r hr) d, h.ur, own_below h.ll d, h.ln⟩
theorem Ow.start (h : Gg w W K v bx (fun i => List.replicate (n i) (mkI i)) ∧ ∀ r, r < K → W.ownsRow 0 3 1 (v r) (n r) (List.replicate (n r) (mkI r))) : Ow w W K v bx n (fun _ => .slice none 0 0) 0 0 (.slice none 0 0) :=
  ⟨h.1, fun r hr _ => h.2 r hr, fun r hr => absurd hr (by omega), fun r hr => absurd hr (by omega), ⟨rfl, .inl ⟨rfl, rfl⟩⟩, fun b q => by cases q⟩
theorem Ow.open (s : Gst w K v bx) (h : Ow w W K v bx n u k k lv) (hk : k < K) {vk : Value} (hv : v k = vk) : Ow w W K v bx n u k (k + 1) lv ∧ Gx w W (v k) bx 3 1 (n k) (List.replicate (n k) (mkI k)) [mkI k] vk 0 ∧ Apt u k vk := by
  subst hv
  refine ⟨⟨h.g, fun r hr hc => h.rest r hr (by omega), h.up, h.ur, h.ll, h.ln⟩, Gx.zero (h.rest k hk (Nat.le_refl _)), fun r hr b q z => ?_⟩
  rcases h.ur r hr with e | ⟨b', e1, e2, _⟩
  · exact s.ap r k (by omega) hk (by omega) b (by rw [← e]; exact q) z
  · have := s.lt k hk b z
    rw [e1] at q
    cases q
    omega
theorem Ow.grow (h : Ow w W K v bx n u k (k + 1) lv) {y : List Value} {ys : List Value} {vm : Value} {m j : Nat} (hx : Gx w W (v k) bx 3 1 m y ys vm j) (ha : Apt u k vm) {gv : Nat} {vm' : Value} (hb : vm'.ownBlock = some gv) (hg : Gg w W' K v bx (fun i => List.replicate (n i) (mkI i))) (ho : Only W W' (fun b => vm.ownBlock = some b)) (hd : vm.ownBlock = some gv ∨ gv = W.heap.size) (hkr : ∀ c, c < K → c ≠ k → Kr W W' (v c)) : Ow w W' K v bx n u k (k + 1) lv ∧ Apt u k vm' := by
  refine ⟨⟨hg, fun r hr hc => hkr r hr (by omega) _ _ _ _ _ (h.rest r hr hc), fun r hr => row_only (h.up r hr) ho fun b q z => ha r hr b q z, h.ur, row_only h.ll ho fun b q z => tag_ne2 h.ll hx.o (by decide) q z, h.ln⟩, fun r hr b q z => ?_⟩
  rw [hb] at z
  cases z
  rcases hd with e | e
  · exact ha r hr _ q e
  · have := ((h.up r hr).lt _ q).2
    omega
theorem rep_flat (m : Nat) (x : Value) (j : Nat) : List.replicate m x ++ (List.replicate j [x]).flatten = List.replicate (m + j) x := by
  have e : (List.replicate j [x]).flatten = List.replicate j x := by
    induction j with
    | zero => rfl
    | succ j ih => rw [List.replicate_succ, List.flatten_cons, ih, List.replicate_succ]; rfl
  rw [e, List.replicate_append_replicate]
theorem Ow.next (s : Gst w K v bx) (h : Ow w W K v bx n u k (k + 1) lv) (hk : k < K) {vm : Value} (hx : Gx w W (v k) bx 3 1 (n k) (List.replicate (n k) (mkI k)) [mkI k] vm 70) {gv cv : Nat} {w' : World}
    (ho : w'.ownsRow 0 22 1 (.slice (some ⟨gv, 0, none⟩) (k + 1) cv) (k + 1) ((List.range k).map u ++ [vm])) (hd : (lv.ownBlock = some gv ∧ W.grownBy w' (some gv)) ∨ (gv = W.heap.size ∧ W.grownBy w' none)) : Ow w w' K v bx n (upd u k vm) (k + 1) (k + 1) (.slice (some ⟨gv, 0, none⟩) (k + 1) cv) := by
  have o1 : Only W w' (fun b => lv.ownBlock = some b) := by
    rcases hd with ⟨hb, hg⟩ | ⟨_, hg⟩
    · exact Only.grown hg fun k q => by cases q; exact hb
    · exact Only.grown hg fun k q => by cases q
  have e0 : ∀ r, r ≠ k → upd u k vm r = u r := fun r hr => if_neg hr
  refine ⟨⟨fun t ht => (o1.block _ (Array.getElem?_eq_some_iff.1 (h.g.b t ht)).1 fun z => (h.ln _ z).2 t ht rfl).trans (h.g.b t ht), h.g.on.andNew o1 fun b hb z => ?_, fun r hr => (h.g.r r hr).only o1 fun b q z => ?_⟩, fun r hr hc => row_only (h.rest r hr hc) o1 fun b q z => tag_ne2 (h.rest r hr hc) h.ll (by decide) q z, fun r hr => ?_, fun r hr => ?_, ?_, fun b q => ?_⟩
  · have := (h.ln b z).1
    omega
  · have := (h.ln b z).1
    have := s.lt r hr b q
    omega
  · by_cases e : r = k
    · subst e
      rw [upd_at]
      have k1 := hx.o
      rw [rep_flat] at k1
      exact row_only k1 o1 fun b q z => tag_ne2 k1 h.ll (by decide) q z
    · rw [e0 r e]
      have k1 := h.up r (by omega)
      exact row_only k1 o1 fun b q z => tag_ne2 k1 h.ll (by decide) q z
  · by_cases e : r = k
    · subst e
      rw [upd_at]
      exact hx.rel
    · rw [e0 r e]
      exact h.ur r (by omega)
  · have e1 : (List.range (k + 1)).map (upd u k vm) = (List.range k).map u ++ [vm] := by
      rw [List.range_succ, List.map_append]
      congr 1
      · exact List.map_congr_left fun r hr => e0 r (by have := List.mem_range.1 hr; omega)
      · simp [upd_at]
    rw [e1]
    exact ho
  · have e : gv = b := by simpa [Value.ownBlock] using q
    subst e
    rcases hd with ⟨hb, _⟩ | ⟨rfl, _⟩
    · exact h.ln _ hb
    · exact ⟨h.g.on.size, fun t ht z => by have := (Array.getElem?_eq_some_iff.1 (h.g.b t ht)).1; omega⟩
end
end Go.Proofs.YtchoopnjckcohaaGreatDoor
namespace Go.Proofs.YtchoopnjckcohaaGreatDoor
open Go.RowKit Go.Maps Go.Shelf
attribute [local go_sem] Oper.semAt_some

/-! ### The law's over -/
def aW (n : Nat → Nat) (k : Nat) : Nat → Nat := fun r => if r < k then n r else 0
theorem map_rep (m : Nat) (y : Value) : (List.range m).map (fun _ => y) = List.replicate m y := by
  apply List.ext_getElem <;> simp
theorem Gf.over {w W : World} {K : Nat} {v : Nat → Value} {bx : Bx} {n : Nat → Nat} {x : Nat → List Value} (h : Gf w W K v bx (fun _ => 3) (fun _ => 1) n (fun i _ => mkI i) x (aW n K)) : Gg w W K v bx (fun i => List.replicate (n i) (mkI i)) ∧ ∀ r, r < K → W.ownsRow 0 3 1 (v r) (n r) (List.replicate (n r) (mkI r)) := by
  have q := Gf.full (z := n) h (fun i hi => ⟨by have t := (h.r i hi).1; rw [gx_len] at t; omega, by unfold aW; rw [if_pos hi]; exact Nat.le_refl _⟩)
  simp only [map_rep] at q
  exact q
end Go.Proofs.YtchoopnjckcohaaGreatDoor
namespace Go.Proofs.YtchoopnjckcohaaGreatDoor
open Go.RowKit Go.Maps Go.Shelf
attribute [local go_sem] Oper.semAt_some

/-! ### The document's Reverse -/
/-- Three lists in memory of one's own. -/
structure OwnD (B : Nat) (w : World) (v1 v2 v3 : Value) (S F : List Int) (E : List EdT) : Prop where
  s : w.ownsRow B 3 1 v1 S.length (S.map (Value.int .i64))
  f : w.ownsRow B 3 1 v2 F.length (F.map (Value.int .i64))
  e : w.ownsRow B 61 3 v3 E.length (E.flatMap encE)
theorem OwnD.rd {B : Nat} {w : World} {b1 b2 b3 : Option Addr} {k1 k2 k3 : Nat} {S F : List Int} {E : List EdT} (h : OwnD B w (.slice b1 S.length k1) (.slice b2 F.length k2) (.slice b3 E.length k3) S F E) : RdA w b1 b2 b3 S F E := ⟨own_rdN h.s, own_rdN h.f, own_rdE h.e⟩
end Go.Proofs.YtchoopnjckcohaaGreatDoor
namespace Go.Proofs.YtchoopnjckcohaaGreatDoor
open Go.RowKit Go.Maps Go.Shelf
attribute [local go_sem] Oper.semAt_some

/-! ### Union -/
end Go.Proofs.YtchoopnjckcohaaGreatDoor
namespace Go.Proofs.YtchoopnjckcohaaGreatDoor
open Go.RowKit Go.Maps Go.Shelf
attribute [local go_sem] Oper.semAt_some

/-! ### The document's Union -/
/-- What the document's Union holds of what it makes: a box, three rows; what was there is as it was but for R. -/
structure UX (wl : World) (R : Nat → Prop) (B p : Nat) (N m : Int) (v1 v2 v3 : Value) (X1 X2 : List Int) (X3 : List EdT) (w : World) : Prop where
  box : w.heap[p]? = some (.cells #[.int .i64 N, .int .i64 m, v1, v2, v3] 25 (0, 0))
  own : OwnO B w v1 v2 v3 X1 X2 X3
  only : Only wl w R
  r1 : ∀ k, v1.ownBlock = some k → R k ∨ wl.heap.size ≤ k
  r2 : ∀ k, v2.ownBlock = some k → R k ∨ wl.heap.size ≤ k
  r3 : ∀ k, v3.ownBlock = some k → R k ∨ wl.heap.size ≤ k
  rp : R p
theorem UX.on {wl : World} {R : Nat → Prop} {B p : Nat} {N m : Int} {v1 v2 v3 : Value} {X1 X2 : List Int} {X3 : List EdT} {w w' : World} (h : UX wl R B p N m v1 v2 v3 X1 X2 X3 w) (d : Below w.heap.size w w') : UX wl R B p N m v1 v2 v3 X1 X2 X3 w' := ⟨blk_on h.box d, h.own.on d, h.only.trans (Only.ofBelow d), h.r1, h.r2, h.r3, h.rp⟩
end Go.Proofs.YtchoopnjckcohaaGreatDoor
namespace Go.Proofs.YtchoopnjckcohaaGreatDoor
open Go.RowKit Go.Maps Go.Shelf
attribute [local go_sem] Oper.semAt_some

/-! ### The document's Union: errors -/
end Go.Proofs.YtchoopnjckcohaaGreatDoor
namespace Go.Proofs.YtchoopnjckcohaaGreatDoor
open Go.RowKit Go.Maps Go.Shelf
attribute [local go_sem] Oper.semAt_some

/-! ### The document's Union -/
end Go.Proofs.YtchoopnjckcohaaGreatDoor
namespace Go.Proofs.YtchoopnjckcohaaGreatDoor
open Go.RowKit Go.Maps Go.Shelf
attribute [local go_sem] Oper.semAt_some

/-! ### The law's made -/
def g2 {α : Type} (p q : α) : Nat → α
  | 0 => p
  | _ => q
end Go.Proofs.YtchoopnjckcohaaGreatDoor
namespace Go.Proofs.YtchoopnjckcohaaGreatDoor
open Go.RowKit Go.Maps Go.Shelf
attribute [local go_sem] Oper.semAt_some

/-! ### The document's Widen -/
end Go.Proofs.YtchoopnjckcohaaGreatDoor
namespace Go.Proofs.YtchoopnjckcohaaGreatDoor
open Go.RowKit Go.Maps Go.Shelf

/-! ### What the constructions answer -/
structure Ans where
  n : Int
  m : Int
  s : List Int
  f : List Int
  e : List EdT
  er : Int
theorem Own.o {B : Nat} {w : World} {g1 k1 g2 k2 g3 k3 : Nat} {S F : List Int} {E : List EdT} (h : Own B w g1 k1 g2 k2 g3 k3 S F E) : OwnO B w (.slice (some ⟨g1, 0, none⟩) S.length k1) (.slice (some ⟨g2, 0, none⟩) F.length k2) (.slice (some ⟨g3, 0, none⟩) E.length k3) S F E :=
  ⟨h.s, h.f, h.e, fun g q q' => h.n12 (by simp only [Value.ownBlock, Option.some.injEq] at q q'; rw [q, q'])⟩
/-- The program's answer: lists of its own. -/
def AnsO (w : World) (r : Ans) (e : Ending) (w' : World) : Prop := ∃ b1 k1 b2 k2 b3 k3, e = .returned (.tuple #[.agg #[.int .i64 r.n, .int .i64 r.m, .slice b1 r.s.length k1, .slice b2 r.f.length k2, .slice b3 r.e.length k3], .int .i64 r.er]) ∧ Hid (OwnO w.heap.size w' (.slice b1 r.s.length k1) (.slice b2 r.f.length k2) (.slice b3 r.e.length k3) r.s r.f r.e) ∧ Below w.heap.size w w'
/-- The document's answer: lists in new memory. -/
def AnsRN (w : World) (r : Ans) (e : Ending) (w' : World) : Prop := ∃ b1 k1 b2 k2 b3 k3, e = .returned (.tuple #[.agg #[.int .i64 r.n, .int .i64 r.m, .slice b1 r.s.length k1, .slice b2 r.f.length k2, .slice b3 r.e.length k3], .int .i64 r.er]) ∧ Hid (OwnD w.heap.size w' (.slice b1 r.s.length k1) (.slice b2 r.f.length k2) (.slice b3 r.e.length k3) r.s r.f r.e) ∧ Below w.heap.size w w'
theorem AnsO.r {w w' : World} {r : Ans} {e : Ending} (h : AnsO w r e w') : AnsRN w r e w' := by
  obtain ⟨b1, k1, b2, k2, b3, k3, he, ho, d⟩ := h
  exact ⟨b1, k1, b2, k2, b3, k3, he, hide ⟨ho.out.s, ho.out.f, ho.out.e⟩, d⟩
end Go.Proofs.YtchoopnjckcohaaGreatDoor
namespace Go.Proofs.YtchoopnjckcohaaGreatDoor
open Go.RowKit Go.Maps Go.Shelf
attribute [local go_sem] Oper.semAt_some

/-- Whether two automata are the same, field by field. -/
def eqB (n m n' m' : Int) (St Fi : List Int) (Ed : List EdT) (St' Fi' : List Int) (Ed' : List EdT) : Bool := decide (n = n' ∧ m = m' ∧ St = St' ∧ Fi = Fi' ∧ Ed = Ed')
set_option maxRecDepth 100000 in
set_option maxHeartbeats 4000000 in
theorem requal_any (w : World) (n m n' m' : Int) (a1 a2 a3 b1 b2 b3 : Option Addr) (c1 c2 c3 d1 d2 d3 : Nat) (St Fi : List Int) (Ed : List EdT) (St' Fi' : List Int) (Ed' : List EdT) (hA : Hid (RdA w a1 a2 a3 St Fi Ed)) (hB : Hid (RdA w b1 b2 b3 St' Fi' Ed')) (h1 : St.length ≤ 4194304) (h2 : Fi.length ≤ 4194304) (h3 : Ed.length ≤ 4194304) (h4 : St'.length ≤ 4194304) (h5 : Fi'.length ≤ 4194304) (_h6 : Ed'.length ≤ 4194304) :
    Calls Tryz.prog 19 #[.agg #[.int .i64 n, .int .i64 m, .slice a1 St.length c1, .slice a2 Fi.length c2, .slice a3 Ed.length c3], .agg #[.int .i64 n', .int .i64 m', .slice b1 St'.length d1, .slice b2 Fi'.length d2, .slice b3 Ed'.length d3]] w fun e w' => e = .returned (.bool (eqB n m n' m' St Fi Ed St' Fi' Ed')) ∧ Below w.heap.size w w' := by
  obtain ⟨W0, hW0⟩ : ∃ W0, (w.alloc (.cells #[.int .i64 n, .int .i64 m, .slice a1 St.length c1, .slice a2 Fi.length c2, .slice a3 Ed.length c3] 25)).alloc (.cells #[.int .i64 n', .int .i64 m', .slice b1 St'.length d1, .slice b2 Fi'.length d2, .slice b3 Ed'.length d3] 25) = W0 := ⟨_, rfl⟩
  have HD := hide (box3 w #[.int .i64 n, .int .i64 m, .slice a1 St.length c1, .slice a2 Fi.length c2, .slice a3 Ed.length c3] #[.int .i64 n', .int .i64 m', .slice b1 St'.length d1, .slice b2 Fi'.length d2, .slice b3 Ed'.length d3] 25 25)
  rw [hW0] at HD
  have SK : Hid (∀ W, Below W0.heap.size W0 W → ((W.cell? ⟨w.heap.size, 0, none⟩ = some (.int .i64 n) ∧ W.cell? ⟨w.heap.size, 1, none⟩ = some (.int .i64 m) ∧ W.cell? ⟨w.heap.size, 2, none⟩ = some (.slice a1 St.length c1) ∧ W.cell? ⟨w.heap.size, 3, none⟩ = some (.slice a2 Fi.length c2) ∧ W.cell? ⟨w.heap.size, 4, none⟩ = some (.slice a3 Ed.length c3)) ∧ (W.cell? ⟨w.heap.size + 1, 0, none⟩ = some (.int .i64 n') ∧ W.cell? ⟨w.heap.size + 1, 1, none⟩ = some (.int .i64 m') ∧ W.cell? ⟨w.heap.size + 1, 2, none⟩ = some (.slice b1 St'.length d1) ∧ W.cell? ⟨w.heap.size + 1, 3, none⟩ = some (.slice b2 Fi'.length d2) ∧ W.cell? ⟨w.heap.size + 1, 4, none⟩ = some (.slice b3 Ed'.length d3)))) := hide (fun W d => by
    have e := blk_on HD.out.2.1 d
    have f := blk_on HD.out.2.2.1 d
    exact ⟨⟨cell_of e rfl, cell_of e rfl, cell_of e rfl, cell_of e rfl, cell_of e rfl⟩, cell_of f rfl, cell_of f rfl, cell_of f rfl, cell_of f rfl, cell_of f rfl⟩)
  have TS : Hid (∀ W, Below W0.heap.size W0 W → Calls Tryz.prog 28 #[.slice a1 St.length c1, .slice b1 St'.length d1] W fun e w' => e = .returned (.bool (decide (St = St'))) ∧ Below W.heap.size W w') := hide (fun W d => by
    have d2 := HD.out.1.trans (d.mono HD.out.1.size)
    exact sameInts_any W a1 b1 St St' c1 d1 (hide (hA.out.s.on d2)) (hide (hB.out.s.on d2)) h1 h4)
  have TF : Hid (∀ W, Below W0.heap.size W0 W → Calls Tryz.prog 28 #[.slice a2 Fi.length c2, .slice b2 Fi'.length d2] W fun e w' => e = .returned (.bool (decide (Fi = Fi'))) ∧ Below W.heap.size W w') := hide (fun W d => by
    have dd := HD.out.1.trans (d.mono HD.out.1.size)
    exact sameInts_any W a2 b2 Fi Fi' c2 d2 (hide (hA.out.f.on dd)) (hide (hB.out.f.on dd)) h2 h5)
  obtain ⟨⟨y0, y1, y2, y3, y4⟩, z0, z1, z2, z3, z4⟩ := SK.out W0 (Below.refl _ _)
  rcases Classical.em (n = n') with e0 | e0
  rotate_left
  · have HE : Hid (eqB n m n' m' St Fi Ed St' Fi' Ed' = false) := hide (decide_eq_false fun h => e0 h.1)
    have k0 : (n != n') = true := by simpa using e0
    clear e0
    go_enter Tryz.func19, Tryz.ntmps19
    go_wp2_with fail
    refine bodyPost_ret (results_tmp rfl _ _ _) rfl ?_
    exact ⟨by rw [HE.out]; rfl, HD.out.1⟩
  have k0 : (n != n') = false := by simpa using e0
  rcases Classical.em (m = m') with e1 | e1
  rotate_left
  · have HE : Hid (eqB n m n' m' St Fi Ed St' Fi' Ed' = false) := hide (decide_eq_false fun h => e1 h.2.1)
    have k1 : (m != m') = true := by simpa using e1
    clear e0 e1
    go_enter Tryz.func19, Tryz.ntmps19
    go_wp2_with fail
    refine bodyPost_ret (results_tmp rfl _ _ _) rfl ?_
    exact ⟨by rw [HE.out]; rfl, HD.out.1⟩
  have k1 : (m != m') = false := by simpa using e1
  rcases Classical.em (St = St') with e2 | e2
  rotate_left
  · have HE : Hid (eqB n m n' m' St Fi Ed St' Fi' Ed' = false) := hide (decide_eq_false fun h => e2 h.2.2.1)
    rw [decide_eq_false e2] at TS
    clear e0 e1 e2
    go_enter Tryz.func19, Tryz.ntmps19
    go_wp2_with (first
      | (go_at_call_of 28 a1; refine (TS.out _ (Below.refl _ _)).mono ?_; rintro e w1 ⟨rfl, q1⟩; have H1 := hide q1; clear q1 y0 y1 y2 y3 y4 z0 z1 z2 z3 z4; have ⟨⟨y0, y1, y2, y3, y4⟩, z0, z1, z2, z3, z4⟩ := SK.out w1 (H1.out)))
    refine bodyPost_ret (results_tmp rfl _ _ _) rfl ?_
    exact ⟨by rw [HE.out]; rfl, HD.out.1.trans (H1.out.mono HD.out.1.size)⟩
  rw [decide_eq_true e2] at TS
  rcases Classical.em (Fi = Fi') with e3 | e3
  rotate_left
  · have HE : Hid (eqB n m n' m' St Fi Ed St' Fi' Ed' = false) := hide (decide_eq_false fun h => e3 h.2.2.2.1)
    rw [decide_eq_false e3] at TF
    clear e0 e1 e2 e3
    go_enter Tryz.func19, Tryz.ntmps19
    go_wp2_with (first
      | (go_at_call_of 28 a1; refine (TS.out _ (Below.refl _ _)).mono ?_; rintro e w1 ⟨rfl, q1⟩; have H1 := hide q1; clear q1 y0 y1 y2 y3 y4 z0 z1 z2 z3 z4; have ⟨⟨y0, y1, y2, y3, y4⟩, z0, z1, z2, z3, z4⟩ := SK.out w1 (H1.out))
      | (go_at_call_of 28 a2; refine (TF.out w1 H1.out).mono ?_; rintro e w2 ⟨rfl, q2⟩; have H2 := hide (H1.out.trans (q2.mono H1.out.size)); clear q2 y0 y1 y2 y3 y4 z0 z1 z2 z3 z4; have ⟨⟨y0, y1, y2, y3, y4⟩, z0, z1, z2, z3, z4⟩ := SK.out w2 (H2.out)))
    refine bodyPost_ret (results_tmp rfl _ _ _) rfl ?_
    exact ⟨by rw [HE.out]; rfl, HD.out.1.trans (H2.out.mono HD.out.1.size)⟩
  rw [decide_eq_true e3] at TF
  rcases Classical.em (Ed.length = Ed'.length) with e4 | e4
  rotate_left
  · have HE : Hid (eqB n m n' m' St Fi Ed St' Fi' Ed' = false) := hide (decide_eq_false fun h => e4 (by rw [h.2.2.2.2]))
    have k4 : ((Ed.length : Int) != (Ed'.length : Int)) = true := by simp; omega
    clear e0 e1 e2 e3 e4
    go_enter Tryz.func19, Tryz.ntmps19
    go_wp2_with (first
      | (go_at_call_of 28 a1; refine (TS.out _ (Below.refl _ _)).mono ?_; rintro e w1 ⟨rfl, q1⟩; have H1 := hide q1; clear q1 y0 y1 y2 y3 y4 z0 z1 z2 z3 z4; have ⟨⟨y0, y1, y2, y3, y4⟩, z0, z1, z2, z3, z4⟩ := SK.out w1 (H1.out))
      | (go_at_call_of 28 a2; refine (TF.out w1 H1.out).mono ?_; rintro e w2 ⟨rfl, q2⟩; have H2 := hide (H1.out.trans (q2.mono H1.out.size)); clear q2 y0 y1 y2 y3 y4 z0 z1 z2 z3 z4; have ⟨⟨y0, y1, y2, y3, y4⟩, z0, z1, z2, z3, z4⟩ := SK.out w2 (H2.out)))
    refine bodyPost_ret (results_tmp rfl _ _ _) rfl ?_
    exact ⟨by rw [HE.out]; rfl, HD.out.1.trans (H2.out.mono HD.out.1.size)⟩
  have k4 : ((Ed.length : Int) != (Ed'.length : Int)) = false := by simp; omega
  have HEQ : Hid (Ed = Ed' → eqB n m n' m' St Fi Ed St' Fi' Ed' = true) := hide (fun h => decide_eq_true ⟨e0, e1, e2, e3, h⟩)
  have HLE := hide e4
  clear e0 e1 e2 e3 e4
  go_enter Tryz.func19, Tryz.ntmps19
  go_wp2_with (first
    | (go_at_call_of 28 a1; refine (TS.out _ (Below.refl _ _)).mono ?_; rintro e w1 ⟨rfl, q1⟩; have H1 := hide q1; clear q1 y0 y1 y2 y3 y4 z0 z1 z2 z3 z4; have ⟨⟨y0, y1, y2, y3, y4⟩, z0, z1, z2, z3, z4⟩ := SK.out w1 (H1.out))
    | (go_at_call_of 28 a2; refine (TF.out w1 H1.out).mono ?_; rintro e w2 ⟨rfl, q2⟩; have H2 := hide (H1.out.trans (q2.mono H1.out.size)); clear q2 y0 y1 y2 y3 y4 z0 z1 z2 z3 z4; have ⟨⟨y0, y1, y2, y3, y4⟩, z0, z1, z2, z3, z4⟩ := SK.out w2 (H2.out)))
  clear y0 y1 y2 y3 y4 z0 z1 z2 z3 z4 H1 TS TF hW0
  go_loopw [5] (fun iv wr => ∃ i : Nat, i ≤ Ed.length ∧ iv = .int .i64 i ∧ Hid (Below W0.heap.size W0 wr ∧ ∀ t (h : t < Ed.length) (h' : t < Ed'.length), t < i → Ed[t] = Ed'[t])) (fun iv _ => Ed.length - (intOf iv).toNat)
  case atStart => exact ⟨0, Nat.zero_le _, rfl, hide ⟨H2.out, fun t _ _ h => by omega⟩⟩
  case round =>
    obtain ⟨i, hi, rfl, HY⟩ := hrel
    obtain ⟨⟨y0, y1, y2, y3, y4⟩, z0, z1, z2, z3, z4⟩ := SK.out wr (HY.out.1)
    have HDW := hide (HD.out.1.trans (HY.out.1.mono HD.out.1.size))
    by_cases hlt : i < Ed.length
    · have i0 : (i : Int) < (Ed.length : Int) := by omega
      have i1 : (0 : Int) ≤ (i : Int) := by omega
      have hlt' : i < Ed'.length := by have := HLE.out; omega
      have i2 : (i : Int) < (Ed'.length : Int) := by omega
      have iw : IntKind.i64.wrap ((i : Int) + 1) = (i : Int) + 1 := by rw [IntKind.wrap_i64]; omega
      obtain ⟨g, o, hao, q0, q1, q2⟩ := (hA.out.e.on HDW.out) i hlt
      obtain ⟨g', o', hbo, r0, r1, r2⟩ := (hB.out.e.on HDW.out) i hlt'
      subst hao hbo
      have HNE : Hid (Ed[i] ≠ Ed'[i] → eqB n m n' m' St Fi Ed St' Fi' Ed' = false) := hide (fun h => decide_eq_false fun k => h (by simp only [k.2.2.2.2]))
      have HNX : Hid (Ed[i] = Ed'[i] → ∀ t (h : t < Ed.length) (h' : t < Ed'.length), t < i + 1 → Ed[t] = Ed'[t]) := hide (fun he t h h' ht => by
        rcases Nat.lt_or_ge t i with h3 | h3
        · exact HY.out.2 t h h' h3
        · obtain rfl : t = i := by omega
          exact he)
      generalize Ed[i] = u at q0 q1 q2 HNE HNX
      generalize Ed'[i] = v at r0 r1 r2 HNE HNX
      obtain ⟨u1, u2, u3⟩ := u
      obtain ⟨v1, v2, v3⟩ := v
      simp only at q0 q1 q2 r0 r1 r2
      clear hlt'
      by_cases f1 : u1 = v1
      · by_cases f2 : u2 = v2
        · by_cases f3 : u3 = v3
          · have HN := hide (HNX.out (by rw [f1, f2, f3]))
            subst f1 f2 f3
            clear HNE HNX
            go_upto_region 6 with fail
            refine wp_region_phase 10 #[true, true, true, true, true, true, true, true, true, true, false] (by kernel_rfl) (by kernel_rfl) ?_
            simp only [List.take_succ_cons, List.take_zero, List.drop_succ_cons, List.drop_zero]
            repeat (go_big_quiet_step (fail))
            refine wpQuiet_nil ?_
            intro wz hzz
            obtain ⟨nq, rfl⟩ := hzz
            go_wp2_with fail
            go_roundw
            case rel => exact ⟨i + 1, by omega, by go_num, hide ⟨below_drewN2 HY.out.1 nq, HN.out⟩⟩
            case measure => simp [intOf]; omega
          · have HE := hide (HNE.out (by intro h; cases h; exact f3 rfl))
            have p1 : (u1 == v1) = true := by simpa using f1
            have p2 : (u2 == v2) = true := by simpa using f2
            have p3 : (u3 == v3) = false := by simpa using f3
            clear f1 f2 f3 HNE HNX
            go_upto_region 6 with fail
            refine wp_region_phase 10 #[true, true, true, true, true, true, true, true, true, true, false] (by kernel_rfl) (by kernel_rfl) ?_
            simp only [List.take_succ_cons, List.take_zero, List.drop_succ_cons, List.drop_zero]
            repeat (go_big_quiet_step (fail))
            refine wpQuiet_nil ?_
            intro wz hzz
            obtain ⟨nq, rfl⟩ := hzz
            go_wp2_with fail
            refine bodyPost_ret (results_tmp rfl _ _ _) rfl ?_
            exact ⟨by rw [HE.out]; rfl, below_drewN2 HDW.out nq⟩
        · have HE := hide (HNE.out (by intro h; cases h; exact f2 rfl))
          have p1 : (u1 == v1) = true := by simpa using f1
          have p2 : (u2 == v2) = false := by simpa using f2
          clear f1 f2 HNE HNX
          go_upto_region 6 with fail
          refine wp_region_phase 10 #[true, true, true, true, true, true, true, true, true, true, false] (by kernel_rfl) (by kernel_rfl) ?_
          simp only [List.take_succ_cons, List.take_zero, List.drop_succ_cons, List.drop_zero]
          repeat (go_big_quiet_step (fail))
          refine wpQuiet_nil ?_
          intro wz hzz
          obtain ⟨nq, rfl⟩ := hzz
          go_wp2_with fail
          refine bodyPost_ret (results_tmp rfl _ _ _) rfl ?_
          exact ⟨by rw [HE.out]; rfl, below_drewN2 HDW.out nq⟩
      · have HE := hide (HNE.out (by intro h; cases h; exact f1 rfl))
        have p1 : (u1 == v1) = false := by simpa using f1
        clear f1 HNE HNX
        go_upto_region 6 with fail
        refine wp_region_phase 10 #[true, true, true, true, true, true, true, true, true, true, false] (by kernel_rfl) (by kernel_rfl) ?_
        simp only [List.take_succ_cons, List.take_zero, List.drop_succ_cons, List.drop_zero]
        repeat (go_big_quiet_step (fail))
        refine wpQuiet_nil ?_
        intro wz hzz
        obtain ⟨nq, rfl⟩ := hzz
        go_wp2_with fail
        refine bodyPost_ret (results_tmp rfl _ _ _) rfl ?_
        exact ⟨by rw [HE.out]; rfl, below_drewN2 HDW.out nq⟩
    · have i0 : ¬ (i : Int) < (Ed.length : Int) := by omega
      have HE := hide (HEQ.out (List.ext_getElem HLE.out fun t h h' => HY.out.2 t h h' (by omega)))
      go_wp2_with fail
      refine bodyPost_ret (results_tmp rfl _ _ _) rfl ?_
      exact ⟨by rw [HE.out]; rfl, HDW.out⟩
end Go.Proofs.YtchoopnjckcohaaGreatDoor
