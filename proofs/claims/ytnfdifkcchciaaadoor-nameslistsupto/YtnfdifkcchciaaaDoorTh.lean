import Derived.Test.YtnfdifkcchciaaaDoorAr
namespace Go.Proofs.YtnfdifkcchciaaaDoor
open Go.RowKit Go.Maps

/-- What thrice reads all the while: the lists it was given (two sets of them), the tables, the box. -/
structure Tz (X : Nat) (va vb vc xa xb xc : Value) (la lb lc : List ByteArray) (head : ByteArray) (n : Int) (w : World) : Prop where
  a : StrS w va la
  b : StrS w vb lb
  c : StrS w vc lc
  ya : StrS w xa la
  yb : StrS w xb lb
  yc : StrS w xc lc
  bt : BytesAt w
  pw : PowAt w
  sz : 1 < w.heap.size
  c0 : w.cell? ⟨X, 0, none⟩ = some xa
  c1 : w.cell? ⟨X, 1, none⟩ = some xb
  c2 : w.cell? ⟨X, 2, none⟩ = some xc
  c3 : w.cell? ⟨X, 3, none⟩ = some (.string head)
  c4 : w.cell? ⟨X, 4, none⟩ = some (.int .i64 n)
theorem Tz.below {X : Nat} {va vb vc xa xb xc : Value} {la lb lc : List ByteArray} {head : ByteArray} {n : Int} {w w' : World} (h : Tz X va vb vc xa xb xc la lb lc head n w) (d : Below w.heap.size w w') : Tz X va vb vc xa xb xc la lb lc head n w' :=
  ⟨h.a.below d, h.b.below d, h.c.below d, h.ya.below d, h.yb.below d, h.yc.below d, h.bt.below d (by have := h.sz; omega), h.pw.below d h.sz, Nat.lt_of_lt_of_le h.sz d.size, cell_below h.c0 d, cell_below h.c1 d, cell_below h.c2 d, cell_below h.c3 d, cell_below h.c4 d⟩

/-- The five cells of a value Lists in memory. -/
def Cy (Y : Nat) (p q r : Value) (h : ByteArray) (n : Int) (w : World) : Prop :=
  w.cell? ⟨Y, 0, none⟩ = some p ∧ w.cell? ⟨Y, 1, none⟩ = some q ∧ w.cell? ⟨Y, 2, none⟩ = some r ∧ w.cell? ⟨Y, 3, none⟩ = some (.string h) ∧ w.cell? ⟨Y, 4, none⟩ = some (.int .i64 n)
theorem Cy.below {Y : Nat} {p q r : Value} {h : ByteArray} {n : Int} {w w' : World} (c : Cy Y p q r h n w) (d : Below w.heap.size w w') : Cy Y p q r h n w' :=
  ⟨cell_below c.1 d, cell_below c.2.1 d, cell_below c.2.2.1 d, cell_below c.2.2.2.1 d, cell_below c.2.2.2.2 d⟩

/-- What thrice has made: nt lists of texts, nn lists of numbers, apart from one another; the first mt and mn of them stand in tv and nv. -/
structure Th (w0 : World) (A0 A2 : List ByteArray) (B0 B1 : List Nat) (nt nn mt mn : Nat) (tv nv : Value) (ta : Nat → Value) (tl : Nat → List ByteArray) (na : Nat → Value) (nl : Nat → List Nat) (w : World) : Prop where
  t : ∀ i, i < nt → OwnS w w0.heap.size (ta i) (tl i)
  n : ∀ i, i < nn → OwnN w w0.heap.size (na i) (nl i)
  tt : ∀ i j, i < nt → j < nt → i ≠ j → ∀ b, (ta i).ownBlock = some b → (ta j).ownBlock ≠ some b
  nn' : ∀ i j, i < nn → j < nn → i ≠ j → ∀ b, (na i).ownBlock = some b → (na j).ownBlock ≠ some b
  tr : w.ownsRow w0.heap.size 22 1 tv mt ((List.range mt).map ta)
  nr : w.ownsRow w0.heap.size 28 1 nv mn ((List.range mn).map na)
  ltt : ∀ i, i < nt → (tl i).length ≤ 2097152
  ltn : ∀ i, i < nn → (nl i).length ≤ 2097152
  f0 : 0 < nt → tl 0 = A0
  f2 : 2 < nt → tl 2 = A2
  g0 : 0 < nn → nl 0 = B0
  g1 : 1 < nn → nl 1 = B1
  mtn : mt ≤ nt
  mnn : mn ≤ nn
  D : Below w0.heap.size w0 w

section
variable {w0 : World} {A0 A2 : List ByteArray} {B0 B1 : List Nat} {nt nn mt mn : Nat} {tv nv : Value} {ta : Nat → Value} {tl : Nat → List ByteArray} {na : Nat → Value} {nl : Nat → List Nat} {w w' : World}
theorem Th.start (w : World) (A0 A2 : List ByteArray) (B0 B1 : List Nat) : Th w A0 A2 B0 B1 0 0 0 0 (.slice none 0 0) (.slice none 0 0) (fun _ => .slice none 0 0) (fun _ => []) (fun _ => .slice none 0 0) (fun _ => []) w :=
  ⟨fun i hi => absurd hi (Nat.not_lt_zero _), fun i hi => absurd hi (Nat.not_lt_zero _), fun i j hi => absurd hi (Nat.not_lt_zero _), fun i j hi => absurd hi (Nat.not_lt_zero _), World.ownsRow_nil _ _ _ _, World.ownsRow_nil _ _ _ _, fun i hi => absurd hi (Nat.not_lt_zero _), fun i hi => absurd hi (Nat.not_lt_zero _), fun h => absurd h (by omega), fun h => absurd h (by omega), fun h => absurd h (by omega), fun h => absurd h (by omega), Nat.le_refl _, Nat.le_refl _, Below.refl _ _⟩
theorem Th.below (h : Th w0 A0 A2 B0 B1 nt nn mt mn tv nv ta tl na nl w) (d : Below w.heap.size w w') : Th w0 A0 A2 B0 B1 nt nn mt mn tv nv ta tl na nl w' :=
  ⟨fun i hi => (h.t i hi).below d, fun i hi => row_below (h.n i hi) d, h.tt, h.nn', row_below h.tr d, row_below h.nr d, h.ltt, h.ltn, h.f0, h.f2, h.g0, h.g1, h.mtn, h.mnn, h.D.trans (d.mono h.D.size)⟩
theorem map_up_r (f : Nat → Value) {m k : Nat} (x : Value) (h : m ≤ k) : (List.range m).map (up f k x) = (List.range m).map f := by
  apply List.map_congr_left
  intro t ht
  rw [up_other _ _ _ (by have := List.mem_range.1 ht; omega)]
theorem own_more {w : World} {e size n B C : Nat} {v : Value} {xs : List Value} (h : w.ownsRow C e size v n xs) (hb : B ≤ C) : w.ownsRow B e size v n xs := own_up (row_zero h) (fun b e => Nat.le_trans hb (h.lt b e).1)
/-- One list of texts more. -/
theorem Th.text {v : Value} {l : List ByteArray} (h : Th w0 A0 A2 B0 B1 nt nn mt mn tv nv ta tl na nl w) (d : Below w.heap.size w w') (o : OwnS w' w.heap.size v l) (hl : l.length ≤ 2097152) (h0 : nt = 0 → l = A0) (h2 : nt = 2 → l = A2) :
    Th w0 A0 A2 B0 B1 (nt + 1) nn mt mn tv nv (up ta nt v) (up tl nt l) na nl w' := by
  have hb := h.below d
  refine ⟨fun i hi => ?_, hb.n, fun i j hi hj hne b e1 e2 => ?_, hb.nn', ?_, hb.nr, fun i hi => ?_, hb.ltn, fun _ => ?_, fun _ => ?_, hb.g0, hb.g1, Nat.le_succ_of_le h.mtn, h.mnn, hb.D⟩
  · by_cases e : i = nt
    · subst e; rw [up_same, up_same]; exact own_more o h.D.size
    · rw [up_other _ _ _ e, up_other _ _ _ e]; exact hb.t i (by omega)
  · by_cases e : i = nt
    · subst e
      rw [up_same] at e1
      rw [up_other _ _ _ (fun e => hne e.symm)] at e2
      have q1 := (World.ownsRow.lt o b e1).1
      have q2 := (World.ownsRow.lt (h.t j (by omega)) b e2).2
      omega
    · rw [up_other _ _ _ e] at e1
      by_cases e' : j = nt
      · subst e'
        rw [up_same] at e2
        have q1 := (World.ownsRow.lt o b e2).1
        have q2 := (World.ownsRow.lt (h.t i (by omega)) b e1).2
        omega
      · rw [up_other _ _ _ e'] at e2
        exact h.tt i j (by omega) (by omega) hne b e1 e2
  · rw [map_up_r _ _ h.mtn]; exact hb.tr
  · by_cases e : i = nt
    · subst e; rw [up_same]; exact hl
    · rw [up_other _ _ _ e]; exact hb.ltt i (by omega)
  · by_cases e : nt = 0
    · subst e; rw [up_same]; exact h0 rfl
    · rw [up_other _ _ _ (fun e2 => e e2.symm)]; exact h.f0 (by omega)
  · by_cases e : nt = 2
    · subst e; rw [up_same]; exact h2 rfl
    · rw [up_other _ _ _ (fun e2 => e e2.symm)]; exact h.f2 (by omega)
/-- Merge's three lists more. -/
theorem Th.three {v p q : Value} {l : List ByteArray} {u x : List Nat} (h : Th w0 A0 A2 B0 B1 nt nn mt mn tv nv ta tl na nl w) (d : Below w.heap.size w w') (o : OwnS w' w.heap.size v l) (op : OwnN w' w.heap.size p u) (oq : OwnN w' w.heap.size q x) (hpq : ∀ b, p.ownBlock = some b → q.ownBlock ≠ some b)
    (hl : l.length ≤ 2097152) (hu : u.length ≤ 2097152) (hx : x.length ≤ 2097152) (h0 : nt = 0 → l = A0) (h2 : nt = 2 → l = A2) (hn : nn = 0 → u = B0 ∧ x = B1) (hn1 : nn ≠ 1) :
    Th w0 A0 A2 B0 B1 (nt + 1) (nn + 2) mt mn tv nv (up ta nt v) (up tl nt l) (up (up na nn p) (nn + 1) q) (up (up nl nn u) (nn + 1) x) w' := by
  have hb := h.text d o hl h0 h2
  have sel : ∀ i, i < nn + 2 → i < nn ∨ i = nn ∨ i = nn + 1 := fun i hi => by omega
  have oldlt : ∀ i, i < nn → ∀ b, (na i).ownBlock = some b → b < w.heap.size := fun i hi b e => (World.ownsRow.lt (h.n i hi) b e).2
  have pge : ∀ b, p.ownBlock = some b → w.heap.size ≤ b := fun b e => (World.ownsRow.lt op b e).1
  have qge : ∀ b, q.ownBlock = some b → w.heap.size ≤ b := fun b e => (World.ownsRow.lt oq b e).1
  have u1 : up (up na nn p) (nn + 1) q nn = p := by rw [up_other _ _ _ (by omega), up_same]
  have u2 : up (up na nn p) (nn + 1) q (nn + 1) = q := up_same _ _ _
  have u0 : ∀ i, i < nn → up (up na nn p) (nn + 1) q i = na i := fun i hi => by rw [up_other _ _ _ (by omega), up_other _ _ _ (by omega)]
  have v1 : up (up nl nn u) (nn + 1) x nn = u := by rw [up_other _ _ _ (by omega), up_same]
  have v2 : up (up nl nn u) (nn + 1) x (nn + 1) = x := up_same _ _ _
  have v0 : ∀ i, i < nn → up (up nl nn u) (nn + 1) x i = nl i := fun i hi => by rw [up_other _ _ _ (by omega), up_other _ _ _ (by omega)]
  refine ⟨hb.t, fun i hi => ?_, hb.tt, fun i j hi hj hne b e1 e2 => ?_, hb.tr, ?_, hb.ltt, fun i hi => ?_, hb.f0, hb.f2, fun _ => ?_, fun _ => ?_, hb.mtn, by have := h.mnn; omega, hb.D⟩
  · rcases sel i hi with e | rfl | rfl
    · rw [u0 i e, v0 i e]; exact hb.n i e
    · rw [u1, v1]; exact own_more op h.D.size
    · rw [u2, v2]; exact own_more oq h.D.size
  · rcases sel i hi with e | rfl | rfl
    · rw [u0 i e] at e1
      have := oldlt i e b e1
      rcases sel j hj with e' | rfl | rfl
      · rw [u0 j e'] at e2
        exact h.nn' i j e e' hne b e1 e2
      · rw [u1] at e2
        have := pge b e2; omega
      · rw [u2] at e2
        have := qge b e2; omega
    · rw [u1] at e1
      have := pge b e1
      rcases sel j hj with e' | e' | rfl
      · rw [u0 j e'] at e2
        have := oldlt j e' b e2; omega
      · exact hne e'.symm
      · rw [u2] at e2
        exact hpq b e1 e2
    · rw [u2] at e1
      have := qge b e1
      rcases sel j hj with e' | rfl | e'
      · rw [u0 j e'] at e2
        have := oldlt j e' b e2; omega
      · rw [u1] at e2
        exact hpq b e2 e1
      · exact hne e'.symm
  · rw [map_up_r _ _ (by have := h.mnn; omega), map_up_r _ _ h.mnn]; exact hb.nr
  · rcases sel i hi with e | rfl | rfl
    · rw [v0 i e]; exact h.ltn i e
    · rw [v1]; exact hu
    · rw [v2]; exact hx
  · by_cases e : nn = 0
    · subst e; rw [v1]; exact (hn rfl).1
    · rw [v0 0 (by omega)]; exact h.g0 (by omega)
  · by_cases e : nn = 0
    · subst e; rw [v2]; exact (hn rfl).2
    · rw [v0 1 (by omega)]; exact h.g1 (by omega)
/-- The texts' list grown. -/
theorem Th.growT {tv' : Value} {k : Nat} {ob : Obj} (h : Th w0 A0 A2 B0 B1 nt nn mt mn tv nv ta tl na nl w) (hk : k ≤ nt) (ho : w'.ownsRow w0.heap.size 22 1 tv' k ((List.range k).map ta)) (hg : (w.alloc ob).grownBy w' tv.ownBlock) :
    Th w0 A0 A2 B0 B1 nt nn k mn tv' nv ta tl na nl w' := by
  have hg2 : w.grownBy w' tv.ownBlock := (World.grownBy_alloc _ _ _).trans hg
  have O : Only w w' (fun k => tv.ownBlock = some k) := Only.grown hg2 (fun k hk => hk)
  exact ⟨fun i hi => row_only (h.t i hi) O (fun b hb e => rows_apart (h.t i hi) h.tr (by decide) b hb e), fun i hi => row_only (h.n i hi) O (fun b hb e => rows_apart (h.n i hi) h.tr (by decide) b hb e), h.tt, h.nn', ho, row_only h.nr O (fun b hb e => rows_apart h.nr h.tr (by decide) b hb e), h.ltt, h.ltn, h.f0, h.f2, h.g0, h.g1, hk, h.mnn, h.D.grown hg2 h.D.size (fun k hk => (h.tr.lt k hk).1)⟩
theorem Th.growN {nv' : Value} {k : Nat} {ob : Obj} (h : Th w0 A0 A2 B0 B1 nt nn mt mn tv nv ta tl na nl w) (hk : k ≤ nn) (ho : w'.ownsRow w0.heap.size 28 1 nv' k ((List.range k).map na)) (hg : (w.alloc ob).grownBy w' nv.ownBlock) :
    Th w0 A0 A2 B0 B1 nt nn mt k tv nv' ta tl na nl w' := by
  have hg2 : w.grownBy w' nv.ownBlock := (World.grownBy_alloc _ _ _).trans hg
  have O : Only w w' (fun k => nv.ownBlock = some k) := Only.grown hg2 (fun k hk => hk)
  exact ⟨fun i hi => row_only (h.t i hi) O (fun b hb e => rows_apart (h.t i hi) h.nr (by decide) b hb e), fun i hi => row_only (h.n i hi) O (fun b hb e => rows_apart (h.n i hi) h.nr (by decide) b hb e), h.tt, h.nn', row_only h.tr O (fun b hb e => rows_apart h.tr h.nr (by decide) b hb e), ho, h.ltt, h.ltn, h.f0, h.f2, h.g0, h.g1, h.mtn, hk, h.D.grown hg2 h.D.size (fun k hk => (h.nr.lt k hk).1)⟩
end
theorem range3 (f : Nat → Value) (k : Nat) : (List.range (k + 3)).map f = (List.range k).map f ++ [f k, f (k + 1), f (k + 2)] := by
  rw [List.range_succ, List.range_succ, List.range_succ]
  simp
theorem range2 (f : Nat → Value) (k : Nat) : (List.range (k + 2)).map f = (List.range k).map f ++ [f k, f (k + 1)] := by
  rw [List.range_succ, List.range_succ]
  simp
theorem cell_three_new (w : World) (x y z : Value) (t : TypeId) : ∀ j u, [x, y, z][j]? = some u → (w.alloc (.cells #[x, y, z] t)).cell? ((⟨w.heap.size, 0, none⟩ : Addr).add j) = some u := by
  intro j u hj
  have e : ((⟨w.heap.size, 0, none⟩ : Addr).add j) = ⟨w.heap.size, j, none⟩ := by simp [Addr.add]; exact fun e => e.symm
  rw [e, cell_of_row _ w.heap.size j _ t (0, 0) (heap_alloc_new w _)]
  match j, hj with
  | 0, hj => exact hj
  | 1, hj => exact hj
  | 2, hj => exact hj
theorem cell_two_new (w : World) (x y : Value) (t : TypeId) : ∀ j u, [x, y][j]? = some u → (w.alloc (.cells #[x, y] t)).cell? ((⟨w.heap.size, 0, none⟩ : Addr).add j) = some u := by
  intro j u hj
  have e : ((⟨w.heap.size, 0, none⟩ : Addr).add j) = ⟨w.heap.size, j, none⟩ := by simp [Addr.add]; exact fun e => e.symm
  rw [e, cell_of_row _ w.heap.size j _ t (0, 0) (heap_alloc_new w _)]
  match j, hj with
  | 0, hj => exact hj
  | 1, hj => exact hj
theorem Th.forms {w0 : World} {A0 A2 : List ByteArray} {B0 B1 : List Nat} {tv nv : Value} {ta : Nat → Value} {tl : Nat → List ByteArray} {na : Nat → Value} {nl : Nat → List Nat} {w : World} (h : Th w0 A0 A2 B0 B1 9 6 9 6 tv nv ta tl na nl w) :
    ∃ T cT U cU, tv = .slice (some ⟨T, 0, none⟩) 9 cT ∧ nv = .slice (some ⟨U, 0, none⟩) 6 cU := by
  obtain ⟨T, cT, e1, _, _⟩ := h.tr.form (by omega)
  obtain ⟨U, cU, e2, _, _⟩ := h.nr.form (by omega)
  exact ⟨T, cT, U, cU, e1, e2⟩
theorem nulen (head : ByteArray) (n : Int) : (nuL head n).length ≤ 4096 := by
  unfold nuL
  by_cases h : n < 0 ∨ 4096 < n
  · have : nuC head n = 1 := by unfold nuC; rw [if_pos h]
    rw [this, if_neg (by decide)]
    exact Nat.zero_le _
  · by_cases h2 : nuC head n = 0
    · rw [if_pos h2, numL_len]; omega
    · rw [if_neg h2]; exact Nat.zero_le _
/-- The reference's five lists of a round. -/
structure Rf (um uu uv uo ud : Value) (lm : List ByteArray) (lu lv : List Nat) (lo ld : List ByteArray) (w : World) : Prop where
  m : OwnS w 0 um lm
  u : OwnN w 0 uu lu
  v : OwnN w 0 uv lv
  o : OwnS w 0 uo lo
  d : OwnS w 0 ud ld
theorem Rf.below {um uu uv uo ud : Value} {lm : List ByteArray} {lu lv : List Nat} {lo ld : List ByteArray} {w w' : World} (h : Rf um uu uv uo ud lm lu lv lo ld w) (d : Below w.heap.size w w') : Rf um uu uv uo ud lm lu lv lo ld w' :=
  ⟨h.m.below d, row_below h.u d, row_below h.v d, h.o.below d, h.d.below d⟩
theorem Rf.grow {um uu uv uo ud : Value} {lm : List ByteArray} {lu lv : List Nat} {lo ld : List ByteArray} {w w' : World} {B e n : Nat} {tv : Value} {xs : List Value} {ob : Obj} (h : Rf um uu uv uo ud lm lu lv lo ld w) (hr : w.ownsRow B e 1 tv n xs) (h9 : 9 ≠ e) (h3 : 3 ≠ e) (hg : (w.alloc ob).grownBy w' tv.ownBlock) : Rf um uu uv uo ud lm lu lv lo ld w' := by
  have hg2 : w.grownBy w' tv.ownBlock := (World.grownBy_alloc _ _ _).trans hg
  have O : Only w w' (fun k => tv.ownBlock = some k) := Only.grown hg2 (fun k hk => hk)
  exact ⟨row_only h.m O (fun b hb e => rows_apart h.m hr h9 b hb e), row_only h.u O (fun b hb e => rows_apart h.u hr h3 b hb e), row_only h.v O (fun b hb e => rows_apart h.v hr h3 b hb e), row_only h.o O (fun b hb e => rows_apart h.o hr h9 b hb e), row_only h.d O (fun b hb e => rows_apart h.d hr h9 b hb e)⟩
/-- At the end: what apart asks. -/
theorem Th.gm {w0 : World} {A0 A2 : List ByteArray} {B0 B1 : List Nat} {T cT U cU : Nat} {ta : Nat → Value} {tl : Nat → List ByteArray} {na : Nat → Value} {nl : Nat → List Nat} {w : World} (h : Th w0 A0 A2 B0 B1 9 6 9 6 (.slice (some ⟨T, 0, none⟩) 9 cT) (.slice (some ⟨U, 0, none⟩) 6 cU) ta tl na nl w) :
    ∃ vs ln ct, Gm w (9 + 6) (lbF 9 T U) (loF 9) (tyF 9) vs ln ct w ∧ T < w.heap.size ∧ U < w.heap.size ∧ (∀ i, i < 9 + 6 → ln i ≤ 2097152) ∧
      (∀ b, (∃ i, i < 9 + 6 ∧ (vs i).ownBlock = some b) → w0.heap.size ≤ b) ∧ w.cell? ⟨T, 0, none⟩ = some (ta 0) ∧ w.cell? ⟨T, 2, none⟩ = some (ta 2) ∧ w.cell? ⟨U, 0, none⟩ = some (na 0) ∧ w.cell? ⟨U, 1, none⟩ = some (na 1) := by
  have ct : ∀ i, i < 9 → w.cell? ⟨T, i, none⟩ = some (ta i) := fun i hi => by
    rw [h.tr.cellAt i hi, List.getElem?_map, List.getElem?_range hi]; rfl
  have cn : ∀ i, i < 6 → w.cell? ⟨U, i, none⟩ = some (na i) := fun i hi => by
    rw [h.nr.cellAt i hi, List.getElem?_map, List.getElem?_range hi]; rfl
  refine ⟨fun i => if i < 9 then ta i else na (i - 9), fun i => if i < 9 then (tl i).length else (nl (i - 9)).length, fun i => if i < 9 then strV (tl i) else intV (nl (i - 9)), ⟨fun i hi => ?_, fun i hi => ?_, fun i j hi hj hne b e1 e2 => ?_, fun i j hi hj => ?_, Only.ofBelow (Below.refl _ _)⟩, (h.tr.lt T rfl).2, (h.nr.lt U rfl).2, fun i hi => ?_, ?_, ct 0 (by omega), ct 2 (by omega), cn 0 (by omega), cn 1 (by omega)⟩
  · unfold lbF loF
    by_cases e : i < 9
    · rw [if_pos e, if_pos e]; simp only [if_pos e]; exact ct i e
    · rw [if_neg e, if_neg e]; simp only [if_neg e]; exact cn _ (by omega)
  · unfold tyF
    by_cases e : i < 9
    · simp only [if_pos e]; exact row_zero (h.t i e)
    · simp only [if_neg e]; exact row_zero (h.n _ (by omega))
  · by_cases e : i < 9
    · simp only [if_pos e] at e1
      by_cases e' : j < 9
      · simp only [if_pos e'] at e2
        exact h.tt i j e e' hne b e1 e2
      · simp only [if_neg e'] at e2
        exact rows_apart (h.t i e) (h.n (j - 9) (by omega)) (by decide) b e1 e2
    · simp only [if_neg e] at e1
      by_cases e' : j < 9
      · simp only [if_pos e'] at e2
        exact rows_apart (h.n (i - 9) (by omega)) (h.t j e') (by decide) b e1 e2
      · simp only [if_neg e'] at e2
        exact h.nn' (i - 9) (j - 9) (by omega) (by omega) (by omega) b e1 e2
  · intro e2
    unfold lbF at e2
    by_cases e : i < 9
    · simp only [if_pos e] at e2
      by_cases e' : j < 9
      · rw [if_pos e'] at e2
        exact rows_apart (h.t i e) h.tr (by decide) T e2 rfl
      · rw [if_neg e'] at e2
        exact rows_apart (h.t i e) h.nr (by decide) U e2 rfl
    · simp only [if_neg e] at e2
      by_cases e' : j < 9
      · rw [if_pos e'] at e2
        exact rows_apart (h.n (i - 9) (by omega)) h.tr (by decide) T e2 rfl
      · rw [if_neg e'] at e2
        exact rows_apart (h.n (i - 9) (by omega)) h.nr (by decide) U e2 rfl
  · by_cases e : i < 9
    · simp only [if_pos e]; exact h.ltt i e
    · simp only [if_neg e]; exact h.ltn _ (by omega)
  · rintro b ⟨i, hi, e2⟩
    by_cases e : i < 9
    · simp only [if_pos e] at e2
      exact (World.ownsRow.lt (h.t i e) b e2).1
    · simp only [if_neg e] at e2
      exact (World.ownsRow.lt (h.n _ (by omega)) b e2).1
end Go.Proofs.YtnfdifkcchciaaaDoor
