import Derived.Test.YtojnlpicgemlaabGreatDoorVA
import Derived.Laws.IdiomStrings
namespace Go.Proofs.YtojnlpicgemlaabGreatDoor
open Go.RowKit Go.Maps Go.Shelf

/-! ### Answers in rows of their own -/
theorem own_mrw {W : World} {B g N : Nat} {f : Nat → Int} (h : Mrw W g 3 N (fun c => .int .i64 (f c)) N) (hB : B ≤ g) (hN : N ≤ 4096) : OwnL B W (.slice (some ⟨g, 0, none⟩) N N) ((List.range N).map f) := by
  have hl : ((List.range N).map f).length = N := by simp
  unfold OwnL
  rw [hl]
  obtain ⟨cur, h1, h2, h3⟩ := h
  refine ⟨by simp, .inr ⟨g, N, cur, rfl, hB, h1, Nat.le_refl _, by unfold maxLen; omega, by rw [Nat.mul_one]; exact h2, ?_⟩⟩
  rw [Nat.mul_one]
  apply List.ext_getElem?
  intro i
  by_cases hi : i < N
  · rw [List.getElem?_take_of_lt hi, Array.getElem?_toList, h3 i hi, List.map_map, List.getElem?_map, List.getElem?_range hi]
    rfl
  · rw [List.getElem?_eq_none (by rw [List.length_take]; omega), List.getElem?_eq_none (by simp; omega)]
theorem rchL_mask {w : World} {N : Nat} {mv : Int} {a1 a2 a3 : Option Addr} {St Fi : List Int} {Ed : List EdT} (hG : ArgA w N mv a1 a2 a3 St Fi Ed) (b : Bool) {M : Nat → Bool} (hM : ∀ q, q < N → (M q = true ↔ ∃ k, Wlk (fun q => (q : Int) ∈ if b then Fi else St) (stepE b Ed) k q)) : rchL b (N : Int) mv St Fi Ed = maskL N M := by
  unfold rchL
  rw [if_pos hG.may, Int.toNat_natCast]
  unfold maskL
  refine congrArg natL (List.filter_congr fun q hq => ?_)
  rw [Bool.eq_iff_iff]
  exact (cdec _).trans (hM q (List.mem_range.1 hq)).symm
theorem dstL_map {w : World} {N : Nat} {mv : Int} {a1 a2 a3 : Option Addr} {St Fi : List Int} {Ed : List EdT} (hG : ArgA w N mv a1 a2 a3 St Fi Ed) {len : Nat → Int} (hQ : ∀ q, q < N → DstQ (Wlk (fun q => (q : Int) ∈ Fi) (stepE true Ed)) N q (len q)) : dstL (N : Int) mv St Fi Ed = (List.range N).map len := by
  unfold dstL
  rw [if_pos hG.may, Int.toNat_natCast]
  exact List.map_congr_left fun q hq => dstQ_eps (hQ q (List.mem_range.1 hq))
theorem preach_o (w : World) (N : Nat) (mv : Int) (a1 a2 a3 : Option Addr) (c1 c2 c3 : Nat) (St Fi : List Int) (Ed : List EdT) (hG : ArgA w N mv a1 a2 a3 St Fi Ed) (hT : TabAt w) (h0 : 0 < w.heap.size) : Calls Tryz.prog 18 #[.agg #[.int .i64 (N : Int), .int .i64 mv, .slice a1 St.length c1, .slice a2 Fi.length c2, .slice a3 Ed.length c3]] w fun e w' => ∃ v, e = .returned (.tuple #[v, .int .i64 0]) ∧ OwnL w.heap.size w' v (rchL false (N : Int) mv St Fi Ed) ∧ Below w.heap.size w w' := by
  refine (preach_ok w N mv a1 a2 a3 c1 c2 c3 St Fi Ed hG hT h0).mono ?_
  rintro e w' ⟨v, rfl, hv, d⟩
  refine ⟨v, rfl, ?_, d⟩
  rw [rchL_mask hG false (fun q _ => cdec _)]
  exact ansR_is hv (hG.hS false) (hG.hE false) (fun q _ => cdec _)
theorem pcoreach_o (w : World) (N : Nat) (mv : Int) (a1 a2 a3 : Option Addr) (c1 c2 c3 : Nat) (St Fi : List Int) (Ed : List EdT) (hG : ArgA w N mv a1 a2 a3 St Fi Ed) (hT : TabAt w) (h0 : 0 < w.heap.size) : Calls Tryz.prog 19 #[.agg #[.int .i64 (N : Int), .int .i64 mv, .slice a1 St.length c1, .slice a2 Fi.length c2, .slice a3 Ed.length c3]] w fun e w' => ∃ v, e = .returned (.tuple #[v, .int .i64 0]) ∧ OwnL w.heap.size w' v (rchL true (N : Int) mv St Fi Ed) ∧ Below w.heap.size w w' := by
  refine (pcoreach_ok w N mv a1 a2 a3 c1 c2 c3 St Fi Ed hG hT h0).mono ?_
  rintro e w' ⟨v, rfl, hv, d⟩
  refine ⟨v, rfl, ?_, d⟩
  rw [rchL_mask hG true (fun q _ => cdec _)]
  exact ansR_is hv (hG.hS true) (hG.hE true) (fun q _ => cdec _)
theorem pdist_o (w : World) (N : Nat) (mv : Int) (a1 a2 a3 : Option Addr) (c1 c2 c3 : Nat) (St Fi : List Int) (Ed : List EdT) (hG : ArgA w N mv a1 a2 a3 St Fi Ed) : Calls Tryz.prog 20 #[.agg #[.int .i64 (N : Int), .int .i64 mv, .slice a1 St.length c1, .slice a2 Fi.length c2, .slice a3 Ed.length c3]] w fun e w' => ∃ v, e = .returned (.tuple #[v, .int .i64 0]) ∧ OwnL w.heap.size w' v (dstL (N : Int) mv St Fi Ed) ∧ Below w.heap.size w w' := by
  refine (pdist_ok w N mv a1 a2 a3 c1 c2 c3 St Fi Ed hG).mono ?_
  rintro e w' ⟨v, rfl, ⟨len, gl, rfl, hgl, hM, hb, hlt⟩, d⟩
  refine ⟨_, rfl, ?_, d⟩
  rw [dstL_map hG (fun q hq => bfs_dstQ hb hlt (hG.hS true) (hG.hE true) hq)]
  exact own_mrw hM hgl hG.hN
theorem rreach_o (w : World) (N : Nat) (mv : Int) (a1 a2 a3 : Option Addr) (c1 c2 c3 : Nat) (St Fi : List Int) (Ed : List EdT) (hG : ArgA w N mv a1 a2 a3 St Fi Ed) : Calls Tryz.prog 22 #[.agg #[.int .i64 (N : Int), .int .i64 mv, .slice a1 St.length c1, .slice a2 Fi.length c2, .slice a3 Ed.length c3]] w fun e w' => ∃ v, e = .returned (.tuple #[v, .int .i64 0]) ∧ OwnL w.heap.size w' v (rchL false (N : Int) mv St Fi Ed) ∧ Below w.heap.size w w' := by
  refine (rreach_ok w N mv a1 a2 a3 c1 c2 c3 St Fi Ed hG).mono ?_
  rintro e w' ⟨v, rfl, ⟨M, ho, hM⟩, d⟩
  refine ⟨v, rfl, ?_, d⟩
  rw [rchL_mask hG false hM]
  exact ho
theorem rcoreach_o (w : World) (N : Nat) (mv : Int) (a1 a2 a3 : Option Addr) (c1 c2 c3 : Nat) (St Fi : List Int) (Ed : List EdT) (hG : ArgA w N mv a1 a2 a3 St Fi Ed) : Calls Tryz.prog 23 #[.agg #[.int .i64 (N : Int), .int .i64 mv, .slice a1 St.length c1, .slice a2 Fi.length c2, .slice a3 Ed.length c3]] w fun e w' => ∃ v, e = .returned (.tuple #[v, .int .i64 0]) ∧ OwnL w.heap.size w' v (rchL true (N : Int) mv St Fi Ed) ∧ Below w.heap.size w w' := by
  refine (rcoreach_ok w N mv a1 a2 a3 c1 c2 c3 St Fi Ed hG).mono ?_
  rintro e w' ⟨v, rfl, ⟨M, ho, hM⟩, d⟩
  refine ⟨v, rfl, ?_, d⟩
  rw [rchL_mask hG true hM]
  exact ho
theorem rdist_o (w : World) (N : Nat) (mv : Int) (a1 a2 a3 : Option Addr) (c1 c2 c3 : Nat) (St Fi : List Int) (Ed : List EdT) (hG : ArgA w N mv a1 a2 a3 St Fi Ed) : Calls Tryz.prog 24 #[.agg #[.int .i64 (N : Int), .int .i64 mv, .slice a1 St.length c1, .slice a2 Fi.length c2, .slice a3 Ed.length c3]] w fun e w' => ∃ v, e = .returned (.tuple #[v, .int .i64 0]) ∧ OwnL w.heap.size w' v (dstL (N : Int) mv St Fi Ed) ∧ Below w.heap.size w w' := by
  refine (rdist_ok w N mv a1 a2 a3 c1 c2 c3 St Fi Ed hG).mono ?_
  rintro e w' ⟨v, rfl, ⟨len, gl, rfl, hgl, hM, hQ⟩, d⟩
  refine ⟨_, rfl, ?_, d⟩
  rw [dstL_map hG hQ]
  exact own_mrw hM hgl hG.hN
/-- What the document's Empty answers where the program answered this. -/
def RefO (N : Nat) (mv : Int) (St Fi : List Int) (Ed : List EdT) (no : Bool) (L : List Int) : Prop := ∀ (W : World) (y1 y2 y3 : Option Addr) (k1 k2 k3 : Nat), RdA W y1 y2 y3 St Fi Ed → Calls Tryz.prog 21 #[.agg #[.int .i64 (N : Int), .int .i64 mv, .slice y1 St.length k1, .slice y2 Fi.length k2, .slice y3 Ed.length k3]] W fun e W' => ∃ v, e = .returned (.tuple #[.bool no, v, .int .i64 0]) ∧ OwnL W.heap.size W' v L ∧ Below W.heap.size W W'
theorem ownL_nil (B : Nat) (W : World) : OwnL B W (.slice none 0 0) [] := World.ownsRow_nil _ _ _ _
theorem empty_o (w : World) (N : Nat) (mv : Int) (a1 a2 a3 : Option Addr) (c1 c2 c3 : Nat) (St Fi : List Int) (Ed : List EdT) (hG : ArgA w N mv a1 a2 a3 St Fi Ed) (hT : TabAt w) (h0 : 0 < w.heap.size) (h3 : Ed.length ≤ 4194304) : Calls Tryz.prog 17 #[.agg #[.int .i64 (N : Int), .int .i64 mv, .slice a1 St.length c1, .slice a2 Fi.length c2, .slice a3 Ed.length c3]] w fun e w' => ∃ no L v, e = .returned (.tuple #[.bool no, v, .int .i64 0]) ∧ OwnL w.heap.size w' v L ∧ Below w.heap.size w w' ∧ Hid (RefO N mv St Fi Ed no L) ∧ L.length ≤ 4096 := by
  have hA : RdA w a1 a2 a3 St Fi Ed := ⟨hG.rs, hG.rf, hG.re⟩
  refine (empty_ok w N mv a1 a2 a3 c1 c2 c3 St Fi Ed (hide hA) hG.ls hG.lf h3 (hide ⟨hT, h0⟩) hG.may).mono ?_
  rintro e w' ⟨len, ⟨hb, hl⟩, hor, d⟩
  have hLg := lng_of hG hb hl
  rcases hor with ⟨hno, rfl⟩ | ⟨hge, vw, rfl, ho⟩
  · refine ⟨true, [], _, rfl, ownL_nil _ _, d, hide ?_, by simp⟩
    intro W y1 y2 y3 k1 k2 k3 hR
    refine (rempty_ok W N mv y1 y2 y3 k1 k2 k3 St Fi Ed (hide hR) hG.ls hG.lf h3 hG.may len (hide hLg)).mono ?_
    rintro e W' ⟨⟨_, rfl⟩ | ⟨h, _⟩, d'⟩
    · exact ⟨_, rfl, ownL_nil _ _, d'⟩
    · omega
  · refine ⟨false, _, vw, rfl, ho, d, hide ?_, ?_⟩
    · intro W y1 y2 y3 k1 k2 k3 hR
      refine (rempty_ok W N mv y1 y2 y3 k1 k2 k3 St Fi Ed (hide hR) hG.ls hG.lf h3 hG.may len (hide hLg)).mono ?_
      rintro e W' ⟨⟨h, _⟩ | ⟨_, v', rfl, ho'⟩, d'⟩
      · omega
      · exact ⟨v', rfl, ho', d'⟩
    · rw [lwS_len]
      obtain ⟨dd, hd⟩ := Int.eq_ofNat_of_zero_le hge
      have := (search_yes hLg hd).2
      have := hG.hN
      omega
theorem rchL_le {w : World} {N : Nat} {mv : Int} {a1 a2 a3 : Option Addr} {St Fi : List Int} {Ed : List EdT} (hG : ArgA w N mv a1 a2 a3 St Fi Ed) (b : Bool) : (rchL b (N : Int) mv St Fi Ed).length ≤ 4096 := by
  rw [rchL_mask hG b (fun q _ => cdec _)]
  exact Nat.le_trans (maskL_len _ _) hG.hN
theorem dstL_le {w : World} {N : Nat} {mv : Int} {a1 a2 a3 : Option Addr} {St Fi : List Int} {Ed : List EdT} (hG : ArgA w N mv a1 a2 a3 St Fi Ed) : (dstL (N : Int) mv St Fi Ed).length ≤ 4096 := by
  unfold dstL
  rw [if_pos hG.may, Int.toNat_natCast]
  simpa using hG.hN
end Go.Proofs.YtojnlpicgemlaabGreatDoor
namespace Go.Proofs.YtojnlpicgemlaabGreatDoor
open Go.RowKit Go.Maps Go.Shelf
attribute [local go_sem] Oper.semAt_some

/-- append of one item: in its row, or in a new block, and then nothing that was there has turned. -/
theorem app_gen {T e : TypeId} {sz bytes : Nat} {i : TypeInfo} {z : Value} (hT : Tryz.prog.underlying T = some (.slice e)) (hi : Tryz.prog.info? e = some i) (hz0 : i.zero = some z) (hz1 : i.size = sz) (hz2 : i.bytes = bytes) (hzs : z.cells.size = sz) (hsz : 0 < sz) (hby : bytes ≤ 48)
    (w : World) (ty : TypeId) (v : Value) (n : Nat) (xs ys : List Value) (hown : w.ownsRow 0 e sz v n xs) (ad : Addr) (hys : ys.length = 1 * sz) (hnews : ∀ j u, ys[j]? = some u → w.cell? (ad.add j) = some u) (hone : ∀ u ∈ ys, u.oneCell' = true) (hl : n ≤ 4194304) :
    ∃ gv cv w', (Builtin.append_ #[T, T] ty #[v, .slice (some ad) 1 1]).run Tryz.prog w = .ok (.slice (some ⟨gv, 0, none⟩) (n + 1) cv) w' ∧ w'.ownsRow 0 e sz (.slice (some ⟨gv, 0, none⟩) (n + 1) cv) (n + 1) (xs ++ ys) ∧
      ((v.ownBlock = some gv ∧ w.grownBy w' (some gv)) ∨ (gv = w.heap.size ∧ w.grownBy w' none)) := by
  have hb48 : (n + 1) * bytes ≤ (n + 1) * 48 := Nat.mul_le_mul_left _ hby
  obtain ⟨v', w', hr, h2, h3, _, h4⟩ := run_append_own_at (P := Tryz.prog) w 0 T ty e i z sz bytes hT hi hz0 hz1 hz2 hzs hsz v n xs hown ad 1 1 ys hys hnews hone (by unfold maxLen; omega) (by omega) (Nat.zero_le _)
  obtain ⟨gv, cv, rfl, _, _⟩ := h2.form (by omega)
  refine ⟨gv, cv, w', hr, h2, ?_⟩
  rcases hown.2 with ⟨rfl, hn⟩ | ⟨g, cap, cur, rfl, hb, hg, hnc, hcm, hcs, htake⟩
  · right
    refine ⟨?_, h3⟩
    rcases h4 with e | e
    · simp [Value.ownBlock] at e
    · simpa [Value.ownBlock] using e
  · by_cases hroom : n + 1 ≤ cap
    · left
      have hr2 := run_append_room (P := Tryz.prog) w T ty e i hT hi g n cap cur hg ad 1 1 ys (by rw [hz1]; exact hys) hnews hone hroom (by rw [hz1, hys]; have : (n + 1) * sz ≤ cap * sz := Nat.mul_le_mul_right _ hroom; rw [Nat.add_mul] at this; omega)
      rw [hr] at hr2
      simp only [Result.ok.injEq, Value.slice.injEq, Option.some.injEq, Addr.mk.injEq] at hr2
      have e : gv = g := hr2.1.1.1
      subst e
      exact ⟨rfl, h3⟩
    · right
      have holds : ∀ j u, xs[j]? = some u → w.cell? ((⟨g, 0, none⟩ : Addr).add j) = some u := World.ownsRow.cells hown (g := g) rfl
      have hr2 := run_append_grow (P := Tryz.prog) w T ty e i _ hT hi hz0 ⟨g, 0, none⟩ n cap xs (by rw [hz1]; exact hown.1) holds ad 1 1 ys (by rw [hz1]; exact hys) hnews (by omega) (by omega) (growslice_fits (by omega) (by rw [hz2]; omega))
      rw [hr] at hr2
      simp only [Result.ok.injEq, Value.slice.injEq, Option.some.injEq, Addr.mk.injEq] at hr2
      refine ⟨hr2.1.1.1, ?_⟩
      rw [hr2.2]
      exact ⟨rfl, rfl, rfl, by simp, fun k hk _ => Below.heap_alloc w.drew _ k hk⟩
end Go.Proofs.YtojnlpicgemlaabGreatDoor
namespace Go.Proofs.YtojnlpicgemlaabGreatDoor
open Go.RowKit Go.Maps Go.Shelf
attribute [local go_sem] Oper.semAt_some

theorem Only.grown {w w' : World} {r : Option Nat} {R : Nat → Prop} (h : w.grownBy w' r) (hr : ∀ k, r = some k → R k) : Only w w' R :=
  ⟨h.os, h.tape, h.output, h.size, fun k hk hn => h.block k hk (fun e => hn (hr k e.symm))⟩
/-! ### Several rows that are written full, then grown -/
/-- The first i of a list are marks. -/
def gx {α : Type} (m : Nat → α) (d : α) (L : List α) (i : Nat) : List α := (List.range L.length).map fun j => if j < i then m j else L.getD j d
theorem gx_len {α : Type} (m : Nat → α) (d : α) (L : List α) (i : Nat) : (gx m d L i).length = L.length := by simp [gx]
theorem gx_zero {α : Type} (m : Nat → α) (d : α) (L : List α) : gx m d L 0 = L := by
  apply List.ext_getElem
  · simp [gx]
  · intro j h1 h2
    simp [gx, h2]
theorem gx_set {α : Type} (m : Nat → α) (d : α) (L : List α) (i : Nat) : (gx m d L i).set i (m i) = gx m d L (i + 1) := by
  apply List.ext_getElem
  · simp [gx]
  · intro j h1 h2
    have hj : j < L.length := by simpa [gx] using h2
    rw [List.getElem_set]
    by_cases e : i = j
    · subst e; simp [gx]
    · rw [if_neg e]
      simp only [gx, List.getElem_map, List.getElem_range]
      by_cases h : j < i
      · rw [if_pos h, if_pos (by omega)]
      · rw [if_neg h, if_neg (by omega)]
def upd {α : Type} (a : Nat → α) (i : Nat) (y : α) : Nat → α := fun j => if j = i then y else a j
/-- A slice's cells read as a list. -/
def Rv (W : World) (v : Value) (xs : List Value) : Prop := ∀ g, v.ownBlock = some g → ∀ j (h : j < xs.length), W.cell? ⟨g, j, none⟩ = some xs[j]
theorem rv_of {W : World} {B e sz n : Nat} {v : Value} {xs : List Value} (h : W.ownsRow B e sz v n xs) : Rv W v xs := fun g hg j hj => by
  have := h.cells hg j xs[j] (List.getElem?_eq_getElem hj)
  rwa [Addr.add_lit, Nat.zero_add] at this
theorem Rv.only {W W' : World} {v : Value} {xs : List Value} {R : Nat → Prop} (h : Rv W v xs) (o : Only W W' R) (hn : ∀ k, v.ownBlock = some k → ¬ R k) : Rv W' v xs := fun g hg j hj => by
  have c := h g hg j hj
  exact (World.cell?_of_block (w := W) (o.block g (World.block_lt_of_cell? W _ c) (hn g hg))).trans c
/-- What never changes: the rows lie in memory that was there, apart; the boxes lie in new memory. -/
structure Gst (w : World) (N : Nat) (v : Nat → Value) (bx : List (Nat × Array Value × TypeId)) : Prop where
  lt : ∀ i, i < N → ∀ k, (v i).ownBlock = some k → k < w.heap.size
  ap : ∀ i j, i < N → j < N → i ≠ j → ∀ k, (v i).ownBlock = some k → (v j).ownBlock ≠ some k
  bge : ∀ q ∈ bx, w.heap.size ≤ q.1
/-- While they are filled: of row i the first a i cells are marks. -/
structure Gf (w W : World) (N : Nat) (v : Nat → Value) (bx : List (Nat × Array Value × TypeId)) (e sz n : Nat → Nat) (mk : Nat → Nat → Value) (x : Nat → List Value) (a : Nat → Nat) : Prop where
  b : ∀ q ∈ bx, W.heap[q.1]? = some (.cells q.2.1 q.2.2 (0, 0))
  on : Only w W (fun k => ∃ i, i < N ∧ (v i).ownBlock = some k)
  r : ∀ i, i < N → W.ownsRow 0 (e i) (sz i) (v i) (n i) (gx (mk i) undef (x i) (a i))
section
variable {w W W' : World} {N : Nat} {v : Nat → Value} {bx : List (Nat × Array Value × TypeId)} {e sz n : Nat → Nat} {mk : Nat → Nat → Value} {x : Nat → List Value} {a : Nat → Nat}
theorem Gf.below (h : Gf w W N v bx e sz n mk x a) (d : Below W.heap.size W W') : Gf w W' N v bx e sz n mk x a :=
  ⟨fun q hq => (d.block _ (Array.getElem?_eq_some_iff.1 (h.b q hq)).1).trans (h.b q hq), h.on.trans (Only.ofBelow d), fun i hi => own_below (h.r i hi) d⟩
theorem Gf.put (s : Gst w N v bx) (h : Gf w W N v bx e sz n mk x a) (i : Nat) (hi : i < N) {g cap m : Nat} (hv : v i = .slice (some ⟨g, 0, none⟩) m cap) (hm : n i = m) (u : Value) (hu : mk i (a i) = u) : Gf w (W.setCell ⟨g, a i, none⟩ u) N v bx e sz n mk x (upd a i (a i + 1)) := by
  have hg : (v i).ownBlock = some g := by rw [hv]; rfl
  have o1 := only_set W g (a i) u
  refine ⟨fun q hq => (o1.block _ (Array.getElem?_eq_some_iff.1 (h.b q hq)).1 ?_).trans (h.b q hq), h.on.trans (o1.mono fun k _ z => ⟨i, hi, by rw [z]; exact hg⟩), fun j hj => ?_⟩
  · have := s.bge q hq
    have := s.lt i hi g hg
    omega
  · by_cases e1 : j = i
    · subst e1
      have k := h.r j hj
      rw [hv, hm] at k
      have k2 := (k.stored (a j) u).1
      rw [← hu, gx_set] at k2
      rw [hv, hm, hu] at *
      simpa [upd] using k2
    · have k := row_only (h.r j hj) o1 fun b q z => s.ap j i hj hi e1 b q (by rw [z]; exact hg)
      simpa [upd, e1] using k
theorem gx_full (m : Nat → Value) (d : Value) (L : List Value) (i : Nat) (h : L.length ≤ i) : gx m d L i = (List.range L.length).map m := by
  apply List.ext_getElem
  · simp [gx]
  · intro j h1 h2
    simp only [gx, List.length_map, List.length_range] at h1
    simp only [gx, List.getElem_map, List.getElem_range]
    rw [if_pos (by omega)]
/-- While they are grown: each reads as it was written. -/
structure Gg (w W : World) (N : Nat) (v : Nat → Value) (bx : List (Nat × Array Value × TypeId)) (x : Nat → List Value) : Prop where
  b : ∀ q ∈ bx, W.heap[q.1]? = some (.cells q.2.1 q.2.2 (0, 0))
  on : Only w W (fun k => ∃ i, i < N ∧ (v i).ownBlock = some k)
  r : ∀ i, i < N → Rv W (v i) (x i)
theorem Gg.below {y : Nat → List Value} (h : Gg w W N v bx y) (d : Below W.heap.size W W') : Gg w W' N v bx y :=
  ⟨fun q hq => (d.block _ (Array.getElem?_eq_some_iff.1 (h.b q hq)).1).trans (h.b q hq), h.on.trans (Only.ofBelow d), fun i hi => (h.r i hi).only (Only.ofBelow (R := fun _ => False) d) fun _ _ z => z⟩
/-- A row that stays. -/
def Kr (W W' : World) (u : Value) : Prop := ∀ B e sz n xs, W.ownsRow B e sz u n xs → W'.ownsRow B e sz u n xs
/-- The row that is being grown. -/
structure Gx (w W : World) (v : Value) (bx : List (Nat × Array Value × TypeId)) (e sz n : Nat) (xs ys : List Value) (vm : Value) (j : Nat) : Prop where
  o : W.ownsRow 0 e sz vm (n + j) (xs ++ (List.replicate j ys).flatten)
  rel : vm.ownBlock = v.ownBlock ∨ ∃ b, vm.ownBlock = some b ∧ w.heap.size ≤ b ∧ ∀ q ∈ bx, q.1 ≠ b
theorem Gx.below {v : Value} {e sz n j : Nat} {xs ys : List Value} {vm : Value} (h : Gx w W v bx e sz n xs ys vm j) (d : Below W.heap.size W W') : Gx w W' v bx e sz n xs ys vm j := ⟨own_below h.o d, h.rel⟩
theorem Gx.zero {v : Value} {e sz n : Nat} {xs ys : List Value} (h : W.ownsRow 0 e sz v n xs) : Gx w W v bx e sz n xs ys v 0 := ⟨by simpa using h, .inl rfl⟩
theorem Gx.only {v : Value} {e sz n j : Nat} {xs ys : List Value} {vm : Value} {R : Nat → Prop} (h : Gx w W v bx e sz n xs ys vm j) (o : Only W W' R) (hn : ∀ k, vm.ownBlock = some k → ¬ R k) : Gx w W' v bx e sz n xs ys vm j := ⟨row_only h.o o hn, h.rel⟩
theorem Gf.full {z : Nat → Nat} (h : Gf w W N v bx e sz n mk x a) (hl : ∀ i, i < N → (x i).length = z i ∧ z i ≤ a i) : Gg w W N v bx (fun i => (List.range (z i)).map (mk i)) ∧ ∀ i, i < N → W.ownsRow 0 (e i) (sz i) (v i) (n i) ((List.range (z i)).map (mk i)) := by
  have k : ∀ i, i < N → W.ownsRow 0 (e i) (sz i) (v i) (n i) ((List.range (z i)).map (mk i)) := fun i hi => by
    obtain ⟨e1, e2⟩ := hl i hi
    have := h.r i hi
    rwa [gx_full _ _ _ _ (by omega), e1] at this
  exact ⟨⟨h.b, h.on, fun i hi => rv_of (k i hi)⟩, k⟩
theorem gx_app {T E : TypeId} {sZ bytes : Nat} {inf : TypeInfo} {z0 : Value} (hT : Tryz.prog.underlying T = some (.slice E)) (hi : Tryz.prog.info? E = some inf) (hz0 : inf.zero = some z0) (hz1 : inf.size = sZ) (hz2 : inf.bytes = bytes) (hzs : z0.cells.size = sZ) (hsz : 0 < sZ) (hby : bytes ≤ 48)
    (s : Gst w N v bx) {y : Nat → List Value} (h : Gg w W N v bx y) (i : Nat) (hN : i < N) {m j : Nat} {ys : List Value} {vm : Value} (hx : Gx w W (v i) bx E sZ m (y i) ys vm j) (ty : TypeId) (ad : Addr) (hys : ys.length = 1 * sZ) (hnews : ∀ j u, ys[j]? = some u → W.cell? (ad.add j) = some u) (hone : ∀ u ∈ ys, u.oneCell' = true) (hl : m + j ≤ 4194304) :
    ∃ gv cv w', (Builtin.append_ #[T, T] ty #[vm, .slice (some ad) 1 1]).run Tryz.prog W = .ok (.slice (some ⟨gv, 0, none⟩) (m + j + 1) cv) w' ∧ Gx w w' (v i) bx E sZ m (y i) ys (.slice (some ⟨gv, 0, none⟩) (m + j + 1) cv) (j + 1) ∧ Gg w w' N v bx y ∧ Only W w' (fun k => vm.ownBlock = some k) ∧ ∀ c, c < N → c ≠ i → Kr W w' (v c) := by
  obtain ⟨gv, cv, w', hr, ho, hd⟩ := app_gen hT hi hz0 hz1 hz2 hzs hsz hby W ty vm (m + j) _ ys hx.o ad hys hnews hone hl
  have ho' : w'.ownsRow 0 E sZ (.slice (some ⟨gv, 0, none⟩) (m + j + 1) cv) (m + (j + 1)) (y i ++ (List.replicate (j + 1) ys).flatten) := by
    rw [List.replicate_succ', List.flatten_append, ← List.append_assoc]
    simpa [Nat.add_assoc] using ho
  refine ⟨gv, cv, w', hr, ?_⟩
  rcases hd with ⟨hb, hg⟩ | ⟨rfl, hg⟩
  · have o1 : Only W w' (fun k => k = gv) := Only.grown hg fun k q => by cases q; rfl
    have o2 : Only W w' (fun k => vm.ownBlock = some k) := o1.mono fun k _ q => by rw [q]; exact hb
    rcases hx.rel with q | ⟨b, q, q1, q2⟩
    · have hvi : (v i).ownBlock = some gv := by rw [← q]; exact hb
      have hlt := s.lt i hN gv hvi
      refine ⟨⟨ho', .inl (by rw [hvi]; rfl)⟩, ⟨fun t ht => (o1.block _ (Array.getElem?_eq_some_iff.1 (h.b t ht)).1 ?_).trans (h.b t ht), h.on.trans (o1.mono fun k _ z => ⟨i, hN, by rw [z]; exact hvi⟩), fun c hc => ?_⟩, o2, fun c hc e1 _ _ _ _ _ hr => ?_⟩
      · have := s.bge t ht
        omega
      · by_cases e1 : c = i
        · subst e1
          intro g hg j hj
          rw [hvi] at hg
          cases hg
          have := rv_of ho' gv rfl j (by simp; omega)
          rw [this, List.getElem_append_left hj]
        · exact (h.r c hc).only o1 fun k qk z => s.ap c i hc hN e1 k qk (by rw [z]; exact hvi)
      · exact row_only hr o1 fun k qk z => s.ap c i hc hN e1 k qk (by rw [z]; exact hvi)
    · have e0 : b = gv := by rw [q] at hb; cases hb; rfl
      subst e0
      refine ⟨⟨ho', .inr ⟨b, rfl, q1, q2⟩⟩, ⟨fun t ht => (o1.block _ (Array.getElem?_eq_some_iff.1 (h.b t ht)).1 (q2 t ht)).trans (h.b t ht), h.on.andNew o1 fun k hk z => by omega, fun c hc => ?_⟩, o2, fun c hc _ _ _ _ _ _ hr => row_only hr o1 fun k qk z => by have := s.lt c hc k qk; omega⟩
      exact (h.r c hc).only o1 fun k qk z => by have := s.lt c hc k qk; omega
  · have o1 : Only W w' (fun _ => False) := Only.grown hg fun k q => by cases q
    have hs := h.on.size
    refine ⟨⟨ho', .inr ⟨W.heap.size, rfl, hs, fun t ht z => ?_⟩⟩, ⟨fun t ht => (o1.block _ (Array.getElem?_eq_some_iff.1 (h.b t ht)).1 fun z => z).trans (h.b t ht), h.on.andNew o1 fun k hk z => z.elim, fun c hc => (h.r c hc).only o1 fun _ _ z => z⟩, o1.mono fun _ _ z => z.elim, fun c _ _ _ _ _ _ _ hr => row_only hr o1 fun _ _ z => z⟩
    have := (Array.getElem?_eq_some_iff.1 (h.b t ht)).1
    omega
/-- The same as a step of the walk. -/
theorem wpList_gx {T E : TypeId} {sZ bytes : Nat} {inf : TypeInfo} {z0 : Value} (hT : Tryz.prog.underlying T = some (.slice E)) (hi : Tryz.prog.info? E = some inf) (hz0 : inf.zero = some z0) (hz1 : inf.size = sZ) (hz2 : inf.bytes = bytes) (hzs : z0.cells.size = sZ) (hsz : 0 < sZ) (hby : bytes ≤ 48)
    (s : Gst w N v bx) {y : Nat → List Value} (h : Gg w W N v bx y) (i : Nat) (hN : i < N) {m j : Nat} {ys : List Value} {vm : Value} (hx : Gx w W (v i) bx E sZ m (y i) ys vm j) {ops : Array Oper} {rest : List Oper} {o : Oper} {ac : Act} {Q : Exit → Act → World → Prop} (hgd : o.guard = none) (s1 y1 : Operand)
    (ho : o.op = .call { callee := .builtin .append, args := #[s1, y1], argTypes := #[T, T] }) (hs : ac.eval s1 = vm) (ad : Addr) (hy : ac.eval y1 = .slice (some ad) 1 1) (hys : ys.length = 1 * sZ) (hnews : ∀ j u, ys[j]? = some u → W.cell? (ad.add j) = some u) (hone : ∀ u ∈ ys, u.oneCell' = true) (hl : m + j ≤ 4194304)
    (hK : ∀ gv cv w', Hid (Gx w w' (v i) bx E sZ m (y i) ys (.slice (some ⟨gv, 0, none⟩) (m + j + 1) cv) (j + 1) ∧ Gg w w' N v bx y ∧ Only W w' (fun k => vm.ownBlock = some k) ∧ ∀ c, c < N → c ≠ i → Kr W w' (v c)) → wpList Tryz.prog ops Q rest (ac.put o.dst (.slice (some ⟨gv, 0, none⟩) (m + j + 1) cv)) w') :
    wpList Tryz.prog ops Q (o :: rest) ac W := by
  refine wpList_plain hgd fun K hKK => ?_
  obtain ⟨gv, cv, w', hr, h2, h3, h4⟩ := gx_app hT hi hz0 hz1 hz2 hzs hsz hby s h i hN hx o.type ad hys hnews hone hl
  unfold Oper.wp execOp
  simp only [ho, resolve, invoke, builtin, Sem.run_bind, Sem.run_pure, Result.andThen_ok, List.map_toArray, List.map_cons, List.map_nil, hs, hy, hr]
  exact hKK _ _ (hK gv cv w' (hide ⟨h2, h3, h4⟩))
end
theorem tag_ne2 {W : World} {B C e d sz tz n m k : Nat} {u v : Value} {xs ys : List Value} (h : W.ownsRow B e sz u n xs) (h' : W.ownsRow C d tz v m ys) (hed : e ≠ d) (q : u.ownBlock = some k) (z : v.ownBlock = some k) : False := by
  rcases h.2 with ⟨rfl, _⟩ | ⟨g, cap, cur, rfl, _, hg, _⟩
  · cases q
  · rcases h'.2 with ⟨rfl, _⟩ | ⟨g', cap', cur', rfl, _, hg', _⟩
    · cases z
    · cases q
      cases z
      rw [hg] at hg'
      cases hg'
      exact hed rfl
theorem upd_upd {α : Type} (a : Nat → α) (i : Nat) (x y : α) : upd (upd a i x) i y = upd a i y := by
  funext r
  unfold upd
  by_cases e : r = i
  · simp [e]
  · simp [e]
theorem upd_at {α : Type} (a : Nat → α) (i : Nat) (x : α) : upd a i x i = x := by simp [upd]
theorem Gx.zero' {w W : World} {bx : List (Nat × Array Value × TypeId)} {v u : Value} {e sz n : Nat} {xs ys : List Value} (hv : v = u) (h : W.ownsRow 0 e sz v n xs) : Gx w W v bx e sz n xs ys u 0 := by
  subst hv
  exact Gx.zero h
theorem cnewL (W : World) (xs : List Value) (t : TypeId) : ∀ j u, xs[j]? = some u → (W.alloc (.cells xs.toArray t)).cell? ((⟨W.heap.size, 0, none⟩ : Addr).add j) = some u := by
  intro j u hu
  rw [Addr.add_lit, Nat.zero_add]
  exact cell_of (World.alloc_heap_new W _) (by simpa using hu)
theorem Gf.puti {w W : World} {N : Nat} {v : Nat → Value} {bx : List (Nat × Array Value × TypeId)} {e sz n : Nat → Nat} {mk : Nat → Nat → Value} {x : Nat → List Value} {a : Nat → Nat} (s : Gst w N v bx) (i c : Nat) (h : Gf w W N v bx e sz n mk x (upd a i c)) (hi : i < N) {g cap m : Nat} (hv : v i = .slice (some ⟨g, 0, none⟩) m cap) (hm : n i = m) (u : Value) (hu : mk i c = u) : Gf w (W.setCell ⟨g, c, none⟩ u) N v bx e sz n mk x (upd a i (c + 1)) := by
  have k := Gf.put s h i hi hv hm u (by rw [upd_at]; exact hu)
  rwa [upd_at, upd_upd] at k
theorem Gf.cell {w W : World} {N : Nat} {v : Nat → Value} {bx : List (Nat × Array Value × TypeId)} {e sz n : Nat → Nat} {mk : Nat → Nat → Value} {x : Nat → List Value} {a : Nat → Nat} (h : Gf w W N v bx e sz n mk x a) (i : Nat) (hi : i < N) {ao : Option Addr} {cap m z : Nat} (hv : v i = .slice ao m cap) (hm : n i = m) (hz : sz i = z) (j : Nat) (hj : j < m * z) : ∃ g, ao = some ⟨g, 0, none⟩ ∧ ∀ c, c < m * z → (∃ u, W.cell? ⟨g, c, none⟩ = some u) ∧ W.frozen? ⟨g, c, none⟩ = false := by
  have k := h.r i hi
  rw [hv, hm, hz] at k
  obtain ⟨g, cp, e1, _, _⟩ := k.form (Nat.pos_of_ne_zero fun e0 => by rw [e0] at hj; omega)
  cases e1
  refine ⟨g, rfl, fun c hc => ⟨⟨_, rv_of k g rfl c (by rw [k.1]; exact hc)⟩, ?_⟩⟩
  rcases k.2 with ⟨e2, _⟩ | ⟨g', cap', cur, e2, _, hg, _⟩
  · cases e2
  · cases e2
    simp [World.frozen?, hg]
end Go.Proofs.YtojnlpicgemlaabGreatDoor
