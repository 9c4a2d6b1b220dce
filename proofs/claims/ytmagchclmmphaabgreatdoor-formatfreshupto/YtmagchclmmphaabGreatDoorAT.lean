import Derived.Test.YtmagchclmmphaabGreatDoorLM
import Derived.Test.YtmagchclmmphaabGreatDoorCE
import Derived.Test.YtmagchclmmphaabGreatDoorVF
import Derived.Test.YtmagchclmmphaabGreatDoorVL
namespace Go.Proofs.YtmagchclmmphaabGreatDoor
open Go.RowKit Go.Maps

/-! ### A box with three rows of one's own, apart -/
def Grw (w w' : World) (v v' : Value) : Prop := Only w w' (fun k => v.ownBlock = some k) ∧ ∀ k, v'.ownBlock = some k → v.ownBlock = some k ∨ w.heap.size ≤ k
theorem Grw.undrewN {w w' : World} {n : Nat} {v v' : Value} (h : Grw (w.drewN n) w' v v') : Grw w w' v v' := ⟨⟨h.1.os, h.1.tape, h.1.output, h.1.size, h.1.block⟩, h.2⟩
theorem new_of {W W' : World} {v v' : Value} {k : Nat} (h : Grw W W' v v') (q : v'.ownBlock = some k) : v.ownBlock = some k ∨ W.heap.size ≤ k := h.2 k q
def RB3 (v1 v2 v3 : Value) (k : Nat) : Prop := v1.ownBlock = some k ∨ v2.ownBlock = some k ∨ v3.ownBlock = some k
/-- A row: its elements' type and size, its value, what it holds. -/
structure RowT where
  e : TypeId
  sz : Nat
  n : Nat
  xs : List Value
structure Tri (B g : Nat) (ty : TypeId) (c0 c1 : Value) (W : World) (v1 v2 v3 : Value) (r1 r2 r3 : RowT) : Prop where
  o1 : W.ownsRow B r1.e r1.sz v1 r1.n r1.xs
  o2 : W.ownsRow B r2.e r2.sz v2 r2.n r2.xs
  o3 : W.ownsRow B r3.e r3.sz v3 r3.n r3.xs
  a12 : ∀ k, v1.ownBlock = some k → v2.ownBlock ≠ some k
  a13 : ∀ k, v1.ownBlock = some k → v3.ownBlock ≠ some k
  a23 : ∀ k, v2.ownBlock = some k → v3.ownBlock ≠ some k
  blk : W.heap[g]? = some (.cells #[c0, c1, v1, v2, v3] ty (0, 0))
  ap : ∀ k, RB3 v1 v2 v3 k → k ≠ g
/-- What a step changes: the box, the rows; rows that are new lie in new memory. -/
structure Cs (g : Nat) (W W' : World) (P P' : Nat → Prop) : Prop where
  only : Only W W' (fun k => k = g ∨ P k)
  new : ∀ k, P' k → P k ∨ W.heap.size ≤ k
section
variable {B g : Nat} {ty : TypeId} {c0 c1 : Value} {W W' W1 : World} {v1 v2 v3 v' : Value} {r1 r2 r3 r' : RowT}
theorem Cs.same {P : Nat → Prop} (d : Below W.heap.size W W') : Cs g W W' P P := ⟨Only.ofBelow d, fun _ q => .inl q⟩
theorem Cs.trans {a b c : World} {P Q T : Nat → Prop} (h : Cs g a b P Q) (k : Cs g b c Q T) : Cs g a c P T :=
  ⟨h.only.andNew k.only fun i hi q => q.imp_right fun q => (h.new i q).resolve_right (by omega), fun i q => by
    rcases k.new i q with q | q
    · exact h.new i q
    · have := h.only.size; exact .inr (by omega)⟩
theorem Cs.block {P P' : Nat → Prop} (h : Cs g W W' P P') {k : Nat} (hk : k < W.heap.size) (hg : k ≠ g) (hP : ¬ P k) : W'.heap[k]? = W.heap[k]? := h.only.block k hk (fun q => q.elim hg hP)
theorem Tri.glt (h : Tri B g ty c0 c1 W v1 v2 v3 r1 r2 r3) : g < W.heap.size := (Array.getElem?_eq_some_iff.1 h.blk).1
theorem Tri.lt (h : Tri B g ty c0 c1 W v1 v2 v3 r1 r2 r3) (k : Nat) (q : RB3 v1 v2 v3 k) : B ≤ k ∧ k < W.heap.size := by
  rcases q with q | q | q
  · exact h.o1.lt k q
  · exact h.o2.lt k q
  · exact h.o3.lt k q
theorem Tri.only {P : Nat → Prop} (h : Tri B g ty c0 c1 W v1 v2 v3 r1 r2 r3) (ho : Only W W' P) (hn : ∀ k, RB3 v1 v2 v3 k → ¬ P k) (hg : ¬ P g) : Tri B g ty c0 c1 W' v1 v2 v3 r1 r2 r3 :=
  ⟨row_only h.o1 ho fun k q => hn k (.inl q), row_only h.o2 ho fun k q => hn k (.inr (.inl q)), row_only h.o3 ho fun k q => hn k (.inr (.inr q)), h.a12, h.a13, h.a23, (ho.block g h.glt hg).trans h.blk, h.ap⟩
theorem Tri.below (h : Tri B g ty c0 c1 W v1 v2 v3 r1 r2 r3) (d : Below W.heap.size W W') : Tri B g ty c0 c1 W' v1 v2 v3 r1 r2 r3 := h.only (Only.ofBelow (R := fun _ => False) d) (fun _ _ z => z) (fun z => z)
theorem Tri.drewN (h : Tri B g ty c0 c1 W v1 v2 v3 r1 r2 r3) (n : Nat) : Tri B g ty c0 c1 (W.drewN n) v1 v2 v3 r1 r2 r3 := ⟨h.o1, h.o2, h.o3, h.a12, h.a13, h.a23, h.blk, h.ap⟩
/-- A row is another one, in the world's new state. -/
theorem Tri.row1 (h : Tri B g ty c0 c1 W v1 v2 v3 r1 r2 r3) (hg : Grw W W1 v1 v') (ho : W1.ownsRow B r'.e r'.sz v' r'.n r'.xs) :
    Tri B g ty c0 c1 (W1.setCell ⟨g, 2, none⟩ v') v' v2 v3 r' r2 r3 ∧ Cs g W (W1.setCell ⟨g, 2, none⟩ v') (RB3 v1 v2 v3) (RB3 v' v2 v3) := by
  have hglt := h.glt
  have n1 : ∀ k, v'.ownBlock = some k → k ≠ g := fun k q => by
    rcases new_of hg q with z | z
    · exact h.ap k (.inl z)
    · omega
  have p2 : W1.ownsRow B r2.e r2.sz v2 r2.n r2.xs := row_only h.o2 hg.1 fun k q z => h.a12 k z q
  have p3 : W1.ownsRow B r3.e r3.sz v3 r3.n r3.xs := row_only h.o3 hg.1 fun k q z => h.a13 k z q
  have hb : W1.heap[g]? = some (.cells #[c0, c1, v1, v2, v3] ty (0, 0)) := (hg.1.block g hglt fun q => h.ap g (.inl q) rfl).trans h.blk
  have so := only_set W1 g 2 v'
  refine ⟨⟨row_only ho so n1, row_only p2 so fun k q => h.ap k (.inr (.inl q)), row_only p3 so fun k q => h.ap k (.inr (.inr q)), fun k q q' => ?_, fun k q q' => ?_, h.a23, heap_setCell_same W1 g 2 _ ty v' hb, fun k q => ?_⟩, ⟨?_, fun k q => ?_⟩⟩
  · rcases new_of hg q with z | z
    · exact h.a12 k z q'
    · have := (h.o2.lt k q').2; omega
  · rcases new_of hg q with z | z
    · exact h.a13 k z q'
    · have := (h.o3.lt k q').2; omega
  · rcases q with q | q
    · exact n1 k q
    · exact h.ap k (.inr q)
  · exact (hg.1.mono fun k _ q => show k = g ∨ RB3 v1 v2 v3 k from .inr (.inl q)).andNew so fun i _ q => .inl q
  · rcases q with q | q
    · exact (new_of hg q).imp_left .inl
    · exact .inl (.inr q)
theorem Tri.row2 (h : Tri B g ty c0 c1 W v1 v2 v3 r1 r2 r3) (hg : Grw W W1 v2 v') (ho : W1.ownsRow B r'.e r'.sz v' r'.n r'.xs) :
    Tri B g ty c0 c1 (W1.setCell ⟨g, 3, none⟩ v') v1 v' v3 r1 r' r3 ∧ Cs g W (W1.setCell ⟨g, 3, none⟩ v') (RB3 v1 v2 v3) (RB3 v1 v' v3) := by
  have hglt := h.glt
  have n1 : ∀ k, v'.ownBlock = some k → k ≠ g := fun k q => by
    rcases new_of hg q with z | z
    · exact h.ap k (.inr (.inl z))
    · omega
  have p1 : W1.ownsRow B r1.e r1.sz v1 r1.n r1.xs := row_only h.o1 hg.1 fun k q z => h.a12 k q z
  have p3 : W1.ownsRow B r3.e r3.sz v3 r3.n r3.xs := row_only h.o3 hg.1 fun k q z => h.a23 k z q
  have hb : W1.heap[g]? = some (.cells #[c0, c1, v1, v2, v3] ty (0, 0)) := (hg.1.block g hglt fun q => h.ap g (.inr (.inl q)) rfl).trans h.blk
  have so := only_set W1 g 3 v'
  refine ⟨⟨row_only p1 so fun k q => h.ap k (.inl q), row_only ho so n1, row_only p3 so fun k q => h.ap k (.inr (.inr q)), fun k q q' => ?_, h.a13, fun k q q' => ?_, heap_setCell_same W1 g 3 _ ty v' hb, fun k q => ?_⟩, ⟨?_, fun k q => ?_⟩⟩
  · rcases new_of hg q' with z | z
    · exact h.a12 k q z
    · have := (h.o1.lt k q).2; omega
  · rcases new_of hg q with z | z
    · exact h.a23 k z q'
    · have := (h.o3.lt k q').2; omega
  · rcases q with q | q | q
    · exact h.ap k (.inl q)
    · exact n1 k q
    · exact h.ap k (.inr (.inr q))
  · exact (hg.1.mono fun k _ q => show k = g ∨ RB3 v1 v2 v3 k from .inr (.inr (.inl q))).andNew so fun i _ q => .inl q
  · rcases q with q | q | q
    · exact .inl (.inl q)
    · exact (new_of hg q).imp_left fun q => .inr (.inl q)
    · exact .inl (.inr (.inr q))
theorem Tri.row3 (h : Tri B g ty c0 c1 W v1 v2 v3 r1 r2 r3) (hg : Grw W W1 v3 v') (ho : W1.ownsRow B r'.e r'.sz v' r'.n r'.xs) :
    Tri B g ty c0 c1 (W1.setCell ⟨g, 4, none⟩ v') v1 v2 v' r1 r2 r' ∧ Cs g W (W1.setCell ⟨g, 4, none⟩ v') (RB3 v1 v2 v3) (RB3 v1 v2 v') := by
  have hglt := h.glt
  have n1 : ∀ k, v'.ownBlock = some k → k ≠ g := fun k q => by
    rcases new_of hg q with z | z
    · exact h.ap k (.inr (.inr z))
    · omega
  have p1 : W1.ownsRow B r1.e r1.sz v1 r1.n r1.xs := row_only h.o1 hg.1 fun k q z => h.a13 k q z
  have p2 : W1.ownsRow B r2.e r2.sz v2 r2.n r2.xs := row_only h.o2 hg.1 fun k q z => h.a23 k q z
  have hb : W1.heap[g]? = some (.cells #[c0, c1, v1, v2, v3] ty (0, 0)) := (hg.1.block g hglt fun q => h.ap g (.inr (.inr q)) rfl).trans h.blk
  have so := only_set W1 g 4 v'
  refine ⟨⟨row_only p1 so fun k q => h.ap k (.inl q), row_only p2 so fun k q => h.ap k (.inr (.inl q)), row_only ho so n1, h.a12, fun k q q' => ?_, fun k q q' => ?_, heap_setCell_same W1 g 4 _ ty v' hb, fun k q => ?_⟩, ⟨?_, fun k q => ?_⟩⟩
  · rcases new_of hg q' with z | z
    · exact h.a13 k q z
    · have := (h.o1.lt k q).2; omega
  · rcases new_of hg q' with z | z
    · exact h.a23 k q z
    · have := (h.o2.lt k q).2; omega
  · rcases q with q | q | q
    · exact h.ap k (.inl q)
    · exact h.ap k (.inr (.inl q))
    · exact n1 k q
  · exact (hg.1.mono fun k _ q => show k = g ∨ RB3 v1 v2 v3 k from .inr (.inr (.inr q))).andNew so fun i _ q => .inl q
  · rcases q with q | q | q
    · exact .inl (.inl q)
    · exact .inl (.inr (.inl q))
    · exact (new_of hg q).imp_left fun q => .inr (.inr q)
/-- The third row is written over where it lies. -/
theorem Tri.over3 (h : Tri B g ty c0 c1 W v1 v2 v3 r1 r2 r3) (hg : Only W W1 (fun k => v3.ownBlock = some k)) (ho : W1.ownsRow B r'.e r'.sz v3 r'.n r'.xs) :
    Tri B g ty c0 c1 W1 v1 v2 v3 r1 r2 r' ∧ Cs g W W1 (RB3 v1 v2 v3) (RB3 v1 v2 v3) :=
  ⟨⟨row_only h.o1 hg fun k q z => h.a13 k q z, row_only h.o2 hg fun k q z => h.a23 k q z, ho, h.a12, h.a13, h.a23, (hg.block g h.glt fun q => h.ap g (.inr (.inr q)) rfl).trans h.blk, h.ap⟩,
    ⟨hg.mono fun _ _ q => .inr (.inr (.inr q)), fun _ q => .inl q⟩⟩
/-- The box's cells behind what changed a row alone. -/
theorem Tri.box {v : Value} (h : Tri B g ty c0 c1 W v1 v2 v3 r1 r2 r3) (hg : Only W W1 (fun k => v.ownBlock = some k)) (hv : ∀ k, v.ownBlock = some k → RB3 v1 v2 v3 k) : W1.heap[g]? = some (.cells #[c0, c1, v1, v2, v3] ty (0, 0)) :=
  (hg.block _ h.glt fun z => h.ap _ (hv _ z) rfl).trans h.blk
end
end Go.Proofs.YtmagchclmmphaabGreatDoor
namespace Go.Proofs.YtmagchclmmphaabGreatDoor
open Go.RowKit Go.Maps
attribute [local go_sem] Oper.semAt_some

/-! ### What a content's automaton is -/
def isSt (r : RuT) : Bool := decide (r.2.1 = ⟨#[]⟩)
def stF (S : List ByteArray) (R : List RuT) : List Int := (R.filter isSt).map fun r => ((posOf S r.2.2 : Nat) : Int)
def edF (S Y : List ByteArray) (R : List RuT) : List EdT := (R.filter fun r => !isSt r).map fun r => (((posOf S r.2.1 : Nat) : Int), ((posOf Y r.1 : Nat) : Int), ((posOf S r.2.2 : Nat) : Int))
def fiF (S F : List ByteArray) : List Int := F.map fun x => ((posOf S x : Nat) : Int)
theorem st_next {S : List ByteArray} {R : List RuT} {k : Nat} {r : RuT} (h : R[k]? = some r) : stF S (R.take (k + 1)) = stF S (R.take k) ++ (if isSt r then [((posOf S r.2.2 : Nat) : Int)] else []) := by
  unfold stF
  rw [List.take_add_one, h, List.filter_append, List.map_append]
  cases hs : isSt r <;> simp [hs]
theorem ed_next {S Y : List ByteArray} {R : List RuT} {k : Nat} {r : RuT} (h : R[k]? = some r) : edF S Y (R.take (k + 1)) = edF S Y (R.take k) ++ (if isSt r then [] else [(((posOf S r.2.1 : Nat) : Int), ((posOf Y r.1 : Nat) : Int), ((posOf S r.2.2 : Nat) : Int))]) := by
  unfold edF
  rw [List.take_add_one, h, List.filter_append, List.map_append]
  cases hs : isSt r <;> simp [hs]
theorem fi_next {S F : List ByteArray} {k : Nat} {x : ByteArray} (h : F[k]? = some x) : fiF S (F.take (k + 1)) = fiF S (F.take k) ++ [((posOf S x : Nat) : Int)] := by
  unfold fiF
  rw [List.take_add_one, h, List.map_append]
  rfl
theorem st_len (S : List ByteArray) (R : List RuT) : (stF S R).length ≤ R.length := by unfold stF; rw [List.length_map]; exact List.length_filter_le _ _
theorem ed_len (S Y : List ByteArray) (R : List RuT) : (edF S Y R).length ≤ R.length := by unfold edF; rw [List.length_map]; exact List.length_filter_le _ _
theorem fi_len (S F : List ByteArray) : (fiF S F).length = F.length := by unfold fiF; rw [List.length_map]

def rI (l : List Int) : RowT := ⟨3, 1, l.length, l.map (Value.int .i64)⟩
def rE (l : List EdT) : RowT := ⟨64, 3, l.length, l.flatMap encE⟩
theorem infoE : (Tryz.prog.info? 64).map (fun i => (i.zero, i.size, i.bytes)) = some (some (.agg #[.int .i64 0, .int .i64 0, .int .i64 0]), 3, 24) := by kernel_rfl
theorem own_wide {W : World} {B C e sz n : Nat} {v : Value} {xs : List Value} (h : W.ownsRow B e sz v n xs) (hc : C ≤ B) : W.ownsRow C e sz v n xs := by
  refine ⟨h.1, ?_⟩
  rcases h.2 with z | ⟨b, cap, cur, rfl, hb, hg, rest⟩
  · exact .inl z
  · exact .inr ⟨b, cap, cur, rfl, by omega, hg, rest⟩
theorem rowForm {W : World} {B e sz n : Nat} {v : Value} {xs : List Value} (h : W.ownsRow B e sz v n xs) : ∃ ao cap, v = .slice ao n cap := by
  rcases h.2 with ⟨rfl, h0⟩ | ⟨b, cap, cur, rfl, _⟩
  · subst h0; exact ⟨none, 0, rfl⟩
  · exact ⟨_, cap, rfl⟩
theorem lookup1_at {α : Type} [DecidableEq α] {K : Kd α} (w : World) {ops : Array Oper} {rest : List Oper} {o : Oper} {a : Act} {Q : Exit → Act → World → Prop} (hg : o.guard = none) (m x : Operand) (mt : TypeId) (hop : o.op = Op.lookup mt m x false)
    (ht : Tryz.prog.underlying mt = some (.map K.ty 3)) (b : Nat) (l : List α) (i : Nat) (hi : i < l.length) (D : DataW Unit) (hown : w.ownsMap Tryz.prog K.ty (plainElem Tryz.prog 3) b l.length D) (hp : IsPl K D l) (ho : K.ok l[i]) (hm : a.eval m = .map (some b)) (hx : a.eval x = K.val l[i])
    (hK : wpList Tryz.prog ops Q rest (a.put o.dst (.int .i64 (i : Int))) w) : wpList Tryz.prog ops Q (o :: rest) a w := by
  refine wpList_lookup_own_int _ hg m x mt hop K.ty 3 .i64 K.law ht Tryz.underlying3 (by kernel_rfl) b l.length D hm hown _ _ hx (K.kmk _ ho) ?_
  intro c hat hwc
  rw [hp.at_ i hi] at hat
  injection hat with e
  injection e with _ e
  rw [← e]
  exact hK
theorem posAt {S : List ByteArray} {x : ByteArray} (h : x ∈ S) : ∃ (p : Nat) (hi : p < S.length), S[p] = x ∧ posOf S x = p := by
  obtain ⟨hi, he⟩ := posOf_get h
  exact ⟨_, hi, he, rfl⟩
theorem PlM.only {α : Type} [DecidableEq α] {K : Kd α} {W W' : World} {bm : Nat} {l : List α} {R : Nat → Prop} (h : PlM K W bm l) (d : Only W W' R) (hn : ¬ R bm) : PlM K W' bm l := by
  obtain ⟨D, ⟨es, ck, h1, h2⟩, r⟩ := h.own
  exact ⟨⟨D, ⟨es, ck, (d.block bm (Array.getElem?_eq_some_iff.1 h1).1 hn).trans h1, h2⟩, r⟩⟩
theorem cnewI (W : World) (x : Int) : ∀ j u, [Value.int .i64 x][j]? = some u → (W.alloc (.cells #[.int .i64 x] 3)).cell? ((⟨W.heap.size, 0, none⟩ : Addr).add j) = some u := by
  intro j u hu
  rw [Addr.add_lit, Nat.zero_add]
  refine cell_of (World.alloc_heap_new W _) ?_
  match j, hu with
  | 0, hj => exact hj
theorem cnewE (W : World) (x : EdT) : ∀ j u, (encE x)[j]? = some u → (W.alloc (.cells #[.int .i64 x.1, .int .i64 x.2.1, .int .i64 x.2.2] 64)).cell? ((⟨W.heap.size, 0, none⟩ : Addr).add j) = some u := by
  intro j u hu
  rw [Addr.add_lit, Nat.zero_add]
  refine cell_of (World.alloc_heap_new W _) ?_
  match j, hu with
  | 0, hj => exact hj
  | 1, hj => exact hj
  | 2, hj => exact hj

/-! ### While the automaton is made -/
structure AtI (w : World) (g m1 m2 : Nat) (c : Array Value) (S Y : List ByteArray) (W : World) (v1 v2 v3 : Value) (St Fi : List Int) (Ed : List EdT) : Prop where
  tri : Tri (g + 1) g 25 (.int .i64 (S.length : Nat)) (.int .i64 (Y.length : Nat)) W v1 v2 v3 (rI St) (rI Fi) (rE Ed)
  bf : W.heap[w.heap.size]? = some (.cells c 32 (0, 0))
  br : W.heap[w.heap.size + 1]? = some (.cells #[.int .i64 0, .int .i64 0, .slice none 0 0, .slice none 0 0, .slice none 0 0] 25 (0, 0))
  p1 : PlM kText W m1 S
  p2 : PlM kText W m2 Y
  h1 : m1 < g
  h2 : m2 < g
  hg : w.heap.size + 2 ≤ g
  dw : Below w.heap.size w W
section
variable {w W W' : World} {g m1 m2 : Nat} {c : Array Value} {S Y : List ByteArray} {v1 v2 v3 v1' v2' v3' : Value} {St St' Fi Fi' : List Int} {Ed Ed' : List EdT}
theorem AtI.step (h : AtI w g m1 m2 c S Y W v1 v2 v3 St Fi Ed) (k : Tri (g + 1) g 25 (.int .i64 (S.length : Nat)) (.int .i64 (Y.length : Nat)) W' v1' v2' v3' (rI St') (rI Fi') (rE Ed') ∧ Cs g W W' (RB3 v1 v2 v3) (RB3 v1' v2' v3')) : AtI w g m1 m2 c S Y W' v1' v2' v3' St' Fi' Ed' := by
  have hg := h.hg
  have hl := h.tri.glt
  have h1 := h.h1
  have h2 := h.h2
  have hn : ∀ i, i < g → ¬ (i = g ∨ RB3 v1 v2 v3 i) := fun i hi z => by
    rcases z with z | z
    · omega
    · have := (h.tri.lt i z).1; omega
  exact ⟨k.1, (k.2.only.block _ (by omega) (hn _ (by omega))).trans h.bf, (k.2.only.block _ (by omega) (hn _ (by omega))).trans h.br, h.p1.only k.2.only (hn _ (by omega)), h.p2.only k.2.only (hn _ (by omega)), h.h1, h.h2, h.hg,
    h.dw.trans (k.2.only.toBelow (by omega) fun i z => by
      rcases z with z | z
      · omega
      · have := (h.tri.lt i z).1; omega)⟩
theorem AtI.below (h : AtI w g m1 m2 c S Y W v1 v2 v3 St Fi Ed) (d : Below W.heap.size W W') : AtI w g m1 m2 c S Y W' v1 v2 v3 St Fi Ed := h.step ⟨h.tri.below d, Cs.same d⟩
end
/-- An append of one item to a row of one's own. -/
theorem grw_append {W w2 : World} {v v' : Value} {b : Obj} (hgr : (W.alloc b).grownBy w2 v.ownBlock) (hloc : v'.ownBlock = v.ownBlock ∨ v'.ownBlock = some (W.alloc b).heap.size) : Grw W w2 v v' := by
  refine ⟨(Only.ofBelow ((Below.refl _ W).alloc (Nat.le_refl _) _)).andNew (Only.grown hgr (fun k hk => hk)) (fun k _ hk => hk), fun k q => ?_⟩
  rcases hloc with z | z
  · left; rw [← z]; exact q
  · right; rw [q] at z; cases z; simp
theorem app_row1 {w W : World} {g m1 m2 : Nat} {c : Array Value} {S Y : List ByteArray} {v1 v2 v3 : Value} {St Fi : List Int} {Ed : List EdT} (h : AtI w g m1 m2 c S Y W v1 v2 v3 St Fi Ed) (x : Int) {ops : Array Oper} {rest : List Oper} {o : Oper} {a : Act} {Q : Exit → Act → World → Prop} (hgd : o.guard = none) (s y : Operand)
    (ho : o.op = .call { callee := .builtin .append, args := #[s, y], argTypes := #[22, 22] }) (hs : a.eval s = v1) (hy : a.eval y = .slice (some ⟨W.heap.size, 0, none⟩) 1 1) (hl : St.length ≤ 8388608)
    (hK : ∀ a5 c5 w3, w3.cell? ⟨g, 2, none⟩ = some v1 → w3.frozen? ⟨g, 2, none⟩ = false → Hid (AtI w g m1 m2 c S Y (w3.setCell ⟨g, 2, none⟩ (.slice a5 (St.length + 1) c5)) (.slice a5 (St.length + 1) c5) v2 v3 (St ++ [x]) Fi Ed) → wpList Tryz.prog ops Q rest (a.put o.dst (.slice a5 (St.length + 1) c5)) w3) :
    wpList Tryz.prog ops Q (o :: rest) a (W.alloc (.cells #[.int .i64 x] 3)) := by
  obtain ⟨i3, hi3, hz30, hz31, hz32⟩ := info_parts info3
  have hgl := h.tri.glt
  refine wpList_append_own_at _ hgd s y _ ho (g + 1) 3 i3 _ 1 8 Tryz.underlying22 hi3 hz30 hz31 hz32 rfl (by omega) v1 St.length (St.map (Value.int .i64)) hs (owns_below h.tri.o1 ((Below.refl _ W).alloc (Nat.le_refl _) _)) ⟨W.heap.size, 0, none⟩ 1 1 [.int .i64 x] hy rfl (cnewI W x) (fun u hu => by obtain rfl := List.mem_singleton.1 hu; rfl) (by unfold maxLen; omega) (by omega) (by simp; omega) ?_
  intro v' w3 how hgr _ hloc
  have hG := grw_append hgr hloc
  have ho2 : w3.ownsRow (g + 1) (rI (St ++ [x])).e (rI (St ++ [x])).sz v' (rI (St ++ [x])).n (rI (St ++ [x])).xs := by simpa [rI] using how
  obtain ⟨a5, c5, rfl⟩ := rowForm how
  have hbx := h.tri.box hG.1 (fun k z => .inl z)
  exact hK a5 c5 w3 (cell_of hbx rfl) (fz_of hbx) (hide (h.step (h.tri.row1 hG ho2)))
theorem app_row2 {w W : World} {g m1 m2 : Nat} {c : Array Value} {S Y : List ByteArray} {v1 v2 v3 : Value} {St Fi : List Int} {Ed : List EdT} (h : AtI w g m1 m2 c S Y W v1 v2 v3 St Fi Ed) (x : Int) {ops : Array Oper} {rest : List Oper} {o : Oper} {a : Act} {Q : Exit → Act → World → Prop} (hgd : o.guard = none) (s y : Operand)
    (ho : o.op = .call { callee := .builtin .append, args := #[s, y], argTypes := #[22, 22] }) (hs : a.eval s = v2) (hy : a.eval y = .slice (some ⟨W.heap.size, 0, none⟩) 1 1) (hl : Fi.length ≤ 8388608)
    (hK : ∀ a5 c5 w3, w3.cell? ⟨g, 3, none⟩ = some v2 → w3.frozen? ⟨g, 3, none⟩ = false → Hid (AtI w g m1 m2 c S Y (w3.setCell ⟨g, 3, none⟩ (.slice a5 (Fi.length + 1) c5)) v1 (.slice a5 (Fi.length + 1) c5) v3 St (Fi ++ [x]) Ed) → wpList Tryz.prog ops Q rest (a.put o.dst (.slice a5 (Fi.length + 1) c5)) w3) :
    wpList Tryz.prog ops Q (o :: rest) a (W.alloc (.cells #[.int .i64 x] 3)) := by
  obtain ⟨i3, hi3, hz30, hz31, hz32⟩ := info_parts info3
  have hgl := h.tri.glt
  refine wpList_append_own_at _ hgd s y _ ho (g + 1) 3 i3 _ 1 8 Tryz.underlying22 hi3 hz30 hz31 hz32 rfl (by omega) v2 Fi.length (Fi.map (Value.int .i64)) hs (owns_below h.tri.o2 ((Below.refl _ W).alloc (Nat.le_refl _) _)) ⟨W.heap.size, 0, none⟩ 1 1 [.int .i64 x] hy rfl (cnewI W x) (fun u hu => by obtain rfl := List.mem_singleton.1 hu; rfl) (by unfold maxLen; omega) (by omega) (by simp; omega) ?_
  intro v' w3 how hgr _ hloc
  have hG := grw_append hgr hloc
  have ho2 : w3.ownsRow (g + 1) (rI (Fi ++ [x])).e (rI (Fi ++ [x])).sz v' (rI (Fi ++ [x])).n (rI (Fi ++ [x])).xs := by simpa [rI] using how
  obtain ⟨a5, c5, rfl⟩ := rowForm how
  have hbx := h.tri.box hG.1 (fun k z => .inr (.inl z))
  exact hK a5 c5 w3 (cell_of hbx rfl) (fz_of hbx) (hide (h.step (h.tri.row2 hG ho2)))
theorem app_row3 {w W : World} {g m1 m2 : Nat} {c : Array Value} {S Y : List ByteArray} {v1 v2 v3 : Value} {St Fi : List Int} {Ed : List EdT} (h : AtI w g m1 m2 c S Y W v1 v2 v3 St Fi Ed) (x : EdT) {ops : Array Oper} {rest : List Oper} {o : Oper} {a : Act} {Q : Exit → Act → World → Prop} (hgd : o.guard = none) (s y : Operand)
    (ho : o.op = .call { callee := .builtin .append, args := #[s, y], argTypes := #[23, 23] }) (hs : a.eval s = v3) (hy : a.eval y = .slice (some ⟨W.heap.size, 0, none⟩) 1 1) (hl : Ed.length ≤ 8388608)
    (hK : ∀ a5 c5 w3, w3.cell? ⟨g, 4, none⟩ = some v3 → w3.frozen? ⟨g, 4, none⟩ = false → Hid (AtI w g m1 m2 c S Y (w3.setCell ⟨g, 4, none⟩ (.slice a5 (Ed.length + 1) c5)) v1 v2 (.slice a5 (Ed.length + 1) c5) St Fi (Ed ++ [x])) → wpList Tryz.prog ops Q rest (a.put o.dst (.slice a5 (Ed.length + 1) c5)) w3) :
    wpList Tryz.prog ops Q (o :: rest) a (W.alloc (.cells #[.int .i64 x.1, .int .i64 x.2.1, .int .i64 x.2.2] 64)) := by
  obtain ⟨i3, hi3, hz30, hz31, hz32⟩ := info_parts infoE
  have hgl := h.tri.glt
  refine wpList_append_own_at _ hgd s y _ ho (g + 1) 64 i3 _ 3 24 Tryz.underlying23 hi3 hz30 hz31 hz32 rfl (by omega) v3 Ed.length (Ed.flatMap encE) hs (owns_below h.tri.o3 ((Below.refl _ W).alloc (Nat.le_refl _) _)) ⟨W.heap.size, 0, none⟩ 1 1 (encE x) hy rfl (cnewE W x) (fun u hu => by simp only [encE, List.mem_cons, List.not_mem_nil, or_false] at hu; rcases hu with rfl | rfl | rfl <;> rfl) (by unfold maxLen; omega) (by omega) (by simp; omega) ?_
  intro v' w3 how hgr _ hloc
  have hG := grw_append hgr hloc
  have ho2 : w3.ownsRow (g + 1) (rE (Ed ++ [x])).e (rE (Ed ++ [x])).sz v' (rE (Ed ++ [x])).n (rE (Ed ++ [x])).xs := by simpa [rE] using how
  obtain ⟨a5, c5, rfl⟩ := rowForm how
  have hbx := h.tri.box hG.1 (fun k z => .inr (.inr z))
  exact hK a5 c5 w3 (cell_of hbx rfl) (fz_of hbx) (hide (h.step (h.tri.row3 hG ho2)))
end Go.Proofs.YtmagchclmmphaabGreatDoor
