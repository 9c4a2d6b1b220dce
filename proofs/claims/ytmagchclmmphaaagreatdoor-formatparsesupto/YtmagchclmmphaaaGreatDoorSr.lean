import Derived.Test.YtmagchclmmphaaaGreatDoorPcs
import Derived.DeepKeys4
import Derived.Maps.OwnSet
namespace Go.Proofs.YtmagchclmmphaaaGreatDoor
open Go.RowKit Go.Maps

/-- Nothing has turned but in blocks of R. -/
structure Only (w w' : World) (R : Nat → Prop) : Prop where
  os : w'.os = w.os
  tape : w'.tape = w.tape
  output : w'.output = w.output
  size : w.heap.size ≤ w'.heap.size
  block : ∀ k, k < w.heap.size → ¬ R k → w'.heap[k]? = w.heap[k]?
theorem Only.ofBelow {w w' : World} {R : Nat → Prop} (h : Below w.heap.size w w') : Only w w' R := ⟨h.os, h.tape, h.output, h.size, fun k hk _ => h.block k hk⟩
theorem Only.toBelow {w w' : World} {R : Nat → Prop} {B : Nat} (h : Only w w' R) (hB : B ≤ w.heap.size) (hR : ∀ k, R k → B ≤ k) : Below B w w' :=
  ⟨h.os, h.tape, h.output, h.size, fun k hk => h.block k (by omega) (fun hr => by have := hR k hr; omega)⟩
theorem Only.trans {a b c : World} {R : Nat → Prop} (h : Only a b R) (k : Only b c R) : Only a c R :=
  ⟨k.os.trans h.os, k.tape.trans h.tape, k.output.trans h.output, Nat.le_trans h.size k.size, fun i hi hn => (k.block i (Nat.lt_of_lt_of_le hi h.size) hn).trans (h.block i hi hn)⟩
theorem Only.mono {w w' : World} {R R' : Nat → Prop} (h : Only w w' R) (hr : ∀ k, k < w.heap.size → R k → R' k) : Only w w' R' := ⟨h.os, h.tape, h.output, h.size, fun k hk hn => h.block k hk (fun h' => hn (hr k hk h'))⟩
/-- What is new may be written. -/
theorem Only.andNew {a b c : World} {R S : Nat → Prop} (h : Only a b R) (k : Only b c S) (hs : ∀ i, i < a.heap.size → S i → R i) : Only a c R :=
  ⟨k.os.trans h.os, k.tape.trans h.tape, k.output.trans h.output, Nat.le_trans h.size k.size, fun i hi hn => (k.block i (Nat.lt_of_lt_of_le hi h.size) (fun hx => hn (hs i hi hx))).trans (h.block i hi hn)⟩
theorem Only.grown {w w' : World} {r : Option Nat} {R : Nat → Prop} (h : w.grownBy w' r) (hr : ∀ k, r = some k → R k) : Only w w' R :=
  ⟨h.os, h.tape, h.output, h.size, fun k hk hn => h.block k hk (fun e => hn (hr k e.symm))⟩
theorem only_set (w : World) (g k : Nat) (v : Value) : Only w (w.setCell ⟨g, k, none⟩ v) (fun i => i = g) :=
  ⟨rfl, rfl, rfl, by simp [World.setCell], fun i _ hn => Below.heap_setCell _ _ _ _ (fun e => hn (by rw [e]))⟩
theorem row_only {w w' : World} {R : Nat → Prop} {B : Nat} {e : TypeId} {sz n : Nat} {v : Value} {xs : List Value} (h : w.ownsRow B e sz v n xs) (ho : Only w w' R) (hn : ∀ k, v.ownBlock = some k → ¬ R k) : w'.ownsRow B e sz v n xs := by
  refine ⟨h.1, ?_⟩
  have hlt := h.lt
  rcases h.2 with h2 | ⟨g, cap, cur, rfl, hb, hg, rest⟩
  · exact .inl h2
  · exact .inr ⟨g, cap, cur, rfl, hb, (ho.block g (hlt g rfl).2 (hn g rfl)).trans hg, rest⟩

/-- A kind of items: a type whose values may be keys, and how a value lies in memory. -/
structure Kd (α : Type) where
  ty : Nat
  sz : Nat
  val : α → Value
  cs : α → List Value
  key : α → Lit
  ok : α → Prop
  kmk : ∀ a, ok a → keyOf Tryz.prog ty (val a) = some (key a)
  inj : ∀ a b, ok a → ok b → key a = key b → a = b
  lit : ∀ a, WideAt.IsKeyLit (key a)
  len : ∀ a, (cs a).length = sz
  one : ∀ a, ∀ u ∈ cs a, u.oneCell' = true
  law : Keyed Tryz.prog ty

section
variable {α : Type} (K : Kd α)
/-- A map says at which place each item stands. -/
structure IsPl (D : DataW Unit) (l : List α) : Prop where
  tidy : Tidy D
  has : ∀ s, K.ok s → (Maps.has D (K.key s) = true ↔ s ∈ l)
  at_ : ∀ i (h : i < l.length) z, D.atKey (K.key l[i]) z = .lit (.int .i64 (i : Nat))
theorem isPl_nil : IsPl K (.map []) [] := ⟨tidy_empty, fun s _ => (by constructor <;> intro h <;> cases h), fun i h => (by simp at h)⟩
variable {K}
theorem IsPl.new {D : DataW Unit} {l : List α} {s : α} (h : IsPl K D l) (hok : ∀ x ∈ l, K.ok x) (hs : s ∉ l) (ho : K.ok s) : IsPl K (D.put (K.key s) (.lit (.int .i64 (l.length : Nat)))) (l ++ [s]) := by
  refine ⟨h.tidy.put (K.lit s) _, fun t ht => ?_, fun i hi z => ?_⟩
  · by_cases e : t = s
    · subst e; rw [has_put_same h.tidy.isMap (K.lit _)]; simp
    · rw [has_put_other (fun h => e (K.inj _ _ ht ho h)), h.has t ht]; simp [e]
  · by_cases e : i < l.length
    · rw [List.getElem_append_left e]
      have hm : l[i] ∈ l := List.getElem_mem e
      rw [atKey_put_other (fun h => hs (by rw [← K.inj _ _ (hok _ hm) ho h]; exact hm)), h.at_ i e z]
    · have : i = l.length := by simp at hi; omega
      subst this
      rw [List.getElem_append_right (Nat.le_refl _)]
      simp only [Nat.sub_self, List.getElem_cons_zero]
      rw [atKey_put_same h.tidy.isMap (K.lit _)]
variable (K)
/-- A series: its list v and its map m. -/
structure Ser (n0 : Nat) (W : World) (v m : Value) (l : List α) : Prop where
  own : W.ownsRow n0 K.ty K.sz v l.length (l.flatMap K.cs)
  map : (m = .map none ∧ l = []) ∨ ∃ bm D, m = .map (some bm) ∧ n0 ≤ bm ∧ W.ownsMap Tryz.prog K.ty (plainElem Tryz.prog 3) bm l.length D ∧ IsPl K D l
  ok : ∀ x ∈ l, K.ok x
  nod : l.Nodup
variable {K}
/-- The blocks of a series. -/
def SB (v m : Value) (k : Nat) : Prop := v.ownBlock = some k ∨ m = .map (some k)
theorem Ser.only {n0 : Nat} {W W' : World} {v m : Value} {l : List α} {R : Nat → Prop} (h : Ser K n0 W v m l) (ho : Only W W' R) (hn : ∀ k, SB v m k → ¬ R k) : Ser K n0 W' v m l := by
  refine ⟨row_only h.own ho (fun k hk => hn k (.inl hk)), ?_, h.ok, h.nod⟩
  rcases h.map with h1 | ⟨bm, D, rfl, hb, o, hp⟩
  · exact .inl h1
  · have hlt := o.lt
    obtain ⟨es, ck, h1, h2⟩ := o
    exact .inr ⟨bm, D, rfl, hb, ⟨es, ck, (ho.block bm hlt (hn bm (.inr rfl))).trans h1, h2⟩, hp⟩
theorem Ser.below {n0 : Nat} {W W' : World} {v m : Value} {l : List α} (h : Ser K n0 W v m l) (d : Below W.heap.size W W') : Ser K n0 W' v m l :=
  h.only (Only.ofBelow (R := fun _ => False) d) (fun _ _ h => h)
theorem Ser.lt {n0 : Nat} {W : World} {v m : Value} {l : List α} (h : Ser K n0 W v m l) : ∀ k, SB v m k → n0 ≤ k ∧ k < W.heap.size := by
  rintro k (hk | hk)
  · exact World.ownsRow.lt h.own k hk
  · rcases h.map with ⟨rfl, _⟩ | ⟨bm, D, rfl, hb, o, hp⟩
    · simp at hk
    · simp at hk; subst hk; exact ⟨hb, o.lt⟩
theorem Ser.nil (n0 : Nat) (W : World) : Ser K n0 W (.slice none 0 0) (.map none) [] := ⟨World.ownsRow_nil _ _ _ _, .inl ⟨rfl, rfl⟩, by simp, List.nodup_nil⟩
theorem lookup_at (w : World) {ops : Array Oper} {rest : List Oper} {o : Oper} {a : Act} {Q : Exit → Act → World → Prop} (hg : o.guard = none) (m x : Operand) (mt : TypeId) (hop : o.op = Op.lookup mt m x true)
    (ht : Tryz.prog.underlying mt = some (.map K.ty 3)) (b : Nat) (l : List α) (i : Nat) (hi : i < l.length) (D : DataW Unit) (hown : w.ownsMap Tryz.prog K.ty (plainElem Tryz.prog 3) b l.length D) (hp : IsPl K D l) (ho : K.ok l[i]) (hm : a.eval m = .map (some b)) (hx : a.eval x = K.val l[i])
    (hK : wpList Tryz.prog ops Q rest (a.put o.dst (.tuple #[.int .i64 (i : Int), .bool true])) w) : wpList Tryz.prog ops Q (o :: rest) a w := by
  refine wpList_lookup_own_ok_int _ hg m x mt hop K.ty 3 .i64 K.law ht Tryz.underlying3 (by kernel_rfl) b l.length D hm hown _ _ hx (K.kmk _ ho) ?_
  intro c hat hwc
  rw [hp.at_ i hi] at hat
  injection hat with e
  injection e with _ e
  rw [(hp.has _ ho).2 (List.getElem_mem hi), ← e]
  exact hK
theorem lookup_not (w : World) {ops : Array Oper} {rest : List Oper} {o : Oper} {a : Act} {Q : Exit → Act → World → Prop} (hg : o.guard = none) (m x : Operand) (mt : TypeId) (hop : o.op = Op.lookup mt m x true)
    (ht : Tryz.prog.underlying mt = some (.map K.ty 3)) (b : Nat) (l : List α) (s : α) (hs : s ∉ l) (D : DataW Unit) (hown : w.ownsMap Tryz.prog K.ty (plainElem Tryz.prog 3) b l.length D) (hp : IsPl K D l) (ho : K.ok s) (hm : a.eval m = .map (some b)) (hx : a.eval x = K.val s)
    (hK : ∀ c : Int, wpList Tryz.prog ops Q rest (a.put o.dst (.tuple #[.int .i64 c, .bool false])) w) : wpList Tryz.prog ops Q (o :: rest) a w := by
  refine wpList_lookup_own_ok_int _ hg m x mt hop K.ty 3 .i64 K.law ht Tryz.underlying3 (by kernel_rfl) b l.length D hm hown _ _ hx (K.kmk _ ho) ?_
  intro c hat hwc
  have : Maps.has D (K.key s) = false := by
    rw [Bool.eq_false_iff]; intro e; exact hs ((hp.has s ho).1 e)
  rw [this]
  exact hK c
/-- What a series is behind its new item. -/
theorem Ser.put {n0 b o bm t : Nat} {W w2 w4 : World} {C : Array Value} {v v' : Value} {l : List α} {s : α} {D : DataW Unit} (h : Ser K n0 W v (.map (some bm)) l) (hp : IsPl K D l) (hbm : n0 ≤ bm) (hm : W.ownsMap Tryz.prog K.ty (plainElem Tryz.prog 3) bm l.length D) (hs : s ∉ l) (hok : K.ok s)
    (hb : W.heap[b]? = some (.cells C t (0, 0))) (hbn : b < n0) (hm2 : w2.ownsMap Tryz.prog K.ty (plainElem Tryz.prog 3) bm (l.length + 1) (D.put (K.key s) (.lit (.int .i64 (l.length : Nat))))) (hg2 : W.grownBy w2 (some bm))
    (hg4 : w2.grownBy w4 v.ownBlock) (ho4 : w4.ownsRow n0 K.ty K.sz v' (l.length + 1) (l.flatMap K.cs ++ K.cs s)) :
    Ser K n0 (w4.setCell ⟨b, o, none⟩ v') v' (.map (some bm)) (l ++ [s]) ∧ (w4.setCell ⟨b, o, none⟩ v').heap[b]? = some (.cells (C.setIfInBounds o v') t (0, 0)) ∧ Only W (w4.setCell ⟨b, o, none⟩ v') (fun k => k = b ∨ SB v (.map (some bm)) k) := by
  have hblt : b < W.heap.size := (Array.getElem?_eq_some_iff.1 hb).1
  have hvb : some b ≠ v.ownBlock := fun e => by have := (h.own.lt b e.symm).1; omega
  have hvm : some bm ≠ v.ownBlock := fun e => by
    obtain ⟨es, ck, h1, _⟩ := hm
    rcases h.own.2 with ⟨rfl, _⟩ | ⟨g, cap, cur, rfl, _, hg, _⟩
    · simp [Value.ownBlock] at e
    · obtain rfl : bm = g := by simpa [Value.ownBlock] using e
      rw [hg] at h1; cases h1
  have hm4 := hm2.kept hg4 hvm
  have hb4 : w4.heap[b]? = some (.cells C t (0, 0)) := (hg4.block b (Nat.lt_of_lt_of_le hblt hg2.size) hvb).trans ((hg2.block b hblt (by simp; omega)).trans hb)
  refine ⟨⟨?_, .inr ⟨bm, D.put (K.key s) (.lit (.int .i64 (l.length : Nat))), rfl, hbm, ?_, ?_⟩, ?_, ?_⟩, heap_setCell_same w4 b o C t v' hb4, ?_⟩
  · rw [List.length_append, List.length_singleton, List.flatMap_append, List.flatMap_singleton]
    exact row_only ho4 (only_set w4 b o v') (fun k hk e => by have := (ho4.lt k hk).1; omega)
  · rw [List.length_append, List.length_singleton]
    obtain ⟨es, ck, h1, h2⟩ := hm4
    exact ⟨es, ck, ((only_set w4 b o v').block bm (Array.getElem?_eq_some_iff.1 h1).1 (by omega)).trans h1, h2⟩
  · exact hp.new h.ok hs hok
  · intro x hx
    rcases List.mem_append.1 hx with hx | hx
    · exact h.ok x hx
    · simp at hx; subst hx; exact hok
  · rw [List.nodup_append]
    exact ⟨h.nod, by simp, fun a ha b hb he => by simp at hb; subst hb; subst he; exact hs ha⟩
  · have o1 : Only W w2 (fun k => k = b ∨ SB v (.map (some bm)) k) := Only.grown hg2 (fun k hk => .inr (.inr (by cases hk; rfl)))
    exact (o1.trans (Only.grown hg4 (fun k hk => .inr (.inl hk)))).andNew (only_set w4 b o v') (fun i _ e => .inl e)
end
/-- Texts as items. -/
def kOf (s : ByteArray) : Lit := .string s.data.toList
theorem kOf_inj {s t : ByteArray} (h : kOf s = kOf t) : s = t := by
  cases s; cases t
  simp only [kOf, Lit.string.injEq] at h
  congr 1
  exact Array.toList_inj.1 h
def kText : Kd ByteArray where
  ty := 9
  sz := 1
  val := .string
  cs := fun s => [.string s]
  key := kOf
  ok := fun s => s.size ≤ 1048576
  kmk := fun s h => WideMaps.keyOf_string_mk Tryz.underlying9 (by unfold maxLen; omega)
  inj := fun _ _ _ _ h => kOf_inj h
  lit := fun _ => trivial
  len := fun _ => rfl
  one := fun s u hu => by obtain rfl := List.mem_singleton.1 hu; rfl
  law := string_keyed Tryz.underlying9
end Go.Proofs.YtmagchclmmphaaaGreatDoor
