import Derived.Test.YtmagchclmmphaabGreatDoorPcs
import Derived.DeepKeys4
import Derived.Maps.OwnSet
namespace Go.Proofs.YtmagchclmmphaabGreatDoor
open Go.RowKit Go.Maps

/-- Nothing has turned but in blocks of R. -/
structure Only (w w' : World) (R : Nat → Prop) : Prop where
  os : w'.os = w.os
  tape : w'.tape = w.tape
  output : w'.output = w.output
  size : w.heap.size ≤ w'.heap.size
  block : ∀ k, k < w.heap.size → ¬ R k → w'.heap[k]? = w.heap[k]?
theorem Only.ofBelow {w w' : World} {R : Nat → Prop} (h : Below w.heap.size w w') : Only w w' R := ⟨h.os, h.tape, h.output, h.size, fun k hk _ => h.block k hk⟩
theorem Only.toBelow {w w' : World} {R : Nat → Prop} {B : Nat} (h : Only w w' R) (hB : B ≤ w.heap.size) (hR : ∀ k, R k → B ≤ k) : Below B w w' :=
  ⟨h.os, h.tape, h.output, h.size, fun k hk => h.block k (by omega) (fun hr => by have := hR k hr; omega)⟩
theorem Only.trans {a b c : World} {R : Nat → Prop} (h : Only a b R) (k : Only b c R) : Only a c R :=
  ⟨k.os.trans h.os, k.tape.trans h.tape, k.output.trans h.output, Nat.le_trans h.size k.size, fun i hi hn => (k.block i (Nat.lt_of_lt_of_le hi h.size) hn).trans (h.block i hi hn)⟩
theorem Only.mono {w w' : World} {R R' : Nat → Prop} (h : Only w w' R) (hr : ∀ k, k < w.heap.size → R k → R' k) : Only w w' R' := ⟨h.os, h.tape, h.output, h.size, fun k hk hn => h.block k hk (fun h' => hn (hr k hk h'))⟩
/-- What is new may be written. -/
theorem Only.andNew {a b c : World} {R S : Nat → Prop} (h : Only a b R) (k : Only b c S) (hs : ∀ i, i < a.heap.size → S i → R i) : Only a c R :=
  ⟨k.os.trans h.os, k.tape.trans h.tape, k.output.trans h.output, Nat.le_trans h.size k.size, fun i hi hn => (k.block i (Nat.lt_of_lt_of_le hi h.size) (fun hx => hn (hs i hi hx))).trans (h.block i hi hn)⟩
theorem Only.grown {w w' : World} {r : Option Nat} {R : Nat → Prop} (h : w.grownBy w' r) (hr : ∀ k, r = some k → R k) : Only w w' R :=
  ⟨h.os, h.tape, h.output, h.size, fun k hk hn => h.block k hk (fun e => hn (hr k e.symm))⟩
theorem only_set (w : World) (g k : Nat) (v : Value) : Only w (w.setCell ⟨g, k, none⟩ v) (fun i => i = g) :=
  ⟨rfl, rfl, rfl, by simp [World.setCell], fun i _ hn => Below.heap_setCell _ _ _ _ (fun e => hn (by rw [e]))⟩
theorem row_only {w w' : World} {R : Nat → Prop} {B : Nat} {e : TypeId} {sz n : Nat} {v : Value} {xs : List Value} (h : w.ownsRow B e sz v n xs) (ho : Only w w' R) (hn : ∀ k, v.ownBlock = some k → ¬ R k) : w'.ownsRow B e sz v n xs := by
  refine ⟨h.1, ?_⟩
  have hlt := h.lt
  rcases h.2 with h2 | ⟨g, cap, cur, rfl, hb, hg, rest⟩
  · exact .inl h2
  · exact .inr ⟨g, cap, cur, rfl, hb, (ho.block g (hlt g rfl).2 (hn g rfl)).trans hg, rest⟩

/-- A kind of items: a type whose values may be keys, and how a value lies in memory. -/
structure Kd (α : Type) where
  ty : Nat
  sz : Nat
  val : α → Value
  cs : α → List Value
  key : α → Lit
  ok : α → Prop
  kmk : ∀ a, ok a → keyOf Tryz.prog ty (val a) = some (key a)
  inj : ∀ a b, ok a → ok b → key a = key b → a = b
  lit : ∀ a, WideAt.IsKeyLit (key a)
  len : ∀ a, (cs a).length = sz
  one : ∀ a, ∀ u ∈ cs a, u.oneCell' = true
  law : Keyed Tryz.prog ty

section
variable {α : Type} (K : Kd α)
/-- A map says at which place each item stands. -/
structure IsPl (D : DataW Unit) (l : List α) : Prop where
  tidy : Tidy D
  has : ∀ s, K.ok s → (Maps.has D (K.key s) = true ↔ s ∈ l)
  at_ : ∀ i (h : i < l.length) z, D.atKey (K.key l[i]) z = .lit (.int .i64 (i : Nat))
theorem isPl_nil : IsPl K (.map []) [] := ⟨tidy_empty, fun s _ => (by constructor <;> intro h <;> cases h), fun i h => (by simp at h)⟩
variable {K}
theorem IsPl.new {D : DataW Unit} {l : List α} {s : α} (h : IsPl K D l) (hok : ∀ x ∈ l, K.ok x) (hs : s ∉ l) (ho : K.ok s) : IsPl K (D.put (K.key s) (.lit (.int .i64 (l.length : Nat)))) (l ++ [s]) := by
  refine ⟨h.tidy.put (K.lit s) _, fun t ht => ?_, fun i hi z => ?_⟩
  · by_cases e : t = s
    · subst e; rw [has_put_same h.tidy.isMap (K.lit _)]; simp
    · rw [has_put_other (fun h => e (K.inj _ _ ht ho h)), h.has t ht]; simp [e]
  · by_cases e : i < l.length
    · rw [List.getElem_append_left e]
      have hm : l[i] ∈ l := List.getElem_mem e
      rw [atKey_put_other (fun h => hs (by rw [← K.inj _ _ (hok _ hm) ho h]; exact hm)), h.at_ i e z]
    · have : i = l.length := by simp at hi; omega
      subst this
      rw [List.getElem_append_right (Nat.le_refl _)]
      simp only [Nat.sub_self, List.getElem_cons_zero]
      rw [atKey_put_same h.tidy.isMap (K.lit _)]
variable (K)
/-- A series: its list v and its map m. -/
structure Ser (n0 : Nat) (W : World) (v m : Value) (l : List α) : Prop where
  own : W.ownsRow n0 K.ty K.sz v l.length (l.flatMap K.cs)
  map : (m = .map none ∧ l = []) ∨ ∃ bm D, m = .map (some bm) ∧ n0 ≤ bm ∧ W.ownsMap Tryz.prog K.ty (plainElem Tryz.prog 3) bm l.length D ∧ IsPl K D l
  ok : ∀ x ∈ l, K.ok x
  nod : l.Nodup
variable {K}
/-- The blocks of a series. -/
def SB (v m : Value) (k : Nat) : Prop := v.ownBlock = some k ∨ m = .map (some k)
theorem Ser.only {n0 : Nat} {W W' : World} {v m : Value} {l : List α} {R : Nat → Prop} (h : Ser K n0 W v m l) (ho : Only W W' R) (hn : ∀ k, SB v m k → ¬ R k) : Ser K n0 W' v m l := by
  refine ⟨row_only h.own ho (fun k hk => hn k (.inl hk)), ?_, h.ok, h.nod⟩
  rcases h.map with h1 | ⟨bm, D, rfl, hb, o, hp⟩
  · exact .inl h1
  · have hlt := o.lt
    obtain ⟨es, ck, h1, h2⟩ := o
    exact .inr ⟨bm, D, rfl, hb, ⟨es, ck, (ho.block bm hlt (hn bm (.inr rfl))).trans h1, h2⟩, hp⟩
theorem Ser.below {n0 : Nat} {W W' : World} {v m : Value} {l : List α} (h : Ser K n0 W v m l) (d : Below W.heap.size W W') : Ser K n0 W' v m l :=
  h.only (Only.ofBelow (R := fun _ => False) d) (fun _ _ h => h)
theorem Ser.lt {n0 : Nat} {W : World} {v m : Value} {l : List α} (h : Ser K n0 W v m l) : ∀ k, SB v m k → n0 ≤ k ∧ k < W.heap.size := by
  rintro k (hk | hk)
  · exact World.ownsRow.lt h.own k hk
  · rcases h.map with ⟨rfl, _⟩ | ⟨bm, D, rfl, hb, o, hp⟩
    · simp at hk
    · simp at hk; subst hk; exact ⟨hb, o.lt⟩
theorem Ser.nil (n0 : Nat) (W : World) : Ser K n0 W (.slice none 0 0) (.map none) [] := ⟨World.ownsRow_nil _ _ _ _, .inl ⟨rfl, rfl⟩, by simp, List.nodup_nil⟩
theorem lookup_at (w : World) {ops : Array Oper} {rest : List Oper} {o : Oper} {a : Act} {Q : Exit → Act → World → Prop} (hg : o.guard = none) (m x : Operand) (mt : TypeId) (hop : o.op = Op.lookup mt m x true)
    (ht : Tryz.prog.underlying mt = some (.map K.ty 3)) (b : Nat) (l : List α) (i : Nat) (hi : i < l.length) (D : DataW Unit) (hown : w.ownsMap Tryz.prog K.ty (plainElem Tryz.prog 3) b l.length D) (hp : IsPl K D l) (ho : K.ok l[i]) (hm : a.eval m = .map (some b)) (hx : a.eval x = K.val l[i])
    (hK : wpList Tryz.prog ops Q rest (a.put o.dst (.tuple #[.int .i64 (i : Int), .bool true])) w) : wpList Tryz.prog ops Q (o :: rest) a w := by
  refine wpList_lookup_own_ok_int _ hg m x mt hop K.ty 3 .i64 K.law ht Tryz.underlying3 (by kernel_rfl) b l.length D hm hown _ _ hx (K.kmk _ ho) ?_
  intro c hat hwc
  rw [hp.at_ i hi] at hat
  injection hat with e
  injection e with _ e
  rw [(hp.has _ ho).2 (List.getElem_mem hi), ← e]
  exact hK
theorem lookup_not (w : World) {ops : Array Oper} {rest : List Oper} {o : Oper} {a : Act} {Q : Exit → Act → World → Prop} (hg : o.guard = none) (m x : Operand) (mt : TypeId) (hop : o.op = Op.lookup mt m x true)
    (ht : Tryz.prog.underlying mt = some (.map K.ty 3)) (b : Nat) (l : List α) (s : α) (hs : s ∉ l) (D : DataW Unit) (hown : w.ownsMap Tryz.prog K.ty (plainElem Tryz.prog 3) b l.length D) (hp : IsPl K D l) (ho : K.ok s) (hm : a.eval m = .map (some b)) (hx : a.eval x = K.val s)
    (hK : ∀ c : Int, wpList Tryz.prog ops Q rest (a.put o.dst (.tuple #[.int .i64 c, .bool false])) w) : wpList Tryz.prog ops Q (o :: rest) a w := by
  refine wpList_lookup_own_ok_int _ hg m x mt hop K.ty 3 .i64 K.law ht Tryz.underlying3 (by kernel_rfl) b l.length D hm hown _ _ hx (K.kmk _ ho) ?_
  intro c hat hwc
  have : Maps.has D (K.key s) = false := by
    rw [Bool.eq_false_iff]; intro e; exact hs ((hp.has s ho).1 e)
  rw [this]
  exact hK c
/-- What a series is behind its new item. -/
theorem Ser.put {n0 b o bm t : Nat} {W w2 w4 : World} {C : Array Value} {v v' : Value} {l : List α} {s : α} {D : DataW Unit} (h : Ser K n0 W v (.map (some bm)) l) (hp : IsPl K D l) (hbm : n0 ≤ bm) (hm : W.ownsMap Tryz.prog K.ty (plainElem Tryz.prog 3) bm l.length D) (hs : s ∉ l) (hok : K.ok s)
    (hb : W.heap[b]? = some (.cells C t (0, 0))) (hbn : b < n0) (hm2 : w2.ownsMap Tryz.prog K.ty (plainElem Tryz.prog 3) bm (l.length + 1) (D.put (K.key s) (.lit (.int .i64 (l.length : Nat))))) (hg2 : W.grownBy w2 (some bm))
    (hg4 : w2.grownBy w4 v.ownBlock) (ho4 : w4.ownsRow n0 K.ty K.sz v' (l.length + 1) (l.flatMap K.cs ++ K.cs s)) :
    Ser K n0 (w4.setCell ⟨b, o, none⟩ v') v' (.map (some bm)) (l ++ [s]) ∧ (w4.setCell ⟨b, o, none⟩ v').heap[b]? = some (.cells (C.setIfInBounds o v') t (0, 0)) ∧ Only W (w4.setCell ⟨b, o, none⟩ v') (fun k => k = b ∨ SB v (.map (some bm)) k) := by
  have hblt : b < W.heap.size := (Array.getElem?_eq_some_iff.1 hb).1
  have hvb : some b ≠ v.ownBlock := fun e => by have := (h.own.lt b e.symm).1; omega
  have hvm : some bm ≠ v.ownBlock := fun e => by
    obtain ⟨es, ck, h1, _⟩ := hm
    rcases h.own.2 with ⟨rfl, _⟩ | ⟨g, cap, cur, rfl, _, hg, _⟩
    · simp [Value.ownBlock] at e
    · obtain rfl : bm = g := by simpa [Value.ownBlock] using e
      rw [hg] at h1; cases h1
  have hm4 := hm2.kept hg4 hvm
  have hb4 : w4.heap[b]? = some (.cells C t (0, 0)) := (hg4.block b (Nat.lt_of_lt_of_le hblt hg2.size) hvb).trans ((hg2.block b hblt (by simp; omega)).trans hb)
  refine ⟨⟨?_, .inr ⟨bm, D.put (K.key s) (.lit (.int .i64 (l.length : Nat))), rfl, hbm, ?_, ?_⟩, ?_, ?_⟩, heap_setCell_same w4 b o C t v' hb4, ?_⟩
  · rw [List.length_append, List.length_singleton, List.flatMap_append, List.flatMap_singleton]
    exact row_only ho4 (only_set w4 b o v') (fun k hk e => by have := (ho4.lt k hk).1; omega)
  · rw [List.length_append, List.length_singleton]
    obtain ⟨es, ck, h1, h2⟩ := hm4
    exact ⟨es, ck, ((only_set w4 b o v').block bm (Array.getElem?_eq_some_iff.1 h1).1 (by omega)).trans h1, h2⟩
  · exact hp.new h.ok hs hok
  · intro x hx
    rcases List.mem_append.1 hx with hx | hx
    · exact h.ok x hx
    · simp at hx; subst hx; exact hok
  · rw [List.nodup_append]
    exact ⟨h.nod, by simp, fun a ha b hb he => by simp at hb; subst hb; subst he; exact hs ha⟩
  · have o1 : Only W w2 (fun k => k = b ∨ SB v (.map (some bm)) k) := Only.grown hg2 (fun k hk => .inr (.inr (by cases hk; rfl)))
    exact (o1.trans (Only.grown hg4 (fun k hk => .inr (.inl hk)))).andNew (only_set w4 b o v') (fun i _ e => .inl e)
end
/-- Texts as items. -/
def kOf (s : ByteArray) : Lit := .string s.data.toList
theorem kOf_inj {s t : ByteArray} (h : kOf s = kOf t) : s = t := by
  cases s; cases t
  simp only [kOf, Lit.string.injEq] at h
  congr 1
  exact Array.toList_inj.1 h
def kText : Kd ByteArray where
  ty := 9
  sz := 1
  val := .string
  cs := fun s => [.string s]
  key := kOf
  ok := fun s => s.size ≤ 1048576
  kmk := fun s h => WideMaps.keyOf_string_mk Tryz.underlying9 (by unfold maxLen; omega)
  inj := fun _ _ _ _ h => kOf_inj h
  lit := fun _ => trivial
  len := fun _ => rfl
  one := fun s u hu => by obtain rfl := List.mem_singleton.1 hu; rfl
  law := string_keyed Tryz.underlying9
end Go.Proofs.YtmagchclmmphaabGreatDoor
namespace Go.Proofs.YtmagchclmmphaabGreatDoor
open Go.RowKit Go.Maps

/-- What add says of a new item. -/
def AddsTo {α : Type} (K : Kd α) (n0 : Nat) (w : World) (b o : Nat) (C : Array Value) (v m : Value) (l : List α) (s : α) (t : Nat) (w' : World) : Prop :=
  ∃ v' m', w'.heap[b]? = some (.cells ((C.setIfInBounds (o + 1) m').setIfInBounds o v') t (0, 0)) ∧ Ser K n0 w' v' m' (l ++ [s]) ∧ Only w w' (fun k => k = b ∨ SB v m k) ∧ (∀ k, SB v' m' k → SB v m k ∨ w.heap.size ≤ k)
theorem set_same {C : Array Value} {o : Nat} {v : Value} (h : C[o]? = some v) : C.setIfInBounds o v = C := by
  apply Array.ext_getElem?
  intro j
  by_cases e : o = j
  · subst e; rw [Array.getElem?_setIfInBounds_self_of_lt (Array.getElem?_eq_some_iff.1 h).1, h]
  · rw [Array.getElem?_setIfInBounds_ne e]

theorem teql_some (bm : Nat) (W : World) : (binOp .eql 87 (.map (some bm)) (.map none)).run Tryz.prog W = .ok (.bool false) W := by kernel_rfl
theorem teql_none (W : World) : (binOp .eql 87 (.map none) (.map none)).run Tryz.prog W = .ok (.bool true) W := by kernel_rfl
theorem tcells_new (w : World) (s : ByteArray) : ∀ (j : Nat) (u : Value), ([Value.string s])[j]? = some u → (w.alloc (.cells #[Value.string s] 9)).cell? ((⟨w.heap.size, 0, none⟩ : Addr).add j) = some u := by
  intro j u hu
  rw [Addr.add_lit, Nat.zero_add]
  refine cell_of (World.alloc_heap_new _ _) ?_
  rw [← hu]
  rw [List.getElem?_toArray]

set_option maxRecDepth 100000 in
set_option maxHeartbeats 1000000 in
theorem tadd_old (b o bm i : Nat) (v : Value) (l : List (ByteArray)) (n0 : Nat) (w : World) (h : Hid (Ser kText n0 w v (.map (some bm)) l)) (hi : i < l.length) (s : ByteArray) (HS : Hid (s = l[i])) (c1 : w.cell? ⟨b, o + 1, none⟩ = some (.map (some bm))) :
    Calls Tryz.prog 134 #[.pointer (some ⟨b, o, none⟩), .string s] w fun e w' => e = .returned (.int .i64 (i : Nat)) ∧ Below w.heap.size w w' := by
  obtain ⟨D, hm, hp⟩ : ∃ D, w.ownsMap Tryz.prog 9 (plainElem Tryz.prog 3) bm l.length D ∧ IsPl kText D l := by
    rcases h.out.map with ⟨e, _⟩ | ⟨bm', D, e, _, o, hp⟩
    · cases e
    · cases e; exact ⟨D, o, hp⟩
  have HX := hide (And.intro hm hp)
  have HO := hide (h.out.ok _ (List.getElem_mem hi))
  clear hm hp
  go_enter Tryz.func134, Tryz.ntmps134
  go_wp2_with (at_lookup; refine lookup_at (K := kText) _ rfl _ _ 87 rfl Tryz.underlying87 bm l i hi D HX.out.1 HX.out.2 HO.out rfl (by rw [← HS.out]; rfl) ?_)
  go_ret
  exact ⟨rfl, Below.refl _ _⟩

set_option maxRecDepth 100000 in
set_option maxHeartbeats 1000000 in
theorem tadd_new (b o bm : Nat) (v : Value) (l : List (ByteArray)) (s : ByteArray) (n0 : Nat) (C : Array Value) (w : World) (h : Hid (Ser kText n0 w v (.map (some bm)) l)) (hs : Hid (s ∉ l)) (hok : Hid (kText.ok s)) (hl : l.length ≤ 67108864)
    (hb : Hid (w.heap[b]? = some (.cells C 121 (0, 0)) ∧ C[o]? = some v ∧ C[o + 1]? = some (.map (some bm)))) (hbn : b < n0) :
    Calls Tryz.prog 134 #[.pointer (some ⟨b, o, none⟩), .string s] w fun e w' => e = .returned (.int .i64 (l.length : Nat)) ∧ AddsTo kText n0 w b o C v (.map (some bm)) l s 121 w' := by
  obtain ⟨i0, hi, hz0, hz1, hz2⟩ := info_parts info9
  obtain ⟨D, hbm, hm, hp⟩ : ∃ D, n0 ≤ bm ∧ w.ownsMap Tryz.prog 9 (plainElem Tryz.prog 3) bm l.length D ∧ IsPl kText D l := by
    rcases h.out.map with ⟨e, _⟩ | ⟨bm', D, e, hb, o, hp⟩
    · cases e
    · cases e; exact ⟨D, hb, o, hp⟩
  have hn0 : n0 ≤ w.heap.size := by have := hm.lt; omega
  have HX := hide (And.intro hm hp)
  have hblt : b < w.heap.size := (Array.getElem?_eq_some_iff.1 hb.out.1).1
  have c0 : w.cell? ⟨b, o, none⟩ = some v := cell_of hb.out.1 hb.out.2.1
  have c1 : w.cell? ⟨b, o + 1, none⟩ = some (.map (some bm)) := cell_of hb.out.1 hb.out.2.2
  obtain ⟨ao, cp, hv⟩ : ∃ ao cp, v = .slice ao l.length cp := by
    rcases h.out.own.2 with ⟨e, e2⟩ | ⟨g, cap, cur, e, _⟩
    · exact ⟨none, 0, by rw [e, e2]⟩
    · exact ⟨_, _, e⟩
  have HV := hide hv
  rw [hv] at c0
  have he := teql_some bm
  have hkey := kText.kmk s hok.out
  have HC := hide (fun (w5 : World) (hg5 : w.grownBy w5 (some bm)) => show w5.cell? ⟨b, o, none⟩ = some (.slice ao l.length cp) by
    rw [← HV.out]; exact cell_of ((hg5.block b hblt (by simp; omega)).trans hb.out.1) hb.out.2.1)
  have HOV := hide (fun (w5 : World) (hg5 : w.grownBy w5 (some bm)) => show w5.ownsRow n0 9 1 (.slice ao l.length cp) l.length (l.flatMap kText.cs) by
    rw [← HV.out]
    refine row_only (R := fun k => k = bm) h.out.own (Only.grown hg5 (fun k hk => by cases hk; rfl)) (fun k hk e => ?_)
    subst e
    obtain ⟨es, ck, q1, _⟩ := HX.out.1
    rcases h.out.own.2 with ⟨e, _⟩ | ⟨g, cap, cur, e, _, hg, _⟩
    · rw [e] at hk; cases hk
    · rw [e] at hk
      obtain rfl : g = k := by simpa [Value.ownBlock] using hk
      rw [hg] at q1; cases q1)
  clear hm hp hv
  go_enter Tryz.func134, Tryz.ntmps134
  go_wp2_with (first
    | (at_lookup; refine lookup_not (K := kText) _ rfl _ _ 87 rfl Tryz.underlying87 bm l s hs.out D HX.out.1 HX.out.2 hok.out rfl rfl ?_; intro c)
    | (at_mapUpdate; refine wpList_mapUpdate_own _ rfl _ _ _ 87 rfl 9 3 kText.law Tryz.underlying87 _ bm l.length D rfl HX.out.1 (by unfold maxLen; omega) _ _ _ rfl rfl hkey _ [] (plainElem_int Tryz.underlying3 (WalkArith.wf_i64 (by omega))) ?_; intro w5 hm5 hg5; have c05 := HC.out w5 hg5; have HG5 := hide (And.intro hm5 hg5); clear hm5 hg5)
    | (at_builtin; refine wpList_append_own_at _ rfl _ _ _ rfl n0 9 i0 _ 1 16 Tryz.underlying26 hi hz0 hz1 hz2 rfl (by omega) (.slice ao l.length cp) l.length (l.flatMap kText.cs) rfl ((HOV.out w5 HG5.out.2).alloc _) ⟨w5.heap.size, 0, none⟩ 1 1 ([Value.string s]) rfl rfl (tcells_new _ s) (kText.one s) (by unfold maxLen; omega) (by omega) (by have := HG5.out.2.size; simp; omega) ?_))
  have hs5 := HG5.out.2.size
  have hb5 : w5.heap[b]? = some (.cells C 121 (0, 0)) := (HG5.out.2.block b hblt (by simp; omega)).trans hb.out.1
  have HM := hide (And.intro HG5.out.1 (And.intro HG5.out.2 hb5))
  intro v' w6 ho hgr hnil hloc
  obtain ⟨gv, cv, rfl, _, _⟩ := ho.form (by omega)
  have hgr2 : w5.grownBy w6 v.ownBlock := by rw [HV.out]; exact (World.grownBy_alloc _ _ _).trans hgr
  have hvb : some b ≠ v.ownBlock := fun e => by have := (h.out.own.lt b e.symm).1; omega
  have hb6 : w6.heap[b]? = some (.cells C 121 (0, 0)) := (hgr2.block b (by omega) hvb).trans HM.out.2.2
  have hu : w6.cell? ⟨b, o, none⟩ = some v := cell_of hb6 hb.out.2.1
  have hfz : w6.frozen? ⟨b, o, none⟩ = false := by simp [World.frozen?, hb6]
  have HF := hide (And.intro ho (And.intro hgr2 hloc))
  clear ho hgr hgr2 hnil hloc hb6 c05 hb5
  go_wp2
  go_ret
  obtain ⟨ho, hgr2, hloc⟩ := HF.out
  obtain ⟨p1, p2, p3⟩ := Ser.put (o := o) h.out HX.out.2 hbm HX.out.1 hs.out hok.out hb.out.1 hbn HM.out.1 HM.out.2.1 hgr2 ho
  refine ⟨rfl, _, .map (some bm), ?_, p1, p3, ?_⟩
  · rw [set_same hb.out.2.2]; exact p2
  · rintro k (hk | hk)
    · rcases hloc with e | e
      · exact .inl (.inl (by rw [HV.out, ← e]; exact hk))
      · right
        rw [e] at hk
        simp at hk
        omega
    · exact .inl (.inr hk)

set_option maxRecDepth 100000 in
set_option maxHeartbeats 1000000 in
theorem tadd_first (b o : Nat) (v : Value) (s : ByteArray) (n0 : Nat) (C : Array Value) (w : World) (h : Hid (Ser kText n0 w v (.map none) [])) (hok : Hid (kText.ok s))
    (hb : Hid (w.heap[b]? = some (.cells C 121 (0, 0)) ∧ C[o]? = some v ∧ C[o + 1]? = some (.map none))) (hbn : b < n0) (hn0 : n0 ≤ w.heap.size) :
    Calls Tryz.prog 134 #[.pointer (some ⟨b, o, none⟩), .string s] w fun e w' => e = .returned (.int .i64 0) ∧ AddsTo kText n0 w b o C v (.map none) [] s 121 w' := by
  obtain ⟨i0, hi, hz0, hz1, hz2⟩ := info_parts info9
  have hblt : b < w.heap.size := (Array.getElem?_eq_some_iff.1 hb.out.1).1
  have c0 : w.cell? ⟨b, o, none⟩ = some v := cell_of hb.out.1 hb.out.2.1
  have c1 : w.cell? ⟨b, o + 1, none⟩ = some (.map none) := cell_of hb.out.1 hb.out.2.2
  have f1 : w.frozen? ⟨b, o + 1, none⟩ = false := by simp [World.frozen?, hb.out.1]
  obtain ⟨ao, cp, hv⟩ : ∃ ao cp, v = .slice ao 0 cp := by
    rcases h.out.own.2 with ⟨e, e2⟩ | ⟨g, cap, cur, e, _⟩
    · exact ⟨none, 0, by rw [e]⟩
    · exact ⟨_, _, e⟩
  have HV := hide hv
  have hkey := kText.kmk s hok.out
  have hlook : ∀ W : World, (Instr.lookup 87 (.map none) (.string s) true).run Tryz.prog W = .ok (.tuple #[.int .i64 0, .bool false]) W := fun W => Maps.look_nil true kText.law Tryz.underlying87 (z := .int .i64 0) (by kernel_rfl) hkey
  have he := teql_none
  rw [hv] at c0
  clear hv
  have hzs : (w.setCell ⟨b, o + 1, none⟩ (.map (some w.heap.size))).heap.size = w.heap.size := by simp [World.setCell]
  obtain ⟨W1, hW1⟩ : ∃ W1, (w.setCell ⟨b, o + 1, none⟩ (.map (some w.heap.size))).alloc (.map #[] 0) = W1 := ⟨_, rfl⟩
  have hA : Below w.heap.size w (w.alloc (.map #[] 0)) := (Below.refl _ _).alloc (Nat.le_refl _) _
  have hbA : (w.alloc (.map #[] 0)).heap[b]? = some (.cells C 121 (0, 0)) := (hA.block b hblt).trans hb.out.1
  have hb1 : W1.heap[b]? = some (.cells (C.setIfInBounds (o + 1) (.map (some w.heap.size))) 121 (0, 0)) := by rw [← hW1]; exact (Below.heap_alloc _ _ b (by omega)).trans (heap_setCell_same _ b (o + 1) C 121 _ hb.out.1)
  have hC0 : (C.setIfInBounds (o + 1) (.map (some w.heap.size)))[o]? = some v := by rw [Array.getElem?_setIfInBounds_ne (by omega)]; exact hb.out.2.1
  have hC1 : (C.setIfInBounds (o + 1) (.map (some w.heap.size)))[o + 1]? = some (.map (some w.heap.size)) := by
    rw [Array.getElem?_setIfInBounds_self_of_lt]
    exact (Array.getElem?_eq_some_iff.1 hb.out.2.2).1
  have d01 : W1.cell? ⟨b, o, none⟩ = some (.slice ao 0 cp) := by rw [← HV.out]; exact cell_of hb1 hC0
  have d11 : W1.cell? ⟨b, o + 1, none⟩ = some (.map (some w.heap.size)) := cell_of hb1 hC1
  have hO1 : Only w W1 (fun k => k = b) := by rw [← hW1]; exact (only_set w b (o + 1) _).trans (Only.ofBelow ((Below.refl _ _).alloc (Nat.le_refl _) _))
  have hz1' : W1.heap.size = w.heap.size + 1 := by rw [← hW1]; simp [World.setCell]
  have hm1 : W1.ownsMap Tryz.prog 9 (plainElem (H := Unit) Tryz.prog 3) w.heap.size 0 (.map []) := by
    rw [← hW1]
    have := World.ownsMap_made (w.setCell ⟨b, o + 1, none⟩ (.map (some w.heap.size))) Tryz.prog 9 (plainElem (H := Unit) Tryz.prog 3)
    rwa [hzs] at this
  have hS1 : Ser kText n0 W1 v (.map (some w.heap.size)) [] := ⟨row_only h.out.own hO1 (fun k hk e => by have := (h.out.own.lt k hk).1; omega), .inr ⟨_, _, rfl, hn0, hm1, isPl_nil kText⟩, by simp, List.nodup_nil⟩
  have HM1 := hide hm1
  have HS1 := hide hS1
  have HB1 := hide (And.intro hb1 (And.intro hC0 hC1))
  have HO1 := hide hO1
  have HA := hide hbA
  have hlt1 : b < W1.heap.size := by omega
  have HC := hide (fun (w5 : World) (hg5 : W1.grownBy w5 (some w.heap.size)) => show w5.cell? ⟨b, o, none⟩ = some (.slice ao 0 cp) by
    rw [← HV.out]; exact cell_of ((hg5.block b hlt1 (by simp; omega)).trans hb1) hC0)
  have HOV := hide (fun (w5 : World) (hg5 : W1.grownBy w5 (some w.heap.size)) => show w5.ownsRow n0 9 1 (.slice ao 0 cp) 0 [] by
    rw [← HV.out]
    exact row_only (R := fun k => k = w.heap.size) HS1.out.own (Only.grown hg5 (fun k hk => by cases hk; rfl)) (fun k hk e => by have := (h.out.own.lt k hk).2; omega))
  clear hm1 hS1 hb1 hC0 hC1 hO1 hA hbA
  have hmk : ∀ W : World, (Instr.makeMap 87 none).run Tryz.prog W = .ok (.map (some W.heap.size)) (W.alloc (.map #[] 0)) := fun W => by simp [Instr.makeMap]
  have fA : (w.alloc (.map #[] 0)).frozen? ⟨b, o + 1, none⟩ = false := by simp [World.frozen?, HA.out]
  have cA : (w.alloc (.map #[] 0)).cell? ⟨b, o + 1, none⟩ = some (.map none) := cell_of HA.out hb.out.2.2
  subst hW1
  clear c0
  go_enter Tryz.func134, Tryz.ntmps134
  go_wp2_with (first
    | (at_mapUpdate; refine wpList_mapUpdate_own _ rfl _ _ _ 87 rfl 9 3 kText.law Tryz.underlying87 _ w.heap.size 0 (.map []) rfl HM1.out (by unfold maxLen; omega) _ _ _ rfl rfl hkey _ [] (plainElem_int Tryz.underlying3 (WalkArith.wf_i64 (by omega))) ?_; intro w5 hm5 hg5; have c05 := HC.out w5 hg5; have HG5 := hide (And.intro hm5 hg5); clear hm5 hg5)
    | (at_builtin; refine wpList_append_own_at _ rfl _ _ _ rfl n0 9 i0 _ 1 16 Tryz.underlying26 hi hz0 hz1 hz2 rfl (by omega) (.slice ao 0 cp) 0 [] rfl ((HOV.out w5 HG5.out.2).alloc _) ⟨w5.heap.size, 0, none⟩ 1 1 ([Value.string s]) rfl rfl (tcells_new _ s) (kText.one s) (by unfold maxLen; omega) (by omega) (by have := HG5.out.2.size; simp at this ⊢; omega) ?_))
  have hs5 := HG5.out.2.size
  have hb5 : w5.heap[b]? = some (.cells (C.setIfInBounds (o + 1) (.map (some w.heap.size))) 121 (0, 0)) := (HG5.out.2.block b hlt1 (by simp; omega)).trans HB1.out.1
  have HM := hide hb5
  intro v' w6 ho hgr hnil hloc
  obtain ⟨gv, cv, rfl, _, _⟩ := ho.form (by omega)
  have hgr2 : w5.grownBy w6 v.ownBlock := by rw [HV.out]; exact (World.grownBy_alloc _ _ _).trans hgr
  have hvb : some b ≠ v.ownBlock := fun e => by have := (h.out.own.lt b e.symm).1; omega
  have hb6 : w6.heap[b]? = some (.cells (C.setIfInBounds (o + 1) (.map (some w.heap.size))) 121 (0, 0)) := (hgr2.block b (by omega) hvb).trans HM.out
  have hu : w6.cell? ⟨b, o, none⟩ = some v := cell_of hb6 HB1.out.2.1
  have hfz : w6.frozen? ⟨b, o, none⟩ = false := by simp [World.frozen?, hb6]
  have HF := hide (And.intro ho (And.intro hgr2 hloc))
  clear ho hgr hgr2 hnil hloc hb6 c05 hb5
  go_wp2
  go_ret
  obtain ⟨ho, hgr2, hloc⟩ := HF.out
  obtain ⟨p1, p2, p3⟩ := Ser.put (o := o) HS1.out (isPl_nil kText) hn0 HM1.out (by simp) hok.out HB1.out.1 hbn HG5.out.1 HG5.out.2 hgr2 ho
  refine ⟨rfl, _, .map (some w.heap.size), p2, p1, ?_, ?_⟩
  · refine (HO1.out.mono (fun k _ e => .inl e)).andNew p3 (fun k hk e => ?_)
    rcases e with e | e | e
    · exact .inl e
    · exact .inr (.inl e)
    · simp at e; omega
  · rintro k (hk | hk)
    · rcases hloc with e | e
      · exact .inl (.inl (by rw [HV.out, ← e]; exact hk))
      · right
        rw [e] at hk
        simp at hk hs5
        omega
    · right; simp at hk; omega
end Go.Proofs.YtmagchclmmphaabGreatDoor
namespace Go.Proofs.YtmagchclmmphaabGreatDoor
open Go.RowKit Go.Maps

theorem laidOut : laidOutB Tryz.prog = true := by kernel_rfl
theorem row51 : (66 : TypeId) < Tryz.prog.types.size := of_decide_eq_true (by kernel_rfl)
theorem wide51 : (match Tryz.prog.underlying 66 with | some (.array _ _) | some (.struct _) => true | _ => false) = true := by rw [Tryz.underlying66]
set_option maxRecDepth 100000 in
theorem law51 : Keyed Tryz.prog 66 := Keyed.of_law (deep_law_laid laidOut (m := 2) (by omega) row51 (by kernel_rfl) wide51)
theorem row53 : (68 : TypeId) < Tryz.prog.types.size := of_decide_eq_true (by kernel_rfl)
theorem wide53 : (match Tryz.prog.underlying 68 with | some (.array _ _) | some (.struct _) => true | _ => false) = true := by rw [Tryz.underlying68]
set_option maxRecDepth 100000 in
theorem law53 : Keyed Tryz.prog 68 := Keyed.of_law (deep_law_laid laidOut (m := 2) (by omega) row53 (by kernel_rfl) wide53)
theorem keyTy51 : Tryz.prog.keyType 66 = true := by kernel_rfl
theorem keyTy53 : Tryz.prog.keyType 68 = true := by kernel_rfl
theorem cells51 : Tryz.prog.cellsOf 66 = 2 := by kernel_rfl
theorem cells53 : Tryz.prog.cellsOf 68 = 3 := by kernel_rfl
theorem cells9 : Tryz.prog.cellsOf 9 = 1 := by kernel_rfl
theorem cells3 : Tryz.prog.cellsOf 3 = 1 := by kernel_rfl
theorem key_op {P : Program} {k a b : TypeId} {f1 f2 : Field} (hu : P.underlying k = some (.struct #[f1, f2])) (n1 : (f1.name != "_") = true) (n2 : (f2.name != "_") = true) (t1 : f1.type = a) (t2 : f2.type = b) (o1 : f1.offset = 0) (o2 : f2.offset = 1)
    (ua : P.underlying a = some .string) (ub : P.underlying b = some (.int .i64)) (ca : P.cellsOf a = 1) (cb : P.cellsOf b = 1) (ck : P.cellsOf k = 2) (hkt : P.keyType k = true) (hk0 : k < P.types.size) (p : ByteArray) (r : Int)
    (w1 : p.size ≤ maxLen) (w2 : (Lit.int .i64 r).wf = true) : keyOf P k (.agg #[.string p, .int .i64 r]) = some (.string (keyBytes [.string p.data.toList, .int .i64 r])) := by
  obtain ⟨n, hn⟩ : ∃ n, P.types.size = n + 1 := ⟨P.types.size - 1, (Nat.sub_add_cancel (Nat.lt_of_le_of_lt (Nat.zero_le _) hk0)).symm⟩
  unfold keyOf
  rw [hu]
  simp only [hkt, Value.formed, hu, ck, Value.cells, hn, Program.keyLits]
  simp [n1, n2, t1, t2, o1, o2, ua, ub, ca, cb, w1, w2]
theorem key_rule {P : Program} {k a : TypeId} {f1 f2 f3 : Field} (hu : P.underlying k = some (.struct #[f1, f2, f3])) (n1 : (f1.name != "_") = true) (n2 : (f2.name != "_") = true) (n3 : (f3.name != "_") = true) (t1 : f1.type = a) (t2 : f2.type = a) (t3 : f3.type = a) (o1 : f1.offset = 0) (o2 : f2.offset = 1) (o3 : f3.offset = 2)
    (ua : P.underlying a = some .string) (ca : P.cellsOf a = 1) (ck : P.cellsOf k = 3) (hkt : P.keyType k = true) (hk0 : k < P.types.size) (p q r : ByteArray)
    (w1 : p.size ≤ maxLen) (w2 : q.size ≤ maxLen) (w3 : r.size ≤ maxLen) : keyOf P k (.agg #[.string p, .string q, .string r]) = some (.string (keyBytes [.string p.data.toList, .string q.data.toList, .string r.data.toList])) := by
  obtain ⟨n, hn⟩ : ∃ n, P.types.size = n + 1 := ⟨P.types.size - 1, (Nat.sub_add_cancel (Nat.lt_of_le_of_lt (Nat.zero_le _) hk0)).symm⟩
  unfold keyOf
  rw [hu]
  simp only [hkt, Value.formed, hu, ck, Value.cells, hn, Program.keyLits]
  simp [n1, n2, n3, t1, t2, t3, o1, o2, o3, ua, ca, w1, w2, w3]
/-- An op: its name and its arity. -/
abbrev OpT := ByteArray × Nat
def opV (s : OpT) : Value := .agg #[.string s.1, .int .i64 (s.2 : Nat)]
def kOp (s : OpT) : Lit := .string (keyBytes [.string s.1.data.toList, .int .i64 (s.2 : Nat)])
def okOp (s : OpT) : Prop := s.1.size ≤ 1048576 ∧ s.2 ≤ 1048576
theorem keyOp (s : OpT) (h : okOp s) : keyOf Tryz.prog 66 (opV s) = some (kOp s) := by
  obtain ⟨p, r⟩ := s
  obtain ⟨h1, h2⟩ := h
  simp only at h1 h2
  exact key_op Tryz.underlying66 (by decide) (by decide) rfl rfl rfl rfl Tryz.underlying9 Tryz.underlying3 cells9 cells3 cells51 keyTy51 row51 p r (by unfold maxLen; omega) (WalkArith.wf_i64 (by omega))
theorem kOp_inj (s t : OpT) (hs : okOp s) (ht : okOp t) (h : kOp s = kOp t) : s = t := by
  have := law51.inj (keyOp s hs) (by rw [h]; exact keyOp t ht)
  obtain ⟨p, r⟩ := s
  obtain ⟨p', r'⟩ := t
  simp only [opV, Value.agg.injEq, Array.mk.injEq, List.cons.injEq, Value.int.injEq, Value.string.injEq, true_and, and_true] at this
  exact Prod.ext this.1 (by simp only; omega)
def kOps : Kd OpT where
  ty := 66
  sz := 2
  val := opV
  cs := fun s => [.string s.1, .int .i64 (s.2 : Nat)]
  key := kOp
  ok := okOp
  kmk := keyOp
  inj := kOp_inj
  lit := fun _ => trivial
  len := fun _ => rfl
  one := fun s u hu => by
    simp only [List.mem_cons, List.not_mem_nil, or_false] at hu
    rcases hu with rfl | rfl <;> rfl
  law := law51
/-- A rule: its op, from where, to where. -/
abbrev RuT := ByteArray × ByteArray × ByteArray
def ruV (s : RuT) : Value := .agg #[.string s.1, .string s.2.1, .string s.2.2]
def kRu (s : RuT) : Lit := .string (keyBytes [.string s.1.data.toList, .string s.2.1.data.toList, .string s.2.2.data.toList])
def okRu (s : RuT) : Prop := s.1.size ≤ 1048576 ∧ s.2.1.size ≤ 1048576 ∧ s.2.2.size ≤ 1048576
theorem keyRu (s : RuT) (h : okRu s) : keyOf Tryz.prog 68 (ruV s) = some (kRu s) := by
  obtain ⟨p, q, r⟩ := s
  obtain ⟨h1, h2, h3⟩ := h
  simp only at h1 h2 h3
  exact key_rule Tryz.underlying68 (by decide) (by decide) (by decide) rfl rfl rfl rfl rfl rfl Tryz.underlying9 cells9 cells53 keyTy53 row53 p q r (by unfold maxLen; omega) (by unfold maxLen; omega) (by unfold maxLen; omega)
theorem kRu_inj (s t : RuT) (hs : okRu s) (ht : okRu t) (h : kRu s = kRu t) : s = t := by
  have := law53.inj (keyRu s hs) (by rw [h]; exact keyRu t ht)
  obtain ⟨p, q, r⟩ := s
  obtain ⟨p', q', r'⟩ := t
  simp only [ruV, Value.agg.injEq, Array.mk.injEq, List.cons.injEq, Value.string.injEq, and_true] at this
  exact Prod.ext this.1 (Prod.ext this.2.1 this.2.2)
def kRules : Kd RuT where
  ty := 68
  sz := 3
  val := ruV
  cs := fun s => [.string s.1, .string s.2.1, .string s.2.2]
  key := kRu
  ok := okRu
  kmk := keyRu
  inj := kRu_inj
  lit := fun _ => trivial
  len := fun _ => rfl
  one := fun s u hu => by
    simp only [List.mem_cons, List.not_mem_nil, or_false] at hu
    rcases hu with rfl | rfl | rfl <;> rfl
  law := law53
theorem info51 : (Tryz.prog.info? 66).map (fun i => (i.zero, i.size, i.bytes)) = some (some (.agg #[.string ⟨#[]⟩, .int .i64 0]), 2, 24) := by kernel_rfl
theorem info53 : (Tryz.prog.info? 68).map (fun i => (i.zero, i.size, i.bytes)) = some (some (.agg #[.string ⟨#[]⟩, .string ⟨#[]⟩, .string ⟨#[]⟩]), 3, 48) := by kernel_rfl
end Go.Proofs.YtmagchclmmphaabGreatDoor
