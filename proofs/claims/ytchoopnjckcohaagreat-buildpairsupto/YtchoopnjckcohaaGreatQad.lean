import Derived.Test.YtchoopnjckcohaaGreatQac
import Derived.Deep.Cut
set_option maxRecDepth 100000
set_option maxHeartbeats 40000000
namespace Go.Proofs.YtchoopnjckcohaaGreat
open Tryz
open Go.RowKit Go.Maps Go.Shelf
attribute [local go_sem] Oper.semAt_some
theorem SS.ends {D : Nat} {W : World} {b bm : Nat} {f : Value} {bud : Int} {vp ve vn : Value} {ps : List Aq} {es : List Aa} {nn : Nat} {xn : List Value} (h : SS D W b bm f bud vp ve vn ps es nn xn) (hbD : b < D) {W' : World} {v : Value} {n2 : Nat} {x2 : List Value} (hW : Ab W W' (fun k => vn.ownBlock = some k)) (hv : W'.ownsRow D 3 1 v n2 x2) :
 SS D (W'.setCell ⟨b, 5, none⟩ v) b bm f bud vp ve v ps es n2 x2 ∧ Ab W (W'.setCell ⟨b, 5, none⟩ v) (fun k => k = b ∨ vn.ownBlock = some k) := by
 obtain ⟨Dm, hm, hp⟩ := h.mo
 have hbb : b ≠ bm := by
  rintro rfl
  obtain ⟨es, ck, q1, _⟩ := hm
  rw [h.bx] at q1; cases q1
 have hnb : vn.ownBlock ≠ some b := fun e => by have := (h.no.lt b e).1; omega
 have b1 := hW.cellK h.bx hnb
 have o2 := Ah W' b 5 v
 have p1 := A9 h.po hW (fun k hk hk2 => Ai h.no h.po (by decide) hk2 hk)
 have e1 := A9 h.eo hW (fun k hk hk2 => Ai h.no h.eo (by decide) hk2 hk)
 have m1 := BZ hm hW (fun e => CT h.no hm e)
 refine ⟨⟨?_, A9 p1 o2 (fun k hk e => by have := (p1.lt k hk).1; omega), ⟨Dm, BZ m1 o2 (fun e => hbb e.symm), hp⟩, A9 e1 o2 (fun k hk e => by have := (e1.lt k hk).1; omega), A9 hv o2 (fun k hk e => by have := (hv.lt k hk).1; omega), h.ok, h.nd⟩, ?_⟩
 · have := heap_setCell_same W' b 5 _ 71 v b1
   simpa using this
 · exact (hW.mono (fun k _ e => .inr e)).andNew o2 (fun k _ e => .inl e)
theorem Ff (w : World) (A Z : Array Value) (t u : TypeId) : Below w.heap.size w ((w.alloc (.cells A t)).alloc (.cells Z u)) ∧ ((w.alloc (.cells A t)).alloc (.cells Z u)).heap[w.heap.size]? = some (.cells A t (0, 0)) ∧ ((w.alloc (.cells A t)).alloc (.cells Z u)).heap[w.heap.size + 1]? = some (.cells Z u (0, 0)) ∧ ((w.alloc (.cells A t)).alloc (.cells Z u)).heap.size = w.heap.size + 2 := by
 refine ⟨((Below.refl _ _).alloc (Nat.le_refl _) _).alloc (by simp) _, (Below.heap_alloc _ _ _ (by simp)).trans (World.alloc_heap_new _ _), ?_, by simp⟩
 have := World.alloc_heap_new (w.alloc (.cells A t)) (.cells Z u)
 simpa using this
theorem JC {a b : Aq} (h : GV a = GV b) : a = b := by
 obtain ⟨p, r⟩ := a
 obtain ⟨p', r'⟩ := b
 simp only [GV, Value.agg.injEq, Array.mk.injEq, List.cons.injEq, Value.int.injEq, true_and, and_true] at h
 exact Prod.ext h.1 h.2
theorem LV : (prog.info? 3).map (fun i => (i.zero, i.size, i.bytes)) = some (some (.int .i64 0), 1, 8) := by kernel_rfl
theorem AH (w : World) (n : Int) : ∀ (j : Nat) (u : Value), ([Value.int .i64 n])[j]? = some u → (w.alloc (.cells #[Value.int .i64 n] 3)).cell? ((⟨w.heap.size, 0, none⟩ : Addr).add j) = some u := by
 intro j u hu
 rw [Addr.add_lit, Nat.zero_add]
 refine A1 (World.alloc_heap_new _ _) ?_
 rw [← hu]
 rw [List.getElem?_toArray]
def IJ (ops : Array Oper) : Bool := ops.toList.all fun o => match o.op with | .defer _ => false | _ => true
theorem FH {ops : Array Oper} (h : IJ ops = true) (i : Nat) (o : Oper) (ho : ops[i]? = some o) : ∀ c, o.op ≠ .defer c := by
 intro c e
 unfold IJ at h
 rw [List.all_eq_true] at h
 have := h o (List.mem_of_getElem? (i := i) (by simpa using ho))
 rw [e] at this
 cases this
theorem CI {α : Type} [BEq α] [LawfulBEq α] : ∀ {l m : List α}, l.Nodup → (∀ t ∈ l, t ∈ m) → l.length ≤ m.length
 | [], _, _, _ => Nat.zero_le _
 | x :: l, m, h, hs => by
  have hx := hs x (by simp)
  have h2 := List.nodup_cons.1 h
  have := CI (l := l) (m := m.erase x) h2.2 (fun t ht => (List.mem_erase_of_ne (fun e : t = x => h2.1 (by rw [← e]; exact ht))).2 (hs t (by simp [ht])))
  rw [List.length_erase_of_mem hx] at this
  have : 0 < m.length := List.length_pos_of_mem hx
  simp
  omega
theorem Co (tmps : Array Value) (w : World) (g : Nat) (v : Value) (hp : tmps.getD 6 undef = .pointer (some ⟨g, 0, none⟩)) (hc : w.cell? ⟨g, 0, none⟩ = some v) : (results Tryz.f59 tmps).run prog w = .ok v w := by
 have hp' : tmps[6]?.getD undef = .pointer (some ⟨g, 0, none⟩) := by simpa using hp
 have ha : (isAgg 30).run prog w = .ok false w := isAgg30 w
 simp [results, hp', asAddr, loadVar, ha, go_sem, hc]
theorem Ir {P : Program} {c : Code} {Q : Exit → Act → World → Prop} {a : Act} {w : World} (h : c.wp P (JG (Q .normal)) a w) : c.wp P Q a w := wp_mono h (fun e a w h => by
 cases e with
 | normal => exact h
 | _ => exact h.elim)
theorem Ij {K : Act → World → Prop} {a : Act} {w : World} (h : K a w) : JG K .normal a w := h
theorem GO {W : World} {B g cap : Nat} {ps : List Aq} (h : W.ownsRow B 57 2 (.slice (some ⟨g, 0, none⟩) ps.length cap) ps.length (ps.flatMap Bn)) (i : Nat) (hi : i < ps.length) : W.cell? ⟨g, i * 2, none⟩ = some (.int .i64 ps[i].1) ∧ W.cell? ⟨g, i * 2 + 1, none⟩ = some (.int .i64 ps[i].2) := by
 have hx : ∀ (l : List Aq) (i : Nat) (hi : i < l.length), (l.flatMap Bn)[i * 2]? = some (.int .i64 l[i].1) ∧ (l.flatMap Bn)[i * 2 + 1]? = some (.int .i64 l[i].2) := by
  intro l
  induction l with
  | nil => intro i hi; simp at hi
  | cons x l ih =>
   intro i hi
   cases i with
   | zero => exact ⟨rfl, rfl⟩
   | succ i =>
    have q := ih i (by simpa using hi)
    have e1 : (i + 1) * 2 = (i * 2) + 2 := by omega
    rw [List.flatMap_cons, e1]
    exact q
 have c1 := h.cells (g := g) rfl (i * 2) _ (hx ps i hi).1
 have c2 := h.cells (g := g) rfl (i * 2 + 1) _ (hx ps i hi).2
 rw [Addr.add_lit, Nat.zero_add] at c1 c2
 exact ⟨c1, c2⟩
def MT (D b bm x : Nat) (k : Nat) : Prop := (k < D ∧ k ≠ b ∧ k ≠ bm) ∨ k = x ∨ k = x + 1
theorem AI (W : World) (g : Nat) (o : Obj) : Ab W (W.putObj g o) (fun k => k = g) := ⟨rfl, rfl, rfl, by simp [World.putObj], fun k _ hk => World.putObj_heap_other (fun e => hk e)⟩
structure I0 (w : World) (D b bm kv x : Nat) (f : Value) (bud : Int) (p q s : Nat) (fl : Bool) (ve : Value) (ps : List Aq) (es : List Aa) (T : List Aq) (k : Nat) (vp vn : Value) (ps' : List Aq) (ns : List Int) (W : World) : Prop where
 eq : Af bud fl ps T [] = Af bud fl ps' (T.drop k) ns
 ss : SS D W b bm f bud vp ve vn ps' es ns.length (ns.map (Value.int .i64))
 sb : W.heap[w.heap.size]? = some (.cells #[.pointer (some ⟨b, 0, none⟩)] 94 (0, 0))
 rb : W.heap[w.heap.size + 1]? = some (.cells #[.int .i64 0] 30 (0, 0))
 fx : W.heap[x]? = some (.cells #[.int .i64 (p : Int), .int .i64 (q : Int)] 57 (0, 0))
 sx : W.heap[x + 1]? = some (.cells #[.int .i64 (s : Int)] 3 (0, 0))
 on : Ab w W (fun k => k = b ∨ k = bm ∨ (D ≤ k ∧ k ≠ kv))
 ap : ∀ k, vp.ownBlock = some k → (k < w.heap.size ∨ x + 4 ≤ k) ∧ k ≠ kv
 an : ∀ k, vn.ownBlock = some k → (k < w.heap.size ∨ x + 4 ≤ k) ∧ k ≠ kv
 ae : ∀ k, ve.ownBlock = some k → k < w.heap.size ∧ k ≠ kv
 inn : ∀ t ∈ T.take k, t ∈ ps'
 le : ns.length ≤ k
 pl : ps'.length ≤ 4096
 kl : kv < w.heap.size
section
variable {w : World} {D b bm kv x : Nat} {f : Value} {bud : Int} {p q s : Nat} {fl : Bool} {ve : Value} {ps : List Aq} {es : List Aa} {T : List Aq} {k : Nat} {vp vn : Value} {ps' : List Aq} {ns : List Int} {W W' : World} {R : Nat → Prop}
theorem I0.onlyR (h : I0 w D b bm kv x f bud p q s fl ve ps es T k vp vn ps' ns W) (hx : w.heap.size + 2 ≤ x) (hD : b < D ∧ bm < D ∧ D ≤ w.heap.size) (o : Ab W W' R) (hR : ∀ k, R k → x + 2 ≤ k ∧ k < x + 4) : I0 w D b bm kv x f bud p q s fl ve ps es T k vp vn ps' ns W' := by
 have no : ∀ y, y < x + 2 → ¬ R y := fun y hy e => by have := hR y e; omega
 refine ⟨h.eq, h.ss.onlyR o (no _ (by omega)) (no _ (by omega)) (fun k hk e => ?_) (fun k hk e => ?_) (fun k hk e => ?_), o.cellK h.sb (no _ (by omega)), o.cellK h.rb (no _ (by omega)), o.cellK h.fx (no _ (by omega)), o.cellK h.sx (no _ (by omega)), h.on.trans (o.mono (fun k _ e => .inr (.inr (by have := hR k e; have := h.kl; omega)))), h.ap, h.an, h.ae, h.inn, h.le, h.pl, h.kl⟩
 · have := hR k e; have := h.ap k hk; omega
 · have := hR k e; have := h.ae k hk; omega
 · have := hR k e; have := h.an k hk; omega
theorem I0.below (h : I0 w D b bm kv x f bud p q s fl ve ps es T k vp vn ps' ns W) (hx : w.heap.size + 2 ≤ x) (hD : b < D ∧ bm < D ∧ D ≤ w.heap.size) (d : Below W.heap.size W W') : I0 w D b bm kv x f bud p q s fl ve ps es T k vp vn ps' ns W' := h.onlyR hx hD (Ab.ofBelow (R := fun _ => False) d) (fun _ e => e.elim)
theorem I0.step {vp2 vn2 : Value} {ps2 : List Aq} {ns2 : List Int} (h : I0 w D b bm kv x f bud p q s fl ve ps es T k vp vn ps' ns W) (hx : w.heap.size + 2 ≤ x) (hD : b < D ∧ bm < D ∧ D ≤ w.heap.size) (hL : x + 4 ≤ W.heap.size) (hk : k < T.length)
 (s2 : SS D W' b bm f bud vp2 ve vn2 ps2 es ns2.length (ns2.map (Value.int .i64))) (o : Ab W W' (fun k => k = b ∨ k = bm ∨ vp.ownBlock = some k ∨ vn.ownBlock = some k)) (a1 : ∀ k, vp2.ownBlock = some k → vp.ownBlock = some k ∨ W.heap.size ≤ k) (a2 : ∀ k, vn2.ownBlock = some k → vn.ownBlock = some k ∨ W.heap.size ≤ k)
 (e2 : Af bud fl ps' (T.drop k) ns = Af bud fl ps2 (T.drop (k + 1)) ns2) (hs : ∀ t ∈ ps', t ∈ ps2) (ht : T[k] ∈ ps2) (hl : ns2.length ≤ ns.length + 1) (h4 : ps2.length ≤ 4096) :
 I0 w D b bm kv x f bud p q s fl ve ps es T (k + 1) vp2 vn2 ps2 ns2 W' ∧ Bu (MT D b bm x) W W' ∧ W'.heap[x + 2]? = W.heap[x + 2]? ∧ W'.heap[x + 2 + 1]? = W.heap[x + 2 + 1]? := by
 have no : ∀ y, w.heap.size ≤ y → y < x + 4 → ¬ (y = b ∨ y = bm ∨ vp.ownBlock = some y ∨ vn.ownBlock = some y) := by
  rintro y h1 h2 (e | e | e | e)
  · omega
  · omega
  · have := h.ap y e; omega
  · have := h.an y e; omega
 refine ⟨⟨h.eq.trans e2, s2, o.cellK h.sb (no _ (by omega) (by omega)), o.cellK h.rb (no _ (by omega) (by omega)), o.cellK h.fx (no _ (by omega) (by omega)), o.cellK h.sx (no _ (by omega) (by omega)), h.on.trans (o.mono ?_), fun k hk => ?_, fun k hk => ?_, h.ae, ?_, by have := h.le; omega, h4, h.kl⟩, Bu.ofOnly o ?_, o.block _ (by omega) (no _ (by omega) (by omega)), o.block _ (by omega) (no _ (by omega) (by omega))⟩
 · rintro k _ (e | e | e | e)
   · exact .inl e
   · exact .inr (.inl e)
   · exact .inr (.inr ⟨(h.ss.po.lt k e).1, (h.ap k e).2⟩)
   · exact .inr (.inr ⟨(h.ss.no.lt k e).1, (h.an k e).2⟩)
 · rcases a1 k hk with e | e
   · exact h.ap k e
   · have := h.kl; have := h.on.size; omega
 · rcases a2 k hk with e | e
   · exact h.an k e
   · have := h.kl; have := h.on.size; omega
 · intro t h1
   rw [List.take_succ_eq_append_getElem hk] at h1
   rcases List.mem_append.1 h1 with h1 | h1
   · exact hs t (h.inn t h1)
   · rw [List.mem_singleton.1 h1]; exact ht
 · rintro y (⟨h1, h2, h3⟩ | rfl | rfl) hr
   · rcases hr with e | e | e | e
     · exact h2 e
     · exact h3 e
     · have := (h.ss.po.lt y e).1; omega
     · have := (h.ss.no.lt y e).1; omega
   · exact no _ (by omega) (by omega) hr
   · exact no _ (by omega) (by omega) hr
end
structure Py (D b bm : Nat) (f : Value) (bud : Int) (fl : Bool) (vp ve vn : Value) (ps : List Aq) (es : List Aa) (ns : List Int) (nn : Nat) (xn : List Value) (t : Aq) (num : Int) (vp2 : Value) (ps2 : List Aq) (W W' : World) : Prop where
 ss : SS D W' b bm f bud vp2 ve vn ps2 es nn xn
 on : Ab W W' (fun k => k = b ∨ k = bm ∨ vp.ownBlock = some k)
 ap : ∀ k, vp2.ownBlock = some k → vp.ownBlock = some k ∨ W.heap.size ≤ k
 eq : ∀ ts, Af bud fl ps (t :: ts) ns = Af bud fl ps2 ts (if fl then ns else ns ++ [num])
 sub : ∀ y ∈ ps, y ∈ ps2
 mem : t ∈ ps2
 pl : ps2.length ≤ 4096
theorem Ji (w : World) (D b bm : Nat) (f : Value) (bud : Int) (fl : Bool) (vp ve vn : Value) (ps : List Aq) (es : List Aa) (ns : List Int) (nn : Nat) (xn : List Value) (t : Aq) (h : Hid (SS D w b bm f bud vp ve vn ps es nn xn)) (hok : Hid (DV t)) (hbD : Hid (b < D ∧ D ≤ w.heap.size)) (hl : ps.length ≤ 4096) :
 Calls prog 58 #[.pointer (some ⟨b, 0, none⟩), .agg #[.int .i64 t.1, .int .i64 t.2]] w fun e w' => (∃ num vp2 ps2, e = .returned (.tuple #[.int .i64 num, .int .i64 0]) ∧ Hid (Py D b bm f bud fl vp ve vn ps es ns nn xn t num vp2 ps2 w w')) ∨ ∃ er, e = .returned (.tuple #[.int .i64 0, .int .i64 er]) ∧ (er = 8 ∨ er = 9) ∧ Hid ((∀ ts, Af bud fl ps (t :: ts) ns = (er, ps, ns)) ∧ Below w.heap.size w w') := by
 by_cases hm : t ∈ ps
 · have hi := List.idxOf_lt_length_of_mem hm
   refine (K1 (ps.idxOf t) w D b bm f bud vp ve vn ps es nn xn t h hi (A0 (List.getElem_idxOf hi).symm)).mono ?_
   rintro e w' ⟨rfl, d⟩
   exact .inl ⟨_, vp, ps, rfl, A0 ⟨h.out.on d, Ab.ofBelow d, fun k hk => .inl hk, fun ts => by rw [Af, if_pos hm], fun y hy => hy, hm, hl⟩⟩
 · by_cases h1 : bud ≤ (ps.length : Int)
   · refine (FW w D b bm f bud vp ve vn ps es nn xn t h (A0 hm) hok 9 (.inl ⟨h1, rfl⟩)).mono ?_
     rintro e w' ⟨rfl, d⟩
     exact .inr ⟨9, rfl, .inr rfl, A0 ⟨fun ts => by rw [Af, if_neg hm, if_pos h1], d⟩⟩
   · by_cases h2 : 4096 ≤ ps.length
     · refine (FW w D b bm f bud vp ve vn ps es nn xn t h (A0 hm) hok 8 (.inr ⟨h1, h2, rfl⟩)).mono ?_
       rintro e w' ⟨rfl, d⟩
       exact .inr ⟨8, rfl, .inl rfl, A0 ⟨fun ts => by rw [Af, if_neg hm, if_neg h1, if_pos h2], d⟩⟩
     · refine (Ky w D b bm f bud vp ve vn ps es nn xn t h (A0 hm) hok hbD (by omega) (by omega)).mono ?_
       rintro e w' ⟨rfl, vp2, s2, o2, a2⟩
       exact .inl ⟨_, vp2, ps ++ [t], rfl, A0 ⟨s2, o2, a2, fun ts => by rw [Af, if_neg hm, if_neg h1, if_neg h2], fun y hy => by simp [hy], by simp, by simp; omega⟩⟩
structure OH (w : World) (D b bm kv x : Nat) (f : Value) (bud : Int) (fl : Bool) (ve : Value) (ps : List Aq) (es : List Aa) (T : List Aq) (er : Int) (vp vn : Value) (ps' : List Aq) (ns : List Int) (W : World) : Prop where
 eq : Af bud fl ps T [] = (er, ps', ns)
 ee : er = 8 ∨ er = 9
 ss : SS D W b bm f bud vp ve vn ps' es ns.length (ns.map (Value.int .i64))
 rb : W.heap[w.heap.size + 1]? = some (.cells #[.int .i64 er] 30 (0, 0))
 on : Ab w W (fun k => k = b ∨ k = bm ∨ (D ≤ k ∧ k ≠ kv))
 ap : ∀ k, vp.ownBlock = some k → (k < w.heap.size ∨ x + 4 ≤ k) ∧ k ≠ kv
 an : ∀ k, vn.ownBlock = some k → (k < w.heap.size ∨ x + 4 ≤ k) ∧ k ≠ kv
 ae : ∀ k, ve.ownBlock = some k → k < w.heap.size ∧ k ≠ kv
 pl : ps'.length ≤ 4096
 kl : kv < w.heap.size
theorem OH.onlyR {w : World} {D b bm kv x : Nat} {f : Value} {bud : Int} {fl : Bool} {ve : Value} {ps : List Aq} {es : List Aa} {T : List Aq} {er : Int} {vp vn : Value} {ps' : List Aq} {ns : List Int} {W W' : World} {R : Nat → Prop} (h : OH w D b bm kv x f bud fl ve ps es T er vp vn ps' ns W) (hx : w.heap.size + 2 ≤ x) (hD : b < D ∧ bm < D ∧ D ≤ w.heap.size) (o : Ab W W' R) (hR : ∀ k, R k → x + 2 ≤ k ∧ k < x + 4) : OH w D b bm kv x f bud fl ve ps es T er vp vn ps' ns W' := by
 have no : ∀ y, y < x + 2 → ¬ R y := fun y hy e => by have := hR y e; omega
 refine ⟨h.eq, h.ee, h.ss.onlyR o (no _ (by omega)) (no _ (by omega)) (fun k hk e => ?_) (fun k hk e => ?_) (fun k hk e => ?_), o.cellK h.rb (no _ (by omega)), h.on.trans (o.mono (fun k _ e => .inr (.inr (by have := hR k e; have := h.kl; omega)))), h.ap, h.an, h.ae, h.pl, h.kl⟩
 · have := hR k e; have := h.ap k hk; omega
 · have := hR k e; have := h.ae k hk; omega
 · have := hR k e; have := h.an k hk; omega
theorem Hw {D : Nat} {W W' : World} {b bm : Nat} {f : Value} {bud : Int} {vp ve vn : Value} {ps : List Aq} {es : List Aa} {nn : Nat} {xn : List Value} {y : Nat} {ds : Option (List Deferred)} (h : SS D W b bm f bud vp ve vn ps es nn xn) (o : Ab W W' (fun k => k = y)) (hq : W.heap[y]? = some (.deferred ds)) : SS D W' b bm f bud vp ve vn ps es nn xn := by
 have hr : ∀ {B sz n : Nat} {e : TypeId} {v : Value} {xs : List Value}, W.ownsRow B e sz v n xs → ∀ k, v.ownBlock = some k → ¬ k = y := by
  intro B sz n e v xs hv k hk e2
  rcases hv.2 with ⟨e3, _⟩ | ⟨g, cap, cur, e3, _, hg, _⟩
  · rw [e3] at hk; cases hk
  · rw [e3] at hk
    obtain rfl : g = k := by simpa [Value.ownBlock] using hk
    rw [e2, hq] at hg; cases hg
 refine h.onlyR o (fun e => ?_) (fun e => ?_) (hr h.po) (hr h.eo) (hr h.no)
 · have := h.bx; rw [e, hq] at this; cases this
 · obtain ⟨_, ⟨es', ck, q1, _⟩, _⟩ := h.mo
   rw [e, hq] at q1; cases q1
theorem SS.edges {D : Nat} {W : World} {b bm : Nat} {f : Value} {bud : Int} {vp ve vn : Value} {ps : List Aq} {es : List Aa} {nn : Nat} {xn : List Value} (h : SS D W b bm f bud vp ve vn ps es nn xn) (hbD : b < D) {W' : World} {v : Value} {e2 : List Aa} {x2 : List Value} (hW : Ab W W' (fun k => ve.ownBlock = some k ∨ vn.ownBlock = some k)) (hv : W'.ownsRow D 50 3 v e2.length (e2.flatMap Ae)) (hn : W'.ownsRow D 3 1 vn nn x2) :
 SS D (W'.setCell ⟨b, 4, none⟩ v) b bm f bud vp v vn ps e2 nn x2 ∧ Ab W (W'.setCell ⟨b, 4, none⟩ v) (fun k => k = b ∨ ve.ownBlock = some k ∨ vn.ownBlock = some k) := by
 obtain ⟨Dm, hm, hp⟩ := h.mo
 have hbb : b ≠ bm := by
  rintro rfl
  obtain ⟨es, ck, q1, _⟩ := hm
  rw [h.bx] at q1; cases q1
 have hnb : ¬ (ve.ownBlock = some b ∨ vn.ownBlock = some b) := by
  rintro (e | e)
  · have := (h.eo.lt b e).1; omega
  · have := (h.no.lt b e).1; omega
 have b1 := hW.cellK h.bx hnb
 have o2 := Ah W' b 4 v
 have p1 := A9 h.po hW (fun k hk hk2 => by
  rcases hk2 with hk2 | hk2
  · exact Ai h.eo h.po (by decide) hk2 hk
  · exact Ai h.no h.po (by decide) hk2 hk)
 have m1 := BZ hm hW (fun e => by
  rcases e with e | e
  · exact CT h.eo hm e
  · exact CT h.no hm e)
 refine ⟨⟨?_, A9 p1 o2 (fun k hk e => by have := (p1.lt k hk).1; omega), ⟨Dm, BZ m1 o2 (fun e => hbb e.symm), hp⟩, A9 hv o2 (fun k hk e => by have := (hv.lt k hk).1; omega), A9 hn o2 (fun k hk e => by have := (hn.lt k hk).1; omega), h.ok, h.nd⟩, ?_⟩
 · have := heap_setCell_same W' b 4 _ 71 v b1
   simpa using this
 · exact (hW.mono (fun k _ e => .inr e)).andNew o2 (fun k _ e => .inl e)
theorem LD {w : World} {D b bm kv x : Nat} {f : Value} {bud : Int} {p q s : Nat} {fl : Bool} {ve : Value} {ps : List Aq} {es : List Aa} {T : List Aq} {k : Nat} {vp vn : Value} {ps' : List Aq} {ns : List Int} {W W8 : World} {v8 : Value} {e8 : List Aa} {x8 : List Value} {D' : Nat} (h : I0 w D b bm kv x f bud p q s fl ve ps es T k vp vn ps' ns W) (hx : w.heap.size + 2 ≤ x) (hD : b < D ∧ bm < D ∧ D ≤ w.heap.size) (s8 : SS D W8 b bm f bud vp v8 vn ps' e8 ns.length x8) (o : Ab W W8 (fun k => k = b ∨ ve.ownBlock = some k ∨ vn.ownBlock = some k)) (hq : W.heap[D']? = some (.deferred (some []))) (a8 : ∀ k, v8.ownBlock = some k → ve.ownBlock = some k ∨ W.heap.size ≤ k) :
 SS D W8 b bm f bud vp v8 vn ps' e8 ns.length x8 ∧ W8.heap[w.heap.size + 1]? = some (.cells #[.int .i64 0] 30 (0, 0)) ∧ Ab w W8 (fun k => k = b ∨ k = bm ∨ (D ≤ k ∧ k ≠ kv)) ∧ W8.heap[D']? = some (.deferred (some [])) ∧ ∀ k, v8.ownBlock = some k → k ≠ kv := by
 refine ⟨s8, o.cellK h.rb ?_, h.on.trans (o.mono ?_), o.cellK hq ?_, fun k hk => ?_⟩
 · rintro (e | e | e)
   · omega
   · have := h.ae _ e; omega
   · have := h.an _ e; omega
 · rintro k _ (e | e | e)
   · exact .inl e
   · exact .inr (.inr ⟨(h.ss.eo.lt k e).1, (h.ae k e).2⟩)
   · exact .inr (.inr ⟨(h.ss.no.lt k e).1, (h.an k e).2⟩)
 · have hr : ∀ {B sz n : Nat} {e : TypeId} {v : Value} {xs : List Value}, W.ownsRow B e sz v n xs → ¬ v.ownBlock = some D' := by
    intro B sz n e v xs hv hk
    rcases hv.2 with ⟨e3, _⟩ | ⟨g, cap, cur, e3, _, hg, _⟩
    · rw [e3] at hk; cases hk
    · rw [e3] at hk
      obtain rfl : g = D' := by simpa [Value.ownBlock] using hk
      rw [hq] at hg; cases hg
   rintro (e | e | e)
   · have := h.ss.bx; rw [← e, hq] at this; cases this
   · exact hr h.ss.eo e
   · exact hr h.ss.no e
 · rcases a8 k hk with e | e
   · exact (h.ae k e).2
   · have := h.kl; have := h.on.size; omega
theorem Gd.weak {Sf Sg : Nat → Prop} {W : World} {bx B m R : Nat} {Ed : List Aa} {aE : Option Addr} {cE g : Nat} (h : Gd Sf W bx B m R Ed aE cE g) (k : ∀ i, Sf i → Sg i) : Gd Sg W bx B m R Ed aE cE g := ⟨h.hb, h.rw, k _ h.sx, k _ h.sg, fun i o e => k _ (h.se i o e)⟩
structure PA (w : World) (D b bm kv : Nat) (f : Value) (bud : Int) (ps : List Aq) (es : List Aa) (T : List Aq) (i s : Nat) (er : Int) (vp ve vn : Value) (ps' : List Aq) (ns : List Int) (nn : Nat) (xn : List Value) (W : World) : Prop where
 eq : Af bud (decide (65536 < es.length)) ps T [] = (er, ps', ns)
 ss : SS D W b bm f bud vp ve vn ps' (if er = 0 then Bm es (i : Int) (s : Int) (A5 ns) else es) nn xn
 on : Ab w W (fun k => k = b ∨ k = bm ∨ (D ≤ k ∧ k ≠ kv))
 pl : ps'.length ≤ 4096
 nl : er = 0 → ns.length ≤ 8192
 nv : (∀ k, vp.ownBlock = some k → k ≠ kv) ∧ (∀ k, ve.ownBlock = some k → k ≠ kv) ∧ ∀ k, vn.ownBlock = some k → k ≠ kv
theorem J6 (w : World) (D b bm kv b1 b2 B1 B2 m R1 R2 : Nat) (E1 E2 : List Aa) (a1 a2 : Option Addr) (c1 c2 g1 g2 i p q s : Nat) (bud : Int) (vp ve vn : Value) (ps : List Aq) (es : List Aa) (nn : Nat) (xn : List Value)
 (h : Hid (SS D w b bm (.func (.func 39) #[] #[.pointer (some ⟨b1, 0, none⟩), .pointer (some ⟨b2, 0, none⟩)]) bud vp ve vn ps es nn xn)) (hD : Hid (b < D ∧ bm < D ∧ D ≤ w.heap.size)) (hi : i < ps.length) (hpq : Hid (ps[i] = ((p : Int), (q : Int)))) (hps : ps.length ≤ 4096) (hkv : Hid (kv < w.heap.size ∧ (∀ k, vp.ownBlock = some k → k ≠ kv) ∧ (∀ k, ve.ownBlock = some k → k ≠ kv) ∧ ∀ k, vn.ownBlock = some k → k ≠ kv))
 (hR1 : Hid (Gd (fun k => k < D ∧ k ≠ b ∧ k ≠ bm) w b1 B1 m R1 E1 a1 c1 g1)) (hR2 : Hid (Gd (fun k => k < D ∧ k ≠ b ∧ k ≠ bm) w b2 B2 m R2 E2 a2 c2 g2)) (q1 : Hid (My m R1 p s E1)) (q2 : Hid (My m R2 q s E2)) (hT : Hid (∀ t ∈ (C7 (B5 (Ar E1 p (s : Int))) (B5 (Ar E2 q (s : Int))) (p : Int) (q : Int)), DV t)) (hN : Hid ((C7 (B5 (Ar E1 p (s : Int))) (B5 (Ar E2 q (s : Int))) (p : Int) (q : Int)).length ≤ 8192)) (he : es.length ≤ 4000000) :
 Calls prog 59 #[.pointer (some ⟨b, 0, none⟩), .int .i64 (i : Int), .int .i64 (s : Int)] w fun e w' => ∃ er vp' ve' vn' ps' ns nn' xn', e = .returned (.int .i64 er) ∧ Hid (PA w D b bm kv (.func (.func 39) #[] #[.pointer (some ⟨b1, 0, none⟩), .pointer (some ⟨b2, 0, none⟩)]) bud ps es (C7 (B5 (Ar E1 p (s : Int))) (B5 (Ar E2 q (s : Int))) (p : Int) (q : Int)) i s er vp' ve' vn' ps' ns nn' xn' w') := by
 obtain ⟨W0, hW0⟩ : ∃ W0, (w.alloc (.cells #[.pointer (some ⟨b, 0, none⟩)] 94)).alloc (.cells #[.int .i64 0] 30) = W0 := ⟨_, rfl⟩
 have HD : Hid (Below w.heap.size w W0 ∧ W0.heap[w.heap.size]? = some (.cells #[.pointer (some ⟨b, 0, none⟩)] 94 (0, 0)) ∧ W0.heap[w.heap.size + 1]? = some (.cells #[.int .i64 0] 30 (0, 0)) ∧ W0.heap.size = w.heap.size + 2) := A0 (by
  rw [← hW0]
  refine ⟨((Below.refl _ _).alloc (Nat.le_refl _) _).alloc (by simp) _, (Below.heap_alloc _ _ _ (by simp)).trans (World.alloc_heap_new _ _), ?_, by simp⟩
  have := World.alloc_heap_new (w.alloc (.cells #[.pointer (some ⟨b, 0, none⟩)] 94)) (.cells #[.int .i64 0] 30)
  simpa using this)
 have HS0 := A0 (h.out.on HD.out.1)
 have k0 : W0.cell? ⟨w.heap.size, 0, none⟩ = some (.pointer (some ⟨b, 0, none⟩)) := A1 HD.out.2.1 rfl
 have f5 : W0.frozen? ⟨b, 5, none⟩ = false := A4 HS0.out.bx
 refine (callsIn_wide (n := 9)).1 (callsIn_of_wp_marks func59 rfl trivial ?_ rfl)
 simp only [ntmps59, List.size_toArray, List.length_cons, List.length_nil, Nat.reduceAdd, Nat.reduceSub, Array.replicate_succ, Array.replicate_zero, List.push_toArray, List.append_toArray, List.nil_append, List.cons_append]
 refine wpIn_wide.2 ?_
 go_upto_region 1 with fail
 go_cut [3] from 10 to 17 (fun v3 W => v3 = .pointer (some ⟨w.heap.size, 0, none⟩) ∧ ∃ v, Hid (SS D W b bm (.func (.func 39) #[] #[.pointer (some ⟨b1, 0, none⟩), .pointer (some ⟨b2, 0, none⟩)]) bud vp ve v ps es 0 [] ∧ Ab W0 W (fun k => k = b) ∧ v.ownBlock = vn.ownBlock))
 case first =>
  have HR : Hid (∀ v, W0.ownsRow D 3 1 v 0 [] → v.ownBlock = vn.ownBlock → SS D ((W0.setCell ⟨b, 5, none⟩ v).drew) b bm (.func (.func 39) #[] #[.pointer (some ⟨b1, 0, none⟩), .pointer (some ⟨b2, 0, none⟩)]) bud vp ve v ps es 0 [] ∧ Ab W0 ((W0.setCell ⟨b, 5, none⟩ v).drew) (fun k => k = b)) := A0 (fun v hv _ => by
   have q := HS0.out.ends hD.out.1 (W' := W0) (v := v) (n2 := 0) (x2 := []) ⟨rfl, rfl, rfl, Nat.le_refl _, fun _ _ _ => rfl⟩ hv
   have o2 := Ah W0 b 5 v
   exact ⟨q.1.on ⟨rfl, rfl, rfl, Nat.le_refl _, fun _ _ => rfl⟩, ⟨o2.os, o2.tape, o2.output, o2.size, o2.block⟩⟩)
  rcases HS0.out.no.2 with ⟨ev, e0⟩ | ⟨gn, cn, cur, ev, r1, r2, r3, r4, r5, r6⟩
  · have k5 : W0.cell? ⟨b, 5, none⟩ = some (.slice none 0 0) := by rw [← ev]; exact A1 HS0.out.bx rfl
    have HE := A0 ev
    clear ev
    go_region
    all_goals
     go_wp2_with fail
     go_meet
     refine ⟨rfl, _, A0 ⟨(HR.out _ (World.ownsRow_nil _ _ _ _) (by rw [HE.out])).1, (HR.out _ (World.ownsRow_nil _ _ _ _) (by rw [HE.out])).2, by rw [HE.out]⟩⟩
  · have k5 : W0.cell? ⟨b, 5, none⟩ = some (.slice (some ⟨gn, 0, none⟩) nn cn) := by rw [← ev]; exact A1 HS0.out.bx rfl
    have HE := A0 ev
    have HO : Hid (W0.ownsRow D 3 1 (.slice (some ⟨gn, 0, none⟩) 0 cn) 0 []) := A0 ⟨rfl, .inr ⟨gn, cn, cur, rfl, r1, r2, Nat.zero_le _, r4, r5, by simp⟩⟩
    clear ev r1 r2 r3 r4 r5 r6
    go_region
    all_goals
     go_wp2_with fail
     go_meet
     refine ⟨rfl, _, A0 ⟨(HR.out _ HO.out (by rw [HE.out]; rfl)).1, (HR.out _ HO.out (by rw [HE.out]; rfl)).2, by rw [HE.out]; rfl⟩⟩
 case rest =>
  obtain ⟨rfl, vn1, H1⟩ := hcut
  rename World => w1
  clear k0 f5 hW0
  have HB1 : Hid (w1.heap[w.heap.size]? = some (.cells #[.pointer (some ⟨b, 0, none⟩)] 94 (0, 0)) ∧ w1.heap[w.heap.size + 1]? = some (.cells #[.int .i64 0] 30 (0, 0)) ∧ w.heap.size + 2 ≤ w1.heap.size ∧ Ab w w1 (fun k => k = b ∨ k = bm ∨ (D ≤ k ∧ k ≠ kv))) := A0 (by
   have l := hD.out
   have o := H1.out.2.1
   refine ⟨o.cellK HD.out.2.1 (by omega), o.cellK HD.out.2.2.1 (by omega), by have := o.size; have := HD.out.2.2.2; omega, (Ab.ofBelow HD.out.1).andNew o (fun k _ e => .inl e)⟩)
  obtain ⟨gp, cp, hvp⟩ : ∃ gp cp, vp = .slice (some ⟨gp, 0, none⟩) ps.length cp := by
   rcases h.out.po.2 with ⟨_, e0⟩ | ⟨g, cap, cur, e, _⟩
   · omega
   · exact ⟨g, cap, e⟩
  have HVP := A0 hvp
  have k0 : w1.cell? ⟨w.heap.size, 0, none⟩ = some (.pointer (some ⟨b, 0, none⟩)) := A1 HB1.out.1 rfl
  have k1 : w1.cell? ⟨b, 0, none⟩ = some (.func (.func 39) #[] #[.pointer (some ⟨b1, 0, none⟩), .pointer (some ⟨b2, 0, none⟩)]) := A1 H1.out.1.bx rfl
  have k2 : w1.cell? ⟨b, 3, none⟩ = some (.slice (some ⟨gp, 0, none⟩) ps.length cp) := by rw [← hvp]; exact A1 H1.out.1.bx rfl
  have HP := H1.out.1.po
  rw [hvp] at HP
  have k3 : w1.cell? ⟨gp, i * 2, none⟩ = some (.int .i64 (p : Int)) := by
   have := GO HP i hi
   rw [hpq.out] at this
   exact this.1
  have k4 : w1.cell? ⟨gp, i * 2 + 1, none⟩ = some (.int .i64 (q : Int)) := by
   have := GO HP i hi
   rw [hpq.out] at this
   exact this.2
  have i0 : (0 : Int) ≤ (i : Int) := by omega
  have i1 : (i : Int) < (ps.length : Int) := by omega
  clear HP hvp
  go_upto_region 2 with fail
  go_cut [30] from 18 to 30 (fun v30 W => v30 = .func (.func 40) #[] #[.pointer (some ⟨b1, 0, none⟩), .pointer (some ⟨w1.heap.size, 0, none⟩), .pointer (some ⟨w1.heap.size + 1, 0, none⟩), .pointer (some ⟨b2, 0, none⟩)] ∧ Hid (Below w1.heap.size w1 W ∧ W.heap[w1.heap.size]? = some (.cells #[.int .i64 (p : Int), .int .i64 (q : Int)] 57 (0, 0)) ∧ W.heap[w1.heap.size + 1]? = some (.cells #[.int .i64 (s : Int)] 3 (0, 0)) ∧ W.heap.size = w1.heap.size + 2))
  case first =>
   have HZ := A0 (Ff w1 #[.int .i64 (p : Int), .int .i64 (q : Int)] #[.int .i64 (s : Int)] 57 3)
   go_region_held3 (fun W2 => W2.cell? ⟨w.heap.size, 0, none⟩ = some (.pointer (some ⟨b, 0, none⟩)) ∧ W2.cell? ⟨b, 0, none⟩ = some (.func (.func 39) #[] #[.pointer (some ⟨b1, 0, none⟩), .pointer (some ⟨b2, 0, none⟩)]) ∧ W2.cell? ⟨b, 3, none⟩ = some (.slice (some ⟨gp, 0, none⟩) ps.length cp) ∧ W2.cell? ⟨gp, i * 2, none⟩ = some (.int .i64 (p : Int)) ∧ W2.cell? ⟨gp, i * 2 + 1, none⟩ = some (.int .i64 (q : Int)))
    (first | go_keep | assumption)
    (first | (go_at_call 39; refine (Lq (p : Int) (q : Int) (s : Int) b1 b2 _).mono ?_; rintro e w2 ⟨rfl, hw2⟩; subst hw2))
   all_goals
    go_wp2_with fail
    go_meet
    exact ⟨rfl, A0 ⟨HZ.out.1.drew, HZ.out.2.1, HZ.out.2.2.1, HZ.out.2.2.2⟩⟩
  case rest =>
   obtain ⟨rfl, H2⟩ := hcut
   rename World => w2
   obtain ⟨T, hTe⟩ : ∃ T, (C7 (B5 (Ar E1 p (s : Int))) (B5 (Ar E2 q (s : Int))) (p : Int) (q : Int)) = T := ⟨_, rfl⟩
   rw [hTe] at hT hN
   obtain ⟨x, hxe⟩ : ∃ x, w1.heap.size = x := ⟨_, rfl⟩
   have hx : w.heap.size + 2 ≤ x := by have := HB1.out.2.2.1; omega
   have HX1 := A0 (show w.heap.size + 2 ≤ w1.heap.size from HB1.out.2.2.1)
   rw [hxe] at H2
   have z2 : w2.heap.size = x + 2 := H2.out.2.2.2
   have HSQ : Hid (M7 8 40 #[.pointer (some ⟨b1, 0, none⟩), .pointer (some ⟨x, 0, none⟩), .pointer (some ⟨x + 1, 0, none⟩), .pointer (some ⟨b2, 0, none⟩)] (T.map GV) (Bu (MT D b bm x)) w2) := A0 (by
    have kk : Bu (fun k => k < D ∧ k ≠ b ∧ k ≠ bm) w w2 := (Bu.ofOnly HB1.out.2.2.2 (fun k h1 h2 => by omega)).trans (Bu.ofBelow (by rw [hxe]; exact H2.out.1))
    have := Nb 8 (MT D b bm x) w2 b1 b2 x (x + 1) B1 B2 m R1 R2 E1 E2 a1 a2 c1 c2 g1 g2 p q s (A0 ⟨(hR1.out.kp kk).weak (fun k hk => .inl hk), (hR2.out.kp kk).weak (fun k hk => .inl hk), H2.out.2.1, H2.out.2.2.1, .inr (.inl rfl), .inr (.inr rfl)⟩) q1 q2
    rw [hTe] at this
    exact this)
   have HI0 : Hid (I0 w D b bm kv x (.func (.func 39) #[] #[.pointer (some ⟨b1, 0, none⟩), .pointer (some ⟨b2, 0, none⟩)]) bud p q s (decide (65536 < es.length)) ve ps es T 0 vp vn1 ps [] w2) := A0 (by
    have d : Below w1.heap.size w1 w2 := by rw [hxe]; exact H2.out.1
    refine ⟨rfl, H1.out.1.on d, A3 HB1.out.1 d, A3 HB1.out.2.1 d, H2.out.2.1, H2.out.2.2.1, HB1.out.2.2.2.trans (Ab.ofBelow d), fun k hk => ⟨.inl (h.out.po.lt k hk).2, hkv.out.2.1 k hk⟩, fun k hk => ⟨.inl (h.out.no.lt k (by rw [← H1.out.2.2]; exact hk)).2, hkv.out.2.2.2 k (by rw [← H1.out.2.2]; exact hk)⟩, fun k hk => ⟨(h.out.eo.lt k hk).2, hkv.out.2.2.1 k hk⟩, by simp, Nat.le_refl _, hps, hkv.out.1⟩)
   have hDo := hD.out
   have HNL : Hid (∀ k ps' ns', ∀ {vp' vn' : Value} {W : World}, k ≤ T.length → I0 w D b bm kv x (.func (.func 39) #[] #[.pointer (some ⟨b1, 0, none⟩), .pointer (some ⟨b2, 0, none⟩)]) bud p q s (decide (65536 < es.length)) ve ps es T k vp' vn' ps' ns' W → ns'.length ≤ 8192) := A0 (fun k ps' ns' vp' vn' W hk H => by
    have h3 := H.le
    have h4 := hN.out
    omega)
   rw [hxe]
   have HTE := A0 hTe
   clear k0 k1 k2 k3 k4 H2 H1 HB1 HD HS0 HX1 hxe hTe
   have HZ2 := A0 z2
   clear z2
   go_wp2_with fail
   have z2 := HZ2.out
   refine (wpIn_wide (n := 9)).1 ?_
   refine DY (n := 9) (by omega) rfl (enters_of func40 (by kernel_rfl) rfl) HSQ.out Bu.trans (fun A B _ d => Bu.ofBelow d) ?kb (Below.refl _ _) (fun k W => ∃ vp' vn' ps' ns', I0 w D b bm kv x (.func (.func 39) #[] #[.pointer (some ⟨b1, 0, none⟩), .pointer (some ⟨b2, 0, none⟩)]) bud p q s (decide (65536 < es.length)) ve ps es T k vp' vn' ps' ns' W) (fun W => ∃ er vp' vn' ps' ns', OH w D b bm kv x (.func (.func 39) #[] #[.pointer (some ⟨b1, 0, none⟩), .pointer (some ⟨b2, 0, none⟩)]) bud (decide (65536 < es.length)) ve ps es T er vp' vn' ps' ns' W) ?mi ?ip ?mx ?xp ⟨_, _, _, _, HI0.out⟩ (fun v a' W => ∃ bp t, v = GV t ∧ W.heap[bp]? = some (.cells #[.int .i64 t.1, .int .i64 t.2] 57 (0, 0)) ∧ a' = { tmps := #[.pointer (some ⟨b, 0, none⟩), .int .i64 (i : Int), .int .i64 (s : Int), .pointer (some ⟨w.heap.size, 0, none⟩), undef, undef, .pointer (some ⟨w.heap.size + 1, 0, none⟩), .pointer (some ⟨bp, 0, none⟩), undef, undef, u10, u11, u12, u13, u14, u15, u16, u17, u18, u19, u20, u21, u22, u23, u24, u25, u26, u27, u28, u29, .func (.func 40) #[] #[.pointer (some ⟨b1, 0, none⟩), .pointer (some ⟨x, 0, none⟩), .pointer (some ⟨x + 1, 0, none⟩), .pointer (some ⟨b2, 0, none⟩)], .agg #[.int .i64 t.1, .int .i64 t.2], undef, undef, undef, undef, undef, undef, undef, undef, undef, undef, undef, undef, undef, undef, undef, undef, undef, undef, undef, undef, undef, undef, undef, undef, undef, undef, undef, undef, undef, undef, undef, undef, undef, undef, undef, undef], defers := [] }) ?ap ?assign ?body ?done ?stop
   case kb => exact fun W r r' hr => Bu.ofOnly (AI _ _ _) (fun k hs e => by unfold MT at hs; omega)
   case mi => rintro k A A' ⟨vp', vn', ps', ns', H⟩ d; exact ⟨_, _, _, _, H.below hx hDo d⟩
   case ip => rintro k A r r' ⟨vp', vn', ps', ns', H⟩ hr; exact ⟨_, _, _, _, H.onlyR hx hDo (AI _ _ _) (fun k e => by omega)⟩
   case mx => rintro A A' ⟨er, vp', vn', ps', ns', H⟩ d; exact ⟨_, _, _, _, _, H.onlyR hx hDo (Ab.ofBelow (R := fun _ => False) d) (fun _ e => e.elim)⟩
   case xp => rintro A r r' ⟨er, vp', vn', ps', ns', H⟩ hr; exact ⟨_, _, _, _, _, H.onlyR hx hDo (AI _ _ _) (fun k e => by omega)⟩
   case ap =>
    rintro v a' A r r' ⟨bp, t, e1, e2, e3⟩ hr
    refine ⟨bp, t, e1, ?_, e3⟩
    refine (AI _ _ _).cellK e2 (fun e => ?_)
    rw [e] at e2
    rw [e2] at hr
    cases hr
   case assign =>
    intro l v hv W K hK
    obtain ⟨t, _, rfl⟩ := List.mem_map.1 hv
    simp only [GV]
    gi_wp2
    exact hK _ _ ((Below.refl _ _).alloc (Nat.le_refl _) _) ⟨W.heap.size, t, rfl, World.alloc_heap_new _ _, rfl⟩
   case body =>
    rintro l0 k a' W hk ⟨vp', vn', ps', ns', HK0⟩ ⟨bp, t, et, hbp, rfl⟩ hd ⟨r, hr⟩
    have hkT : k < T.length := by simpa using hk
    have ett : T[k] = t := JC (by rw [List.getElem_map] at et; exact et)
    have HK := A0 HK0
    have HL := A0 (show x + 4 ≤ W.heap.size by have := (Array.getElem?_eq_some_iff.1 hr).1; omega)
    have y0 : W.cell? ⟨w.heap.size, 0, none⟩ = some (.pointer (some ⟨b, 0, none⟩)) := A1 HK0.sb rfl
    obtain ⟨y1, y2⟩ := IV hbp rfl rfl
    have HTd := A0 (show T.drop k = t :: T.drop (k + 1) by rw [List.drop_eq_getElem_cons hkT, ett])
    have HTk := A0 ett
    have TMe := Ji W D b bm (.func (.func 39) #[] #[.pointer (some ⟨b1, 0, none⟩), .pointer (some ⟨b2, 0, none⟩)]) bud (decide (65536 < es.length)) vp' ve vn' ps' es ns' ns'.length (ns'.map (Value.int .i64)) t (A0 HK0.ss) (A0 (hT.out t (by rw [← ett]; exact List.getElem_mem hkT))) (A0 ⟨hDo.1, by have := HK0.on.size; omega⟩) HK0.pl
    have NO := A0 (show ∀ y, w.heap.size ≤ y → y < x + 4 → ¬ (y = b ∨ y = bm ∨ vp'.ownBlock = some y) by
     rintro y u1 u2 (e | e | e)
     · omega
     · omega
     · have := HK0.ap y e; omega)
    clear HK0 hbp hd hr et ett hk
    have HZ3 := A0 z2
    clear z2
    gi_wp2
    refine ⟨trivial, (CallsIn.inRound l0 (callsIn_wide.2 TMe)).mono ?_⟩
    rintro e W4 (⟨num, vp2, ps2, rfl, HM⟩ | ⟨er, rfl, her, HM⟩)
    · clear TMe y0 y1 y2
      have HSB := A0 (HM.out.on.cellK HK.out.sb (NO.out _ (by omega) (by omega)))
      have y0 : W4.cell? ⟨w.heap.size, 0, none⟩ = some (.pointer (some ⟨b, 0, none⟩)) := A1 HSB.out rfl
      have TF := Cz W4 D b bm (.func (.func 39) #[] #[.pointer (some ⟨b1, 0, none⟩), .pointer (some ⟨b2, 0, none⟩)]) bud vp2 ve vn' ps2 es _ _ (A0 HM.out.ss)
      have HMo := A0 (HM.out.on.mono (R' := fun k => k = b ∨ k = bm ∨ vp'.ownBlock = some k ∨ vn'.ownBlock = some k) (fun k _ e => by
       rcases e with e | e | e
       · exact .inl e
       · exact .inr (.inl e)
       · exact .inr (.inr (.inl e))))
      by_cases hfl : 65536 < es.length
      · rw [decide_eq_true hfl] at TF
        have HFL := A0 hfl
        clear hfl
        gi_wp2
        refine ⟨trivial, (CallsIn.inRound l0 (callsIn_wide.2 TF)).mono ?_⟩
        rintro e W5 ⟨rfl, hw5⟩
        obtain rfl := hw5.symm
        clear hw5
        gi_wp2
        have st := HK.out.step hx hDo HL.out hkT HM.out.ss HMo.out HM.out.ap (fun k hk => .inl hk) (by rw [HTd.out, HM.out.eq, decide_eq_true HFL.out]; rfl) HM.out.sub (by rw [HTk.out]; exact HM.out.mem) (Nat.le_succ _) HM.out.pl
        exact ⟨⟨by rw [HZ3.out]; exact st.2.2.1, by rw [HZ3.out]; exact st.2.2.2⟩, st.2.1, _, _, _, _, st.1⟩
      · rw [decide_eq_false hfl] at TF
        have HFL := A0 hfl
        clear hfl
        gi_wp2
        refine ⟨trivial, (CallsIn.inRound l0 (callsIn_wide.2 TF)).mono ?_⟩
        rintro e W5 ⟨rfl, hw5⟩
        obtain rfl := hw5.symm
        clear hw5
        gi_wp2
        obtain ⟨i3, hi3, hz30, hz31, hz32⟩ := AA LV
        obtain ⟨an, cn, hvn⟩ := A8 HM.out.ss.no
        have HVN := A0 hvn
        have hnl : ns'.length ≤ 8192 := HNL.out k ps' ns' (Nat.le_of_lt hkT) HK.out
        have hbW : b < W4.heap.size := (Array.getElem?_eq_some_iff.1 HM.out.ss.bx).1
        have hwW : w.heap.size < W4.heap.size := (Array.getElem?_eq_some_iff.1 HSB.out).1
        have c5 : W4.cell? ⟨b, 5, none⟩ = some (.slice an ns'.length cn) := by rw [← hvn]; exact A1 HM.out.ss.bx rfl
        have HOV : Hid (W4.ownsRow D 3 1 (.slice an ns'.length cn) ns'.length (ns'.map (Value.int .i64))) := A0 (by rw [← hvn]; exact HM.out.ss.no)
        have yA : (W4.alloc (.cells #[.int .i64 num] 3)).cell? ⟨w.heap.size, 0, none⟩ = some (.pointer (some ⟨b, 0, none⟩)) := (World.cell?_of_block (a := ⟨w.heap.size, 0, none⟩) (Below.heap_alloc _ _ _ hwW)).trans y0
        have cA : (W4.alloc (.cells #[.int .i64 num] 3)).cell? ⟨b, 5, none⟩ = some (.slice an ns'.length cn) := (World.cell?_of_block (a := ⟨b, 5, none⟩) (Below.heap_alloc _ _ _ hbW)).trans c5
        have hDW : D ≤ W4.heap.size := by have := HK.out.on.size; have := HM.out.on.size; omega
        have HS6 := A0 (fun (w6 : World) (hg : (W4.alloc (.cells #[.int .i64 num] 3)).drew.grownBy w6 (Value.slice an ns'.length cn).ownBlock) => show w6.cell? ⟨w.heap.size, 0, none⟩ = some (.pointer (some ⟨b, 0, none⟩)) ∧ w6.frozen? ⟨b, 5, none⟩ = false ∧ w6.cell? ⟨b, 5, none⟩ = some (.slice an ns'.length cn) by
         rw [← hvn] at hg
         have q1 : w6.heap[b]? = some (.cells #[(.func (.func 39) #[] #[.pointer (some ⟨b1, 0, none⟩), .pointer (some ⟨b2, 0, none⟩)]), .int .i64 bud, .map (some bm), vp2, ve, vn'] 71 (0, 0)) := (hg.block b (by simp; omega) (fun e => by have := (HM.out.ss.no.lt b e.symm).1; omega)).trans ((Below.heap_alloc _ _ b hbW).trans HM.out.ss.bx)
         have q2 : w6.heap[w.heap.size]? = some (.cells #[.pointer (some ⟨b, 0, none⟩)] 94 (0, 0)) := (hg.block _ (by simp; omega) (fun e => by have := HK.out.an _ e.symm; omega)).trans ((Below.heap_alloc _ _ _ hwW).trans HSB.out)
         exact ⟨A1 q2 rfl, by simp [World.frozen?, q1], by rw [← hvn]; exact A1 q1 rfl⟩)
        have FIN := A0 (fun (gg cap2 : Nat) (w6 : World) (HF : Hid (w6.ownsRow D 3 1 (.slice (some ⟨gg, 0, none⟩) (ns'.length + 1) cap2) (ns'.length + 1) (ns'.map (Value.int .i64) ++ [Value.int .i64 num]) ∧ (W4.alloc (.cells #[.int .i64 num] 3)).drew.grownBy w6 (Value.slice an ns'.length cn).ownBlock ∧ ((Value.slice an ns'.length cn).ownBlock = some gg ∨ gg = W4.heap.size + 1))) =>
         show ((w6.setCell ⟨b, 5, none⟩ (.slice (some ⟨gg, 0, none⟩) (ns'.length + 1) cap2)).heap[w2.heap.size]? = W.heap[w2.heap.size]? ∧ (w6.setCell ⟨b, 5, none⟩ (.slice (some ⟨gg, 0, none⟩) (ns'.length + 1) cap2)).heap[w2.heap.size + 1]? = W.heap[w2.heap.size + 1]?) ∧ Bu (MT D b bm x) W (w6.setCell ⟨b, 5, none⟩ (.slice (some ⟨gg, 0, none⟩) (ns'.length + 1) cap2)) ∧ ∃ vpA vnA psA nsA, I0 w D b bm kv x (.func (.func 39) #[] #[.pointer (some ⟨b1, 0, none⟩), .pointer (some ⟨b2, 0, none⟩)]) bud p q s (decide (65536 < es.length)) ve ps es T (k + 1) vpA vnA psA nsA (w6.setCell ⟨b, 5, none⟩ (.slice (some ⟨gg, 0, none⟩) (ns'.length + 1) cap2)) by
         obtain ⟨ho, hg, hat⟩ := HF.out
         rw [← HVN.out] at hg hat
         have d : Below W4.heap.size W4 (W4.alloc (.cells #[.int .i64 num] 3)).drew := ((Below.refl _ _).alloc (Nat.le_refl _) _).drew
         obtain ⟨s7, o7⟩ := (HM.out.ss.on d).ends hDo.1 (W' := w6) (AL hg) ho
         have e2 : ns'.map (Value.int .i64) ++ [Value.int .i64 num] = (ns' ++ [num]).map (Value.int .i64) := by simp
         have e5 : ns'.length + 1 = (ns' ++ [num]).length := by simp
         have s8 : SS D (w6.setCell ⟨b, 5, none⟩ (.slice (some ⟨gg, 0, none⟩) (ns'.length + 1) cap2)) b bm (.func (.func 39) #[] #[.pointer (some ⟨b1, 0, none⟩), .pointer (some ⟨b2, 0, none⟩)]) bud vp2 ve (.slice (some ⟨gg, 0, none⟩) (ns'.length + 1) cap2) ps2 es (ns' ++ [num]).length ((ns' ++ [num]).map (Value.int .i64)) := by rw [← e2, ← e5]; exact s7
         have st := HK.out.step (ns2 := ns' ++ [num]) hx hDo HL.out hkT s8 ((HMo.out.trans (Ab.ofBelow d)).andNew o7 (fun y _ e => by
          rcases e with e | e
          · exact .inl e
          · exact .inr (.inr (.inr e)))) HM.out.ap (fun y hy => by
          have e3 : gg = y := by simpa [Value.ownBlock] using hy
          subst e3
          rcases hat with e | e
          · exact .inl e
          · right; have := HM.out.on.size; omega) (by rw [HTd.out, HM.out.eq, decide_eq_false HFL.out]; rfl) HM.out.sub (by rw [HTk.out]; exact HM.out.mem) (by simp) HM.out.pl
         exact ⟨⟨by rw [HZ3.out]; exact st.2.2.1, by rw [HZ3.out]; exact st.2.2.2⟩, st.2.1, _, _, _, _, st.1⟩)
        clear hvn
        refine Ci (by kernel_rfl) (FH (by kernel_rfl)) ?_
        refine wpAny_take (i := 5) (v := .int .i64 num) rfl (by kernel_rfl) (by kernel_rfl) (by kernel_rfl) (fun _ _ _ h => h) (Or.inl ⟨by rfl, fun _ => by go_simp⟩) ?_
        refine wpAny_ready (rs := [0, 1, 6]) (by kernel_rfl) (by simp) ?_
        refine AllReady.cons rfl (fun K hK => ?_) ?_
        · go_simp
          refine hK _ _ ?_
          clear hK K
          refine wpAny_ready (rs := [1, 6]) (by kernel_rfl) (by simp) ?_
          refine AllReady.cons rfl (fun K hK => ?_) ?_
          · go_simp
            refine hK _ _ ?_
            clear hK K
            refine wpAny_take (i := 2) (v := .pointer (some ⟨b, 0, none⟩)) rfl (by kernel_rfl) (by kernel_rfl) (by kernel_rfl) (fun _ _ _ h => h) (Or.inl ⟨by rfl, fun _ => by go_simp⟩) ?_
            refine wpAny_take (i := 3) (v := .pointer (some ⟨b, 5, none⟩)) rfl (by kernel_rfl) (by kernel_rfl) (by kernel_rfl) (fun _ _ _ h => h) (Or.inl ⟨by rfl, fun _ => by go_simp⟩) ?_
            refine wpAny_ready (rs := [4, 6]) (by kernel_rfl) (by simp) ?_
            refine AllReady.cons rfl (fun K hK => ?_) ?_
            · go_simp
              refine hK _ _ ?_
              clear hK K
              refine wpAny_ready (rs := [6]) (by kernel_rfl) (by simp) ?_
              refine AllReady.cons rfl (fun K hK => ?_) ?_
              · go_simp
                refine hK _ _ ?_
                clear hK K
                refine wpAny_ready (rs := [7]) (by kernel_rfl) (by simp) ?_
                refine AllReady.cons rfl (fun K hK => ?_) ?_
                · (refine step_append_lies _ (by rfl) _ _ _ (by rfl) D 3 i3 _ 1 8 underlying22 hi3 hz30 hz31 hz32 rfl (by omega) (.slice an ns'.length cn) ns'.length (ns'.map (Value.int .i64)) (by rfl) (by exact HOV.out.alloc _) ⟨W4.heap.size, 0, none⟩ 1 1 ([Value.int .i64 num]) (by rfl) (by rfl) (by exact AH W4 num) (by intro u hu; rw [List.mem_singleton.1 hu]; rfl) (by omega) (by unfold maxLen; omega) (by omega) (by simp; omega) (W4.heap.size + 1) (by simp) ?_; intro gg cap2 w6 hown6 hgr6 hat hlt; have S6 := (HS6.out w6 hgr6).1; have F6 := (HS6.out w6 hgr6).2.1; have C6 := (HS6.out w6 hgr6).2.2; have HF := A0 (And.intro hown6 (And.intro hgr6 hat)); clear hown6 hgr6 hat)
                  try go_simp
                  refine hK _ _ ?_
                  clear hK K
                  refine wpAny_take (i := 8) (v := .pointer (some ⟨b, 0, none⟩)) rfl (by kernel_rfl) (by kernel_rfl) (by kernel_rfl) (fun _ _ _ h => h) (Or.inl ⟨by rfl, fun _ => by go_simp⟩) ?_
                  refine wpAny_take (i := 9) (v := .pointer (some ⟨b, 5, none⟩)) rfl (by kernel_rfl) (by kernel_rfl) (by kernel_rfl) (fun _ _ _ h => h) (Or.inl ⟨by rfl, fun _ => by go_simp⟩) ?_
                  refine wpAny_ready (rs := [10]) (by kernel_rfl) (by simp) ?_
                  refine AllReady.cons rfl (fun K hK => ?_) ?_
                  · go_simp
                    refine hK _ _ ?_
                    clear hK K
                    refine wpAny_done (by kernel_rfl) ?_ _
                    exact FIN.out _ _ _ HF
                  exact AllReady.nil
                exact AllReady.nil
              exact AllReady.nil
            refine AllReady.cons rfl (fun K hK => ?_) ?_
            · go_simp
              refine hK _ _ ?_
              clear hK K
              refine wpAny_ready (rs := [4]) (by kernel_rfl) (by simp) ?_
              refine AllReady.cons rfl (fun K hK => ?_) ?_
              · go_simp
                refine hK _ _ ?_
                clear hK K
                refine wpAny_ready (rs := [7]) (by kernel_rfl) (by simp) ?_
                refine AllReady.cons rfl (fun K hK => ?_) ?_
                · (refine step_append_lies _ (by rfl) _ _ _ (by rfl) D 3 i3 _ 1 8 underlying22 hi3 hz30 hz31 hz32 rfl (by omega) (.slice an ns'.length cn) ns'.length (ns'.map (Value.int .i64)) (by rfl) (by exact HOV.out.alloc _) ⟨W4.heap.size, 0, none⟩ 1 1 ([Value.int .i64 num]) (by rfl) (by rfl) (by exact AH W4 num) (by intro u hu; rw [List.mem_singleton.1 hu]; rfl) (by omega) (by unfold maxLen; omega) (by omega) (by simp; omega) (W4.heap.size + 1) (by simp) ?_; intro gg cap2 w6 hown6 hgr6 hat hlt; have S6 := (HS6.out w6 hgr6).1; have F6 := (HS6.out w6 hgr6).2.1; have C6 := (HS6.out w6 hgr6).2.2; have HF := A0 (And.intro hown6 (And.intro hgr6 hat)); clear hown6 hgr6 hat)
                  try go_simp
                  refine hK _ _ ?_
                  clear hK K
                  refine wpAny_take (i := 8) (v := .pointer (some ⟨b, 0, none⟩)) rfl (by kernel_rfl) (by kernel_rfl) (by kernel_rfl) (fun _ _ _ h => h) (Or.inl ⟨by rfl, fun _ => by go_simp⟩) ?_
                  refine wpAny_take (i := 9) (v := .pointer (some ⟨b, 5, none⟩)) rfl (by kernel_rfl) (by kernel_rfl) (by kernel_rfl) (fun _ _ _ h => h) (Or.inl ⟨by rfl, fun _ => by go_simp⟩) ?_
                  refine wpAny_ready (rs := [10]) (by kernel_rfl) (by simp) ?_
                  refine AllReady.cons rfl (fun K hK => ?_) ?_
                  · go_simp
                    refine hK _ _ ?_
                    clear hK K
                    refine wpAny_done (by kernel_rfl) ?_ _
                    exact FIN.out _ _ _ HF
                  exact AllReady.nil
                exact AllReady.nil
              exact AllReady.nil
            exact AllReady.nil
          refine AllReady.cons rfl (fun K hK => ?_) ?_
          · go_simp
            refine hK _ _ ?_
            clear hK K
            refine wpAny_ready (rs := [1]) (by kernel_rfl) (by simp) ?_
            refine AllReady.cons rfl (fun K hK => ?_) ?_
            · go_simp
              refine hK _ _ ?_
              clear hK K
              refine wpAny_take (i := 2) (v := .pointer (some ⟨b, 0, none⟩)) rfl (by kernel_rfl) (by kernel_rfl) (by kernel_rfl) (fun _ _ _ h => h) (Or.inl ⟨by rfl, fun _ => by go_simp⟩) ?_
              refine wpAny_take (i := 3) (v := .pointer (some ⟨b, 5, none⟩)) rfl (by kernel_rfl) (by kernel_rfl) (by kernel_rfl) (fun _ _ _ h => h) (Or.inl ⟨by rfl, fun _ => by go_simp⟩) ?_
              refine wpAny_ready (rs := [4]) (by kernel_rfl) (by simp) ?_
              refine AllReady.cons rfl (fun K hK => ?_) ?_
              · go_simp
                refine hK _ _ ?_
                clear hK K
                refine wpAny_ready (rs := [7]) (by kernel_rfl) (by simp) ?_
                refine AllReady.cons rfl (fun K hK => ?_) ?_
                · (refine step_append_lies _ (by rfl) _ _ _ (by rfl) D 3 i3 _ 1 8 underlying22 hi3 hz30 hz31 hz32 rfl (by omega) (.slice an ns'.length cn) ns'.length (ns'.map (Value.int .i64)) (by rfl) (by exact HOV.out.alloc _) ⟨W4.heap.size, 0, none⟩ 1 1 ([Value.int .i64 num]) (by rfl) (by rfl) (by exact AH W4 num) (by intro u hu; rw [List.mem_singleton.1 hu]; rfl) (by omega) (by unfold maxLen; omega) (by omega) (by simp; omega) (W4.heap.size + 1) (by simp) ?_; intro gg cap2 w6 hown6 hgr6 hat hlt; have S6 := (HS6.out w6 hgr6).1; have F6 := (HS6.out w6 hgr6).2.1; have C6 := (HS6.out w6 hgr6).2.2; have HF := A0 (And.intro hown6 (And.intro hgr6 hat)); clear hown6 hgr6 hat)
                  try go_simp
                  refine hK _ _ ?_
                  clear hK K
                  refine wpAny_take (i := 8) (v := .pointer (some ⟨b, 0, none⟩)) rfl (by kernel_rfl) (by kernel_rfl) (by kernel_rfl) (fun _ _ _ h => h) (Or.inl ⟨by rfl, fun _ => by go_simp⟩) ?_
                  refine wpAny_take (i := 9) (v := .pointer (some ⟨b, 5, none⟩)) rfl (by kernel_rfl) (by kernel_rfl) (by kernel_rfl) (fun _ _ _ h => h) (Or.inl ⟨by rfl, fun _ => by go_simp⟩) ?_
                  refine wpAny_ready (rs := [10]) (by kernel_rfl) (by simp) ?_
                  refine AllReady.cons rfl (fun K hK => ?_) ?_
                  · go_simp
                    refine hK _ _ ?_
                    clear hK K
                    refine wpAny_done (by kernel_rfl) ?_ _
                    exact FIN.out _ _ _ HF
                  exact AllReady.nil
                exact AllReady.nil
              exact AllReady.nil
            exact AllReady.nil
          exact AllReady.nil
        refine AllReady.cons rfl (fun K hK => ?_) ?_
        · go_simp
          refine hK _ _ ?_
          clear hK K
          refine wpAny_take (i := 2) (v := .pointer (some ⟨b, 0, none⟩)) rfl (by kernel_rfl) (by kernel_rfl) (by kernel_rfl) (fun _ _ _ h => h) (Or.inl ⟨by rfl, fun _ => by go_simp⟩) ?_
          refine wpAny_take (i := 3) (v := .pointer (some ⟨b, 5, none⟩)) rfl (by kernel_rfl) (by kernel_rfl) (by kernel_rfl) (fun _ _ _ h => h) (Or.inl ⟨by rfl, fun _ => by go_simp⟩) ?_
          refine wpAny_ready (rs := [0, 4, 6]) (by kernel_rfl) (by simp) ?_
          refine AllReady.cons rfl (fun K hK => ?_) ?_
          · go_simp
            refine hK _ _ ?_
            clear hK K
            refine wpAny_ready (rs := [4, 6]) (by kernel_rfl) (by simp) ?_
            refine AllReady.cons rfl (fun K hK => ?_) ?_
            · go_simp
              refine hK _ _ ?_
              clear hK K
              refine wpAny_ready (rs := [6]) (by kernel_rfl) (by simp) ?_
              refine AllReady.cons rfl (fun K hK => ?_) ?_
              · go_simp
                refine hK _ _ ?_
                clear hK K
                refine wpAny_ready (rs := [7]) (by kernel_rfl) (by simp) ?_
                refine AllReady.cons rfl (fun K hK => ?_) ?_
                · (refine step_append_lies _ (by rfl) _ _ _ (by rfl) D 3 i3 _ 1 8 underlying22 hi3 hz30 hz31 hz32 rfl (by omega) (.slice an ns'.length cn) ns'.length (ns'.map (Value.int .i64)) (by rfl) (by exact HOV.out.alloc _) ⟨W4.heap.size, 0, none⟩ 1 1 ([Value.int .i64 num]) (by rfl) (by rfl) (by exact AH W4 num) (by intro u hu; rw [List.mem_singleton.1 hu]; rfl) (by omega) (by unfold maxLen; omega) (by omega) (by simp; omega) (W4.heap.size + 1) (by simp) ?_; intro gg cap2 w6 hown6 hgr6 hat hlt; have S6 := (HS6.out w6 hgr6).1; have F6 := (HS6.out w6 hgr6).2.1; have C6 := (HS6.out w6 hgr6).2.2; have HF := A0 (And.intro hown6 (And.intro hgr6 hat)); clear hown6 hgr6 hat)
                  try go_simp
                  refine hK _ _ ?_
                  clear hK K
                  refine wpAny_take (i := 8) (v := .pointer (some ⟨b, 0, none⟩)) rfl (by kernel_rfl) (by kernel_rfl) (by kernel_rfl) (fun _ _ _ h => h) (Or.inl ⟨by rfl, fun _ => by go_simp⟩) ?_
                  refine wpAny_take (i := 9) (v := .pointer (some ⟨b, 5, none⟩)) rfl (by kernel_rfl) (by kernel_rfl) (by kernel_rfl) (fun _ _ _ h => h) (Or.inl ⟨by rfl, fun _ => by go_simp⟩) ?_
                  refine wpAny_ready (rs := [10]) (by kernel_rfl) (by simp) ?_
                  refine AllReady.cons rfl (fun K hK => ?_) ?_
                  · go_simp
                    refine hK _ _ ?_
                    clear hK K
                    refine wpAny_done (by kernel_rfl) ?_ _
                    exact FIN.out _ _ _ HF
                  exact AllReady.nil
                exact AllReady.nil
              exact AllReady.nil
            refine AllReady.cons rfl (fun K hK => ?_) ?_
            · go_simp
              refine hK _ _ ?_
              clear hK K
              refine wpAny_ready (rs := [4]) (by kernel_rfl) (by simp) ?_
              refine AllReady.cons rfl (fun K hK => ?_) ?_
              · go_simp
                refine hK _ _ ?_
                clear hK K
                refine wpAny_ready (rs := [7]) (by kernel_rfl) (by simp) ?_
                refine AllReady.cons rfl (fun K hK => ?_) ?_
                · (refine step_append_lies _ (by rfl) _ _ _ (by rfl) D 3 i3 _ 1 8 underlying22 hi3 hz30 hz31 hz32 rfl (by omega) (.slice an ns'.length cn) ns'.length (ns'.map (Value.int .i64)) (by rfl) (by exact HOV.out.alloc _) ⟨W4.heap.size, 0, none⟩ 1 1 ([Value.int .i64 num]) (by rfl) (by rfl) (by exact AH W4 num) (by intro u hu; rw [List.mem_singleton.1 hu]; rfl) (by omega) (by unfold maxLen; omega) (by omega) (by simp; omega) (W4.heap.size + 1) (by simp) ?_; intro gg cap2 w6 hown6 hgr6 hat hlt; have S6 := (HS6.out w6 hgr6).1; have F6 := (HS6.out w6 hgr6).2.1; have C6 := (HS6.out w6 hgr6).2.2; have HF := A0 (And.intro hown6 (And.intro hgr6 hat)); clear hown6 hgr6 hat)
                  try go_simp
                  refine hK _ _ ?_
                  clear hK K
                  refine wpAny_take (i := 8) (v := .pointer (some ⟨b, 0, none⟩)) rfl (by kernel_rfl) (by kernel_rfl) (by kernel_rfl) (fun _ _ _ h => h) (Or.inl ⟨by rfl, fun _ => by go_simp⟩) ?_
                  refine wpAny_take (i := 9) (v := .pointer (some ⟨b, 5, none⟩)) rfl (by kernel_rfl) (by kernel_rfl) (by kernel_rfl) (fun _ _ _ h => h) (Or.inl ⟨by rfl, fun _ => by go_simp⟩) ?_
                  refine wpAny_ready (rs := [10]) (by kernel_rfl) (by simp) ?_
                  refine AllReady.cons rfl (fun K hK => ?_) ?_
                  · go_simp
                    refine hK _ _ ?_
                    clear hK K
                    refine wpAny_done (by kernel_rfl) ?_ _
                    exact FIN.out _ _ _ HF
                  exact AllReady.nil
                exact AllReady.nil
              exact AllReady.nil
            exact AllReady.nil
          refine AllReady.cons rfl (fun K hK => ?_) ?_
          · go_simp
            refine hK _ _ ?_
            clear hK K
            refine wpAny_ready (rs := [0, 6]) (by kernel_rfl) (by simp) ?_
            refine AllReady.cons rfl (fun K hK => ?_) ?_
            · go_simp
              refine hK _ _ ?_
              clear hK K
              refine wpAny_ready (rs := [6]) (by kernel_rfl) (by simp) ?_
              refine AllReady.cons rfl (fun K hK => ?_) ?_
              · go_simp
                refine hK _ _ ?_
                clear hK K
                refine wpAny_ready (rs := [7]) (by kernel_rfl) (by simp) ?_
                refine AllReady.cons rfl (fun K hK => ?_) ?_
                · (refine step_append_lies _ (by rfl) _ _ _ (by rfl) D 3 i3 _ 1 8 underlying22 hi3 hz30 hz31 hz32 rfl (by omega) (.slice an ns'.length cn) ns'.length (ns'.map (Value.int .i64)) (by rfl) (by exact HOV.out.alloc _) ⟨W4.heap.size, 0, none⟩ 1 1 ([Value.int .i64 num]) (by rfl) (by rfl) (by exact AH W4 num) (by intro u hu; rw [List.mem_singleton.1 hu]; rfl) (by omega) (by unfold maxLen; omega) (by omega) (by simp; omega) (W4.heap.size + 1) (by simp) ?_; intro gg cap2 w6 hown6 hgr6 hat hlt; have S6 := (HS6.out w6 hgr6).1; have F6 := (HS6.out w6 hgr6).2.1; have C6 := (HS6.out w6 hgr6).2.2; have HF := A0 (And.intro hown6 (And.intro hgr6 hat)); clear hown6 hgr6 hat)
                  try go_simp
                  refine hK _ _ ?_
                  clear hK K
                  refine wpAny_take (i := 8) (v := .pointer (some ⟨b, 0, none⟩)) rfl (by kernel_rfl) (by kernel_rfl) (by kernel_rfl) (fun _ _ _ h => h) (Or.inl ⟨by rfl, fun _ => by go_simp⟩) ?_
                  refine wpAny_take (i := 9) (v := .pointer (some ⟨b, 5, none⟩)) rfl (by kernel_rfl) (by kernel_rfl) (by kernel_rfl) (fun _ _ _ h => h) (Or.inl ⟨by rfl, fun _ => by go_simp⟩) ?_
                  refine wpAny_ready (rs := [10]) (by kernel_rfl) (by simp) ?_
                  refine AllReady.cons rfl (fun K hK => ?_) ?_
                  · go_simp
                    refine hK _ _ ?_
                    clear hK K
                    refine wpAny_done (by kernel_rfl) ?_ _
                    exact FIN.out _ _ _ HF
                  exact AllReady.nil
                exact AllReady.nil
              exact AllReady.nil
            refine AllReady.cons rfl (fun K hK => ?_) ?_
            · go_simp
              refine hK _ _ ?_
              clear hK K
              refine wpAny_ready (rs := [0, 7]) (by kernel_rfl) (by simp) ?_
              refine AllReady.cons rfl (fun K hK => ?_) ?_
              · go_simp
                refine hK _ _ ?_
                clear hK K
                refine wpAny_ready (rs := [7]) (by kernel_rfl) (by simp) ?_
                refine AllReady.cons rfl (fun K hK => ?_) ?_
                · (refine step_append_lies _ (by rfl) _ _ _ (by rfl) D 3 i3 _ 1 8 underlying22 hi3 hz30 hz31 hz32 rfl (by omega) (.slice an ns'.length cn) ns'.length (ns'.map (Value.int .i64)) (by rfl) (by exact HOV.out.alloc _) ⟨W4.heap.size, 0, none⟩ 1 1 ([Value.int .i64 num]) (by rfl) (by rfl) (by exact AH W4 num) (by intro u hu; rw [List.mem_singleton.1 hu]; rfl) (by omega) (by unfold maxLen; omega) (by omega) (by simp; omega) (W4.heap.size + 1) (by simp) ?_; intro gg cap2 w6 hown6 hgr6 hat hlt; have S6 := (HS6.out w6 hgr6).1; have F6 := (HS6.out w6 hgr6).2.1; have C6 := (HS6.out w6 hgr6).2.2; have HF := A0 (And.intro hown6 (And.intro hgr6 hat)); clear hown6 hgr6 hat)
                  try go_simp
                  refine hK _ _ ?_
                  clear hK K
                  refine wpAny_take (i := 8) (v := .pointer (some ⟨b, 0, none⟩)) rfl (by kernel_rfl) (by kernel_rfl) (by kernel_rfl) (fun _ _ _ h => h) (Or.inl ⟨by rfl, fun _ => by go_simp⟩) ?_
                  refine wpAny_take (i := 9) (v := .pointer (some ⟨b, 5, none⟩)) rfl (by kernel_rfl) (by kernel_rfl) (by kernel_rfl) (fun _ _ _ h => h) (Or.inl ⟨by rfl, fun _ => by go_simp⟩) ?_
                  refine wpAny_ready (rs := [10]) (by kernel_rfl) (by simp) ?_
                  refine AllReady.cons rfl (fun K hK => ?_) ?_
                  · go_simp
                    refine hK _ _ ?_
                    clear hK K
                    refine wpAny_done (by kernel_rfl) ?_ _
                    exact FIN.out _ _ _ HF
                  exact AllReady.nil
                exact AllReady.nil
              refine AllReady.cons rfl (fun K hK => ?_) ?_
              · (refine step_append_lies _ (by rfl) _ _ _ (by rfl) D 3 i3 _ 1 8 underlying22 hi3 hz30 hz31 hz32 rfl (by omega) (.slice an ns'.length cn) ns'.length (ns'.map (Value.int .i64)) (by rfl) (by exact HOV.out.alloc _) ⟨W4.heap.size, 0, none⟩ 1 1 ([Value.int .i64 num]) (by rfl) (by rfl) (by exact AH W4 num) (by intro u hu; rw [List.mem_singleton.1 hu]; rfl) (by omega) (by unfold maxLen; omega) (by omega) (by simp; omega) (W4.heap.size + 1) (by simp) ?_; intro gg cap2 w6 hown6 hgr6 hat hlt; have S6 := (HS6.out w6 hgr6).1; have F6 := (HS6.out w6 hgr6).2.1; have C6 := (HS6.out w6 hgr6).2.2; have HF := A0 (And.intro hown6 (And.intro hgr6 hat)); clear hown6 hgr6 hat)
                try go_simp
                refine hK _ _ ?_
                clear hK K
                refine wpAny_ready (rs := [0]) (by kernel_rfl) (by simp) ?_
                refine AllReady.cons rfl (fun K hK => ?_) ?_
                · go_simp
                  refine hK _ _ ?_
                  clear hK K
                  refine wpAny_take (i := 8) (v := .pointer (some ⟨b, 0, none⟩)) rfl (by kernel_rfl) (by kernel_rfl) (by kernel_rfl) (fun _ _ _ h => h) (Or.inl ⟨by rfl, fun _ => by go_simp⟩) ?_
                  refine wpAny_take (i := 9) (v := .pointer (some ⟨b, 5, none⟩)) rfl (by kernel_rfl) (by kernel_rfl) (by kernel_rfl) (fun _ _ _ h => h) (Or.inl ⟨by rfl, fun _ => by go_simp⟩) ?_
                  refine wpAny_ready (rs := [10]) (by kernel_rfl) (by simp) ?_
                  refine AllReady.cons rfl (fun K hK => ?_) ?_
                  · go_simp
                    refine hK _ _ ?_
                    clear hK K
                    refine wpAny_done (by kernel_rfl) ?_ _
                    exact FIN.out _ _ _ HF
                  exact AllReady.nil
                exact AllReady.nil
              exact AllReady.nil
            exact AllReady.nil
          refine AllReady.cons rfl (fun K hK => ?_) ?_
          · go_simp
            refine hK _ _ ?_
            clear hK K
            refine wpAny_ready (rs := [0, 4]) (by kernel_rfl) (by simp) ?_
            refine AllReady.cons rfl (fun K hK => ?_) ?_
            · go_simp
              refine hK _ _ ?_
              clear hK K
              refine wpAny_ready (rs := [4]) (by kernel_rfl) (by simp) ?_
              refine AllReady.cons rfl (fun K hK => ?_) ?_
              · go_simp
                refine hK _ _ ?_
                clear hK K
                refine wpAny_ready (rs := [7]) (by kernel_rfl) (by simp) ?_
                refine AllReady.cons rfl (fun K hK => ?_) ?_
                · (refine step_append_lies _ (by rfl) _ _ _ (by rfl) D 3 i3 _ 1 8 underlying22 hi3 hz30 hz31 hz32 rfl (by omega) (.slice an ns'.length cn) ns'.length (ns'.map (Value.int .i64)) (by rfl) (by exact HOV.out.alloc _) ⟨W4.heap.size, 0, none⟩ 1 1 ([Value.int .i64 num]) (by rfl) (by rfl) (by exact AH W4 num) (by intro u hu; rw [List.mem_singleton.1 hu]; rfl) (by omega) (by unfold maxLen; omega) (by omega) (by simp; omega) (W4.heap.size + 1) (by simp) ?_; intro gg cap2 w6 hown6 hgr6 hat hlt; have S6 := (HS6.out w6 hgr6).1; have F6 := (HS6.out w6 hgr6).2.1; have C6 := (HS6.out w6 hgr6).2.2; have HF := A0 (And.intro hown6 (And.intro hgr6 hat)); clear hown6 hgr6 hat)
                  try go_simp
                  refine hK _ _ ?_
                  clear hK K
                  refine wpAny_take (i := 8) (v := .pointer (some ⟨b, 0, none⟩)) rfl (by kernel_rfl) (by kernel_rfl) (by kernel_rfl) (fun _ _ _ h => h) (Or.inl ⟨by rfl, fun _ => by go_simp⟩) ?_
                  refine wpAny_take (i := 9) (v := .pointer (some ⟨b, 5, none⟩)) rfl (by kernel_rfl) (by kernel_rfl) (by kernel_rfl) (fun _ _ _ h => h) (Or.inl ⟨by rfl, fun _ => by go_simp⟩) ?_
                  refine wpAny_ready (rs := [10]) (by kernel_rfl) (by simp) ?_
                  refine AllReady.cons rfl (fun K hK => ?_) ?_
                  · go_simp
                    refine hK _ _ ?_
                    clear hK K
                    refine wpAny_done (by kernel_rfl) ?_ _
                    exact FIN.out _ _ _ HF
                  exact AllReady.nil
                exact AllReady.nil
              exact AllReady.nil
            refine AllReady.cons rfl (fun K hK => ?_) ?_
            · go_simp
              refine hK _ _ ?_
              clear hK K
              refine wpAny_ready (rs := [0, 7]) (by kernel_rfl) (by simp) ?_
              refine AllReady.cons rfl (fun K hK => ?_) ?_
              · go_simp
                refine hK _ _ ?_
                clear hK K
                refine wpAny_ready (rs := [7]) (by kernel_rfl) (by simp) ?_
                refine AllReady.cons rfl (fun K hK => ?_) ?_
                · (refine step_append_lies _ (by rfl) _ _ _ (by rfl) D 3 i3 _ 1 8 underlying22 hi3 hz30 hz31 hz32 rfl (by omega) (.slice an ns'.length cn) ns'.length (ns'.map (Value.int .i64)) (by rfl) (by exact HOV.out.alloc _) ⟨W4.heap.size, 0, none⟩ 1 1 ([Value.int .i64 num]) (by rfl) (by rfl) (by exact AH W4 num) (by intro u hu; rw [List.mem_singleton.1 hu]; rfl) (by omega) (by unfold maxLen; omega) (by omega) (by simp; omega) (W4.heap.size + 1) (by simp) ?_; intro gg cap2 w6 hown6 hgr6 hat hlt; have S6 := (HS6.out w6 hgr6).1; have F6 := (HS6.out w6 hgr6).2.1; have C6 := (HS6.out w6 hgr6).2.2; have HF := A0 (And.intro hown6 (And.intro hgr6 hat)); clear hown6 hgr6 hat)
                  try go_simp
                  refine hK _ _ ?_
                  clear hK K
                  refine wpAny_take (i := 8) (v := .pointer (some ⟨b, 0, none⟩)) rfl (by kernel_rfl) (by kernel_rfl) (by kernel_rfl) (fun _ _ _ h => h) (Or.inl ⟨by rfl, fun _ => by go_simp⟩) ?_
                  refine wpAny_take (i := 9) (v := .pointer (some ⟨b, 5, none⟩)) rfl (by kernel_rfl) (by kernel_rfl) (by kernel_rfl) (fun _ _ _ h => h) (Or.inl ⟨by rfl, fun _ => by go_simp⟩) ?_
                  refine wpAny_ready (rs := [10]) (by kernel_rfl) (by simp) ?_
                  refine AllReady.cons rfl (fun K hK => ?_) ?_
                  · go_simp
                    refine hK _ _ ?_
                    clear hK K
                    refine wpAny_done (by kernel_rfl) ?_ _
                    exact FIN.out _ _ _ HF
                  exact AllReady.nil
                exact AllReady.nil
              refine AllReady.cons rfl (fun K hK => ?_) ?_
              · (refine step_append_lies _ (by rfl) _ _ _ (by rfl) D 3 i3 _ 1 8 underlying22 hi3 hz30 hz31 hz32 rfl (by omega) (.slice an ns'.length cn) ns'.length (ns'.map (Value.int .i64)) (by rfl) (by exact HOV.out.alloc _) ⟨W4.heap.size, 0, none⟩ 1 1 ([Value.int .i64 num]) (by rfl) (by rfl) (by exact AH W4 num) (by intro u hu; rw [List.mem_singleton.1 hu]; rfl) (by omega) (by unfold maxLen; omega) (by omega) (by simp; omega) (W4.heap.size + 1) (by simp) ?_; intro gg cap2 w6 hown6 hgr6 hat hlt; have S6 := (HS6.out w6 hgr6).1; have F6 := (HS6.out w6 hgr6).2.1; have C6 := (HS6.out w6 hgr6).2.2; have HF := A0 (And.intro hown6 (And.intro hgr6 hat)); clear hown6 hgr6 hat)
                try go_simp
                refine hK _ _ ?_
                clear hK K
                refine wpAny_ready (rs := [0]) (by kernel_rfl) (by simp) ?_
                refine AllReady.cons rfl (fun K hK => ?_) ?_
                · go_simp
                  refine hK _ _ ?_
                  clear hK K
                  refine wpAny_take (i := 8) (v := .pointer (some ⟨b, 0, none⟩)) rfl (by kernel_rfl) (by kernel_rfl) (by kernel_rfl) (fun _ _ _ h => h) (Or.inl ⟨by rfl, fun _ => by go_simp⟩) ?_
                  refine wpAny_take (i := 9) (v := .pointer (some ⟨b, 5, none⟩)) rfl (by kernel_rfl) (by kernel_rfl) (by kernel_rfl) (fun _ _ _ h => h) (Or.inl ⟨by rfl, fun _ => by go_simp⟩) ?_
                  refine wpAny_ready (rs := [10]) (by kernel_rfl) (by simp) ?_
                  refine AllReady.cons rfl (fun K hK => ?_) ?_
                  · go_simp
                    refine hK _ _ ?_
                    clear hK K
                    refine wpAny_done (by kernel_rfl) ?_ _
                    exact FIN.out _ _ _ HF
                  exact AllReady.nil
                exact AllReady.nil
              exact AllReady.nil
            exact AllReady.nil
          exact AllReady.nil
        refine AllReady.cons rfl (fun K hK => ?_) ?_
        · go_simp
          refine hK _ _ ?_
          clear hK K
          refine wpAny_ready (rs := [0, 1]) (by kernel_rfl) (by simp) ?_
          refine AllReady.cons rfl (fun K hK => ?_) ?_
          · go_simp
            refine hK _ _ ?_
            clear hK K
            refine wpAny_ready (rs := [1]) (by kernel_rfl) (by simp) ?_
            refine AllReady.cons rfl (fun K hK => ?_) ?_
            · go_simp
              refine hK _ _ ?_
              clear hK K
              refine wpAny_take (i := 2) (v := .pointer (some ⟨b, 0, none⟩)) rfl (by kernel_rfl) (by kernel_rfl) (by kernel_rfl) (fun _ _ _ h => h) (Or.inl ⟨by rfl, fun _ => by go_simp⟩) ?_
              refine wpAny_take (i := 3) (v := .pointer (some ⟨b, 5, none⟩)) rfl (by kernel_rfl) (by kernel_rfl) (by kernel_rfl) (fun _ _ _ h => h) (Or.inl ⟨by rfl, fun _ => by go_simp⟩) ?_
              refine wpAny_ready (rs := [4]) (by kernel_rfl) (by simp) ?_
              refine AllReady.cons rfl (fun K hK => ?_) ?_
              · go_simp
                refine hK _ _ ?_
                clear hK K
                refine wpAny_ready (rs := [7]) (by kernel_rfl) (by simp) ?_
                refine AllReady.cons rfl (fun K hK => ?_) ?_
                · (refine step_append_lies _ (by rfl) _ _ _ (by rfl) D 3 i3 _ 1 8 underlying22 hi3 hz30 hz31 hz32 rfl (by omega) (.slice an ns'.length cn) ns'.length (ns'.map (Value.int .i64)) (by rfl) (by exact HOV.out.alloc _) ⟨W4.heap.size, 0, none⟩ 1 1 ([Value.int .i64 num]) (by rfl) (by rfl) (by exact AH W4 num) (by intro u hu; rw [List.mem_singleton.1 hu]; rfl) (by omega) (by unfold maxLen; omega) (by omega) (by simp; omega) (W4.heap.size + 1) (by simp) ?_; intro gg cap2 w6 hown6 hgr6 hat hlt; have S6 := (HS6.out w6 hgr6).1; have F6 := (HS6.out w6 hgr6).2.1; have C6 := (HS6.out w6 hgr6).2.2; have HF := A0 (And.intro hown6 (And.intro hgr6 hat)); clear hown6 hgr6 hat)
                  try go_simp
                  refine hK _ _ ?_
                  clear hK K
                  refine wpAny_take (i := 8) (v := .pointer (some ⟨b, 0, none⟩)) rfl (by kernel_rfl) (by kernel_rfl) (by kernel_rfl) (fun _ _ _ h => h) (Or.inl ⟨by rfl, fun _ => by go_simp⟩) ?_
                  refine wpAny_take (i := 9) (v := .pointer (some ⟨b, 5, none⟩)) rfl (by kernel_rfl) (by kernel_rfl) (by kernel_rfl) (fun _ _ _ h => h) (Or.inl ⟨by rfl, fun _ => by go_simp⟩) ?_
                  refine wpAny_ready (rs := [10]) (by kernel_rfl) (by simp) ?_
                  refine AllReady.cons rfl (fun K hK => ?_) ?_
                  · go_simp
                    refine hK _ _ ?_
                    clear hK K
                    refine wpAny_done (by kernel_rfl) ?_ _
                    exact FIN.out _ _ _ HF
                  exact AllReady.nil
                exact AllReady.nil
              exact AllReady.nil
            exact AllReady.nil
          refine AllReady.cons rfl (fun K hK => ?_) ?_
          · go_simp
            refine hK _ _ ?_
            clear hK K
            refine wpAny_take (i := 2) (v := .pointer (some ⟨b, 0, none⟩)) rfl (by kernel_rfl) (by kernel_rfl) (by kernel_rfl) (fun _ _ _ h => h) (Or.inl ⟨by rfl, fun _ => by go_simp⟩) ?_
            refine wpAny_take (i := 3) (v := .pointer (some ⟨b, 5, none⟩)) rfl (by kernel_rfl) (by kernel_rfl) (by kernel_rfl) (fun _ _ _ h => h) (Or.inl ⟨by rfl, fun _ => by go_simp⟩) ?_
            refine wpAny_ready (rs := [0, 4]) (by kernel_rfl) (by simp) ?_
            refine AllReady.cons rfl (fun K hK => ?_) ?_
            · go_simp
              refine hK _ _ ?_
              clear hK K
              refine wpAny_ready (rs := [4]) (by kernel_rfl) (by simp) ?_
              refine AllReady.cons rfl (fun K hK => ?_) ?_
              · go_simp
                refine hK _ _ ?_
                clear hK K
                refine wpAny_ready (rs := [7]) (by kernel_rfl) (by simp) ?_
                refine AllReady.cons rfl (fun K hK => ?_) ?_
                · (refine step_append_lies _ (by rfl) _ _ _ (by rfl) D 3 i3 _ 1 8 underlying22 hi3 hz30 hz31 hz32 rfl (by omega) (.slice an ns'.length cn) ns'.length (ns'.map (Value.int .i64)) (by rfl) (by exact HOV.out.alloc _) ⟨W4.heap.size, 0, none⟩ 1 1 ([Value.int .i64 num]) (by rfl) (by rfl) (by exact AH W4 num) (by intro u hu; rw [List.mem_singleton.1 hu]; rfl) (by omega) (by unfold maxLen; omega) (by omega) (by simp; omega) (W4.heap.size + 1) (by simp) ?_; intro gg cap2 w6 hown6 hgr6 hat hlt; have S6 := (HS6.out w6 hgr6).1; have F6 := (HS6.out w6 hgr6).2.1; have C6 := (HS6.out w6 hgr6).2.2; have HF := A0 (And.intro hown6 (And.intro hgr6 hat)); clear hown6 hgr6 hat)
                  try go_simp
                  refine hK _ _ ?_
                  clear hK K
                  refine wpAny_take (i := 8) (v := .pointer (some ⟨b, 0, none⟩)) rfl (by kernel_rfl) (by kernel_rfl) (by kernel_rfl) (fun _ _ _ h => h) (Or.inl ⟨by rfl, fun _ => by go_simp⟩) ?_
                  refine wpAny_take (i := 9) (v := .pointer (some ⟨b, 5, none⟩)) rfl (by kernel_rfl) (by kernel_rfl) (by kernel_rfl) (fun _ _ _ h => h) (Or.inl ⟨by rfl, fun _ => by go_simp⟩) ?_
                  refine wpAny_ready (rs := [10]) (by kernel_rfl) (by simp) ?_
                  refine AllReady.cons rfl (fun K hK => ?_) ?_
                  · go_simp
                    refine hK _ _ ?_
                    clear hK K
                    refine wpAny_done (by kernel_rfl) ?_ _
                    exact FIN.out _ _ _ HF
                  exact AllReady.nil
                exact AllReady.nil
              exact AllReady.nil
            refine AllReady.cons rfl (fun K hK => ?_) ?_
            · go_simp
              refine hK _ _ ?_
              clear hK K
              refine wpAny_ready (rs := [0, 7]) (by kernel_rfl) (by simp) ?_
              refine AllReady.cons rfl (fun K hK => ?_) ?_
              · go_simp
                refine hK _ _ ?_
                clear hK K
                refine wpAny_ready (rs := [7]) (by kernel_rfl) (by simp) ?_
                refine AllReady.cons rfl (fun K hK => ?_) ?_
                · (refine step_append_lies _ (by rfl) _ _ _ (by rfl) D 3 i3 _ 1 8 underlying22 hi3 hz30 hz31 hz32 rfl (by omega) (.slice an ns'.length cn) ns'.length (ns'.map (Value.int .i64)) (by rfl) (by exact HOV.out.alloc _) ⟨W4.heap.size, 0, none⟩ 1 1 ([Value.int .i64 num]) (by rfl) (by rfl) (by exact AH W4 num) (by intro u hu; rw [List.mem_singleton.1 hu]; rfl) (by omega) (by unfold maxLen; omega) (by omega) (by simp; omega) (W4.heap.size + 1) (by simp) ?_; intro gg cap2 w6 hown6 hgr6 hat hlt; have S6 := (HS6.out w6 hgr6).1; have F6 := (HS6.out w6 hgr6).2.1; have C6 := (HS6.out w6 hgr6).2.2; have HF := A0 (And.intro hown6 (And.intro hgr6 hat)); clear hown6 hgr6 hat)
                  try go_simp
                  refine hK _ _ ?_
                  clear hK K
                  refine wpAny_take (i := 8) (v := .pointer (some ⟨b, 0, none⟩)) rfl (by kernel_rfl) (by kernel_rfl) (by kernel_rfl) (fun _ _ _ h => h) (Or.inl ⟨by rfl, fun _ => by go_simp⟩) ?_
                  refine wpAny_take (i := 9) (v := .pointer (some ⟨b, 5, none⟩)) rfl (by kernel_rfl) (by kernel_rfl) (by kernel_rfl) (fun _ _ _ h => h) (Or.inl ⟨by rfl, fun _ => by go_simp⟩) ?_
                  refine wpAny_ready (rs := [10]) (by kernel_rfl) (by simp) ?_
                  refine AllReady.cons rfl (fun K hK => ?_) ?_
                  · go_simp
                    refine hK _ _ ?_
                    clear hK K
                    refine wpAny_done (by kernel_rfl) ?_ _
                    exact FIN.out _ _ _ HF
                  exact AllReady.nil
                exact AllReady.nil
              refine AllReady.cons rfl (fun K hK => ?_) ?_
              · (refine step_append_lies _ (by rfl) _ _ _ (by rfl) D 3 i3 _ 1 8 underlying22 hi3 hz30 hz31 hz32 rfl (by omega) (.slice an ns'.length cn) ns'.length (ns'.map (Value.int .i64)) (by rfl) (by exact HOV.out.alloc _) ⟨W4.heap.size, 0, none⟩ 1 1 ([Value.int .i64 num]) (by rfl) (by rfl) (by exact AH W4 num) (by intro u hu; rw [List.mem_singleton.1 hu]; rfl) (by omega) (by unfold maxLen; omega) (by omega) (by simp; omega) (W4.heap.size + 1) (by simp) ?_; intro gg cap2 w6 hown6 hgr6 hat hlt; have S6 := (HS6.out w6 hgr6).1; have F6 := (HS6.out w6 hgr6).2.1; have C6 := (HS6.out w6 hgr6).2.2; have HF := A0 (And.intro hown6 (And.intro hgr6 hat)); clear hown6 hgr6 hat)
                try go_simp
                refine hK _ _ ?_
                clear hK K
                refine wpAny_ready (rs := [0]) (by kernel_rfl) (by simp) ?_
                refine AllReady.cons rfl (fun K hK => ?_) ?_
                · go_simp
                  refine hK _ _ ?_
                  clear hK K
                  refine wpAny_take (i := 8) (v := .pointer (some ⟨b, 0, none⟩)) rfl (by kernel_rfl) (by kernel_rfl) (by kernel_rfl) (fun _ _ _ h => h) (Or.inl ⟨by rfl, fun _ => by go_simp⟩) ?_
                  refine wpAny_take (i := 9) (v := .pointer (some ⟨b, 5, none⟩)) rfl (by kernel_rfl) (by kernel_rfl) (by kernel_rfl) (fun _ _ _ h => h) (Or.inl ⟨by rfl, fun _ => by go_simp⟩) ?_
                  refine wpAny_ready (rs := [10]) (by kernel_rfl) (by simp) ?_
                  refine AllReady.cons rfl (fun K hK => ?_) ?_
                  · go_simp
                    refine hK _ _ ?_
                    clear hK K
                    refine wpAny_done (by kernel_rfl) ?_ _
                    exact FIN.out _ _ _ HF
                  exact AllReady.nil
                exact AllReady.nil
              exact AllReady.nil
            exact AllReady.nil
          exact AllReady.nil
        exact AllReady.nil
    · have HRB := A0 (A3 HK.out.rb HM.out.2)
      have y5 : W4.cell? ⟨w.heap.size + 1, 0, none⟩ = some (.int .i64 0) := A1 HRB.out rfl
      have f5 : W4.frozen? ⟨w.heap.size + 1, 0, none⟩ = false := A4 HRB.out
      have HFX : Hid (OH w D b bm kv x (.func (.func 39) #[] #[.pointer (some ⟨b1, 0, none⟩), .pointer (some ⟨b2, 0, none⟩)]) bud (decide (65536 < es.length)) ve ps es T er vp' vn' ps' ns' (W4.setCell ⟨w.heap.size + 1, 0, none⟩ (.int .i64 er)) ∧ (W4.setCell ⟨w.heap.size + 1, 0, none⟩ (.int .i64 er)).heap[x + 2]? = W.heap[x + 2]? ∧ (W4.setCell ⟨w.heap.size + 1, 0, none⟩ (.int .i64 er)).heap[x + 2 + 1]? = W.heap[x + 2 + 1]?) := A0 (by
       have o := Ah W4 (w.heap.size + 1) 0 (.int .i64 er)
       have d := HM.out.2
       have hL := HL.out
       have sz := d.size
       have kl := HK.out.kl
       refine ⟨⟨HK.out.eq.trans (by rw [HTd.out]; exact HM.out.1 _), her, (HK.out.ss.on d).onlyR o (by omega) (by omega) (fun k hk e => ?_) (fun k hk e => ?_) (fun k hk e => ?_), heap_setCell_same W4 _ 0 _ 30 _ HRB.out, (HK.out.on.trans (Ab.ofBelow d)).trans (o.mono (fun k _ e => .inr (.inr (by omega)))), HK.out.ap, HK.out.an, HK.out.ae, HK.out.pl, HK.out.kl⟩, (o.block _ (by omega) (by omega)).trans (d.block _ (by omega)), (o.block _ (by omega) (by omega)).trans (d.block _ (by omega))⟩
       · have := HK.out.ap k hk; omega
       · have := HK.out.ae k hk; omega
       · have := HK.out.an k hk; omega)
      clear TMe y0 y1 y2
      rcases her with rfl | rfl
      all_goals
       gi_wp2
       exact ⟨⟨by rw [HZ3.out]; exact HFX.out.2.1, by rw [HZ3.out]; exact HFX.out.2.2⟩, _, _, _, _, _, HFX.out.1⟩
   case done =>
    rintro D' W hD' ⟨vp', vn', ps', ns', HK0⟩ hq
    have hTl : (T.map GV).length = T.length := by simp
    rw [hTl] at HK0
    have HK := A0 HK0
    have hnl := HNL.out T.length ps' ns' (Nat.le_refl _) HK0
    have hsW := HK0.on.size
    obtain ⟨ae, ce, hve⟩ := A8 HK0.ss.eo
    obtain ⟨an, cn, hvn⟩ := A8 HK0.ss.no
    have HV := A0 (And.intro hve hvn)
    have y0 : W.cell? ⟨w.heap.size, 0, none⟩ = some (.pointer (some ⟨b, 0, none⟩)) := A1 HK0.sb rfl
    have y4 : W.cell? ⟨b, 4, none⟩ = some (.slice ae es.length ce) := by rw [← hve]; exact A1 HK0.ss.bx rfl
    have y5 : W.cell? ⟨b, 5, none⟩ = some (.slice an ns'.length cn) := by rw [← hvn]; exact A1 HK0.ss.bx rfl
    have f4 : W.frozen? ⟨b, 4, none⟩ = false := A4 HK0.ss.bx
    have dd : Below W.heap.size W W.drew := (Below.refl _ _).drew
    have TL := IK W.drew D (.slice ae es.length ce) (.slice an ns'.length cn) es (i : Int) (s : Int) ns'.length ns' rfl (A0 (by rw [← hve]; exact (HK0.ss.on dd).eo)) (A0 (by rw [← hvn]; exact (HK0.ss.on dd).no)) (by have := hsW; exact Nat.le_trans hDo.2.2 this) (by omega) (by omega)
    have HP5 := A0 (fun (w5 : World) (o : Ab W.drew w5 (fun k => (Value.slice ae es.length ce).ownBlock = some k ∨ (Value.slice an ns'.length cn).ownBlock = some k)) => show w5.cell? ⟨w.heap.size, 0, none⟩ = some (.pointer (some ⟨b, 0, none⟩)) ∧ w5.frozen? ⟨b, 4, none⟩ = false ∧ w5.cell? ⟨b, 4, none⟩ = some (.slice ae es.length ce) by
     rw [← HV.out.1, ← HV.out.2] at o
     have q1 := o.cellK (o := .cells _ 71 (0, 0)) HK.out.ss.bx (fun e => by
      rcases e with e | e
      · have := (HK.out.ss.eo.lt _ e).1; omega
      · have := (HK.out.ss.no.lt _ e).1; omega)
     have q2 := o.cellK (o := .cells _ 94 (0, 0)) HK.out.sb (fun e => by
      rcases e with e | e
      · have := HK.out.ae _ e; omega
      · have := HK.out.an _ e; omega)
     exact ⟨A1 q2 rfl, A4 q1, by rw [← HV.out.1]; exact A1 q1 rfl⟩)
    have HQ := A0 hq
    clear HK0 hve hvn hq
    go_upto_region 9 with fail
    go_cut [6] from 54 to 67 (fun v6 W8 => v6 = .pointer (some ⟨w.heap.size + 1, 0, none⟩) ∧ ∃ v8 x8, Hid (SS D W8 b bm (.func (.func 39) #[] #[.pointer (some ⟨b1, 0, none⟩), .pointer (some ⟨b2, 0, none⟩)]) bud vp' v8 vn' ps' (Bm es (i : Int) (s : Int) (A5 ns')) ns'.length x8 ∧ W8.heap[w.heap.size + 1]? = some (.cells #[.int .i64 0] 30 (0, 0)) ∧ Ab w W8 (fun k => k = b ∨ k = bm ∨ (D ≤ k ∧ k ≠ kv)) ∧ W8.heap[D']? = some (.deferred (some [])) ∧ ∀ k, v8.ownBlock = some k → k ≠ kv))
    case first =>
     refine Ir ?_
     go_region_with (go_at_call 75; refine TL.mono ?_; rintro e w5 ⟨v5, rfl, H5⟩; obtain ⟨a5, k5, rfl⟩ := A8 H5.out.1; have z0 := (HP5.out w5 H5.out.2.2.1).1; have z1 := (HP5.out w5 H5.out.2.2.1).2.1; have z2' := (HP5.out w5 H5.out.2.2.1).2.2)
     all_goals
      refine Ij ?_
      first | (go_wp2_with fail; go_meet) | go_meet
      obtain ⟨r1, ⟨x8, r2⟩, r3, r4⟩ := H5.out
      rw [← HV.out.1, ← HV.out.2] at r3
      rw [← HV.out.1] at r4
      rw [← HV.out.2] at r2
      obtain ⟨s8, o8⟩ := (HK.out.ss.on (Below.refl _ W).drew).edges hDo.1 r3 r1 r2
      have oW : Ab W W.drew (fun k => k = b ∨ ve.ownBlock = some k ∨ vn'.ownBlock = some k) := Ab.ofBelow (Below.refl _ W).drew
      have o9 := oW.trans o8
      exact ⟨rfl, _, x8, A0 (LD HK.out hx hDo s8 o9 HQ.out r4)⟩
    case rest =>
     obtain ⟨rfl, v8, x8, H8⟩ := hcut
     rename World => w8
     have y6 : w8.cell? ⟨w.heap.size + 1, 0, none⟩ = some (.int .i64 0) := A1 H8.out.2.1 rfl
     have f6 : w8.frozen? ⟨w.heap.size + 1, 0, none⟩ = false := A4 H8.out.2.1
     have HO : Ab w8 ((w8.setCell ⟨w.heap.size + 1, 0, none⟩ (.int .i64 0)).putObj D' (.deferred none)) (fun k => k = w.heap.size + 1 ∨ k = D') := ((Ah w8 _ 0 _).mono (fun k _ e => .inl e)).trans ((AI _ _ _).mono (fun k _ e => .inr e))
     have hne : D' ≠ w.heap.size + 1 := fun e => by have := H8.out.2.2.2.1; rw [e, H8.out.2.1] at this; cases this
     have hq9 : (w8.setCell ⟨w.heap.size + 1, 0, none⟩ (.int .i64 0)).heap[D']? = some (.deferred (some [])) := (Ah w8 _ 0 _).cellK H8.out.2.2.2.1 hne
     have hr9 : (w8.setCell ⟨w.heap.size + 1, 0, none⟩ (.int .i64 0)).heap[w.heap.size + 1]? = some (.cells #[.int .i64 0] 30 (0, 0)) := by have := heap_setCell_same w8 (w.heap.size + 1) 0 _ 30 (.int .i64 0) H8.out.2.1; simpa using this
     have c9 : ((w8.setCell ⟨w.heap.size + 1, 0, none⟩ (.int .i64 0)).putObj D' (.deferred none)).cell? ⟨w.heap.size + 1, 0, none⟩ = some (.int .i64 0) := A1 ((AI _ _ _).cellK hr9 (fun e => hne e.symm)) rfl
     have HF : Hid (PA w D b bm kv (.func (.func 39) #[] #[.pointer (some ⟨b1, 0, none⟩), .pointer (some ⟨b2, 0, none⟩)]) bud ps es T i s 0 vp' v8 vn' ps' ns' ns'.length x8 ((w8.setCell ⟨w.heap.size + 1, 0, none⟩ (.int .i64 0)).putObj D' (.deferred none))) := A0 (by
      have kl := HK.out.kl
      refine ⟨HK.out.eq.trans (by rw [List.drop_length]; rfl), ?_, H8.out.2.2.1.trans (HO.mono (fun k _ e => .inr (.inr (by omega)))), HK.out.pl, fun _ => hnl, fun k hk => (HK.out.ap k hk).2, H8.out.2.2.2.2, fun k hk => (HK.out.an k hk).2⟩
      rw [if_pos rfl]
      refine Hw (H8.out.1.onlyR (Ah w8 (w.heap.size + 1) 0 (.int .i64 0)) (by omega) (by omega) (fun k hk e => ?_) (fun k hk e => ?_) (fun k hk e => ?_)) (AI _ _ _) hq9
      · have := HK.out.ap k hk; omega
      · have q9 := H8.out.1.eo
        rcases q9.2 with ⟨e3, _⟩ | ⟨g, cap, cur, e3, _, hg, _⟩
        · rw [e3] at hk; cases hk
        · rw [e3] at hk
          obtain rfl : g = k := by simpa [Value.ownBlock] using hk
          rw [e, H8.out.2.1] at hg; cases hg
      · have := HK.out.an k hk; omega)
     have HQ9 := A0 hq9
     clear y0 y4 y5 f4 TL hq9 hr9 hne
     go_wp2_with fail
     refine ⟨by simp, .inl ⟨_, _, rfl, run_takeDeferred HQ9.out, ?_⟩⟩
     refine ⟨_, Co _ _ (w.heap.size + 1) _ rfl c9, ?_⟩
     exact ⟨0, vp', v8, vn', ps', ns', ns'.length, x8, rfl, A0 (by rw [HTE.out]; exact HF.out)⟩
   case stop =>
    rintro D' W hD' ⟨er, vp', vn', ps', ns', HX⟩ hq
    have HXX := A0 HX
    clear HX
    refine wpIn_wide.2 ?_
    go_wp2_with fail
    refine ⟨by simp, .inl ⟨_, _, rfl, run_takeDeferred hq, ?_⟩⟩
    have HO : Ab W (W.putObj D' (.deferred none)) (fun k => k = D') := AI _ _ _
    have hbq : ∀ {k : Nat} {cs : Array Value} {t : TypeId} {fr : Nat × Nat}, W.heap[k]? = some (.cells cs t fr) → k ≠ D' := fun hk e => by rw [e, hq] at hk; cases hk
    have c6 : (W.putObj D' (.deferred none)).cell? ⟨w.heap.size + 1, 0, none⟩ = some (.int .i64 er) := A1 (HO.cellK HXX.out.rb (hbq HXX.out.rb)) rfl
    refine ⟨_, Co _ _ (w.heap.size + 1) _ rfl c6, ?_⟩
    refine ⟨er, vp', ve, vn', ps', ns', ns'.length, ns'.map (Value.int .i64), rfl, A0 ⟨?_, ?_, ?_, HXX.out.pl, ?_, fun k hk => (HXX.out.ap k hk).2, fun k hk => (HXX.out.ae k hk).2, fun k hk => (HXX.out.an k hk).2⟩⟩
    · rw [HTE.out]; exact HXX.out.eq
    · have ne : er ≠ 0 := by rcases HXX.out.ee with e | e <;> omega
      rw [if_neg ne]
      exact Hw HXX.out.ss HO hq
    · exact HXX.out.on.trans (HO.mono (fun k _ e => .inr (.inr (by have := HXX.out.kl; omega))))
    · intro e; rcases HXX.out.ee with e2 | e2 <;> omega
def OZ (f1 f2 : Nat → Bool) (x : Aq) : Bool := f1 x.1.toNat && f2 x.2.toNat
def Cj (f1 f2 : Nat → Bool) (ps : List Aq) (k : Nat) : List Int := ((List.range k).filter fun j => ((ps[j]?).map (OZ f1 f2)).getD false).map (fun j : Nat => (j : Int))
theorem I3 (f1 f2 : Nat → Bool) (ps : List Aq) (k : Nat) (h : k < ps.length) : Cj f1 f2 ps (k + 1) = Cj f1 f2 ps k ++ if OZ f1 f2 ps[k] then [(k : Int)] else [] := by
 unfold Cj
 rw [List.range_succ, List.filter_append, List.map_append]
 congr 1
 simp only [List.filter_cons, List.filter_nil, List.getElem?_eq_getElem h, Option.map_some, Option.getD_some]
 split <;> rfl
theorem Fg (f1 f2 : Nat → Bool) (ps : List Aq) (k : Nat) : (Cj f1 f2 ps k).length ≤ k := by
 unfold Cj
 rw [List.length_map]
 exact Nat.le_trans (List.length_filter_le _ _) (Nat.le_of_eq (List.length_range))
theorem G9 (w : World) (D b bm : Nat) (f : Value) (bud : Int) (vp ve vn : Value) (ps : List Aq) (es : List Aa) (nn : Nat) (xn : List Value) (h1 h2 N1 N2 : Nat) (f1 f2 : Nat → Bool) (h : Hid (SS D w b bm f bud vp ve vn ps es nn xn)) (m1 : Hid (Bd w h1 4 N1 (fun c => .bool (f1 c)) N1)) (m2 : Hid (Bd w h2 4 N2 (fun c => .bool (f2 c)) N2)) (hb : Hid (∀ x ∈ ps, (0 ≤ x.1 ∧ x.1 < (N1 : Int)) ∧ 0 ≤ x.2 ∧ x.2 < (N2 : Int))) (hl : ps.length ≤ 4096) :
 Calls prog 37 #[.pointer (some ⟨b, 0, none⟩), .slice (some ⟨h1, 0, none⟩) N1 N1, .slice (some ⟨h2, 0, none⟩) N2 N2] w fun e w' => ∃ v', e = .returned v' ∧ Hid (w'.ownsRow w.heap.size 3 1 v' (Cj f1 f2 ps ps.length).length ((Cj f1 f2 ps ps.length).map (Value.int .i64)) ∧ Below w.heap.size w w') := by
 obtain ⟨ap, cp, hv⟩ := A8 h.out.po
 have HV := A0 hv
 have c3 : w.cell? ⟨b, 3, none⟩ = some (.slice ap ps.length cp) := by rw [← hv]; exact A1 h.out.bx rfl
 clear hv
 go_enter func37, ntmps37
 go_wp2_with fail
 go_loopw [7, 15] (fun v iv wr => ∃ k : Nat, k ≤ ps.length ∧ iv = .int .i64 (k : Int) ∧ Hid (wr.ownsRow w.heap.size 3 1 v (Cj f1 f2 ps k).length ((Cj f1 f2 ps k).map (Value.int .i64)) ∧ Below w.heap.size w wr)) (fun _ iv _ => ps.length - (intOf iv).toNat)
 case atStart => exact ⟨0, Nat.zero_le _, rfl, A0 ⟨by show World.ownsRow _ _ _ _ _ ([] : List Int).length (([] : List Int).map _); exact World.ownsRow_nil _ _ _ _, Below.refl _ _⟩⟩
 case round =>
  obtain ⟨k, hk, rfl, HY⟩ := hrel
  by_cases hlt : k < ps.length
  · have i0 : (0 : Int) ≤ (k : Int) := by omega
    have i1 : (k : Int) < (ps.length : Int) := by omega
    obtain ⟨gp, hvp⟩ : ∃ gp, ap = some ⟨gp, 0, none⟩ := by
     rcases h.out.po.2 with ⟨_, e0⟩ | ⟨g, cap, cur, e, _⟩
     · omega
     · rw [HV.out] at e; cases e; exact ⟨g, rfl⟩
    subst hvp
    have HP := h.out.po
    rw [HV.out] at HP
    have q := GO HP k hlt
    obtain ⟨⟨l1, l2⟩, l3, l4⟩ := hb.out _ (List.getElem_mem hlt)
    have HSN := A0 (I3 f1 f2 ps k hlt)
    obtain ⟨p, hp⟩ := Int.eq_ofNat_of_zero_le l1
    obtain ⟨r, hr⟩ := Int.eq_ofNat_of_zero_le l3
    have hpr : ps[k] = ((p : Int), (r : Int)) := Prod.ext hp hr
    rw [hpr] at q HSN l2 l4
    have z1 : wr.cell? ⟨gp, k * 2, none⟩ = some (.int .i64 (p : Int)) := (HY.out.2.cell (p := ⟨gp, k * 2, none⟩) (World.block_lt_of_cell? w _ q.1)).trans q.1
    have z2 : wr.cell? ⟨gp, k * 2 + 1, none⟩ = some (.int .i64 (r : Int)) := (HY.out.2.cell (p := ⟨gp, k * 2 + 1, none⟩) (World.block_lt_of_cell? w _ q.2)).trans q.2
    obtain ⟨X, hX⟩ : ∃ X, wr.alloc (.cells #[.int .i64 (p : Int), .int .i64 (r : Int)] 57) = X := ⟨_, rfl⟩
    have HD : Hid (Below wr.heap.size wr X ∧ X.heap[wr.heap.size]? = some (.cells #[.int .i64 (p : Int), .int .i64 (r : Int)] 57 (0, 0))) := A0 (by rw [← hX]; exact ⟨(Below.refl _ _).alloc (Nat.le_refl _) _, World.alloc_heap_new _ _⟩)
    have dX : Below w.heap.size w X := HY.out.2.trans (HD.out.1.mono HY.out.2.size)
    obtain ⟨x0, x1⟩ := IV HD.out.2 rfl rfl
    have j0 : (0 : Int) ≤ (p : Int) := by omega
    have j1 : (p : Int) < (N1 : Int) := l2
    have j2 : (0 : Int) ≤ (r : Int) := by omega
    have j3 : (r : Int) < (N2 : Int) := l4
    have b1 : X.cell? ⟨h1, p, none⟩ = some (.bool (f1 p)) := (m1.out.below dX m1.out.lt).at p (by omega)
    have b2 : X.cell? ⟨h2, r, none⟩ = some (.bool (f2 r)) := (m2.out.below dX m2.out.lt).at r (by omega)
    have hel := Fg f1 f2 ps k
    have HO : Hid (X.ownsRow w.heap.size 3 1 u7 (Cj f1 f2 ps k).length ((Cj f1 f2 ps k).map (Value.int .i64))) := A0 (A6 HY.out.1 HD.out.1)
    have HDX := A0 dX
    clear dX q hp hr hpr l1 l2 l3 l4 HP
    cases e1 : f1 p with
    | false =>
     rw [e1] at b1
     go_wp2_with fail
     refine ⟨⟨k + 1, by omega, by go_num, A0 ⟨?_, HDX.out⟩⟩, by simp [intOf]; omega⟩
     rw [HSN.out]
     simp only [OZ, Int.toNat_natCast, e1, Bool.false_and]
     simpa using HO.out
    | true =>
     rw [e1] at b1
     cases e2 : f2 r with
     | false =>
      rw [e2] at b2
      go_wp2_with fail
      refine ⟨⟨k + 1, by omega, by go_num, A0 ⟨?_, HDX.out⟩⟩, by simp [intOf]; omega⟩
      rw [HSN.out]
      simp only [OZ, Int.toNat_natCast, e1, e2, Bool.and_false]
      simpa using HO.out
     | true =>
      rw [e2] at b2
      go_wp2_with (at_builtin; refine Bt rfl _ _ rfl w.heap.size u7 (Cj f1 f2 ps k) rfl (A6 HO.out ((Below.refl _ _).alloc (Nat.le_refl _) _)) X.heap.size (k : Int) rfl (World.alloc_heap_new _ _) (by omega) w (HDX.out.alloc HDX.out.size _) (Nat.le_refl _) ?_; intro v5 w5 HO5 HB5)
      refine ⟨⟨k + 1, by omega, by go_num, A0 ⟨?_, HB5.out⟩⟩, by simp [intOf]; omega⟩
      rw [HSN.out]
      simp only [OZ, Int.toNat_natCast, e1, e2, Bool.and_self, if_true]
      exact HO5.out
  · obtain rfl : k = ps.length := by omega
    have i1 : ¬ (ps.length : Int) < (ps.length : Int) := by omega
    go_wp2_with fail
    refine bodyPost_ret (results_tmp rfl _ _ _) rfl ?_
    exact ⟨_, rfl, HY⟩
theorem AQ (bud : Int) (fl : Bool) : ∀ (T ps : List Aq) (ns : List Int) (er : Int) (ps' : List Aq) (ns' : List Int), Af bud fl ps T ns = (er, ps', ns') → ps.Nodup → (∃ x, ps' = ps ++ x) ∧ ps'.Nodup ∧ (∀ t ∈ ps', t ∈ ps ∨ t ∈ T) ∧ (er = 0 → (∀ t ∈ T, t ∈ ps') ∧ (fl = false → ∀ n, n ∈ ns' ↔ n ∈ ns ∨ ∃ t ∈ T, n = (ps'.idxOf t : Int))) ∧ (fl = true → ns' = ns)
 | [], ps, ns, er, ps', ns', h, hn => by
  rw [Af] at h
  cases h
  exact ⟨⟨[], by simp⟩, hn, fun t ht => .inl ht, fun _ => ⟨fun t ht => by simp at ht, fun _ n => by simp⟩, fun _ => rfl⟩
 | t :: ts, ps, ns, er, ps', ns', h, hn => by
  rw [Af] at h
  by_cases hm : t ∈ ps
  · rw [if_pos hm] at h
    obtain ⟨⟨x, hx⟩, q2, q3, q4, q5⟩ := AQ bud fl ts ps _ er ps' ns' h hn
    refine ⟨⟨x, hx⟩, q2, fun y hy => (q3 y hy).imp id (fun e => by simp [e]), fun he => ⟨fun y hy => ?_, fun hf n => ?_⟩, fun hf => by rw [q5 hf, if_pos hf]⟩
    · rcases List.mem_cons.1 hy with rfl | hy
      · rw [hx]; exact List.mem_append_left _ hm
      · exact (q4 he).1 y hy
    · rw [(q4 he).2 hf n, hf]
      have e1 : ps'.idxOf t = ps.idxOf t := by rw [hx, List.idxOf_append, if_pos hm]
      simp only [Bool.false_eq_true, if_false, List.mem_append, List.mem_cons, List.not_mem_nil, or_false, exists_eq_or_imp, e1]
      constructor
      · rintro ((h | h) | h)
        · exact .inl h
        · exact .inr (.inl h)
        · exact .inr (.inr h)
      · rintro (h | h | h)
        · exact .inl (.inl h)
        · exact .inl (.inr h)
        · exact .inr h
  · rw [if_neg hm] at h
    by_cases h1 : bud ≤ (ps.length : Int)
    · rw [if_pos h1] at h
      cases h
      exact ⟨⟨[], by simp⟩, hn, fun t ht => .inl ht, fun he => absurd he (by decide), fun _ => rfl⟩
    · rw [if_neg h1] at h
      by_cases h2 : 4096 ≤ ps.length
      · rw [if_pos h2] at h
        cases h
        exact ⟨⟨[], by simp⟩, hn, fun t ht => .inl ht, fun he => absurd he (by decide), fun _ => rfl⟩
      · rw [if_neg h2] at h
        have hn2 : (ps ++ [t]).Nodup := by
         rw [List.nodup_append]
         refine ⟨hn, by simp, fun a ha b hb => ?_⟩
         rw [List.mem_singleton] at hb
         rintro rfl
         exact hm (hb ▸ ha)
        obtain ⟨⟨x, hx⟩, q2, q3, q4, q5⟩ := AQ bud fl ts (ps ++ [t]) _ er ps' ns' h hn2
        have ht : t ∈ ps ++ [t] := by simp
        refine ⟨⟨[t] ++ x, by rw [hx, List.append_assoc]⟩, q2, fun y hy => ?_, fun he => ⟨fun y hy => ?_, fun hf n => ?_⟩, fun hf => by rw [q5 hf, if_pos hf]⟩
        · rcases q3 y hy with e | e
          · rcases List.mem_append.1 e with e | e
            · exact .inl e
            · rw [List.mem_singleton] at e
              exact .inr (by simp [e])
          · exact .inr (by simp [e])
        · rcases List.mem_cons.1 hy with rfl | hy
          · rw [hx]; exact List.mem_append_left _ ht
          · exact (q4 he).1 y hy
        · rw [(q4 he).2 hf n, hf]
          have e1 : ps'.idxOf t = ps.length := by
           rw [hx, List.idxOf_append, if_pos ht, List.idxOf_append, if_neg hm]
           simp
          simp only [Bool.false_eq_true, if_false, List.mem_append, List.mem_cons, List.not_mem_nil, or_false, exists_eq_or_imp, e1]
          constructor
          · rintro ((h | h) | h)
            · exact .inl h
            · exact .inr (.inl h)
            · exact .inr (.inr h)
          · rintro (h | h | h)
            · exact .inl (.inl h)
            · exact .inl (.inr h)
            · exact .inr h
def PC (E1 E2 : List Aa) (x : Aq) (c : Nat) (y : Aq) : Prop := ((x.1, (c : Int), y.1) ∈ E1 ∧ y.2 = x.2) ∨ (y.1 = x.1 ∧ (x.2, (c : Int), y.2) ∈ E2)
theorem Dy {Ed : List Aa} {p s : Nat} {x : Int} : x ∈ B5 (Ar Ed p (s : Int)) ↔ ((p : Int), (s : Int), x) ∈ Ed := by
 unfold B5
 rw [List.mem_map]
 constructor
 · rintro ⟨e, he, rfl⟩
   obtain ⟨h, h1, h2⟩ := Cg.1 he
   rw [← h1, ← h2]
   exact h
 · intro h
   exact ⟨_, Cg.2 ⟨h, rfl, rfl⟩, rfl⟩
theorem Nj {E1 E2 : List Aa} {p q s : Nat} {y : Aq} : y ∈ C7 (B5 (Ar E1 p (s : Int))) (B5 (Ar E2 q (s : Int))) (p : Int) (q : Int) ↔ PC E1 E2 ((p : Int), (q : Int)) s y := by
 unfold C7 PC
 rw [List.mem_append, List.mem_map, List.mem_map]
 constructor
 · rintro (⟨a, ha, rfl⟩ | ⟨a, ha, rfl⟩)
   · exact .inl ⟨Dy.1 ha, rfl⟩
   · exact .inr ⟨rfl, Dy.1 ha⟩
 · rintro (⟨h1, h2⟩ | ⟨h1, h2⟩)
   · exact .inl ⟨y.1, Dy.2 h1, Prod.ext rfl h2.symm⟩
   · exact .inr ⟨y.2, Dy.2 h2, Prod.ext h1.symm rfl⟩
def Ng (m i s a c : Nat) : Prop := (a < i ∧ c < m) ∨ (a = i ∧ c < s)
structure EY (N m : Nat) (E : List Aa) : Prop where
 ss : Fc E
 sy : ∀ e ∈ E, 0 ≤ e.2.1 ∧ e.2.1 < (m : Int)
 tt : ∀ e ∈ E, 0 ≤ e.2.2 ∧ e.2.2 < (N : Int)
 hN : N ≤ 4096
 hm : m ≤ 128
 hl : E.length ≤ 4194304
theorem EY.rq {N m : Nat} {E : List Aa} (h : EY N m E) {p s : Nat} (hp : p < N) (hs : s < m) : My m (N * m) p s E :=
 ⟨h.ss, h.sy, hs, by
  have := Nat.mul_le_mul_right m (show p + 1 ≤ N from hp)
  rw [Nat.add_mul, Nat.one_mul] at this
  omega, Nat.le_trans (Nat.mul_le_mul h.hN h.hm) (by decide), h.hl⟩
theorem OR {E1 E2 : List Aa} {N1 N2 m : Nat} (h1 : EY N1 m E1) (h2 : EY N2 m E2) {x y : Aq} {c : Nat} (hx : ∃ p q : Nat, x = ((p : Int), (q : Int)) ∧ p < N1 ∧ q < N2) (h : PC E1 E2 x c y) : ∃ p q : Nat, y = ((p : Int), (q : Int)) ∧ p < N1 ∧ q < N2 := by
 obtain ⟨p, q, rfl, hp, hq⟩ := hx
 rcases h with ⟨h, e⟩ | ⟨e, h⟩
 · obtain ⟨l1, l2⟩ := h1.tt _ h
   obtain ⟨r, hr⟩ := Int.eq_ofNat_of_zero_le l1
   exact ⟨r, q, Prod.ext hr e, by simp only at hr l2; omega, hq⟩
 · obtain ⟨l1, l2⟩ := h2.tt _ h
   obtain ⟨r, hr⟩ := Int.eq_ofNat_of_zero_le l1
   exact ⟨p, r, Prod.ext e hr, hp, by simp only at hr l2; omega⟩
theorem Fl {y : Aq} {N1 N2 : Nat} (hN1 : N1 ≤ 4096) (hN2 : N2 ≤ 4096) (h : ∃ p q : Nat, y = ((p : Int), (q : Int)) ∧ p < N1 ∧ q < N2) : DV y := by
 obtain ⟨p, q, rfl, h1, h2⟩ := h
 exact ⟨⟨by simp only; omega, by simp only; omega⟩, by simp only; omega, by simp only; omega⟩
theorem BM {E : List Aa} (h : Fc E) (p s : Nat) : (B5 (Ar E p (s : Int))).Nodup := by
 have hs := Ic h p (s : Int)
 unfold B5
 refine List.pairwise_map.2 (List.Pairwise.imp_of_mem ?_ hs)
 intro a b ha hb q e
 obtain ⟨_, a1, a2⟩ := Cg.1 ha
 obtain ⟨_, b1, b2⟩ := Cg.1 hb
 obtain rfl : a = b := Prod.ext (a1.trans b1.symm) (Prod.ext (a2.trans b2.symm) e)
 simp [C4] at q
theorem GT {E : List Aa} {N m : Nat} (h : EY N m E) (p s : Nat) : (B5 (Ar E p (s : Int))).length ≤ 4096 := by
 have q := CI (BM h.ss p s) (m := (List.range N).map (fun n : Nat => (n : Int))) (fun t ht => by
  obtain ⟨l1, l2⟩ := h.tt _ (Dy.1 ht)
  obtain ⟨r, hr⟩ := Int.eq_ofNat_of_zero_le l1
  simp only at hr l2
  exact List.mem_map.2 ⟨r, List.mem_range.2 (by omega), hr.symm⟩)
 rw [List.length_map, List.length_range] at q
 exact Nat.le_trans q h.hN
theorem OI {E1 E2 : List Aa} {N1 N2 m : Nat} (h1 : EY N1 m E1) (h2 : EY N2 m E2) (p q s : Nat) : (C7 (B5 (Ar E1 p (s : Int))) (B5 (Ar E2 q (s : Int))) (p : Int) (q : Int)).length ≤ 8192 := by
 have q1 := GT h1 p s
 have q2 := GT h2 q s
 rw [El]
 omega
theorem Jy {ps x : List Aq} {y : Aq} (h : y ∈ ps) : (ps ++ x).idxOf y = ps.idxOf y := by rw [List.idxOf_append, if_pos h]
end Go.Proofs.YtchoopnjckcohaaGreat
namespace Go.Proofs.YtchoopnjckcohaaGreat
open Tryz
open Go.RowKit Go.Maps Go.Shelf
def Bp (i s : Nat) (ns : List Int) : List Aa := ns.map fun n => ((i : Int), (s : Int), n)
def Bb (bud : Int) (T : Aq → Nat → List Aq) (m : Nat) : Nat → List Aq → List Aa → Nat → Nat → Int × List Aq × List Aa
 | 0, ps, raw, _, _ => (0, ps, raw)
 | k + 1, ps, raw, i, s =>
  match ps[i]? with
  | none => (0, ps, raw)
  | some x => if s < m then (if (Af bud false ps (T x s) []).1 = 0 then Bb bud T m k (Af bud false ps (T x s) []).2.1 (raw ++ Bp i s (Af bud false ps (T x s) []).2.2) i (s + 1) else ((Af bud false ps (T x s) []).1, [], [])) else Bb bud T m k ps raw (i + 1) 0
section
variable {bud : Int} {T : Aq → Nat → List Aq} {m k : Nat} {ps ps' : List Aq} {raw : List Aa} {i s : Nat} {x : Aq} {ns : List Int}
theorem FP (hx : ps[i]? = some x) (hs : s < m) (h : Af bud false ps (T x s) [] = (0, ps', ns)) : Bb bud T m (k + 1) ps raw i s = Bb bud T m k ps' (raw ++ Bp i s ns) i (s + 1) := by
 rw [Bb, hx]
 simp only [h]
 rw [if_pos hs]
 simp
theorem IN {er : Int} (hx : ps[i]? = some x) (hs : s < m) (he : er ≠ 0) (h : Af bud false ps (T x s) [] = (er, ps', ns)) : Bb bud T m (k + 1) ps raw i s = (er, [], []) := by
 rw [Bb, hx]
 simp only [h]
 rw [if_pos hs, if_neg he]
theorem GC (hx : ps[i]? = some x) : Bb bud T m (k + 1) ps raw i m = Bb bud T m k ps raw (i + 1) 0 := by
 rw [Bb, hx]
 simp only [Nat.lt_irrefl, if_false]
theorem Gc : Bb bud T m (k + 1) ps raw ps.length s = (0, ps, raw) := by
 rw [Bb, List.getElem?_eq_none (Nat.le_refl _)]
end
theorem DA (bud : Int) : ∀ (T ps : List Aq) (ns ns' : List Int), (Af bud true ps T ns).1 = (Af bud false ps T ns').1 ∧ (Af bud true ps T ns).2.1 = (Af bud false ps T ns').2.1
 | [], ps, ns, ns' => by simp [Af]
 | t :: ts, ps, ns, ns' => by
  rw [Af, Af]
  by_cases h1 : t ∈ ps
  · rw [if_pos h1, if_pos h1]; exact DA bud ts _ _ _
  · rw [if_neg h1, if_neg h1]
    by_cases h2 : bud ≤ (ps.length : Int)
    · rw [if_pos h2, if_pos h2]; exact ⟨rfl, rfl⟩
    · rw [if_neg h2, if_neg h2]
      by_cases h3 : 4096 ≤ ps.length
      · rw [if_pos h3, if_pos h3]; exact ⟨rfl, rfl⟩
      · rw [if_neg h3, if_neg h3]; exact DA bud ts _ _ _
theorem Ch (bud : Int) (fl : Bool) : ∀ (T ps : List Aq) (ns : List Int), ps.length ≤ 4096 → (Af bud fl ps T ns).2.1.length ≤ 4096
 | [], ps, ns, h => by rw [Af]; exact h
 | t :: ts, ps, ns, h => by
  rw [Af]
  split
  · exact Ch bud fl ts _ _ h
  · split
    · exact h
    · split
      · exact h
      · exact Ch bud fl ts _ _ (by rw [List.length_append, List.length_singleton]; omega)
theorem Hm (bud : Int) (fl : Bool) : ∀ (T ps : List Aq) (ns : List Int), (Af bud fl ps T ns).1 = 0 ∨ (Af bud fl ps T ns).1 = 8 ∨ ((Af bud fl ps T ns).1 = 9 ∧ (ps.length ≤ 4096 → bud ≤ 4096))
 | [], ps, ns => by rw [Af]; exact .inl rfl
 | t :: ts, ps, ns => by
  rw [Af]
  split
  · exact Hm bud fl ts _ _
  · split
    · refine .inr (.inr ⟨rfl, fun h => by omega⟩)
    · split
      · exact .inr (.inl rfl)
      · rcases Hm bud fl ts (ps ++ [t]) (if fl then ns else ns ++ [(ps.length : Int)]) with h | h | h
        · exact .inl h
        · exact .inr (.inl h)
        · exact .inr (.inr ⟨h.1, fun _ => h.2 (by rw [List.length_append, List.length_singleton]; omega)⟩)
theorem FY (bud : Int) (fl : Bool) : ∀ (A B ps : List Aq) (ns : List Int), Af bud fl ps (A ++ B) ns = if (Af bud fl ps A ns).1 = 0 then Af bud fl (Af bud fl ps A ns).2.1 B (Af bud fl ps A ns).2.2 else Af bud fl ps A ns
 | [], B, ps, ns => by rw [List.nil_append, Af, if_pos rfl]
 | t :: ts, B, ps, ns => by
  rw [List.cons_append, Af, Af]
  by_cases h1 : t ∈ ps
  · rw [if_pos h1, if_pos h1]; exact FY bud fl ts B _ _
  · rw [if_neg h1, if_neg h1]
    by_cases h2 : bud ≤ (ps.length : Int)
    · rw [if_pos h2, if_pos h2]; exact (if_neg (by simp)).symm
    · rw [if_neg h2, if_neg h2]
      by_cases h3 : 4096 ≤ ps.length
      · rw [if_pos h3, if_pos h3]; exact (if_neg (by simp)).symm
      · rw [if_neg h3, if_neg h3]; exact FY bud fl ts B _ _
theorem K5 {L : List Aa} (h : Fc L) : L.Nodup := by
 refine List.Pairwise.imp ?_ h
 intro a b q e
 subst e
 simp [C4] at q
theorem DS (A B : List Aa) : (A7 A).length ≤ (A7 (A ++ B)).length := CI (K5 (AZ A)) (fun _t ht => (AY _ _).2 (List.mem_append_left _ ((AY _ _).1 ht)))
theorem EH (bud : Int) (T : Aq → Nat → List Aq) (m : Nat) (hb : 4096 < bud) : ∀ (k : Nat) (ps : List Aq) (raw : List Aa) (i s : Nat), ps.length ≤ 4096 → 65536 < (A7 raw).length → (Bb bud T m k ps raw i s).1 = 8 ∨ ((Bb bud T m k ps raw i s).1 = 0 ∧ 65536 < (A7 (Bb bud T m k ps raw i s).2.2).length)
 | 0, ps, raw, i, s, _, h => by rw [Bb]; exact .inr ⟨rfl, h⟩
 | k + 1, ps, raw, i, s, hp, h => by
  rw [Bb]
  cases hx : ps[i]? with
  | none => exact .inr ⟨rfl, h⟩
  | some x =>
   simp only
   by_cases hs : s < m
   · rw [if_pos hs]
     by_cases he : (Af bud false ps (T x s) []).1 = 0
     · rw [if_pos he]
       exact EH bud T m hb k _ _ _ _ (Ch _ _ _ _ _ hp) (Nat.lt_of_lt_of_le h (DS _ _))
     · rw [if_neg he]
       rcases Hm bud false (T x s) ps [] with q | q | q
       · exact absurd q he
       · exact .inl q
       · have := q.2 hp; omega
   · rw [if_neg hs]
     exact EH bud T m hb k _ _ _ _ hp h
theorem LB {raw : List Aa} {i s : Nat} (h : ∀ e ∈ raw, e.1 < (i : Int) ∨ (e.1 = (i : Int) ∧ e.2.1 < (s : Int))) (ns : List Int) : A7 (raw ++ Bp i s ns) = Bm (A7 raw) (i : Int) (s : Int) (A5 ns) := by
 refine II _ _ (AZ _) ?_ (fun e => ?_)
 · unfold Bm
   refine List.pairwise_append.2 ⟨AZ _, ?_, ?_⟩
   · refine List.pairwise_map.2 ((Ba ns).imp ?_)
     intro a b q
     simp [C4, q]
   · intro a ha b hb
     obtain ⟨n, _, rfl⟩ := List.mem_map.1 hb
     have q := h a ((AY _ _).1 ha)
     unfold C4
     rw [decide_eq_true_eq]
     simp only
     omega
 · unfold Bm Bp
   rw [AY, List.mem_append, List.mem_append, AY, List.mem_map, List.mem_map]
   simp only [BN]
def Ip (r : Int × List Aq × List Aa) : Int × List Aq × List Aa := if r.1 = 0 then (if 65536 < (A7 r.2.2).length then (8, [], []) else (0, r.2.1, A7 r.2.2)) else (r.1, [], [])
def BA (bud : Int) (T : Aq → Nat → List Aq) (m : Nat) (ps0 : List Aq) : Int × List Aq × List Aa := Ip (Bb bud T m (4098 * (m + 1)) ps0 [] 0 0)
structure Gi (bud : Int) (T : Aq → Nat → List Aq) (m N1 N2 : Nat) (ps0 ps : List Aq) (es : List Aa) (i s : Nat) : Prop where
 nd : ps.Nodup
 bd : ∀ x ∈ ps, ∃ p q : Nat, x = ((p : Int), (q : Int)) ∧ p < N1 ∧ q < N2
 le : es.length ≤ 73728
 fn : ∃ raw, Bb bud T m (4098 * (m + 1)) ps0 [] 0 0 = Bb bud T m (4098 * (m + 1) - (i * (m + 1) + s)) ps raw i s ∧ (es = A7 raw ∨ (65536 < es.length ∧ 65536 < (A7 raw).length)) ∧ ∀ e ∈ raw, e.1 < (i : Int) ∨ (e.1 = (i : Int) ∧ e.2.1 < (s : Int))
theorem BP {m i s : Nat} (hi : i ≤ 4096) (hs : s ≤ m) : 4098 * (m + 1) - (i * (m + 1) + s) = (4098 * (m + 1) - (i * (m + 1) + (s + 1))) + 1 := by
 have h := Nat.mul_le_mul_right (m + 1) (show i + 1 ≤ 4098 by omega)
 rw [Nat.add_mul, Nat.one_mul] at h
 have h2 := Nat.mul_le_mul_right (m + 1) (show i + 2 ≤ 4098 by omega)
 rw [Nat.add_mul] at h2
 omega
section
variable {bud : Int} {T : Aq → Nat → List Aq} {m N1 N2 : Nat} {ps0 ps ps' : List Aq} {es : List Aa} {i s : Nat} {ns : List Int}
theorem Gi.sym (h : Gi bud T m N1 N2 ps0 ps es i s) (hi : i < ps.length) (hp : ps.length ≤ 4096) (hs : s < m) (hb : ∀ t ∈ T ps[i] s, ∃ p q : Nat, t = ((p : Int), (q : Int)) ∧ p < N1 ∧ q < N2) (he : Af bud (decide (65536 < es.length)) ps (T ps[i] s) [] = (0, ps', ns)) (hn : ns.length ≤ 8192) : Gi bud T m N1 N2 ps0 ps' (Bm es (i : Int) (s : Int) (A5 ns)) i (s + 1) := by
 obtain ⟨⟨x, hx⟩, k2, k3, k4, k5⟩ := AQ _ _ _ _ _ _ _ _ he h.nd
 obtain ⟨raw, f1, f2, f3⟩ := h.fn
 have hI : ps[i]? = some ps[i] := List.getElem?_eq_getElem hi
 have hq := B9 ns
 refine ⟨k2, fun y hy => (k3 y hy).elim (h.bd y) (hb y), ?_, ?_⟩
 · rw [Ep]
   have q2 := h.le
   by_cases hf : 65536 < es.length
   · have := k5 (by rw [decide_eq_true hf])
     subst this
     rw [List.length_nil] at hq
     omega
   · omega
 · by_cases hf : 65536 < es.length
   · have hns := k5 (by rw [decide_eq_true hf])
     subst hns
     rw [decide_eq_true hf] at he
     have m1 := DA bud (T ps[i] s) ps [] []
     rw [he] at m1
     obtain ⟨ns2, hns2⟩ : ∃ n, (Af bud false ps (T ps[i] s) []).2.2 = n := ⟨_, rfl⟩
     have he2 : Af bud false ps (T ps[i] s) [] = (0, ps', ns2) := Prod.ext m1.1.symm (Prod.ext m1.2.symm hns2)
     refine ⟨raw ++ Bp i s ns2, ?_, .inr ⟨?_, ?_⟩, ?_⟩
     · rw [f1, BP (by omega) (by omega), FP hI hs he2]
     · rw [Ep]; omega
     · refine Nat.lt_of_lt_of_le ?_ (DS _ _)
       rcases f2 with e | e
       · rw [← e]; exact hf
       · exact e.2
     · intro e he
       rcases List.mem_append.1 he with he | he
       · rcases f3 e he with q | q
         · exact .inl q
         · exact .inr ⟨q.1, by omega⟩
       · obtain ⟨n, _, rfl⟩ := List.mem_map.1 he
         exact .inr ⟨rfl, by simp only; omega⟩
   · rw [decide_eq_false hf] at he
     refine ⟨raw ++ Bp i s ns, ?_, .inl ?_, ?_⟩
     · rw [f1, BP (by omega) (by omega), FP hI hs he]
     · rw [LB f3]
       rcases f2 with e | e
       · rw [e]
       · omega
     · intro e he
       rcases List.mem_append.1 he with he | he
       · rcases f3 e he with q | q
         · exact .inl q
         · exact .inr ⟨q.1, by omega⟩
       · obtain ⟨n, _, rfl⟩ := List.mem_map.1 he
         exact .inr ⟨rfl, by simp only; omega⟩
theorem Gi.err {er : Int} (h : Gi bud T m N1 N2 ps0 ps es i s) (hi : i < ps.length) (hp : ps.length ≤ 4096) (hs : s < m) (h0 : er ≠ 0) (he : Af bud (decide (65536 < es.length)) ps (T ps[i] s) [] = (er, ps', ns)) : BA bud T m ps0 = (er, [], []) := by
 obtain ⟨raw, f1, f2, f3⟩ := h.fn
 have hI : ps[i]? = some ps[i] := List.getElem?_eq_getElem hi
 obtain ⟨n2, q⟩ : ∃ n2, Af bud false ps (T ps[i] s) [] = (er, ps', n2) := by
  cases hf : decide (65536 < es.length) with
  | false => rw [hf] at he; exact ⟨_, he⟩
  | true =>
   rw [hf] at he
   have m1 := DA bud (T ps[i] s) ps [] []
   rw [he] at m1
   exact ⟨(Af bud false ps (T ps[i] s) []).2.2, Prod.ext m1.1.symm (Prod.ext m1.2.symm rfl)⟩
 unfold BA
 rw [f1, BP (by omega) (by omega), IN hI hs h0 q]
 exact if_neg h0
theorem Gi.lost (h : Gi bud T m N1 N2 ps0 ps es i s) (hf : 65536 < es.length) (hb : 4096 < bud) (hp : ps.length ≤ 4096) : BA bud T m ps0 = (8, [], []) := by
 obtain ⟨raw, f1, f2, f3⟩ := h.fn
 have q := EH bud T m hb (4098 * (m + 1) - (i * (m + 1) + s)) ps raw i s hp (by
  rcases f2 with e | e
  · rw [← e]; exact hf
  · exact e.2)
 unfold BA Ip
 rw [f1]
 rcases q with q | q
 · rw [if_neg (by rw [q]; decide), q]
 · rw [if_pos q.1, if_pos q.2]
theorem Gi.next (h : Gi bud T m N1 N2 ps0 ps es i m) (hi : i < ps.length) (hp : ps.length ≤ 4096) : Gi bud T m N1 N2 ps0 ps es (i + 1) 0 := by
 obtain ⟨raw, f1, f2, f3⟩ := h.fn
 refine ⟨h.nd, h.bd, h.le, raw, ?_, f2, fun e he => ?_⟩
 · rw [f1, BP (by omega) (Nat.le_refl _), GC (List.getElem?_eq_getElem hi)]
   congr 2
   rw [Nat.add_mul]
   omega
 · have := f3 e he
   omega
theorem Gi.fin (h : Gi bud T m N1 N2 ps0 ps es ps.length 0) (hp : ps.length ≤ 4096) (hl : es.length ≤ 65536) : BA bud T m ps0 = (0, ps, es) := by
 obtain ⟨raw, f1, f2, f3⟩ := h.fn
 unfold BA Ip
 rw [f1, BP hp (Nat.zero_le _), Gc, if_pos rfl]
 rcases f2 with e | e
 · subst e
   simp only
   rw [if_neg (by omega)]
 · omega
theorem Gi.full (h : Gi bud T m N1 N2 ps0 ps es ps.length 0) (hp : ps.length ≤ 4096) (hl : 65536 < es.length) : BA bud T m ps0 = (8, [], []) := by
 obtain ⟨raw, f1, f2, f3⟩ := h.fn
 unfold BA Ip
 rw [f1, BP hp (Nat.zero_le _), Gc, if_pos rfl]
 simp only
 rw [if_pos]
 rcases f2 with e | e
 · rw [← e]; exact hl
 · exact e.2
theorem Gi.start {T0 : List Aq} (he : Af bud false [] T0 [] = (0, ps, ns)) (ho : ∀ t ∈ T0, ∃ p q : Nat, t = ((p : Int), (q : Int)) ∧ p < N1 ∧ q < N2) : Gi bud T m N1 N2 ps ps [] 0 0 := by
 obtain ⟨_, k2, k3, _, _⟩ := AQ _ _ _ _ _ _ _ _ he List.nodup_nil
 refine ⟨k2, fun x hx => ?_, by simp, [], by simp, .inl ?_, fun e he => by simp at he⟩
 · rcases k3 x hx with e | e
   · simp at e
   · exact ho x e
 · exact (List.eq_nil_iff_forall_not_mem.2 (fun x hx => by rw [AY] at hx; simp at hx)).symm
end
def Cq (E1 E2 : List Aa) (x : Aq) (s : Nat) : List Aq := Az (B5 (Ar E1 x.1.toNat (s : Int))) (B5 (Ar E2 x.2.toNat (s : Int)))
def Cr (E1 E2 : List Aa) (x : Aq) (s : Nat) : List Aq := C7 (B5 (Ar E1 x.1.toNat (s : Int))) (B5 (Ar E2 x.2.toNat (s : Int))) x.1 x.2
theorem Lg {E1 E2 : List Aa} {N1 N2 m p q s : Nat} (h1 : EY N1 m E1) (h2 : EY N2 m E2) (hp : p < N1) (hq : q < N2) : ∀ t ∈ C7 (B5 (Ar E1 p (s : Int))) (B5 (Ar E2 q (s : Int))) (p : Int) (q : Int), ∃ p q : Nat, t = ((p : Int), (q : Int)) ∧ p < N1 ∧ q < N2 := fun _t ht => OR h1 h2 ⟨p, q, rfl, hp, hq⟩ (Nj.1 ht)
theorem Nn {X Y : List Int} {t : Aq} : t ∈ Az X Y ↔ t.1 ∈ X ∧ t.2 ∈ Y := by
 unfold Az
 rw [List.mem_flatMap]
 constructor
 · rintro ⟨a, ha, h⟩
   obtain ⟨b, hb, rfl⟩ := List.mem_map.1 h
   exact ⟨ha, hb⟩
 · rintro ⟨h1, h2⟩
   exact ⟨t.1, h1, List.mem_map.2 ⟨t.2, h2, rfl⟩⟩
theorem LY {E : List Aa} {N m p s : Nat} (h : EY N m E) {x : Int} (hx : x ∈ B5 (Ar E p (s : Int))) : ∃ q : Nat, x = (q : Int) ∧ q < N := by
 obtain ⟨l1, l2⟩ := h.tt _ (Dy.1 hx)
 obtain ⟨r, hr⟩ := Int.eq_ofNat_of_zero_le l1
 simp only at hr l2
 exact ⟨r, hr, by omega⟩
theorem LG {E1 E2 : List Aa} {N1 N2 m p q s : Nat} (h1 : EY N1 m E1) (h2 : EY N2 m E2) : ∀ t ∈ Az (B5 (Ar E1 p (s : Int))) (B5 (Ar E2 q (s : Int))), ∃ p q : Nat, t = ((p : Int), (q : Int)) ∧ p < N1 ∧ q < N2 := fun t ht => by
 obtain ⟨a, b⟩ := Nn.1 ht
 obtain ⟨p, e1, g1⟩ := LY h1 a
 obtain ⟨q, e2, g2⟩ := LY h2 b
 exact ⟨p, q, Prod.ext e1 e2, g1, g2⟩
theorem LN {X Y : List Int} (d1 : X.Nodup) (d2 : Y.Nodup) : (Az X Y).Nodup := by
 unfold Az List.Nodup
 rw [List.pairwise_flatMap]
 refine ⟨fun a _ => List.pairwise_map.2 (d2.imp fun hne e => hne (Prod.mk.inj e).2), d1.imp fun hne x hx y hy e => ?_⟩
 obtain ⟨u, _, rfl⟩ := List.mem_map.1 hx
 obtain ⟨v, _, rfl⟩ := List.mem_map.1 hy
 exact hne (Prod.mk.inj e).1
theorem LC {E1 E2 : List Aa} {N1 N2 m : Nat} (h1 : EY N1 m E1) (h2 : EY N2 m E2) (p q s : Nat) : (Az (B5 (Ar E1 p (s : Int))) (B5 (Ar E2 q (s : Int)))).Nodup := LN (BM h1.ss p s) (BM h2.ss q s)
end Go.Proofs.YtchoopnjckcohaaGreat
namespace Go.Proofs.YtchoopnjckcohaaGreat
open Tryz
open Go.RowKit Go.Maps Go.Shelf
attribute [local go_sem] Oper.semAt_some
structure Kk (w : World) (D b bm kv : Nat) (f : Value) (bud : Int) (T : Aq → Nat → List Aq) (m N1 N2 : Nat) (ps0 : List Aq) (i s : Nat) (vp ve vn : Value) (ps : List Aq) (es : List Aa) (nn : Nat) (xn : List Value) (W : World) : Prop where
 ss : SS D W b bm f bud vp ve vn ps es nn xn
 on : Ab w W (fun k => k = b ∨ k = bm ∨ (D ≤ k ∧ k ≠ kv))
 rn : Gi bud T m N1 N2 ps0 ps es i s
 pl : ps.length ≤ 4096
 nv : (∀ k, vp.ownBlock = some k → k ≠ kv) ∧ (∀ k, ve.ownBlock = some k → k ≠ kv) ∧ ∀ k, vn.ownBlock = some k → k ≠ kv
def Q2 (w : World) (D b bm kv : Nat) (f : Value) (bud : Int) (T : Aq → Nat → List Aq) (m N1 N2 : Nat) (ps0 : List Aq) (er : Int) (W : World) : Prop := (er ≠ 0 ∧ BA bud T m ps0 = (er, [], []) ∧ Ab w W (fun k => k = b ∨ k = bm ∨ (D ≤ k ∧ k ≠ kv))) ∨ (er = 0 ∧ ∃ vp ve vn ps es nn xn, Kk w D b bm kv f bud T m N1 N2 ps0 ps.length 0 vp ve vn ps es nn xn W ∧ es.length ≤ 65536)
theorem Pu (w : World) (D b bm kv b1 b2 B1 B2 m N1 N2 : Nat) (E1 E2 : List Aa) (a1 a2 : Option Addr) (c1 c2 g1 g2 : Nat) (bud : Int) (vp ve vn : Value) (ps : List Aq) (es : List Aa) (nn : Nat) (xn : List Value) (h : Hid (Kk w D b bm kv (.func (.func 39) #[] #[.pointer (some ⟨b1, 0, none⟩), .pointer (some ⟨b2, 0, none⟩)]) bud (Cr E1 E2) m N1 N2 ps 0 0 vp ve vn ps es nn xn w)) (hD : Hid (b < D ∧ bm < D ∧ D ≤ w.heap.size)) (hkv : kv < w.heap.size)
 (hR1 : Hid (Gd (fun k => k < D ∧ k ≠ b ∧ k ≠ bm) w b1 B1 m (N1 * m) E1 a1 c1 g1)) (hR2 : Hid (Gd (fun k => k < D ∧ k ≠ b ∧ k ≠ bm) w b2 B2 m (N2 * m) E2 a2 c2 g2)) (hq : Hid (EY N1 m E1 ∧ EY N2 m E2)) :
 Calls prog 36 #[.pointer (some ⟨b, 0, none⟩), .int .i64 (m : Int)] w fun e w' => ∃ er, e = .returned (.int .i64 er) ∧ Hid (Q2 w D b bm kv (.func (.func 39) #[] #[.pointer (some ⟨b1, 0, none⟩), .pointer (some ⟨b2, 0, none⟩)]) bud (Cr E1 E2) m N1 N2 ps er w') := by
 obtain ⟨M4, hM4⟩ : ∃ M : Nat, 4096 ≤ M := ⟨4096, Nat.le_refl _⟩
 have hm := hq.out.1.hm
 go_enter func36, ntmps36
 go_wp2_with fail
 go_loopw [5] (fun fv wr => ∃ (i : Nat) (vp ve vn : Value) (ps' : List Aq) (es' : List Aa) (nn : Nat) (xn : List Value), i ≤ ps'.length ∧ fv = .int .i64 (i : Int) ∧ Hid (Kk w D b bm kv (.func (.func 39) #[] #[.pointer (some ⟨b1, 0, none⟩), .pointer (some ⟨b2, 0, none⟩)]) bud (Cr E1 E2) m N1 N2 ps i 0 vp ve vn ps' es' nn xn wr)) (fun fv _ => M4 - (intOf fv).toNat)
 case atStart => exact ⟨0, vp, ve, vn, ps, es, nn, xn, Nat.zero_le _, rfl, h⟩
 case round =>
  rename World => wo
  obtain ⟨i, vp', ve', vn', ps', es', nn', xn', hi, rfl, HS⟩ := hrel
  obtain ⟨ap, cp, hv⟩ := A8 HS.out.ss.po
  have c3 : wo.cell? ⟨b, 3, none⟩ = some (.slice ap ps'.length cp) := by rw [← hv]; exact A1 HS.out.ss.bx rfl
  clear hv
  have hpl := HS.out.pl
  by_cases hlt : i < ps'.length
  · have i1 : (i : Int) < (ps'.length : Int) := by omega
    go_wp2_with fail
    clear c3 i1
    go_loopw [18] (fun sv wr => ∃ (s : Nat) (vp ve vn : Value) (ps2 : List Aq) (es2 : List Aa) (nn : Nat) (xn : List Value), s ≤ m ∧ i < ps2.length ∧ sv = .int .i64 (s : Int) ∧ Hid (Kk w D b bm kv (.func (.func 39) #[] #[.pointer (some ⟨b1, 0, none⟩), .pointer (some ⟨b2, 0, none⟩)]) bud (Cr E1 E2) m N1 N2 ps i s vp ve vn ps2 es2 nn xn wr)) (fun sv _ => m - (intOf sv).toNat)
    case atStart => exact ⟨0, vp', ve', vn', ps', es', nn', xn', Nat.zero_le _, hlt, rfl, HS⟩
    case round =>
     obtain ⟨s, vp2, ve2, vn2, ps2, es2, nn2, xn2, hs, hi2, rfl, HY⟩ := hrel
     clear HS hlt
     by_cases hsm : s < m
     · have s1 : (s : Int) < (m : Int) := by omega
       obtain ⟨p, q, hpq, hp, hq2⟩ := HY.out.rn.bd _ (List.getElem_mem hi2)
       have HBD := A0 (Lg (s := s) hq.out.1 hq.out.2 hp hq2)
       have TF := J6 wr D b bm kv b1 b2 B1 B2 m (N1 * m) (N2 * m) E1 E2 a1 a2 c1 c2 g1 g2 i p q s bud vp2 ve2 vn2 ps2 es2 nn2 xn2 (A0 HY.out.ss) (A0 ⟨hD.out.1, hD.out.2.1, Nat.le_trans hD.out.2.2 HY.out.on.size⟩) hi2 (A0 hpq) HY.out.pl (A0 ⟨Nat.lt_of_lt_of_le hkv HY.out.on.size, HY.out.nv⟩) (A0 (hR1.out.kp (Bu.ofOnly HY.out.on (fun k h1 h2 => by omega)))) (A0 (hR2.out.kp (Bu.ofOnly HY.out.on (fun k h1 h2 => by omega)))) (A0 (hq.out.1.rq hp hsm)) (A0 (hq.out.2.rq hq2 hsm)) (A0 (fun t ht => Fl hq.out.1.hN hq.out.2.hN (HBD.out t ht))) (A0 (OI hq.out.1 hq.out.2 p q s)) (by have := HY.out.rn.le; omega)
       have HPQ := A0 hpq
       clear hpq hp hq2
       go_upto_region 8 with (go_at_call 59; refine TF.mono ?_; rintro e w3 ⟨er, vp3, ve3, vn3, ps3, ns, nn3, xn3, rfl, HF⟩)
       clear TF
       by_cases he : er = 0
       · subst he
         have HN : Hid (Kk w D b bm kv (.func (.func 39) #[] #[.pointer (some ⟨b1, 0, none⟩), .pointer (some ⟨b2, 0, none⟩)]) bud (Cr E1 E2) m N1 N2 ps i (s + 1) vp3 ve3 vn3 ps3 (Bm es2 (i : Int) (s : Int) (A5 ns)) nn3 xn3 w3 ∧ i < ps3.length) := A0 (by
          have q1 := HF.out
          have q2 := q1.ss
          rw [if_pos rfl] at q2
          refine ⟨⟨q2, HY.out.on.trans (q1.on), HY.out.rn.sym hi2 HY.out.pl hsm (by rw [HPQ.out]; exact HBD.out) (by rw [HPQ.out]; exact q1.eq) (q1.nl rfl), q1.pl, q1.nv⟩, ?_⟩
          obtain ⟨⟨x, hx⟩, _⟩ := AQ _ _ _ _ _ _ _ _ q1.eq HY.out.rn.nd
          rw [hx, List.length_append]
          omega)
         go_wp2_with fail
         exact ⟨⟨s + 1, vp3, ve3, vn3, ps3, _, nn3, xn3, hsm, HN.out.2, by go_num, A0 HN.out.1⟩, by simp [intOf]; omega⟩
       · have HN := A0 (HY.out.on.trans HF.out.on)
         go_wp2_with fail
         go_ret
         exact ⟨er, rfl, A0 (.inl ⟨he, HY.out.rn.err hi2 HY.out.pl hsm he (by rw [HPQ.out]; exact HF.out.eq), HN.out⟩)⟩
     · have s1 : ¬ (s : Int) < (m : Int) := by omega
       obtain rfl : s = m := by omega
       have TL := I9 wr D b bm (.func (.func 39) #[] #[.pointer (some ⟨b1, 0, none⟩), .pointer (some ⟨b2, 0, none⟩)]) bud vp2 ve2 vn2 ps2 es2 nn2 xn2 (A0 HY.out.ss)
       by_cases hL : 65536 < es2.length ∧ 4096 < bud
       · rw [decide_eq_true hL] at TL
         have HLL := A0 hL
         clear hL
         go_wp2_with (go_at_call 60; refine TL.mono ?_; rintro e w3 ⟨rfl, hw⟩; obtain rfl := hw.symm; clear hw)
         go_ret
         exact ⟨8, rfl, A0 (.inl ⟨by decide, HY.out.rn.lost HLL.out.1 HLL.out.2 HY.out.pl, HY.out.on⟩)⟩
       · rw [decide_eq_false hL] at TL
         clear hL
         have hpl2 := HY.out.pl
         go_wp2_with (go_at_call 60; refine TL.mono ?_; rintro e w3 ⟨rfl, hw⟩; obtain rfl := hw.symm; clear hw)
         exact ⟨⟨i + 1, vp2, ve2, vn2, ps2, es2, nn2, xn2, hi2, by go_num, A0 ⟨HY.out.ss, HY.out.on, HY.out.rn.next hi2 HY.out.pl, HY.out.pl, HY.out.nv⟩⟩, by simp [intOf]; omega⟩
  · have i1 : ¬ (i : Int) < (ps'.length : Int) := by omega
    have HE : Hid (i = ps'.length) := A0 (by omega)
    have TL := Cz wo D b bm (.func (.func 39) #[] #[.pointer (some ⟨b1, 0, none⟩), .pointer (some ⟨b2, 0, none⟩)]) bud vp' ve' vn' ps' es' nn' xn' (A0 HS.out.ss)
    by_cases hL : 65536 < es'.length
    · rw [decide_eq_true hL] at TL
      have HLL := A0 hL
      clear hL
      go_wp2_with (go_at_call 61; refine TL.mono ?_; rintro e w3 ⟨rfl, hw⟩; obtain rfl := hw.symm; clear hw)
      go_ret
      exact ⟨8, rfl, A0 (.inl ⟨by decide, Gi.full (by rw [← HE.out]; exact HS.out.rn) HS.out.pl HLL.out, HS.out.on⟩)⟩
    · rw [decide_eq_false hL] at TL
      have HL := A0 hL
      clear hL
      go_wp2_with (go_at_call 61; refine TL.mono ?_; rintro e w3 ⟨rfl, hw⟩; obtain rfl := hw.symm; clear hw)
      go_ret
      exact ⟨0, rfl, A0 (.inr ⟨rfl, vp', ve', vn', ps', es', nn', xn', by rw [← HE.out]; exact HS.out, by have := HL.out; omega⟩)⟩
theorem Il {ops : Array Oper} {rest : List Oper} {o : Oper} {a : Act} {Q : Exit → Act → World → Prop} {w : World} (hgd : o.guard = none) (s x : Operand)
 (ho : o.op = .call { callee := .builtin .append, args := #[s, x], argTypes := #[22, 22] }) (B : Nat) (v : Value) (X : List Int) (hs : a.eval s = v) (hown : w.ownsRow B 3 1 v X.length (X.map (Value.int .i64))) (p : Nat) (y : Int) (hx : a.eval x = .slice (some ⟨p, 0, none⟩) 1 1) (hp : w.heap[p]? = some (.cells #[.int .i64 y] 3 (0, 0))) (hl : X.length ≤ 16777216) (hB : B ≤ w.heap.size)
 (h : ∀ v' w', Hid (w'.ownsRow B 3 1 v' (X ++ [y]).length ((X ++ [y]).map (Value.int .i64))) → Hid (Ab w w' (fun k => v.ownBlock = some k)) → wpList prog ops Q rest (a.put o.dst v') w') : wpList prog ops Q (o :: rest) a w := by
 obtain ⟨i3, hi3, hz30, hz31, hz32⟩ := AA Et
 refine wpList_append_own_at _ hgd s x 22 ho B 3 i3 _ 1 8 underlying22 hi3 hz30 hz31 hz32 rfl (by omega) v X.length (X.map (Value.int .i64)) hs hown ⟨p, 0, none⟩ 1 1 [.int .i64 y] hx rfl (EF hp) (by simp [Value.oneCell']) (by unfold maxLen; omega) (by omega) (by omega) ?_
 intro v2 w2 h2 hgr _ _
 exact h v2 w2 (A0 (by rw [List.map_append, List.length_append]; exact h2)) (A0 (AL hgr))
def Qb (D b bm : Nat) (f : Value) (bud : Int) (vp ve vn : Value) (ps : List Aq) (es : List Aa) (ns : List Int) (nn : Nat) (xn : List Value) (t : Aq) (num er : Int) (W W' : World) : Prop := (er = 0 ∧ ∃ vp2 ps2, Py D b bm f bud false vp ve vn ps es ns nn xn t num vp2 ps2 W W') ∨ (er ≠ 0 ∧ (∀ ts, Af bud false ps (t :: ts) ns = (er, ps, ns)) ∧ Below W.heap.size W W')
theorem Oj (w : World) (D b bm : Nat) (f : Value) (bud : Int) (vp ve vn : Value) (ps : List Aq) (es : List Aa) (ns : List Int) (nn : Nat) (xn : List Value) (p r : Int) (h : Hid (SS D w b bm f bud vp ve vn ps es nn xn)) (hok : Hid (DV (p, r))) (hbD : Hid (b < D ∧ D ≤ w.heap.size)) (hl : ps.length ≤ 4096) :
 Calls prog 58 #[.pointer (some ⟨b, 0, none⟩), .agg #[.int .i64 p, .int .i64 r]] w fun e w' => ∃ num er, e = .returned (.tuple #[.int .i64 num, .int .i64 er]) ∧ Hid (Qb D b bm f bud vp ve vn ps es ns nn xn (p, r) num er w w') := by
 refine (Ji w D b bm f bud false vp ve vn ps es ns nn xn (p, r) h hok hbD hl).mono ?_
 rintro e w' (⟨num, vp2, ps2, rfl, HM⟩ | ⟨er, rfl, he, HM⟩)
 · exact ⟨num, 0, rfl, A0 (.inl ⟨rfl, vp2, ps2, HM.out⟩)⟩
 · exact ⟨0, er, rfl, A0 (.inr ⟨by omega, HM.out.1, HM.out.2⟩)⟩
structure NJ (w : World) (D b bm : Nat) (f : Value) (bud : Int) (T : List Aq) (k : Nat) (v vp : Value) (ps : List Aq) (ns : List Int) (W : World) : Prop where
 eq : Af bud false [] T [] = Af bud false ps (T.drop k) ns
 ss : SS D W b bm f bud vp (.slice none 0 0) (.slice none 0 0) ps [] 0 []
 ow : W.ownsRow w.heap.size 3 1 v ns.length (ns.map (Value.int .i64))
 on : Ab w W (fun k => k = b ∨ k = bm ∨ D ≤ k)
 pl : ps.length ≤ 4096
 le : ns.length ≤ k
theorem LH {w : World} {D b bm : Nat} {f : Value} {bud : Int} {T : List Aq} {k : Nat} {v vp v5 vp2 : Value} {ps ps2 : List Aq} {ns : List Int} {W W1 Wa w5 : World} {t : Aq} {num : Int} (h : NJ w D b bm f bud T k v vp ps ns W) (hD : b < D ∧ bm < D ∧ D ≤ w.heap.size) (hk : k < T.length) (ht : T[k] = t) (a : Py D b bm f bud false vp (.slice none 0 0) (.slice none 0 0) ps [] ns 0 [] t num vp2 ps2 W W1) (d : Below W1.heap.size W1 Wa) (o : w5.ownsRow w.heap.size 3 1 v5 (ns ++ [num]).length ((ns ++ [num]).map (Value.int .i64))) (oo : Ab Wa w5 (fun k => v.ownBlock = some k)) : NJ w D b bm f bud T (k + 1) v5 vp2 ps2 (ns ++ [num]) w5 := by
 have hv := fun k e => (h.ow.lt k e).1
 have o1 : Ab W1 w5 (fun k => v.ownBlock = some k) := (Ab.ofBelow d).trans oo
 have v1 := A9 h.ow a.on (fun k hk e => by
  have := hv k hk
  rcases e with e | e | e
  · omega
  · omega
  · exact Ai h.ss.po h.ow (by decide) e hk)
 refine ⟨?_, a.ss.onlyR o1 (fun e => by have := hv _ e; omega) (fun e => by have := hv _ e; omega) (fun k hk e => Ai a.ss.po v1 (by decide) hk e) (fun k hk => by cases hk) (fun k hk => by cases hk), o, ?_, a.pl, by simp; have := h.le; omega⟩
 · rw [h.eq, List.drop_eq_getElem_cons hk, ht, a.eq]
   rfl
 · refine h.on.trans ((a.on.mono (fun k _ e => ?_)).trans (o1.mono (fun k _ e => ?_)))
   · rcases e with e | e | e
     · exact .inl e
     · exact .inr (.inl e)
     · exact .inr (.inr (h.ss.po.lt k e).1)
   · have := hv k e
     exact .inr (.inr (by omega))
def PK (w : World) (D b bm : Nat) (f : Value) (bud : Int) (T : List Aq) (v : Value) (er : Int) (W : World) : Prop := (er ≠ 0 ∧ (Af bud false [] T []).1 = er ∧ Ab w W (fun k => k = b ∨ k = bm ∨ D ≤ k)) ∨ (er = 0 ∧ ∃ vp ps ns, NJ w D b bm f bud T T.length v vp ps ns W ∧ Af bud false [] T [] = (0, ps, ns))
theorem Mx {w W W' : World} {D b bm : Nat} (h : Ab w W (fun k => k = b ∨ k = bm ∨ D ≤ k)) (d : Below W.heap.size W W') : Ab w W' (fun k => k = b ∨ k = bm ∨ D ≤ k) := h.trans (Ab.ofBelow d)
theorem PK.on {w : World} {D b bm : Nat} {f : Value} {bud : Int} {T : List Aq} {v : Value} {er : Int} {W : World} (h : PK w D b bm f bud T v er W) : Ab w W (fun k => k = b ∨ k = bm ∨ D ≤ k) := by
 rcases h with ⟨_, _, h⟩ | ⟨_, _, _, _, h, _⟩
 · exact h
 · exact h.on
theorem GK (w : World) (D b bm : Nat) (f : Value) (bud : Int) (a1 a2 : Option Addr) (c1 c2 : Nat) (F1 F2 : List Int) (h : Hid (SS D w b bm f bud (.slice none 0 0) (.slice none 0 0) (.slice none 0 0) [] [] 0 [])) (hD : Hid (b < D ∧ bm < D ∧ D ≤ w.heap.size))
 (hA1 : Hid (∀ W', Bu (fun k => k < D ∧ k ≠ b ∧ k ≠ bm) w W' → BB W' a1 F1)) (hA2 : Hid (∀ W', Bu (fun k => k < D ∧ k ≠ b ∧ k ≠ bm) w W' → BB W' a2 F2)) (hb : Hid (∀ t ∈ Az F1 F2, DV t)) (hl1 : F1.length ≤ 4096) (hl2 : F2.length ≤ 4096) :
 Calls prog 35 #[.pointer (some ⟨b, 0, none⟩), .slice a1 F1.length c1, .slice a2 F2.length c2] w fun e w' => ∃ av nv cv er, e = .returned (.tuple #[.slice av nv cv, .int .i64 er]) ∧ Hid (PK w D b bm f bud (Az F1 F2) (.slice av nv cv) er w') := by
 have HT := A0 (Dl F1 F2)
 have HAT := A0 (Ho F1 F2)
 obtain ⟨T, hT⟩ : ∃ T, Az F1 F2 = T := ⟨_, rfl⟩
 rw [hT] at HT HAT hb ⊢
 clear hT
 obtain ⟨n1, hn1⟩ : ∃ n, F1.length = n := ⟨_, rfl⟩
 obtain ⟨n2, hn2⟩ : ∃ n, F2.length = n := ⟨_, rfl⟩
 rw [hn1, hn2] at HT
 rw [hn1] at hl1 ⊢
 rw [hn2] at hl2 ⊢
 have HN := A0 (And.intro hn1 hn2)
 clear hn1 hn2
 go_enter func35, ntmps35
 go_wp2_with fail
 go_loopw [8, 17] (fun v iv wr => ∃ (i : Nat) (vp : Value) (ps : List Aq) (ns : List Int), i ≤ n1 ∧ iv = .int .i64 (i : Int) ∧ Hid (NJ w D b bm f bud T (i * n2) v vp ps ns wr)) (fun _ iv _ => n1 - (intOf iv).toNat)
 case atStart => exact ⟨0, (.slice none 0 0), [], [], Nat.zero_le _, rfl, A0 ⟨by simp, h.out, by show World.ownsRow _ _ _ _ _ ([] : List Int).length (([] : List Int).map _); exact World.ownsRow_nil _ _ _ _, ⟨rfl, rfl, rfl, Nat.le_refl _, fun _ _ _ => rfl⟩, by simp, by simp⟩⟩
 case round =>
  rename World => wo
  obtain ⟨i, vp, ps, ns, hi, rfl, HS⟩ := hrel
  by_cases hlt : i < n1
  · have i1 : (i : Int) < (n1 : Int) := by omega
    have i0 : (0 : Int) ≤ (i : Int) := by omega
    have hi1 : i < F1.length := by have := HN.out.1; omega
    have q1 := hA1.out wo (Bu.ofOnly HS.out.on (fun k h1 h2 => by omega)) i hi1
    obtain ⟨p, hp⟩ : ∃ p, F1[i] = p := ⟨_, rfl⟩
    rw [hp] at q1
    obtain ⟨g1, o1, ea1, z1⟩ := q1
    subst ea1
    have HP := A0 hp
    clear hp
    go_wp2_with fail
    clear z1 i1 i0
    go_loopw [8, 23] (fun v jv wr => ∃ (j : Nat) (vp : Value) (ps : List Aq) (ns : List Int), j ≤ n2 ∧ jv = .int .i64 (j : Int) ∧ Hid (NJ w D b bm f bud T (i * n2 + j) v vp ps ns wr)) (fun _ jv _ => n2 - (intOf jv).toNat)
    case atStart => exact ⟨0, vp, ps, ns, Nat.zero_le _, rfl, HS⟩
    case round =>
     obtain ⟨j, vp2, ps2, ns2, hj, rfl, HY⟩ := hrel
     clear HS
     by_cases hjl : j < n2
     · have j1 : (j : Int) < (n2 : Int) := by omega
       have j0 : (0 : Int) ≤ (j : Int) := by omega
       have hj1 : j < F2.length := by have := HN.out.2; omega
       have q2 := hA2.out wr (Bu.ofOnly HY.out.on (fun k h1 h2 => by omega)) j hj1
       obtain ⟨r, hr⟩ : ∃ r, F2[j] = r := ⟨_, rfl⟩
       rw [hr] at q2
       obtain ⟨g2, o2, ea2, z2⟩ := q2
       subst ea2
       have HK : Hid (∃ hk : i * n2 + j < T.length, T[i * n2 + j] = (p, r)) := A0 (by
        have e2 := HN.out.2
        subst e2
        have hk : i * F2.length + j < T.length := by
         rw [HT.out]
         have := Nat.mul_le_mul_right F2.length (show i + 1 ≤ n1 from hlt)
         rw [Nat.add_mul, Nat.one_mul] at this
         omega
        exact ⟨hk, by rw [HAT.out i j hi1 hj1 hk, HP.out, hr]⟩)
       clear hr
       have TM := Oj wr D b bm f bud vp2 (.slice none 0 0) (.slice none 0 0) ps2 [] ns2 0 [] p r (A0 HY.out.ss) (A0 (by obtain ⟨hk, e⟩ := HK.out; rw [← e]; exact hb.out _ (List.getElem_mem hk))) (A0 ⟨hD.out.1, Nat.le_trans hD.out.2.2 HY.out.on.size⟩) HY.out.pl
       go_upto_region 9 with (go_at_call 58; refine TM.mono ?_; rintro e w3 ⟨num, er, rfl, HM⟩)
       clear TM z2
       by_cases he : er = 0
       · subst he
         have HM2 : Hid (∃ vp2' ps2', Py D b bm f bud false vp2 (.slice none 0 0) (.slice none 0 0) ps2 [] ns2 0 [] (p, r) num vp2' ps2' wr w3) := A0 (by
          rcases HM.out with ⟨_, q⟩ | ⟨q, _, _⟩
          · exact q
          · exact absurd rfl q)
         have HV : Hid (w3.ownsRow w.heap.size 3 1 u8 ns2.length (ns2.map (Value.int .i64))) := A0 (by
          obtain ⟨vp3, ps3, a⟩ := HM2.out
          exact A9 HY.out.ow a.on (fun k hk e => by
           have := (HY.out.ow.lt k hk).1
           have := hD.out
           rcases e with e | e | e
           · omega
           · omega
           · exact Ai HY.out.ss.po HY.out.ow (by decide) e hk))
         have hln : ns2.length ≤ 16777216 := by
          have := HY.out.le
          have q1 : i * n2 ≤ 4096 * 4096 := Nat.mul_le_mul (by omega) hl2
          have q2 : i * n2 + j ≤ n1 * n2 := by
           have := Nat.mul_le_mul_right n2 (show i + 1 ≤ n1 from hlt)
           rw [Nat.add_mul, Nat.one_mul] at this
           omega
          have q3 : n1 * n2 ≤ 4096 * 4096 := Nat.mul_le_mul hl1 hl2
          omega
         have hwz : w.heap.size ≤ w3.heap.size := Nat.le_trans HY.out.on.size (by obtain ⟨vp3, ps3, a⟩ := HM2.out; exact a.on.size)
         go_wp2_with (at_builtin; refine Il rfl _ _ rfl w.heap.size u8 ns2 rfl (A6 HV.out ((Below.refl _ _).alloc (Nat.le_refl _) _)) w3.heap.size num rfl (World.alloc_heap_new _ _) hln (by simp; omega) ?_; intro v5 w5 HO5 HB5)
         have HN5 : Hid (∃ vp3 ps3, NJ w D b bm f bud T (i * n2 + j + 1) v5 vp3 ps3 (ns2 ++ [num]) w5) := A0 (by
          obtain ⟨vp3, ps3, a⟩ := HM2.out
          obtain ⟨hk, e⟩ := HK.out
          exact ⟨vp3, ps3, LH HY.out hD.out hk e a ((Below.refl _ _).alloc (Nat.le_refl _) _) HO5.out HB5.out⟩)
         clear HO5 HB5 hwz hln
         obtain ⟨vp3, ps3, q⟩ := HN5.out
         exact ⟨⟨j + 1, vp3, ps3, _, hjl, by go_num, A0 q⟩, by simp [intOf]; omega⟩
       · have HN5 : Hid (Ab w w3 (fun k => k = b ∨ k = bm ∨ D ≤ k)) := A0 (by
          rcases HM.out with ⟨q, _⟩ | ⟨_, q⟩
          · exact absurd q he
          · exact Mx HY.out.on q.2)
         go_wp2_with fail
         refine bodyPost_ret (results_tmp2 rfl _ _ _) rfl ?_
         have HE5 : Hid ((Af bud false [] T []).1 = er) := A0 (by
          rcases HM.out with ⟨q, _⟩ | ⟨_, q, _⟩
          · exact absurd q he
          · obtain ⟨hk, e⟩ := HK.out
            rw [HY.out.eq, List.drop_eq_getElem_cons hk, e, q])
         exact ⟨_, _, _, er, rfl, A0 (.inl ⟨he, HE5.out, HN5.out⟩)⟩
     · have j1 : ¬ (j : Int) < (n2 : Int) := by omega
       obtain rfl : j = n2 := by omega
       go_wp2_with fail
       exact ⟨⟨i + 1, vp2, ps2, ns2, hlt, by go_num, A0 (by rw [Nat.add_mul, Nat.one_mul]; exact HY.out)⟩, by simp [intOf]; omega⟩
  · have i1 : ¬ (i : Int) < (n1 : Int) := by omega
    obtain rfl : i = n1 := by omega
    obtain ⟨av, cv, hv⟩ := A8 HS.out.ow
    subst hv
    go_wp2_with fail
    refine bodyPost_ret (results_tmp2 rfl _ _ _) rfl ?_
    refine ⟨_, _, _, 0, rfl, A0 (.inr ⟨rfl, vp, ps, ns, ?_⟩)⟩
    have q := HS.out
    rw [← HT.out] at q
    refine ⟨q, ?_⟩
    rw [q.eq, List.drop_length]
    rfl
theorem C5 {N : Nat} {L : List Int} (h : ∀ x ∈ L, 0 ≤ x ∧ x < (N : Int)) : ∀ x ∈ L, ∃ q : Nat, q < N ∧ x = (q : Int) := fun x hx => ⟨x.toNat, by have := h x hx; omega, by have := h x hx; omega⟩
theorem As {P : Program} {fn : Func} {p q r : Tmp} {ty : TypeId} (h : fn.results = #[.cell p ty, .tmp q, .tmp r]) (tmps : Array Value) (w : World) (g : Nat) (t : TypeId) (cs : Array Value) (fr : Nat × Nat) (d : TypeDesc) (x y : Value)
 (hp : tmps.getD p undef = .pointer (some ⟨g, 0, none⟩)) (hq : tmps.getD q undef = x) (hr : tmps.getD r undef = y) (hg : w.heap[g]? = some (.cells cs t fr))
 (hu : P.underlying ty = some d) (hd : (match d with | .struct _ | .array _ _ => true | _ => false) = true) (hi : (P.info? ty).map (·.size) = some cs.size) :
 (results fn tmps).run P w = .ok (.tuple #[.agg cs, x, y]) w := by
 have hp' : tmps[p]?.getD undef = .pointer (some ⟨g, 0, none⟩) := by simpa using hp
 have hq' : tmps[q]?.getD undef = x := by simpa using hq
 have hr' : tmps[r]?.getD undef = y := by simpa using hr
 simp [results, h, hp', hq', hr', asAddr, run_loadVar_row w g t ty cs fr d hg hu hd hi]
structure FR (B : Nat) (W : World) (m R1 R2 : Nat) (E1 E2 : List Aa) (b1 b2 : Nat) (aX : Option Addr) (cX gX : Nat) (aY : Option Addr) (cY gY : Nat) : Prop where
 h1 : W.heap[b1]? = some (.cells #[.int .i64 (m : Int), .slice aX E1.length cX, .slice (some ⟨gX, 0, none⟩) (R1 + 1) (R1 + 1)] 67 (0, 0))
 h2 : W.heap[b2]? = some (.cells #[.int .i64 (m : Int), .slice aY E2.length cY, .slice (some ⟨gY, 0, none⟩) (R2 + 1) (R2 + 1)] 67 (0, 0))
 r1 : Fs B W m R1 E1 aX E1.length cX gX
 r2 : Fs B W m R2 E2 aY E2.length cY gY
theorem FR.on {B : Nat} {W W' : World} {m R1 R2 : Nat} {E1 E2 : List Aa} {b1 b2 : Nat} {aX : Option Addr} {cX gX : Nat} {aY : Option Addr} {cY gY : Nat} (h : FR B W m R1 R2 E1 E2 b1 b2 aX cX gX aY cY gY) (d : Below W.heap.size W W') : FR B W' m R1 R2 E1 E2 b1 b2 aX cX gX aY cY gY := ⟨A3 h.h1 d, A3 h.h2 d, h.r1.on d, h.r2.on d⟩
theorem CJ {W W' : World} {bm n : Nat} {Dm : DataW Unit} (o : W.ownsMap prog 57 (plainElem prog 3) bm n Dm) (d : Below W.heap.size W W') : W'.ownsMap prog 57 (plainElem prog 3) bm n Dm := BZ o (Ab.ofBelow (R := fun _ => False) d) (fun e => e)
def Pd (B m R : Nat) (E : List Aa) : Ef := fun x _ _ W => ∃ a c g, x = .agg #[.int .i64 (m : Int), .slice a E.length c, .slice (some ⟨g, 0, none⟩) (R + 1) (R + 1)] ∧ Fs B W m R E a E.length c g
theorem Ej {B m R : Nat} {E : List Aa} : B8 (Pd B m R E) := fun _ _ _ _ _ _ d ⟨a, c, g, e, h⟩ => ⟨a, c, g, e, h.on d⟩
def PV (B m R1 R2 : Nat) (E1 E2 : List Aa) : Ef := fun x _ _ W => ∃ b1 b2 aX cX gX aY cY gY, x = (.func (.func 39) #[] #[.pointer (some ⟨b1, 0, none⟩), .pointer (some ⟨b2, 0, none⟩)]) ∧ FR B W m R1 R2 E1 E2 b1 b2 aX cX gX aY cY gY
theorem M9 {B m R1 R2 : Nat} {E1 E2 : List Aa} : B8 (PV B m R1 R2 E1 E2) := fun _ _ _ _ _ _ d ⟨b1, b2, aX, cX, gX, aY, cY, gY, e, h⟩ => ⟨b1, b2, aX, cX, gX, aY, cY, gY, e, h.on d⟩
def PN (B : Nat) : Ef := fun x lo hi W => x = .map (some lo) ∧ B ≤ lo ∧ lo < hi ∧ W.ownsMap prog 57 (plainElem prog 3) lo 0 (.map [] : DataW Unit)
theorem IS {B : Nat} : B8 (PN B) := fun _ _ _ _ _ _ d ⟨e, l, l2, h⟩ => ⟨e, l, l2, CJ h d⟩
def PY (B m R1 R2 : Nat) (E1 E2 : List Aa) (bud : Int) : Ef := fun x _ _ W => ∃ b1 b2 aX cX gX aY cY gY bm, x = .agg #[(.func (.func 39) #[] #[.pointer (some ⟨b1, 0, none⟩), .pointer (some ⟨b2, 0, none⟩)]), .int .i64 bud, .map (some bm), .slice none 0 0, .slice none 0 0, .slice none 0 0] ∧ FR B W m R1 R2 E1 E2 b1 b2 aX cX gX aY cY gY ∧ B ≤ bm ∧ W.ownsMap prog 57 (plainElem prog 3) bm 0 (.map [] : DataW Unit)
theorem Mv {B m R1 R2 : Nat} {E1 E2 : List Aa} {bud : Int} : B8 (PY B m R1 R2 E1 E2 bud) := fun _ _ _ _ _ _ d ⟨b1, b2, aX, cX, gX, aY, cY, gY, bm, e, h, l, o⟩ => ⟨b1, b2, aX, cX, gX, aY, cY, gY, bm, e, h.on d, l, CJ o d⟩
def PQ (B : Nat) : Ef := fun x lo hi W => x = .pointer (some ⟨lo, 0, none⟩) ∧ B ≤ lo ∧ lo < hi ∧ W.heap[lo]? = some (.cells #[.nilFunc, .int .i64 0, .map none, .slice none 0 0, .slice none 0 0, .slice none 0 0] 71 (0, 0))
theorem I7 {B : Nat} : B8 (PQ B) := fun _ _ _ _ _ hs d ⟨e, l, l2, z⟩ => ⟨e, l, l2, (d.block _ (by omega)).trans z⟩
structure Pz (W1 : World) (m R1 R2 : Nat) (E1 E2 : List Aa) (bud : Int) (b bm b1 b2 : Nat) (aX : Option Addr) (cX gX : Nat) (aY : Option Addr) (cY gY : Nat) (W : World) : Prop where
 be : Below W1.heap.size W1 W
 bx : W.heap[b]? = some (.cells #[(.func (.func 39) #[] #[.pointer (some ⟨b1, 0, none⟩), .pointer (some ⟨b2, 0, none⟩)]), .int .i64 bud, .map (some bm), .slice none 0 0, .slice none 0 0, .slice none 0 0] 71 (0, 0))
 mo : W.ownsMap prog 57 (plainElem prog 3) bm 0 (.map [] : DataW Unit)
 tw : FR W1.heap.size W m R1 R2 E1 E2 b1 b2 aX cX gX aY cY gY
 lb : W1.heap.size ≤ b
 lm : W1.heap.size ≤ bm
theorem G2 {W : World} {bm n : Nat} {Dm : DataW Unit} (o : W.ownsMap prog 57 (plainElem prog 3) bm n Dm) {cs : Array Value} {t : TypeId} {fr : Nat × Nat} {k : Nat} (h : W.heap[k]? = some (.cells cs t fr)) : k ≠ bm := by
 rintro rfl
 obtain ⟨es, ck, q1, _⟩ := o
 rw [h] at q1; cases q1
theorem DO {W : World} {g k : Nat} {cs cs' : Array Value} {t t' : TypeId} {fr fr' : Nat × Nat} (h : W.heap[g]? = some (.cells cs t fr)) (h' : W.heap[k]? = some (.cells cs' t' fr')) (ne : t ≠ t') : g ≠ k := by
 rintro rfl
 rw [h] at h'
 cases h'
 exact ne rfl
theorem Ok {W1 W : World} {m R1 R2 : Nat} {E1 E2 : List Aa} {bud : Int} {b bm b1 b2 : Nat} {aX : Option Addr} {cX gX : Nat} {aY : Option Addr} {cY gY : Nat} (d : Below W1.heap.size W1 W) (z : W.heap[b]? = some (.cells #[.nilFunc, .int .i64 0, .map none, .slice none 0 0, .slice none 0 0, .slice none 0 0] 71 (0, 0))) (lb : W1.heap.size ≤ b) (lm : W1.heap.size ≤ bm) (tw : FR W1.heap.size W m R1 R2 E1 E2 b1 b2 aX cX gX aY cY gY) (mo : W.ownsMap prog 57 (plainElem prog 3) bm 0 (.map [] : DataW Unit)) :
 Pz W1 m R1 R2 E1 E2 bud b bm b1 b2 aX cX gX aY cY gY ((((((W.setCell ⟨b, 0, none⟩ (.func (.func 39) #[] #[.pointer (some ⟨b1, 0, none⟩), .pointer (some ⟨b2, 0, none⟩)])).setCell ⟨b, 1, none⟩ (.int .i64 bud)).setCell ⟨b, 2, none⟩ (.map (some bm))).setCell ⟨b, 3, none⟩ (.slice none 0 0)).setCell ⟨b, 4, none⟩ (.slice none 0 0)).setCell ⟨b, 5, none⟩ (.slice none 0 0)) := by
 have s := Pw W b _ _ _ _ _ _ (.func (.func 39) #[] #[.pointer (some ⟨b1, 0, none⟩), .pointer (some ⟨b2, 0, none⟩)]) (.int .i64 bud) (.map (some bm)) (.slice none 0 0) (.slice none 0 0) (.slice none 0 0) 71 z
 have o := NG W b (.func (.func 39) #[] #[.pointer (some ⟨b1, 0, none⟩), .pointer (some ⟨b2, 0, none⟩)]) (.int .i64 bud) (.map (some bm)) (.slice none 0 0) (.slice none 0 0) (.slice none 0 0)
 have rk : ∀ {R : Nat} {E : List Aa} {a : Option Addr} {c g : Nat}, Fs W1.heap.size W m R E a E.length c g → ∀ {W' : World}, Ab W W' (fun k => k = b) → Fs W1.heap.size W' m R E a E.length c g := by
  intro R E a c g h W' o'
  refine ⟨A9 h.ow o' (fun k hk e => ?_), h.fi.only o' (fun e => ?_), h.ge⟩
  · subst e
    rcases h.ow.2 with ⟨e3, _⟩ | ⟨g', cap, cur, e3, _, hg, _⟩
    · rw [e3] at hk; cases hk
    · rw [e3] at hk
      obtain rfl : g' = k := by simpa [Value.ownBlock] using hk
      rw [z] at hg; cases hg
  · obtain ⟨cur, q, _⟩ := h.fi
    rw [e, z] at q; cases q
 exact ⟨d.trans (o.toBelow d.size (fun k e => by omega)), s, BZ mo o (fun e => G2 mo z e.symm), ⟨o.cellK tw.h1 (DO tw.h1 z (by decide)), o.cellK tw.h2 (DO tw.h2 z (by decide)), rk tw.r1 o, rk tw.r2 o⟩, lb, lm⟩
theorem Pz.ss {W1 W W' : World} {m R1 R2 : Nat} {E1 E2 : List Aa} {bud : Int} {b bm b1 b2 : Nat} {aX : Option Addr} {cX gX : Nat} {aY : Option Addr} {cY gY : Nat} (h : Pz W1 m R1 R2 E1 E2 bud b bm b1 b2 aX cX gX aY cY gY W) (d : Below W.heap.size W W') (D : Nat) : SS D W' b bm (.func (.func 39) #[] #[.pointer (some ⟨b1, 0, none⟩), .pointer (some ⟨b2, 0, none⟩)]) bud (.slice none 0 0) (.slice none 0 0) (.slice none 0 0) [] [] 0 [] :=
 ⟨A3 h.bx d, World.ownsRow_nil _ _ _ _, ⟨_, CJ h.mo d, IR I5⟩, World.ownsRow_nil _ _ _ _, World.ownsRow_nil _ _ _ _, by simp, List.nodup_nil⟩
theorem Hy {W W' : World} {D B b bm bx m R : Nat} {E : List Aa} {a : Option Addr} {c g : Nat} {cs : Array Value} (hb : W.heap[b]? = some (.cells cs 71 (0, 0))) (mo : W.ownsMap prog 57 (plainElem prog 3) bm 0 (.map [] : DataW Unit)) (d : Below W.heap.size W W') (hD : W.heap.size ≤ D) (h : W.heap[bx]? = some (.cells #[.int .i64 (m : Int), .slice a E.length c, .slice (some ⟨g, 0, none⟩) (R + 1) (R + 1)] 67 (0, 0))) (r : Fs B W m R E a E.length c g) : Gd (fun k => k < D ∧ k ≠ b ∧ k ≠ bm) W' bx B m R E a c g := by
 have lt : ∀ {k : Nat} {o : Obj}, W.heap[k]? = some o → k < W.heap.size := fun hk => (Array.getElem?_eq_some_iff.1 hk).1
 refine ⟨A3 h d, r.on d, ⟨by have := lt h; omega, DO h hb (by decide), G2 mo h⟩, ?_, ?_⟩
 · obtain ⟨cur, q, _⟩ := r.fi
   exact ⟨by have := lt q; omega, DO q hb (by decide), G2 mo q⟩
 · rintro i o rfl
   rcases r.ow.2 with ⟨e3, _⟩ | ⟨g', cap, cur, e3, _, hg, _⟩
   · cases e3
   · cases e3
     exact ⟨by have := lt hg; omega, DO hg hb (by decide), G2 mo hg⟩
def Pp (B m R1 R2 : Nat) (E1 E2 : List Aa) : Ef := fun x _ _ W => ∃ b1 b2 aX cX gX aY cY gY, x = (.func (.func 69) #[] #[.pointer (some ⟨b1, 0, none⟩), .pointer (some ⟨b2, 0, none⟩)]) ∧ FR B W m R1 R2 E1 E2 b1 b2 aX cX gX aY cY gY
theorem Kv {B m R1 R2 : Nat} {E1 E2 : List Aa} : B8 (Pp B m R1 R2 E1 E2) := fun _ _ _ _ _ _ d ⟨b1, b2, aX, cX, gX, aY, cY, gY, e, h⟩ => ⟨b1, b2, aX, cX, gX, aY, cY, gY, e, h.on d⟩
def Po (B m R1 R2 : Nat) (E1 E2 : List Aa) (bud : Int) : Ef := fun x _ _ W => ∃ b1 b2 aX cX gX aY cY gY bm, x = .agg #[(.func (.func 69) #[] #[.pointer (some ⟨b1, 0, none⟩), .pointer (some ⟨b2, 0, none⟩)]), .int .i64 bud, .map (some bm), .slice none 0 0, .slice none 0 0, .slice none 0 0] ∧ FR B W m R1 R2 E1 E2 b1 b2 aX cX gX aY cY gY ∧ B ≤ bm ∧ W.ownsMap prog 57 (plainElem prog 3) bm 0 (.map [] : DataW Unit)
theorem JY {B m R1 R2 : Nat} {E1 E2 : List Aa} {bud : Int} : B8 (Po B m R1 R2 E1 E2 bud) := fun _ _ _ _ _ _ d ⟨b1, b2, aX, cX, gX, aY, cY, gY, bm, e, h, l, o⟩ => ⟨b1, b2, aX, cX, gX, aY, cY, gY, bm, e, h.on d, l, CJ o d⟩
structure Nt (W1 : World) (m R1 R2 : Nat) (E1 E2 : List Aa) (bud : Int) (b bm b1 b2 : Nat) (aX : Option Addr) (cX gX : Nat) (aY : Option Addr) (cY gY : Nat) (W : World) : Prop where
 be : Below W1.heap.size W1 W
 bx : W.heap[b]? = some (.cells #[(.func (.func 69) #[] #[.pointer (some ⟨b1, 0, none⟩), .pointer (some ⟨b2, 0, none⟩)]), .int .i64 bud, .map (some bm), .slice none 0 0, .slice none 0 0, .slice none 0 0] 71 (0, 0))
 mo : W.ownsMap prog 57 (plainElem prog 3) bm 0 (.map [] : DataW Unit)
 tw : FR W1.heap.size W m R1 R2 E1 E2 b1 b2 aX cX gX aY cY gY
 lb : W1.heap.size ≤ b
 lm : W1.heap.size ≤ bm
theorem N8 {W1 W : World} {m R1 R2 : Nat} {E1 E2 : List Aa} {bud : Int} {b bm b1 b2 : Nat} {aX : Option Addr} {cX gX : Nat} {aY : Option Addr} {cY gY : Nat} (d : Below W1.heap.size W1 W) (z : W.heap[b]? = some (.cells #[.nilFunc, .int .i64 0, .map none, .slice none 0 0, .slice none 0 0, .slice none 0 0] 71 (0, 0))) (lb : W1.heap.size ≤ b) (lm : W1.heap.size ≤ bm) (tw : FR W1.heap.size W m R1 R2 E1 E2 b1 b2 aX cX gX aY cY gY) (mo : W.ownsMap prog 57 (plainElem prog 3) bm 0 (.map [] : DataW Unit)) :
 Nt W1 m R1 R2 E1 E2 bud b bm b1 b2 aX cX gX aY cY gY ((((((W.setCell ⟨b, 0, none⟩ (.func (.func 69) #[] #[.pointer (some ⟨b1, 0, none⟩), .pointer (some ⟨b2, 0, none⟩)])).setCell ⟨b, 1, none⟩ (.int .i64 bud)).setCell ⟨b, 2, none⟩ (.map (some bm))).setCell ⟨b, 3, none⟩ (.slice none 0 0)).setCell ⟨b, 4, none⟩ (.slice none 0 0)).setCell ⟨b, 5, none⟩ (.slice none 0 0)) := by
 have s := Pw W b _ _ _ _ _ _ (.func (.func 69) #[] #[.pointer (some ⟨b1, 0, none⟩), .pointer (some ⟨b2, 0, none⟩)]) (.int .i64 bud) (.map (some bm)) (.slice none 0 0) (.slice none 0 0) (.slice none 0 0) 71 z
 have o := NG W b (.func (.func 69) #[] #[.pointer (some ⟨b1, 0, none⟩), .pointer (some ⟨b2, 0, none⟩)]) (.int .i64 bud) (.map (some bm)) (.slice none 0 0) (.slice none 0 0) (.slice none 0 0)
 have rk : ∀ {R : Nat} {E : List Aa} {a : Option Addr} {c g : Nat}, Fs W1.heap.size W m R E a E.length c g → ∀ {W' : World}, Ab W W' (fun k => k = b) → Fs W1.heap.size W' m R E a E.length c g := by
  intro R E a c g h W' o'
  refine ⟨A9 h.ow o' (fun k hk e => ?_), h.fi.only o' (fun e => ?_), h.ge⟩
  · subst e
    rcases h.ow.2 with ⟨e3, _⟩ | ⟨g', cap, cur, e3, _, hg, _⟩
    · rw [e3] at hk; cases hk
    · rw [e3] at hk
      obtain rfl : g' = k := by simpa [Value.ownBlock] using hk
      rw [z] at hg; cases hg
  · obtain ⟨cur, q, _⟩ := h.fi
    rw [e, z] at q; cases q
 exact ⟨d.trans (o.toBelow d.size (fun k e => by omega)), s, BZ mo o (fun e => G2 mo z e.symm), ⟨o.cellK tw.h1 (DO tw.h1 z (by decide)), o.cellK tw.h2 (DO tw.h2 z (by decide)), rk tw.r1 o, rk tw.r2 o⟩, lb, lm⟩
theorem Nt.ss {W1 W W' : World} {m R1 R2 : Nat} {E1 E2 : List Aa} {bud : Int} {b bm b1 b2 : Nat} {aX : Option Addr} {cX gX : Nat} {aY : Option Addr} {cY gY : Nat} (h : Nt W1 m R1 R2 E1 E2 bud b bm b1 b2 aX cX gX aY cY gY W) (d : Below W.heap.size W W') (D : Nat) : SS D W' b bm (.func (.func 69) #[] #[.pointer (some ⟨b1, 0, none⟩), .pointer (some ⟨b2, 0, none⟩)]) bud (.slice none 0 0) (.slice none 0 0) (.slice none 0 0) [] [] 0 [] :=
 ⟨A3 h.bx d, World.ownsRow_nil _ _ _ _, ⟨_, CJ h.mo d, IR I5⟩, World.ownsRow_nil _ _ _ _, World.ownsRow_nil _ _ _ _, by simp, List.nodup_nil⟩
theorem Fk {B C : Nat} {W : World} {m R : Nat} {E : List Aa} {a : Option Addr} {n c g : Nat} (h : Fs B W m R E a n c g) (hC : C ≤ B) : Fs C W m R E a n c g := ⟨Ac h.ow hC, h.fi, Nat.le_trans hC h.ge⟩
def P9 (f : Nat → Bool) (n : Nat) : Ef := fun x _ _ W => ∃ g, x = .slice (some ⟨g, 0, none⟩) n n ∧ Bd W g 4 n (fun c => .bool (f c)) n
theorem E9 {f : Nat → Bool} {n : Nat} : B8 (P9 f n) := fun _ _ _ _ _ _ d ⟨g, e, h⟩ => ⟨g, e, h.below d h.lt⟩
def PF (B : Nat) (Fn : List Int) : Ef := fun x _ _ W => ∃ aF cF, x = .slice aF Fn.length cF ∧ W.ownsRow B 3 1 (.slice aF Fn.length cF) Fn.length (Fn.map (Value.int .i64))
theorem IQ {B : Nat} {Fn : List Int} : B8 (PF B Fn) := fun _ _ _ _ _ _ d ⟨a, c, e, h⟩ => ⟨a, c, e, A6 h d⟩
theorem ET {L : List Int} (h : L.Pairwise (· < ·)) : L.Nodup := h.imp fun h e => by omega
theorem Fq {X Y : List Int} (d1 : X.Nodup) (d2 : Y.Nodup) : (Az X Y).Nodup := by
 unfold Az List.Nodup
 rw [List.pairwise_flatMap]
 refine ⟨fun a _ => List.pairwise_map.2 (d2.imp fun hne e => hne (Prod.mk.inj e).2), d1.imp fun hne x hx y hy e => ?_⟩
 obtain ⟨u, _, rfl⟩ := List.mem_map.1 hx
 obtain ⟨v, _, rfl⟩ := List.mem_map.1 hy
 exact hne (Prod.mk.inj e).1
theorem Hf {X Y : List Int} {N M : Nat} (h1 : ∀ x ∈ X, ∃ q : Nat, q < N ∧ x = (q : Int)) (h2 : ∀ x ∈ Y, ∃ q : Nat, q < M ∧ x = (q : Int)) : ∀ t ∈ Az X Y, ∃ p q : Nat, t = ((p : Int), (q : Int)) ∧ p < N ∧ q < M := by
 intro t ht
 unfold Az at ht
 obtain ⟨a, ha, h⟩ := List.mem_flatMap.1 ht
 obtain ⟨b, hb, rfl⟩ := List.mem_map.1 h
 obtain ⟨p, hp, rfl⟩ := h1 a ha
 obtain ⟨q, hq, rfl⟩ := h2 b hb
 exact ⟨p, q, rfl, hp, hq⟩
theorem Fj {kv : Nat} : ∀ k, (Value.slice none 0 0).ownBlock = some k → k ≠ kv := fun k hk => by cases hk
theorem Gz {w8 : World} {B D b n : Nat} {av : Option Addr} {S0 : List Int} {cv : Nat} {vp : Value} {xs : List Value} (o : w8.ownsRow B 3 1 (.slice av S0.length cv) S0.length (S0.map (Value.int .i64))) (po : w8.ownsRow D 57 2 vp n xs) (hb : b < w8.heap.size) (hbD : b < D) : ∃ kv, kv < w8.heap.size ∧ (∀ k, (.slice av S0.length cv : Value).ownBlock = some k → k = kv) ∧ ∀ k, vp.ownBlock = some k → k ≠ kv := by
 rcases h : (.slice av S0.length cv : Value).ownBlock with _ | kv
 · refine ⟨b, hb, fun k e => ?_, fun k hk e => ?_⟩
   · cases e
   · have := (po.lt k hk).1; omega
 · refine ⟨kv, (o.lt kv h).2, fun k e => ?_, fun k hk e => ?_⟩
   · cases e; rfl
   · subst e; exact Ai po o (by decide) hk h
theorem Ls {w9 : World} {g : Nat} {x0 x1 x2 x3 x4 u0 u4 : Value} (z : w9.heap[g]? = some (.cells #[x0, x1, x2, x3, x4] 25 (0, 0))) : Ab w9 ((w9.setCell ⟨g, 0, none⟩ u0).setCell ⟨g, 4, none⟩ u4).drew (fun k => k = g) ∧ ((w9.setCell ⟨g, 0, none⟩ u0).setCell ⟨g, 4, none⟩ u4).drew.heap[g]? = some (.cells #[u0, x1, x2, x3, u4] 25 (0, 0)) := by
 have o := (Ah w9 g 0 u0).trans (Ah _ g 4 u4)
 refine ⟨⟨o.os, o.tape, o.output, o.size, o.block⟩, ?_⟩
 show ((w9.setCell ⟨g, 0, none⟩ u0).setCell ⟨g, 4, none⟩ u4).heap[g]? = _
 have := heap_setCell_same _ g 4 _ 25 u4 (heap_setCell_same w9 g 0 _ 25 u0 z)
 simpa using this
theorem Lx {w9 W14 W : World} {g : Nat} {x0 x1 x2 x4 : Value} {aF : Option Addr} {cF : Nat} {Fn : List Int} (d : Below W14.heap.size W14 W) (z : W.heap[g]? = some (.cells #[x0, x1, x2, .slice none 0 0, x4] 25 (0, 0))) (y : W.ownsRow W14.heap.size 3 1 (.slice aF Fn.length cF) Fn.length (Fn.map (Value.int .i64))) (o : Ab w9 W14 (fun k => k = g)) :
 Ab w9 (W.setCell ⟨g, 3, none⟩ (.slice aF Fn.length cF)) (fun k => k = g) ∧ (W.setCell ⟨g, 3, none⟩ (.slice aF Fn.length cF)).heap[g]? = some (.cells #[x0, x1, x2, .slice aF Fn.length cF, x4] 25 (0, 0)) ∧ (W.setCell ⟨g, 3, none⟩ (.slice aF Fn.length cF)).ownsRow W14.heap.size 3 1 (.slice aF Fn.length cF) Fn.length (Fn.map (Value.int .i64)) := by
 have o2 := Ah W g 3 (.slice aF Fn.length cF)
 have s := heap_setCell_same W g 3 _ 25 (.slice aF Fn.length cF) z
 refine ⟨(o.trans (Ab.ofBelow d)).trans o2, by simpa using s, Ap y z (by decide) o2⟩
structure OS where
 n : Int
 m : Int
 er : Int
 ps : List Aq
 S : List Int
 F : List Int
 E : List Aa
def B7 (er : Int) : OS := ⟨0, 0, er, [], [], [], []⟩
def BF (b : Int) : Int := if b ≤ 0 then 9223372036854775807 else b
def Bi (TT : List Aa → List Aa → Aq → Nat → List Aq) (bud : Int) (m : Nat) (S1 F1 : List Int) (E1 : List Aa) (S2 F2 : List Int) (E2 : List Aa) : OS :=
 if (Af bud false [] (Az S1 S2) []).1 = 0 then (if (BA bud (TT E1 E2) m (Af bud false [] (Az S1 S2) []).2.1).1 = 0 then ⟨((BA bud (TT E1 E2) m (Af bud false [] (Az S1 S2) []).2.1).2.1.length : Int), (m : Int), 0, (BA bud (TT E1 E2) m (Af bud false [] (Az S1 S2) []).2.1).2.1, (Af bud false [] (Az S1 S2) []).2.2, Cj (Ay F1) (Ay F2) (BA bud (TT E1 E2) m (Af bud false [] (Az S1 S2) []).2.1).2.1 (BA bud (TT E1 E2) m (Af bud false [] (Az S1 S2) []).2.1).2.1.length, (BA bud (TT E1 E2) m (Af bud false [] (Az S1 S2) []).2.1).2.2⟩ else B7 (BA bud (TT E1 E2) m (Af bud false [] (Az S1 S2) []).2.1).1) else B7 (Af bud false [] (Az S1 S2) []).1
def AO (TT : List Aa → List Aa → Aq → Nat → List Aq) (n m n' m' bud0 : Int) (Sa Fa : List Int) (Ea : List Aa) (Sb Fb : List Int) (Eb : List Aa) : OS :=
 if AC n m Sa Fa Ea = true ∧ AC n' m' Sb Fb Eb = true then (if m = m' then Bi TT (BF bud0) m.toNat (A5 Sa) (A5 Fa) (A7 Ea) (A5 Sb) (A5 Fb) (A7 Eb) else B7 6) else B7 2
section
variable {TT : List Aa → List Aa → Aq → Nat → List Aq} {bud : Int} {m : Nat} {S1 F1 : List Int} {E1 : List Aa} {S2 F2 : List Int} {E2 : List Aa}
theorem E3 {er : Int} (he : er ≠ 0) (h : (Af bud false [] (Az S1 S2) []).1 = er) : Bi TT bud m S1 F1 E1 S2 F2 E2 = B7 er := by
 unfold Bi
 rw [if_neg (by rw [h]; exact he), h]
theorem CB {er : Int} {ps0 : List Aq} {S0 : List Int} (he : er ≠ 0) (h : Af bud false [] (Az S1 S2) [] = (0, ps0, S0)) (hs : BA bud (TT E1 E2) m ps0 = (er, [], [])) : Bi TT bud m S1 F1 E1 S2 F2 E2 = B7 er := by
 unfold Bi
 simp only [h, hs, if_true]
 rw [if_neg he]
theorem Hg {ps0 ps : List Aq} {S0 : List Int} {es : List Aa} (h : Af bud false [] (Az S1 S2) [] = (0, ps0, S0)) (hs : BA bud (TT E1 E2) m ps0 = (0, ps, es)) : Bi TT bud m S1 F1 E1 S2 F2 E2 = ⟨(ps.length : Int), (m : Int), 0, ps, S0, Cj (Ay F1) (Ay F2) ps ps.length, es⟩ := by
 unfold Bi
 simp only [h, hs, if_true]
end
def DR (w : World) (r : OS) (e : Ending) (w' : World) : Prop := ∃ (x1 : Option Addr) (y1 : Nat) (x2 : Option Addr) (y2 : Nat) (x3 : Option Addr) (y3 : Nat) (xp : Option Addr) (yp : Nat), e = .returned (.tuple #[.agg #[.int .i64 r.n, .int .i64 r.m, .slice x1 r.S.length y1, .slice x2 r.F.length y2, .slice x3 r.E.length y3], .slice xp r.ps.length yp, .int .i64 r.er]) ∧ Hid (AE w.heap.size w' (.slice x1 r.S.length y1) (.slice x2 r.F.length y2) (.slice x3 r.E.length y3) r.S r.F r.E ∧ w'.ownsRow w.heap.size 57 2 (.slice xp r.ps.length yp) r.ps.length (r.ps.flatMap Bn)) ∧ Below w.heap.size w w'
theorem AX {w w' : World} {r : OS} {er : Int} {e : Ending} (h : r = B7 er) (he : e = .returned (.tuple #[.agg #[.int .i64 0, .int .i64 0, .slice none 0 0, .slice none 0 0, .slice none 0 0], .slice none 0 0, .int .i64 er])) (d : Below w.heap.size w w') : DR w r e w' := by
 subst h
 exact ⟨none, 0, none, 0, none, 0, none, 0, he, A0 ⟨⟨⟨rfl, .inl ⟨rfl, rfl⟩⟩, ⟨rfl, .inl ⟨rfl, rfl⟩⟩, ⟨rfl, .inl ⟨rfl, rfl⟩⟩, fun g q => by cases q⟩, ⟨rfl, .inl ⟨rfl, rfl⟩⟩⟩, d⟩
theorem J3 {w w' : World} {r : OS} {n m er : Int} {ps : List Aq} {S F : List Int} {E : List Aa} {e : Ending} {x1 : Option Addr} {y1 : Nat} {x2 : Option Addr} {y2 : Nat} {x3 : Option Addr} {y3 : Nat} {xp : Option Addr} {yp : Nat} (h : r = ⟨n, m, er, ps, S, F, E⟩) (he : e = .returned (.tuple #[.agg #[.int .i64 n, .int .i64 m, .slice x1 S.length y1, .slice x2 F.length y2, .slice x3 E.length y3], .slice xp ps.length yp, .int .i64 er])) (o : AE w.heap.size w' (.slice x1 S.length y1) (.slice x2 F.length y2) (.slice x3 E.length y3) S F E ∧ w'.ownsRow w.heap.size 57 2 (.slice xp ps.length yp) ps.length (ps.flatMap Bn)) (d : Below w.heap.size w w') : DR w r e w' := by
 subst h
 exact ⟨x1, y1, x2, y2, x3, y3, xp, yp, he, A0 o, d⟩
end Go.Proofs.YtchoopnjckcohaaGreat
namespace Go.Proofs.YtchoopnjckcohaaGreat
open Tryz
open Go.RowKit Go.Maps Go.Shelf
attribute [local go_sem] Oper.semAt_some
def Fe (n bud : Int) : Int := if bud > 0 ∧ n ≥ bud then 9 else if n ≥ 4096 then 8 else 0
theorem GQ (w : World) (n bud : Int) : Calls prog 46 #[.int .i64 n, .int .i64 bud] w fun e w' => e = .returned (.int .i64 (Fe n bud)) ∧ w' = w := by
 by_cases h1 : bud > 0
 · by_cases h2 : n ≥ bud
   · have J : Hid (Fe n bud = 9) := A0 (if_pos ⟨h1, h2⟩)
     go_enter func46, ntmps46
     go_wp2_with fail
     go_ret
     exact ⟨by rw [J.out]; rfl, rfl⟩
   · by_cases h3 : n ≥ 4096
     · have J : Hid (Fe n bud = 8) := A0 (by unfold Fe; rw [if_neg (fun h => h2 h.2), if_pos h3])
       go_enter func46, ntmps46
       go_wp2_with fail
       go_ret
       exact ⟨by rw [J.out]; rfl, rfl⟩
     · have J : Hid (Fe n bud = 0) := A0 (by unfold Fe; rw [if_neg (fun h => h2 h.2), if_neg h3])
       go_enter func46, ntmps46
       go_wp2_with fail
       go_ret
       exact ⟨by rw [J.out]; rfl, rfl⟩
 · by_cases h3 : n ≥ 4096
   · have J : Hid (Fe n bud = 8) := A0 (by unfold Fe; rw [if_neg (fun h => h1 h.1), if_pos h3])
     go_enter func46, ntmps46
     go_wp2_with fail
     go_ret
     exact ⟨by rw [J.out]; rfl, rfl⟩
   · have J : Hid (Fe n bud = 0) := A0 (by unfold Fe; rw [if_neg (fun h => h1 h.1), if_neg h3])
     go_enter func46, ntmps46
     go_wp2_with fail
     go_ret
     exact ⟨by rw [J.out]; rfl, rfl⟩
def Ct (Ed : List Aa) (s k : Int) : List Int := (Ed.filter fun e => decide (e.1 = s ∧ e.2.1 = k)).map fun e => e.2.2
theorem Eg (Ed : List Aa) (s k : Int) : (Ct Ed s k).length ≤ Ed.length := by
 unfold Ct; rw [List.length_map]; exact List.length_filter_le _ _
theorem Lk {Ed : List Aa} {s k : Int} {i : Nat} (h : i < Ed.length) : Ct (Ed.take (i + 1)) s k = Ct (Ed.take i) s k ++ (if Ed[i].1 = s ∧ Ed[i].2.1 = k then [Ed[i].2.2] else []) := by
 unfold Ct
 rw [List.take_succ_eq_append_getElem h, List.filter_append, List.map_append]
 by_cases q : Ed[i].1 = s ∧ Ed[i].2.1 = k
 · rw [if_pos q, List.filter_cons_of_pos (by simpa using q)]; rfl
 · rw [if_neg q, List.filter_cons_of_neg (by simpa using q)]; rfl
theorem Ec (w : World) (n m : Int) (a1 a2 a3 : Option Addr) (c1 c2 c3 : Nat) (St Fi : List Int) (Ed : List Aa) (s k : Int) (hA : Hid (Cl w a3 Ed)) (h3 : Ed.length ≤ 4194304) :
 Calls prog 67 #[.agg #[.int .i64 n, .int .i64 m, .slice a1 St.length c1, .slice a2 Fi.length c2, .slice a3 Ed.length c3], .int .i64 s, .int .i64 k] w fun e w' => ∃ b c, e = .returned (.slice b (Ct Ed s k).length c) ∧ Hid (w'.ownsRow w.heap.size 3 1 (.slice b (Ct Ed s k).length c) (Ct Ed s k).length ((Ct Ed s k).map (Value.int .i64))) ∧ Below w.heap.size w w' := by
 obtain ⟨W0, hW0⟩ : ∃ W0, w.alloc (.cells #[.int .i64 n, .int .i64 m, .slice a1 St.length c1, .slice a2 Fi.length c2, .slice a3 Ed.length c3] 25) = W0 := ⟨_, rfl⟩
 have H0 : Hid (Below w.heap.size w W0 ∧ W0.heap[w.heap.size]? = some (.cells #[.int .i64 n, .int .i64 m, .slice a1 St.length c1, .slice a2 Fi.length c2, .slice a3 Ed.length c3] 25 (0, 0))) := A0 ⟨by rw [← hW0]; exact EZ _ _, by rw [← hW0]; exact World.alloc_heap_new _ _⟩
 go_enter func67, ntmps67
 go_wp2_with fail
 clear hW0
 go_loopw [7, 8] (fun ov iv wr => ∃ i b c, i ≤ Ed.length ∧ ov = .slice b (Ct (Ed.take i) s k).length c ∧ iv = .int .i64 (i : Nat) ∧ Hid (wr.ownsRow W0.heap.size 3 1 (.slice b (Ct (Ed.take i) s k).length c) (Ct (Ed.take i) s k).length ((Ct (Ed.take i) s k).map (Value.int .i64)) ∧ Below W0.heap.size W0 wr)) (fun _ iv _ => Ed.length - (intOf iv).toNat)
 case atStart => exact ⟨0, none, 0, Nat.zero_le _, rfl, rfl, A0 ⟨World.ownsRow_nil _ _ _ _, Below.refl _ _⟩⟩
 case round =>
  obtain ⟨i, b, c, hi, rfl, rfl, HY⟩ := hrel
  have eb := A3 H0.out.2 HY.out.2
  have y4 : wr.cell? ⟨w.heap.size, 4, none⟩ = some (.slice a3 Ed.length c3) := A1 eb rfl
  have dw := H0.out.1.trans (HY.out.2.mono H0.out.1.size)
  clear eb
  by_cases hlt : i < Ed.length
  · have i0 : (i : Int) < (Ed.length : Int) := by omega
    have i1 : (0 : Int) ≤ (i : Int) := by omega
    have iw : IntKind.i64.wrap ((i : Int) + 1) = (i : Int) + 1 := by rw [IntKind.wrap_i64]; omega
    obtain ⟨g, o, hao, q0, q1', q2⟩ := (hA.out.on dw) i hlt
    subst hao
    have hlen : (Ct (Ed.take i) s k).length ≤ 4194304 := Nat.le_trans (Eg _ _ _) (by rw [List.length_take]; omega)
    have HT := A0 (Lk (s := s) (k := k) hlt)
    generalize Ed[i] = x at q0 q1' q2 HT
    obtain ⟨x1, x2, x3⟩ := x
    simp only at HT q0 q1' q2
    have HSZ : Hid (W0.heap.size ≤ wr.heap.size) := A0 HY.out.2.size
    clear dw
    by_cases e1 : x1 = s
    · have k1 : (x1 == s) = true := by simpa using e1
      by_cases e2 : x2 = k
      · have k2 : (x2 == k) = true := by simpa using e2
        rw [if_pos ⟨e1, e2⟩] at HT
        clear e1 e2
        generalize Ct (Ed.take i) s k = X at HY HT hlen ⊢
        go_wp2_with (at_builtin; refine EX rfl _ _ rfl W0.heap.size (.slice b X.length c) X rfl (A6 HY.out.1 ((Below.refl _ _).alloc (Nat.le_refl _) (.cells #[.int .i64 x3] 3))) (some ⟨wr.heap.size, 0, none⟩) 1 1 [x3] rfl (fun e => by cases e) rfl (ED (World.alloc_heap_new _ _)) (by simp only [List.length_cons, List.length_nil]; omega) (by have := HSZ.out; rw [World.size_alloc]; omega) ?_; intro v5 w5 HO5 HG5; obtain ⟨z5, d5, e5⟩ := A8 HO5.out; subst e5; have HQ : Hid (Below W0.heap.size W0 w5) := A0 (by
         have kk : Below wr.heap.size wr (wr.alloc (.cells #[.int .i64 x3] 3)) := (Below.refl _ _).alloc (Nat.le_refl _) _
         have dd := HY.out.2.trans (kk.mono HY.out.2.size)
         exact dd.trans (HG5.out.toBelow dd.size (fun j hj => (HY.out.1.lt j hj).1))))
        go_roundw
        case rel => exact ⟨i + 1, z5, d5, by omega, by rw [HT.out, List.length_append]; rfl, by go_num, A0 ⟨by rw [HT.out]; exact HO5.out, HQ.out⟩⟩
        case measure => simp [intOf]; omega
      · have k2 : (x2 == k) = false := by simpa using e2
        rw [if_neg (fun h => e2 h.2), List.append_nil] at HT
        clear e1 e2
        go_wp2_with fail
        go_roundw
        case rel => exact ⟨i + 1, b, c, by omega, by rw [HT.out], by go_num, A0 ⟨by rw [HT.out]; exact HY.out.1, HY.out.2⟩⟩
        case measure => simp [intOf]; omega
    · have k1 : (x1 == s) = false := by simpa using e1
      rw [if_neg (fun h => e1 h.1), List.append_nil] at HT
      clear e1
      go_wp2_with fail
      go_roundw
      case rel => exact ⟨i + 1, b, c, by omega, by rw [HT.out], by go_num, A0 ⟨by rw [HT.out]; exact HY.out.1, HY.out.2⟩⟩
      case measure => simp [intOf]; omega
  · obtain rfl : Ed.length = i := by omega
    have i0 : ¬ (Ed.length : Int) < (Ed.length : Int) := by omega
    go_wp2_with fail
    go_ret
    rw [List.take_length] at HY
    exact ⟨b, c, rfl, A0 (Ac HY.out.1 H0.out.1.size), dw⟩
def Hq (W : World) (ao : Option Addr) (L : List Aq) : Prop := ∀ (j : Nat) (h : j < L.length), ∃ g o, ao = some ⟨g, o, none⟩ ∧ W.cell? ⟨g, o + j * 2, none⟩ = some (.int .i64 L[j].1) ∧ W.cell? ⟨g, o + j * 2 + 1, none⟩ = some (.int .i64 L[j].2)
theorem Hq.on {W W' : World} {ao : Option Addr} {L : List Aq} (h : Hq W ao L) (d : Below W.heap.size W W') : Hq W' ao L := fun j hj => by
 obtain ⟨g, o, rfl, q, r⟩ := h j hj
 have hg : g < W.heap.size := World.block_lt_of_cell? W ⟨g, o + j * 2, none⟩ q
 exact ⟨g, o, rfl, (d.cell (p := ⟨g, o + j * 2, none⟩) hg).trans q, (d.cell (p := ⟨g, o + j * 2 + 1, none⟩) hg).trans r⟩
theorem GZ (p1 p2 s1 s2 : Int) (W : World) : (Op.equalIn 10000 57 (.agg #[.int .i64 p1, .int .i64 p2]) (.agg #[.int .i64 s1, .int .i64 s2])).run prog W = .ok (p1 == s1 && p2 == s2) W := by
 have u3 := underlying3
 have a3 := isAgg3
 have z3 := sizeOf3
 rw [show (10000 : Nat) = 9999 + 1 from rfl, Op.equalIn]
 simp only [Sem.run_bind, run_underlying underlying57, Result.andThen_ok]
 simp only [Std.Legacy.Range.forIn_eq_forIn_range', Std.Legacy.Range.size, Nat.sub_zero, Nat.add_sub_cancel, Nat.div_one, List.range'_succ, List.range'_zero, List.forIn_cons, List.forIn_nil]
 go_simp
 by_cases h1 : p1 = s1 <;> by_cases h2 : p2 = s2 <;> simp [h1, h2]
attribute [local go_sem] GZ
def Id (L : List Aq) (s : Aq) : Int := if s ∈ L then (L.idxOf s : Int) else -1
theorem J7 (w : World) (ao : Option Addr) (c : Nat) (L : List Aq) (s1 s2 : Int) (hr : Hid (Hq w ao L)) (hl : L.length ≤ 4194304) :
 Calls prog 49 #[.slice ao L.length c, .agg #[.int .i64 s1, .int .i64 s2]] w fun e w' => e = .returned (.int .i64 (Id L (s1, s2))) ∧ Below w.heap.size w w' := by
 obtain ⟨n, hn⟩ : ∃ n, n = L.length := ⟨_, rfl⟩
 have HL := A0 hn
 rw [← hn]
 rw [← hn] at hl
 clear hn
 obtain ⟨W0, hW0⟩ : ∃ W0, w.alloc (.cells #[.int .i64 s1, .int .i64 s2] 57) = W0 := ⟨_, rfl⟩
 have H0 : Hid (Below w.heap.size w W0 ∧ W0.heap[w.heap.size]? = some (.cells #[.int .i64 s1, .int .i64 s2] 57 (0, 0))) := A0 ⟨by rw [← hW0]; exact EZ _ _, by rw [← hW0]; exact World.alloc_heap_new _ _⟩
 go_enter func49, ntmps49
 go_wp2_with fail
 clear hW0
 go_loopw [5] (fun iv wr => ∃ i : Nat, i ≤ n ∧ iv = .int .i64 i ∧ Hid ((s1, s2) ∉ L.take i ∧ Below W0.heap.size W0 wr)) (fun iv _ => n - (intOf iv).toNat)
 case atStart => exact ⟨0, Nat.zero_le _, rfl, A0 ⟨by simp, Below.refl _ _⟩⟩
 case round =>
  obtain ⟨i, hi, rfl, HY⟩ := hrel
  have eb := A3 H0.out.2 HY.out.2
  obtain ⟨y0, y1⟩ := IV eb rfl rfl
  have dw := H0.out.1.trans (HY.out.2.mono H0.out.1.size)
  have HW := A0 dw
  clear eb
  by_cases hil : i < n
  · have i0 : (0 : Int) ≤ (i : Int) := by omega
    have i1 : (i : Int) < (n : Int) := by omega
    have hi2 : i < L.length := by rw [← HL.out]; exact hil
    obtain ⟨g, o, rfl, q0, q1⟩ := (hr.out.on dw) i hi2
    clear dw
    have HT := A0 (show L.take (i + 1) = L.take i ++ [L[i]] by rw [List.take_add_one, List.getElem?_eq_getElem hi2]; rfl)
    have HD := A0 (show L = L.take i ++ L[i] :: L.drop (i + 1) by rw [List.getElem_cons_drop, List.take_append_drop])
    have HI : Hid (i = (L.take i).length) := A0 (by rw [List.length_take]; omega)
    generalize L[i] = y at q0 q1 HT HD
    obtain ⟨p1, p2⟩ := y
    simp only at q0 q1
    by_cases e : p1 = s1 ∧ p2 = s2
    · obtain ⟨rfl, rfl⟩ := e
      have k : (p1 == p1 && p2 == p2) = true := by simp
      have J : Hid (Id L (p1, p2) = (i : Int)) := A0 (by
       unfold Id
       rw [HD.out, if_pos (by simp), List.idxOf_append, if_neg HY.out.1, List.idxOf_cons_self, Nat.zero_add, ← HI.out])
      go_wp2_with fail
      go_region
      all_goals
       go_wp2_with fail
       go_ret
       exact ⟨by rw [J.out]; rfl, HW.out.drew⟩
    · have J : Hid ((s1, s2) ∉ L.take (i + 1)) := A0 (by rw [HT.out]; simp only [List.mem_append, List.mem_singleton, not_or, Prod.mk.injEq]; exact ⟨HY.out.1, fun h => e ⟨h.1.symm, h.2.symm⟩⟩)
      clear HT HD
      have k : (p1 == s1 && p2 == s2) = false := by
       cases hh : (p1 == s1 && p2 == s2) with
       | false => rfl
       | true => simp at hh; exact absurd hh e
      go_wp2_with fail
      go_region
      all_goals
       go_wp2_with fail
       go_roundw
       case rel => exact ⟨i + 1, by omega, by go_num, A0 ⟨J.out, HY.out.2.drew⟩⟩
       case measure => simp [intOf]; omega
  · obtain rfl : n = i := by omega
    have i1 : ¬ (n : Int) < (n : Int) := by omega
    have J : Hid (Id L (s1, s2) = -1) := A0 (by
     have q := HY.out.1
     rw [List.take_of_length_le (by rw [← HL.out]; omega)] at q
     exact if_neg q)
    go_wp2_with fail
    go_ret
    exact ⟨by rw [J.out]; rfl, HW.out⟩
theorem Ik (w : World) (ao : Option Addr) (c : Nat) (L : List Int) (x : Int) (hr : Hid (BB w ao L)) (hl : L.length ≤ 4194304) :
 Calls prog 47 #[.slice ao L.length c, .int .i64 x] w fun e w' => e = .returned (.bool (decide (x ∈ L))) ∧ Below w.heap.size w w' := by
 obtain ⟨n, hn⟩ : ∃ n, n = L.length := ⟨_, rfl⟩
 have HL := A0 hn
 rw [← hn]
 rw [← hn] at hl
 clear hn
 go_enter func47, ntmps47
 go_wp2_with fail
 go_loopw [5] (fun iv wr => ∃ i : Nat, i ≤ n ∧ iv = .int .i64 i ∧ Hid (x ∉ L.take i ∧ Below w.heap.size w wr)) (fun iv _ => n - (intOf iv).toNat)
 case atStart => exact ⟨0, Nat.zero_le _, rfl, A0 ⟨by simp, Below.refl _ _⟩⟩
 case round =>
  obtain ⟨i, hi, rfl, HY⟩ := hrel
  by_cases hil : i < n
  · have i0 : (0 : Int) ≤ (i : Int) := by omega
    have i1 : (i : Int) < (n : Int) := by omega
    have hi2 : i < L.length := by rw [← HL.out]; exact hil
    obtain ⟨g, o, rfl, c⟩ := (hr.out.on HY.out.2) i hi2
    have HT := A0 (show L.take (i + 1) = L.take i ++ [L[i]] by rw [List.take_add_one, List.getElem?_eq_getElem hi2]; rfl)
    have HM := A0 (List.getElem_mem hi2)
    generalize L[i] = y at c HT HM
    by_cases e : y = x
    · subst e
      have J := A0 (decide_eq_true HM.out)
      go_wp2_with fail
      go_ret
      exact ⟨by rw [J.out]; rfl, HY.out.2⟩
    · have e2 : (y == x) = false := by simpa using e
      have J : Hid (x ∉ L.take (i + 1)) := A0 (by rw [HT.out]; simp only [List.mem_append, List.mem_singleton, not_or]; exact ⟨HY.out.1, fun h => e h.symm⟩)
      clear HT HM
      go_wp2_with fail
      go_roundw
      case rel => exact ⟨i + 1, by omega, by go_num, A0 ⟨J.out, HY.out.2⟩⟩
      case measure => simp [intOf]; omega
  · have i1 : ¬ (i : Int) < (n : Int) := by omega
    have J : Hid (decide (x ∈ L) = false) := A0 (decide_eq_false (by
     have := HY.out.1
     rwa [List.take_of_length_le (by have := HL.out; omega)] at this))
    go_wp2_with fail
    go_ret
    exact ⟨by rw [J.out]; rfl, HY.out.2⟩
end Go.Proofs.YtchoopnjckcohaaGreat
namespace Go.Proofs.YtchoopnjckcohaaGreat
open Tryz
open Go.RowKit Go.Maps Go.Shelf
attribute [local go_sem] Oper.semAt_some GZ
def fr {α : Type} (p q r s : α) : Nat → α
 | 0 => p
 | 1 => q
 | 2 => r
 | _ => s
def DU : Nat → Nat → Value
 | 0, c => .int .i64 (-1000000 - (c : Int))
 | 1, c => .int .i64 (-2000000 - (c : Int))
 | 2, c => if c % 3 = 0 then .int .i64 (-((c / 3 : Nat) : Int)) else if c % 3 = 1 then .int .i64 (-3) else .int .i64 0
 | _, c => if c % 2 = 0 then .int .i64 (-((c / 2 : Nat) : Int)) else .int .i64 (-4)
theorem NK (i : Nat) : DU 2 (i * 3) = .int .i64 (-(i : Int)) := by
 show (if i * 3 % 3 = 0 then _ else _) = _
 rw [if_pos (by omega), show i * 3 / 3 = i by omega]
theorem NM (i : Nat) : DU 2 (i * 3 + 1) = .int .i64 (-3) := by
 show (if (i * 3 + 1) % 3 = 0 then _ else _) = _
 rw [if_neg (by omega), if_pos (by omega)]
theorem NH (i : Nat) : DU 2 (i * 3 + 2) = .int .i64 0 := by
 show (if (i * 3 + 2) % 3 = 0 then _ else _) = _
 rw [if_neg (by omega), if_neg (by omega)]
theorem NL (i : Nat) : DU 3 (i * 2) = .int .i64 (-(i : Int)) := by
 show (if i * 2 % 2 = 0 then _ else _) = _
 rw [if_pos (by omega), show i * 2 / 2 = i by omega]
theorem ND (i : Nat) : DU 3 (i * 2 + 1) = .int .i64 (-4) := by
 show (if (i * 2 + 1) % 2 = 0 then _ else _) = _
 rw [if_neg (by omega)]
def yD (n1 n2 n3 n4 : Nat) : Nat → List Value := fr ((List.range n1).map (DU 0)) ((List.range n2).map (DU 1)) ((List.range (n3 * 3)).map (DU 2)) ((List.range (n4 * 2)).map (DU 3))
theorem OP (n1 n2 n3 n4 i : Nat) (_h : i < n1) (h : i < (yD n1 n2 n3 n4 0).length) : (yD n1 n2 n3 n4 0)[i] = .int .i64 (-1000000 - (i : Int)) := by
 rw [List.getElem_of_eq (show yD n1 n2 n3 n4 0 = (List.range n1).map (DU 0) from rfl) h, List.getElem_map, List.getElem_range]
 rfl
theorem Ot (n1 n2 n3 n4 i : Nat) (_h : i < n2) (h : i < (yD n1 n2 n3 n4 1).length) : (yD n1 n2 n3 n4 1)[i] = .int .i64 (-2000000 - (i : Int)) := by
 rw [List.getElem_of_eq (show yD n1 n2 n3 n4 1 = (List.range n2).map (DU 1) from rfl) h, List.getElem_map, List.getElem_range]
 rfl
theorem J5 (n1 n2 n3 n4 i : Nat) (_h : i < n3 * 3) {u : Value} (hu : DU 2 i = u) (h : i < (yD n1 n2 n3 n4 2).length) : (yD n1 n2 n3 n4 2)[i] = u := by
 rw [List.getElem_of_eq (show yD n1 n2 n3 n4 2 = (List.range (n3 * 3)).map (DU 2) from rfl) h, List.getElem_map, List.getElem_range]
 exact hu
theorem Mc (n1 n2 n3 n4 i : Nat) (_h : i < n4 * 2) {u : Value} (hu : DU 3 i = u) (h : i < (yD n1 n2 n3 n4 3).length) : (yD n1 n2 n3 n4 3)[i] = u := by
 rw [List.getElem_of_eq (show yD n1 n2 n3 n4 3 = (List.range (n4 * 2)).map (DU 3) from rfl) h, List.getElem_map, List.getElem_range]
 exact hu
theorem Mf (L : List Aq) : (L.flatMap Bn).length = L.length * 2 := by
 induction L with
 | nil => rfl
 | cons a L ih => rw [List.flatMap_cons, List.length_append, ih, List.length_cons]; show 2 + _ = _; omega
theorem Ow : (prog.info? 57).map (fun i => (i.zero, i.size, i.bytes)) = some (some (.agg #[.int .i64 0, .int .i64 0]), 2, 16) := by kernel_rfl
theorem E8 {W : World} {B e sz n k : Nat} {a : Option Addr} {xs : List Value} (h : W.ownsRow B e sz (.slice a n k) n xs) (hn : 0 < n) : ∃ g, a = some ⟨g, 0, none⟩ := by
 rcases h.2 with ⟨_, e⟩ | ⟨g, cap, cur, e, _⟩
 · omega
 · cases e
   exact ⟨g, rfl⟩
theorem Hd (w : World) (B : Nat) (n m : Int) (b1 b2 b3 b4 : Option Addr) (k1 k2 k3 k4 n1 n2 n3 n4 : Nat) (S F : List Int) (E : List Aa) (Lp : List Aq) (HN : Hid (S.length = n1 ∧ F.length = n2 ∧ E.length = n3 ∧ Lp.length = n4)) (hO : Hid (AE B w (.slice b1 n1 k1) (.slice b2 n2 k2) (.slice b3 n3 k3) S F E ∧ w.ownsRow B 57 2 (.slice b4 n4 k4) n4 (Lp.flatMap Bn))) (hB : B ≤ w.heap.size) (h1 : n1 ≤ 4000000) (h2 : n2 ≤ 4000000) (h3 : n3 ≤ 1000000) (h4 : n4 ≤ 1000000) :
 Calls prog 16 #[.agg #[.int .i64 n, .int .i64 m, .slice b1 n1 k1, .slice b2 n2 k2, .slice b3 n3 k3], .slice b4 n4 k4] w fun e w' => e = .returned (.bool true) ∧ Hid (Below B w w') := by
 obtain ⟨i3, hi3, hz30, hz31, hz32⟩ := AA Et
 obtain ⟨i5, hi5, hz50, hz51, hz52⟩ := AA DQ
 obtain ⟨i7, hi7, hz70, hz71, hz72⟩ := AA Ow
 obtain ⟨W0, hW0⟩ : ∃ X, w.alloc (.cells #[.int .i64 n, .int .i64 m, .slice b1 n1 k1, .slice b2 n2 k2, .slice b3 n3 k3] 25) = X := ⟨_, rfl⟩
 have HD : Hid (W0.heap[w.heap.size]? = some (.cells #[.int .i64 n, .int .i64 m, .slice b1 n1 k1, .slice b2 n2 k2, .slice b3 n3 k3] 25 (0, 0)) ∧ Below w.heap.size w W0) := A0 (by rw [← hW0]; exact ⟨World.alloc_heap_new _ _, (Below.refl _ _).alloc (Nat.le_refl _) _⟩)
 have HR : Hid (w.ownsRow B 3 1 (.slice b1 n1 k1) n1 (S.map (Value.int .i64)) ∧ w.ownsRow B 3 1 (.slice b2 n2 k2) n2 (F.map (Value.int .i64)) ∧ w.ownsRow B 50 3 (.slice b3 n3 k3) n3 (E.flatMap Ae) ∧ w.ownsRow B 57 2 (.slice b4 n4 k4) n4 (Lp.flatMap Bn)) := A0 (by
  have q := hO.out.1
  exact ⟨by have t := q.s; rwa [HN.out.1] at t, by have t := q.f; rwa [HN.out.2.1] at t, by have t := q.e; rwa [HN.out.2.2.1] at t, hO.out.2⟩)
 have HA0 : Hid (0 < n1 → ∃ g, b1 = some ⟨g, 0, none⟩) := A0 (E8 HR.out.1)
 have HA1 : Hid (0 < n2 → ∃ g, b2 = some ⟨g, 0, none⟩) := A0 (E8 HR.out.2.1)
 have HA2 : Hid (0 < n3 → ∃ g, b3 = some ⟨g, 0, none⟩) := A0 (E8 HR.out.2.2.1)
 have HA3 : Hid (0 < n4 → ∃ g, b4 = some ⟨g, 0, none⟩) := A0 (E8 HR.out.2.2.2)
 have HS : Hid (Pb w 4 (fr (.slice b1 n1 k1) (.slice b2 n2 k2) (.slice b3 n3 k3) (.slice b4 n4 k4)) [(w.heap.size, #[.int .i64 n, .int .i64 m, .slice b1 n1 k1, .slice b2 n2 k2, .slice b3 n3 k3], 25)]) := A0 ⟨(fun i hi k hk => by
  match i, hi with
  | 0, _ => exact (HR.out.1.lt k hk).2
  | 1, _ => exact (HR.out.2.1.lt k hk).2
  | 2, _ => exact (HR.out.2.2.1.lt k hk).2
  | 3, _ => exact (HR.out.2.2.2.lt k hk).2), (fun i j hi hj hij k hk hk' => by
  match i, j, hi, hj with
  | 0, 0, _, _ => exact hij rfl
  | 0, 1, _, _ => exact hO.out.1.ne k hk hk'
  | 0, 2, _, _ => exact BR HR.out.1 HR.out.2.2.1 (by decide) hk hk'
  | 1, 0, _, _ => exact hO.out.1.ne k hk' hk
  | 1, 1, _, _ => exact hij rfl
  | 1, 2, _, _ => exact BR HR.out.2.1 HR.out.2.2.1 (by decide) hk hk'
  | 2, 0, _, _ => exact BR HR.out.1 HR.out.2.2.1 (by decide) hk' hk
  | 2, 1, _, _ => exact BR HR.out.2.1 HR.out.2.2.1 (by decide) hk' hk
  | 2, 2, _, _ => exact hij rfl
  | 3, 3, _, _ => exact hij rfl
  | 3, 0, _, _ => exact BR HR.out.1 HR.out.2.2.2 (by decide) hk' hk
  | 3, 1, _, _ => exact BR HR.out.2.1 HR.out.2.2.2 (by decide) hk' hk
  | 3, 2, _, _ => exact BR HR.out.2.2.1 HR.out.2.2.2 (by decide) hk' hk
  | 0, 3, _, _ => exact BR HR.out.1 HR.out.2.2.2 (by decide) hk hk'
  | 1, 3, _, _ => exact BR HR.out.2.1 HR.out.2.2.2 (by decide) hk hk'
  | 2, 3, _, _ => exact BR HR.out.2.2.1 HR.out.2.2.2 (by decide) hk hk'), (fun q hq => by rw [List.mem_singleton.1 hq]; exact Nat.le_refl _)⟩
 have H0 : Hid (Gf w W0 4 (fr (.slice b1 n1 k1) (.slice b2 n2 k2) (.slice b3 n3 k3) (.slice b4 n4 k4)) [(w.heap.size, #[.int .i64 n, .int .i64 m, .slice b1 n1 k1, .slice b2 n2 k2, .slice b3 n3 k3], 25)] (fr 3 3 50 57) (fr 1 1 3 2) (fr n1 n2 n3 n4) DU (fr (S.map (Value.int .i64)) (F.map (Value.int .i64)) (E.flatMap Ae) (Lp.flatMap Bn)) (upd (fr 0 0 0 0) 0 0)) := A0 ⟨fun q hq => by rw [List.mem_singleton.1 hq]; exact HD.out.1, Ab.ofBelow HD.out.2, fun i hi => by
  rw [DX _ 0 0 rfl]
  match i, hi with
  | 0, _ => exact (Ft (DU 0) undef _).symm ▸ Ac (A6 HR.out.1 HD.out.2) (Nat.zero_le _)
  | 1, _ => exact (Ft (DU 1) undef _).symm ▸ Ac (A6 HR.out.2.1 HD.out.2) (Nat.zero_le _)
  | 2, _ => exact (Ft (DU 2) undef _).symm ▸ Ac (A6 HR.out.2.2.1 HD.out.2) (Nat.zero_le _)
  | 3, _ => exact (Ft (DU 3) undef _).symm ▸ Ac (A6 HR.out.2.2.2 HD.out.2) (Nat.zero_le _)⟩
 have HFull : Hid (∀ W, Gf w W 4 (fr (.slice b1 n1 k1) (.slice b2 n2 k2) (.slice b3 n3 k3) (.slice b4 n4 k4)) [(w.heap.size, #[.int .i64 n, .int .i64 m, .slice b1 n1 k1, .slice b2 n2 k2, .slice b3 n3 k3], 25)] (fr 3 3 50 57) (fr 1 1 3 2) (fr n1 n2 n3 n4) DU (fr (S.map (Value.int .i64)) (F.map (Value.int .i64)) (E.flatMap Ae) (Lp.flatMap Bn)) (upd (upd (upd (upd (fr 0 0 0 0) 0 n1) 1 n2) 2 (n3 * 3)) 3 (n4 * 2)) → Gg w W 4 (fr (.slice b1 n1 k1) (.slice b2 n2 k2) (.slice b3 n3 k3) (.slice b4 n4 k4)) [(w.heap.size, #[.int .i64 n, .int .i64 m, .slice b1 n1 k1, .slice b2 n2 k2, .slice b3 n3 k3], 25)] (yD n1 n2 n3 n4) ∧ (∀ r, r < 4 → 0 ≤ r → W.ownsRow 0 ((fr 3 3 50 57) r) ((fr 1 1 3 2) r) ((fr (.slice b1 n1 k1) (.slice b2 n2 k2) (.slice b3 n3 k3) (.slice b4 n4 k4)) r) ((fr n1 n2 n3 n4) r) ((yD n1 n2 n3 n4) r))) := A0 (fun W h => by
  have q := Gf.full (z := fr n1 n2 (n3 * 3) (n4 * 2)) h (fun i hi => by
   match i, hi with
   | 0, _ => exact ⟨by show (S.map _).length = n1; rw [List.length_map]; exact HN.out.1, Nat.le_refl _⟩
   | 1, _ => exact ⟨by show (F.map _).length = n2; rw [List.length_map]; exact HN.out.2.1, Nat.le_refl _⟩
   | 2, _ => exact ⟨by show (E.flatMap _).length = n3 * 3; rw [Cc, HN.out.2.2.1], Nat.le_refl _⟩
   | 3, _ => exact ⟨by show (Lp.flatMap _).length = n4 * 2; rw [Mf, HN.out.2.2.2], Nat.le_refl _⟩)
  exact ⟨⟨q.1.b, q.1.on, fun i hi => by
   match i, hi with
   | 0, _ => exact q.1.r 0 (by omega)
   | 1, _ => exact q.1.r 1 (by omega)
   | 2, _ => exact q.1.r 2 (by omega)
   | 3, _ => exact q.1.r 3 (by omega)⟩, fun i hi _ => by
   match i, hi with
   | 0, _ => exact q.2 0 (by omega)
   | 1, _ => exact q.2 1 (by omega)
   | 2, _ => exact q.2 2 (by omega)
   | 3, _ => exact q.2 3 (by omega)⟩)
 have HBl : Hid (∀ W, Gg w W 4 (fr (.slice b1 n1 k1) (.slice b2 n2 k2) (.slice b3 n3 k3) (.slice b4 n4 k4)) [(w.heap.size, #[.int .i64 n, .int .i64 m, .slice b1 n1 k1, .slice b2 n2 k2, .slice b3 n3 k3], 25)] (yD n1 n2 n3 n4) → Below B w W) := A0 (fun W h => h.on.toBelow hB (fun k hk => by
  obtain ⟨i, hi, hk⟩ := hk
  match i, hi with
  | 0, _ => exact (HR.out.1.lt k hk).1
  | 1, _ => exact (HR.out.2.1.lt k hk).1
  | 2, _ => exact (HR.out.2.2.1.lt k hk).1
  | 3, _ => exact (HR.out.2.2.2.lt k hk).1))
 have y2 : W0.cell? ⟨w.heap.size, 2, none⟩ = some (.slice b1 n1 k1) := A1 HD.out.1 rfl
 go_enter func16, ntmps16
 go_wp2_with fail
 clear hW0 y2
 go_loopw [24] (fun iv wr => ∃ i : Nat, i ≤ n1 ∧ iv = .int .i64 (i : Int) ∧ Hid (Gf w wr 4 (fr (.slice b1 n1 k1) (.slice b2 n2 k2) (.slice b3 n3 k3) (.slice b4 n4 k4)) [(w.heap.size, #[.int .i64 n, .int .i64 m, .slice b1 n1 k1, .slice b2 n2 k2, .slice b3 n3 k3], 25)] (fr 3 3 50 57) (fr 1 1 3 2) (fr n1 n2 n3 n4) DU (fr (S.map (Value.int .i64)) (F.map (Value.int .i64)) (E.flatMap Ae) (Lp.flatMap Bn)) (upd (fr 0 0 0 0) 0 i))) (fun iv _ => n1 - (intOf iv).toNat)
 case atStart => exact ⟨0, Nat.zero_le _, rfl, H0⟩
 case round =>
  obtain ⟨i, hi, rfl, HY⟩ := hrel
  clear H0
  have q0 : wr.cell? ⟨w.heap.size, 2, none⟩ = some (.slice b1 n1 k1) := A1 (HY.out.b (w.heap.size, #[.int .i64 n, .int .i64 m, .slice b1 n1 k1, .slice b2 n2 k2, .slice b3 n3 k3], 25) (by simp)) rfl
  have i2 : (0 : Int) ≤ (i : Int) := by omega
  by_cases hil : i < n1
  · have i3 : (i : Int) < (n1 : Int) := by omega
    obtain ⟨g, hg, hcs⟩ := HY.out.cell 0 (by omega) (z := 1) rfl rfl rfl i (by show i < n1 * 1; omega)
    subst hg
    obtain ⟨⟨u, q1⟩, f1⟩ := hcs i (by omega)
    clear hcs
    have e1 : IntKind.i64.wrap (-1000000 - (i : Int)) = -1000000 - (i : Int) := by rw [IntKind.wrap_i64]; omega
    have J := A0 (Gf.puti HS.out 0 i HY.out (by omega) rfl rfl (.int .i64 (-1000000 - (i : Int))) rfl)
    clear HY
    go_wp2_with fail
    go_roundw
    case rel => exact ⟨i + 1, by omega, by go_num, J⟩
    case measure => simp [intOf]; omega
  · have hin : n1 = i := by omega
    subst hin
    have i3 : ¬ (n1 : Int) < (n1 : Int) := by omega
    have q2' : wr.cell? ⟨w.heap.size, 2, none⟩ = some (.slice b1 n1 k1) := A1 (HY.out.b (w.heap.size, #[.int .i64 n, .int .i64 m, .slice b1 n1 k1, .slice b2 n2 k2, .slice b3 n3 k3], 25) (by simp)) rfl
    have q3' : wr.cell? ⟨w.heap.size, 3, none⟩ = some (.slice b2 n2 k2) := A1 (HY.out.b (w.heap.size, #[.int .i64 n, .int .i64 m, .slice b1 n1 k1, .slice b2 n2 k2, .slice b3 n3 k3], 25) (by simp)) rfl
    have q4' : wr.cell? ⟨w.heap.size, 4, none⟩ = some (.slice b3 n3 k3) := A1 (HY.out.b (w.heap.size, #[.int .i64 n, .int .i64 m, .slice b1 n1 k1, .slice b2 n2 k2, .slice b3 n3 k3], 25) (by simp)) rfl
    have H0 : Hid (Gf w wr 4 (fr (.slice b1 n1 k1) (.slice b2 n2 k2) (.slice b3 n3 k3) (.slice b4 n4 k4)) [(w.heap.size, #[.int .i64 n, .int .i64 m, .slice b1 n1 k1, .slice b2 n2 k2, .slice b3 n3 k3], 25)] (fr 3 3 50 57) (fr 1 1 3 2) (fr n1 n2 n3 n4) DU (fr (S.map (Value.int .i64)) (F.map (Value.int .i64)) (E.flatMap Ae) (Lp.flatMap Bn)) (upd (upd (fr 0 0 0 0) 0 n1) 1 0)) := A0 (by rw [DX _ 1 0 rfl]; exact HY.out)
    clear HY
    go_wp2_with fail
    clear q2' q3' q4'
    go_loopw [37] (fun iv wr => ∃ i : Nat, i ≤ n2 ∧ iv = .int .i64 (i : Int) ∧ Hid (Gf w wr 4 (fr (.slice b1 n1 k1) (.slice b2 n2 k2) (.slice b3 n3 k3) (.slice b4 n4 k4)) [(w.heap.size, #[.int .i64 n, .int .i64 m, .slice b1 n1 k1, .slice b2 n2 k2, .slice b3 n3 k3], 25)] (fr 3 3 50 57) (fr 1 1 3 2) (fr n1 n2 n3 n4) DU (fr (S.map (Value.int .i64)) (F.map (Value.int .i64)) (E.flatMap Ae) (Lp.flatMap Bn)) (upd (upd (fr 0 0 0 0) 0 n1) 1 i))) (fun iv _ => n2 - (intOf iv).toNat)
    case atStart => exact ⟨0, Nat.zero_le _, rfl, H0⟩
    case round =>
     obtain ⟨i, hi, rfl, HY⟩ := hrel
     clear H0
     have q0 : wr.cell? ⟨w.heap.size, 3, none⟩ = some (.slice b2 n2 k2) := A1 (HY.out.b (w.heap.size, #[.int .i64 n, .int .i64 m, .slice b1 n1 k1, .slice b2 n2 k2, .slice b3 n3 k3], 25) (by simp)) rfl
     have i2 : (0 : Int) ≤ (i : Int) := by omega
     by_cases hil : i < n2
     · have i3 : (i : Int) < (n2 : Int) := by omega
       obtain ⟨g, hg, hcs⟩ := HY.out.cell 1 (by omega) (z := 1) rfl rfl rfl i (by show i < n2 * 1; omega)
       subst hg
       obtain ⟨⟨u, q1⟩, f1⟩ := hcs i (by omega)
       clear hcs
       have e1 : IntKind.i64.wrap (-2000000 - (i : Int)) = -2000000 - (i : Int) := by rw [IntKind.wrap_i64]; omega
       have J := A0 (Gf.puti HS.out 1 i HY.out (by omega) rfl rfl (.int .i64 (-2000000 - (i : Int))) rfl)
       clear HY
       go_wp2_with fail
       go_roundw
       case rel => exact ⟨i + 1, by omega, by go_num, J⟩
       case measure => simp [intOf]; omega
     · have hin : n2 = i := by omega
       subst hin
       have i3 : ¬ (n2 : Int) < (n2 : Int) := by omega
       have q2' : wr.cell? ⟨w.heap.size, 2, none⟩ = some (.slice b1 n1 k1) := A1 (HY.out.b (w.heap.size, #[.int .i64 n, .int .i64 m, .slice b1 n1 k1, .slice b2 n2 k2, .slice b3 n3 k3], 25) (by simp)) rfl
       have q3' : wr.cell? ⟨w.heap.size, 3, none⟩ = some (.slice b2 n2 k2) := A1 (HY.out.b (w.heap.size, #[.int .i64 n, .int .i64 m, .slice b1 n1 k1, .slice b2 n2 k2, .slice b3 n3 k3], 25) (by simp)) rfl
       have q4' : wr.cell? ⟨w.heap.size, 4, none⟩ = some (.slice b3 n3 k3) := A1 (HY.out.b (w.heap.size, #[.int .i64 n, .int .i64 m, .slice b1 n1 k1, .slice b2 n2 k2, .slice b3 n3 k3], 25) (by simp)) rfl
       have H0 : Hid (Gf w wr 4 (fr (.slice b1 n1 k1) (.slice b2 n2 k2) (.slice b3 n3 k3) (.slice b4 n4 k4)) [(w.heap.size, #[.int .i64 n, .int .i64 m, .slice b1 n1 k1, .slice b2 n2 k2, .slice b3 n3 k3], 25)] (fr 3 3 50 57) (fr 1 1 3 2) (fr n1 n2 n3 n4) DU (fr (S.map (Value.int .i64)) (F.map (Value.int .i64)) (E.flatMap Ae) (Lp.flatMap Bn)) (upd (upd (upd (fr 0 0 0 0) 0 n1) 1 n2) 2 0)) := A0 (by rw [DX _ 2 0 rfl]; exact HY.out)
       clear HY
       go_wp2_with fail
       clear q2' q3' q4'
       go_loopw [50] (fun iv wr => ∃ i : Nat, i ≤ n3 ∧ iv = .int .i64 (i : Int) ∧ Hid (Gf w wr 4 (fr (.slice b1 n1 k1) (.slice b2 n2 k2) (.slice b3 n3 k3) (.slice b4 n4 k4)) [(w.heap.size, #[.int .i64 n, .int .i64 m, .slice b1 n1 k1, .slice b2 n2 k2, .slice b3 n3 k3], 25)] (fr 3 3 50 57) (fr 1 1 3 2) (fr n1 n2 n3 n4) DU (fr (S.map (Value.int .i64)) (F.map (Value.int .i64)) (E.flatMap Ae) (Lp.flatMap Bn)) (upd (upd (upd (fr 0 0 0 0) 0 n1) 1 n2) 2 (i * 3)))) (fun iv _ => n3 - (intOf iv).toNat)
       case atStart => exact ⟨0, Nat.zero_le _, rfl, H0⟩
       case round =>
        obtain ⟨i, hi, rfl, HY⟩ := hrel
        clear H0
        have q0 : wr.cell? ⟨w.heap.size, 4, none⟩ = some (.slice b3 n3 k3) := A1 (HY.out.b (w.heap.size, #[.int .i64 n, .int .i64 m, .slice b1 n1 k1, .slice b2 n2 k2, .slice b3 n3 k3], 25) (by simp)) rfl
        have i2 : (0 : Int) ≤ (i : Int) := by omega
        by_cases hil : i < n3
        · have i3 : (i : Int) < (n3 : Int) := by omega
          obtain ⟨g, hg, hcs⟩ := HY.out.cell 2 (by omega) (z := 3) rfl rfl rfl (i * 3) (by show (i * 3) < n3 * 3; omega)
          subst hg
          obtain ⟨⟨u0, q1⟩, f1⟩ := hcs (i * 3) (by omega)
          obtain ⟨⟨u1, q2⟩, f2⟩ := hcs (i * 3 + 1) (by omega)
          obtain ⟨⟨u2, q3⟩, f3⟩ := hcs (i * 3 + 2) (by omega)
          clear hcs
          have e1 : IntKind.i64.wrap (-(i : Int)) = -(i : Int) := by rw [IntKind.wrap_i64]; omega
          have J : Hid (Gf w (((wr.setCell ⟨g, i * 3, none⟩ (.int .i64 (-(i : Int)))).setCell ⟨g, i * 3 + 1, none⟩ (.int .i64 (-3))).setCell ⟨g, i * 3 + 2, none⟩ (.int .i64 0)) 4 (fr (.slice b1 n1 k1) (.slice b2 n2 k2) (.slice (some ⟨g, 0, none⟩) n3 k3) (.slice b4 n4 k4)) [(w.heap.size, #[.int .i64 n, .int .i64 m, .slice b1 n1 k1, .slice b2 n2 k2, .slice (some ⟨g, 0, none⟩) n3 k3], 25)] (fr 3 3 50 57) (fr 1 1 3 2) (fr n1 n2 n3 n4) DU (fr (S.map (Value.int .i64)) (F.map (Value.int .i64)) (E.flatMap Ae) (Lp.flatMap Bn)) (upd (upd (upd (fr 0 0 0 0) 0 n1) 1 n2) 2 ((i + 1) * 3))) := A0 (by
           have t := Gf.puti HS.out 2 (i * 3 + 1 + 1) (Gf.puti HS.out 2 (i * 3 + 1) (Gf.puti HS.out 2 (i * 3) HY.out (by omega) rfl rfl (.int .i64 (-(i : Int))) (NK i)) (by omega) rfl rfl (.int .i64 (-3)) (NM i)) (by omega) rfl rfl (.int .i64 0) (NH i)
           rwa [show i * 3 + 1 + 1 + 1 = (i + 1) * 3 by omega] at t)
          clear HY
          go_wp2_with fail
          go_roundw
          case rel => exact ⟨i + 1, by omega, by go_num, J⟩
          case measure => simp [intOf]; omega
        · have hin : n3 = i := by omega
          subst hin
          have i3 : ¬ (n3 : Int) < (n3 : Int) := by omega
          have H0 : Hid (Gf w wr 4 (fr (.slice b1 n1 k1) (.slice b2 n2 k2) (.slice b3 n3 k3) (.slice b4 n4 k4)) [(w.heap.size, #[.int .i64 n, .int .i64 m, .slice b1 n1 k1, .slice b2 n2 k2, .slice b3 n3 k3], 25)] (fr 3 3 50 57) (fr 1 1 3 2) (fr n1 n2 n3 n4) DU (fr (S.map (Value.int .i64)) (F.map (Value.int .i64)) (E.flatMap Ae) (Lp.flatMap Bn)) (upd (upd (upd (upd (fr 0 0 0 0) 0 n1) 1 n2) 2 (n3 * 3)) 3 0)) := A0 (by rw [DX _ 3 0 rfl]; exact HY.out)
          clear HY
          go_wp2_with fail
          go_loopw [63] (fun iv wr => ∃ i : Nat, i ≤ n4 ∧ iv = .int .i64 (i : Int) ∧ Hid (Gf w wr 4 (fr (.slice b1 n1 k1) (.slice b2 n2 k2) (.slice b3 n3 k3) (.slice b4 n4 k4)) [(w.heap.size, #[.int .i64 n, .int .i64 m, .slice b1 n1 k1, .slice b2 n2 k2, .slice b3 n3 k3], 25)] (fr 3 3 50 57) (fr 1 1 3 2) (fr n1 n2 n3 n4) DU (fr (S.map (Value.int .i64)) (F.map (Value.int .i64)) (E.flatMap Ae) (Lp.flatMap Bn)) (upd (upd (upd (upd (fr 0 0 0 0) 0 n1) 1 n2) 2 (n3 * 3)) 3 (i * 2)))) (fun iv _ => n4 - (intOf iv).toNat)
          case atStart => exact ⟨0, Nat.zero_le _, rfl, H0⟩
          case round =>
           obtain ⟨i, hi, rfl, HY⟩ := hrel
           clear H0
           have i2 : (0 : Int) ≤ (i : Int) := by omega
           by_cases hil : i < n4
           · have i3 : (i : Int) < (n4 : Int) := by omega
             obtain ⟨g, hg, hcs⟩ := HY.out.cell 3 (by omega) (z := 2) rfl rfl rfl (i * 2) (by show (i * 2) < n4 * 2; omega)
             subst hg
             obtain ⟨⟨u0, q1⟩, f1⟩ := hcs (i * 2) (by omega)
             obtain ⟨⟨u1, q2⟩, f2⟩ := hcs (i * 2 + 1) (by omega)
             clear hcs
             have e1 : IntKind.i64.wrap (-(i : Int)) = -(i : Int) := by rw [IntKind.wrap_i64]; omega
             have J : Hid (Gf w ((wr.setCell ⟨g, i * 2, none⟩ (.int .i64 (-(i : Int)))).setCell ⟨g, i * 2 + 1, none⟩ (.int .i64 (-4))) 4 (fr (.slice b1 n1 k1) (.slice b2 n2 k2) (.slice b3 n3 k3) (.slice (some ⟨g, 0, none⟩) n4 k4)) [(w.heap.size, #[.int .i64 n, .int .i64 m, .slice b1 n1 k1, .slice b2 n2 k2, .slice b3 n3 k3], 25)] (fr 3 3 50 57) (fr 1 1 3 2) (fr n1 n2 n3 n4) DU (fr (S.map (Value.int .i64)) (F.map (Value.int .i64)) (E.flatMap Ae) (Lp.flatMap Bn)) (upd (upd (upd (upd (fr 0 0 0 0) 0 n1) 1 n2) 2 (n3 * 3)) 3 ((i + 1) * 2))) := A0 (by
              have t := Gf.puti HS.out 3 (i * 2 + 1) (Gf.puti HS.out 3 (i * 2) HY.out (by omega) rfl rfl (.int .i64 (-(i : Int))) (NL i)) (by omega) rfl rfl (.int .i64 (-4)) (ND i)
              rwa [show i * 2 + 1 + 1 = (i + 1) * 2 by omega] at t)
             clear HY
             go_wp2_with fail
             go_roundw
             case rel => exact ⟨i + 1, by omega, by go_num, J⟩
             case measure => simp [intOf]; omega
           · have hin : n4 = i := by omega
             subst hin
             have i3 : ¬ (n4 : Int) < (n4 : Int) := by omega
             have q2' : wr.cell? ⟨w.heap.size, 2, none⟩ = some (.slice b1 n1 k1) := A1 (HY.out.b (w.heap.size, #[.int .i64 n, .int .i64 m, .slice b1 n1 k1, .slice b2 n2 k2, .slice b3 n3 k3], 25) (by simp)) rfl
             have q3' : wr.cell? ⟨w.heap.size, 3, none⟩ = some (.slice b2 n2 k2) := A1 (HY.out.b (w.heap.size, #[.int .i64 n, .int .i64 m, .slice b1 n1 k1, .slice b2 n2 k2, .slice b3 n3 k3], 25) (by simp)) rfl
             have q4' : wr.cell? ⟨w.heap.size, 4, none⟩ = some (.slice b3 n3 k3) := A1 (HY.out.b (w.heap.size, #[.int .i64 n, .int .i64 m, .slice b1 n1 k1, .slice b2 n2 k2, .slice b3 n3 k3], 25) (by simp)) rfl
             have HO := A0 (HFull.out wr HY.out)
             clear HY
             have HZ : Hid (Gg w wr 4 (fr (.slice b1 n1 k1) (.slice b2 n2 k2) (.slice b3 n3 k3) (.slice b4 n4 k4)) [(w.heap.size, #[.int .i64 n, .int .i64 m, .slice b1 n1 k1, .slice b2 n2 k2, .slice b3 n3 k3], 25)] (yD n1 n2 n3 n4) ∧ (∀ r, r < 4 → 1 ≤ r → wr.ownsRow 0 ((fr 3 3 50 57) r) ((fr 1 1 3 2) r) ((fr (.slice b1 n1 k1) (.slice b2 n2 k2) (.slice b3 n3 k3) (.slice b4 n4 k4)) r) ((fr n1 n2 n3 n4) r) ((yD n1 n2 n3 n4) r)) ∧ Gx w wr ((fr (.slice b1 n1 k1) (.slice b2 n2 k2) (.slice b3 n3 k3) (.slice b4 n4 k4)) 0) [(w.heap.size, #[.int .i64 n, .int .i64 m, .slice b1 n1 k1, .slice b2 n2 k2, .slice b3 n3 k3], 25)] 3 1 n1 ((yD n1 n2 n3 n4) 0) [.int .i64 5] (.slice b1 (n1 + 0) k1) 0) := A0 ⟨HO.out.1, fun q hq hc => HO.out.2 q hq (by omega), Gx.zero' rfl (HO.out.2 0 (by omega) (Nat.le_refl _))⟩
             clear HO
             go_wp2_with fail
             clear q2' q3' q4'
             go_loopw [9, 11] (fun mv jv wr => ∃ j av cv, j ≤ 90 ∧ mv = .slice av (n1 + j) cv ∧ jv = .int .i64 (j : Nat) ∧ Hid (Gg w wr 4 (fr (.slice b1 n1 k1) (.slice b2 n2 k2) (.slice b3 n3 k3) (.slice b4 n4 k4)) [(w.heap.size, #[.int .i64 n, .int .i64 m, .slice b1 n1 k1, .slice b2 n2 k2, .slice b3 n3 k3], 25)] (yD n1 n2 n3 n4) ∧ (∀ r, r < 4 → 1 ≤ r → wr.ownsRow 0 ((fr 3 3 50 57) r) ((fr 1 1 3 2) r) ((fr (.slice b1 n1 k1) (.slice b2 n2 k2) (.slice b3 n3 k3) (.slice b4 n4 k4)) r) ((fr n1 n2 n3 n4) r) ((yD n1 n2 n3 n4) r)) ∧ Gx w wr ((fr (.slice b1 n1 k1) (.slice b2 n2 k2) (.slice b3 n3 k3) (.slice b4 n4 k4)) 0) [(w.heap.size, #[.int .i64 n, .int .i64 m, .slice b1 n1 k1, .slice b2 n2 k2, .slice b3 n3 k3], 25)] 3 1 n1 ((yD n1 n2 n3 n4) 0) [.int .i64 5] (.slice av (n1 + j) cv) j)) (fun _ jv _ => 90 - (intOf jv).toNat)
             case atStart => exact ⟨0, b1, k1, Nat.zero_le _, rfl, rfl, HZ⟩
             case round =>
              obtain ⟨j, av0, cv0, hj, rfl, rfl, HY⟩ := hrel
              clear HZ
              by_cases hjl : j < 90
              · have i2 : (j : Int) < 90 := by omega
                have dA : Below wr.heap.size wr (wr.alloc (.cells #[.int .i64 5] 3)) := (Below.refl _ _).alloc (Nat.le_refl _) _
                have HB := A0 (And.intro (HY.out.1.below dA) (And.intro (fun (r : Nat) (hr : r < 4) (hc : 1 ≤ r) => A6 (HY.out.2.1 r hr hc) dA) (HY.out.2.2.below dA)))
                clear dA HY
                go_wp2_with (at_builtin; refine Dq underlying22 hi3 hz30 hz31 hz32 rfl (by omega) (by omega) HS.out HB.out.1 0 (by omega) HB.out.2.2 rfl _ _ rfl rfl ⟨wr.heap.size, 0, none⟩ rfl rfl (Jz wr [.int .i64 5] 3) (by simp [Value.oneCell']) (by omega) ?_)
                intro gv cw w9 H9
                have J : Hid (Gg w w9 4 (fr (.slice b1 n1 k1) (.slice b2 n2 k2) (.slice b3 n3 k3) (.slice b4 n4 k4)) [(w.heap.size, #[.int .i64 n, .int .i64 m, .slice b1 n1 k1, .slice b2 n2 k2, .slice b3 n3 k3], 25)] (yD n1 n2 n3 n4) ∧ (∀ r, r < 4 → 1 ≤ r → w9.ownsRow 0 ((fr 3 3 50 57) r) ((fr 1 1 3 2) r) ((fr (.slice b1 n1 k1) (.slice b2 n2 k2) (.slice b3 n3 k3) (.slice b4 n4 k4)) r) ((fr n1 n2 n3 n4) r) ((yD n1 n2 n3 n4) r)) ∧ Gx w w9 ((fr (.slice b1 n1 k1) (.slice b2 n2 k2) (.slice b3 n3 k3) (.slice b4 n4 k4)) 0) [(w.heap.size, #[.int .i64 n, .int .i64 m, .slice b1 n1 k1, .slice b2 n2 k2, .slice b3 n3 k3], 25)] 3 1 n1 ((yD n1 n2 n3 n4) 0) [.int .i64 5] (.slice (some ⟨gv, 0, none⟩) (n1 + (j + 1)) cw) (j + 1)) := A0 ⟨H9.out.2.1, fun r hr hc => H9.out.2.2.2 r hr (by omega) _ _ _ _ _ (HB.out.2.1 r hr hc), H9.out.1⟩
                clear H9 HB
                go_wp2_with fail
                go_roundw
                case rel => exact ⟨j + 1, some ⟨gv, 0, none⟩, cw, by omega, rfl, by go_num, J⟩
                case measure => simp [intOf]; omega
              · have hin : 90 = j := by omega
                subst hin
                have i2 : ¬ ((90 : Nat) : Int) < 90 := by omega
                have HO := A0 (And.intro HY.out.1 HY.out.2.1)
                clear HY
                have HZ : Hid (Gg w wr 4 (fr (.slice b1 n1 k1) (.slice b2 n2 k2) (.slice b3 n3 k3) (.slice b4 n4 k4)) [(w.heap.size, #[.int .i64 n, .int .i64 m, .slice b1 n1 k1, .slice b2 n2 k2, .slice b3 n3 k3], 25)] (yD n1 n2 n3 n4) ∧ (∀ r, r < 4 → 2 ≤ r → wr.ownsRow 0 ((fr 3 3 50 57) r) ((fr 1 1 3 2) r) ((fr (.slice b1 n1 k1) (.slice b2 n2 k2) (.slice b3 n3 k3) (.slice b4 n4 k4)) r) ((fr n1 n2 n3 n4) r) ((yD n1 n2 n3 n4) r)) ∧ Gx w wr ((fr (.slice b1 n1 k1) (.slice b2 n2 k2) (.slice b3 n3 k3) (.slice b4 n4 k4)) 1) [(w.heap.size, #[.int .i64 n, .int .i64 m, .slice b1 n1 k1, .slice b2 n2 k2, .slice b3 n3 k3], 25)] 3 1 n2 ((yD n1 n2 n3 n4) 1) [.int .i64 6] (.slice b2 (n2 + 0) k2) 0) := A0 ⟨HO.out.1, fun q hq hc => HO.out.2 q hq (by omega), Gx.zero' rfl (HO.out.2 1 (by omega) (Nat.le_refl _))⟩
                clear HO
                go_wp2_with fail
                go_loopw [10, 12] (fun mv jv wr => ∃ j av cv, j ≤ 90 ∧ mv = .slice av (n2 + j) cv ∧ jv = .int .i64 (j : Nat) ∧ Hid (Gg w wr 4 (fr (.slice b1 n1 k1) (.slice b2 n2 k2) (.slice b3 n3 k3) (.slice b4 n4 k4)) [(w.heap.size, #[.int .i64 n, .int .i64 m, .slice b1 n1 k1, .slice b2 n2 k2, .slice b3 n3 k3], 25)] (yD n1 n2 n3 n4) ∧ (∀ r, r < 4 → 2 ≤ r → wr.ownsRow 0 ((fr 3 3 50 57) r) ((fr 1 1 3 2) r) ((fr (.slice b1 n1 k1) (.slice b2 n2 k2) (.slice b3 n3 k3) (.slice b4 n4 k4)) r) ((fr n1 n2 n3 n4) r) ((yD n1 n2 n3 n4) r)) ∧ Gx w wr ((fr (.slice b1 n1 k1) (.slice b2 n2 k2) (.slice b3 n3 k3) (.slice b4 n4 k4)) 1) [(w.heap.size, #[.int .i64 n, .int .i64 m, .slice b1 n1 k1, .slice b2 n2 k2, .slice b3 n3 k3], 25)] 3 1 n2 ((yD n1 n2 n3 n4) 1) [.int .i64 6] (.slice av (n2 + j) cv) j)) (fun _ jv _ => 90 - (intOf jv).toNat)
                case atStart => exact ⟨0, b2, k2, Nat.zero_le _, rfl, rfl, HZ⟩
                case round =>
                 obtain ⟨j, av1, cv1, hj, rfl, rfl, HY⟩ := hrel
                 clear HZ
                 by_cases hjl : j < 90
                 · have i2 : (j : Int) < 90 := by omega
                   have dA : Below wr.heap.size wr (wr.alloc (.cells #[.int .i64 6] 3)) := (Below.refl _ _).alloc (Nat.le_refl _) _
                   have HB := A0 (And.intro (HY.out.1.below dA) (And.intro (fun (r : Nat) (hr : r < 4) (hc : 2 ≤ r) => A6 (HY.out.2.1 r hr hc) dA) (HY.out.2.2.below dA)))
                   clear dA HY
                   go_wp2_with (at_builtin; refine Dq underlying22 hi3 hz30 hz31 hz32 rfl (by omega) (by omega) HS.out HB.out.1 1 (by omega) HB.out.2.2 rfl _ _ rfl rfl ⟨wr.heap.size, 0, none⟩ rfl rfl (Jz wr [.int .i64 6] 3) (by simp [Value.oneCell']) (by omega) ?_)
                   intro gv cw w9 H9
                   have J : Hid (Gg w w9 4 (fr (.slice b1 n1 k1) (.slice b2 n2 k2) (.slice b3 n3 k3) (.slice b4 n4 k4)) [(w.heap.size, #[.int .i64 n, .int .i64 m, .slice b1 n1 k1, .slice b2 n2 k2, .slice b3 n3 k3], 25)] (yD n1 n2 n3 n4) ∧ (∀ r, r < 4 → 2 ≤ r → w9.ownsRow 0 ((fr 3 3 50 57) r) ((fr 1 1 3 2) r) ((fr (.slice b1 n1 k1) (.slice b2 n2 k2) (.slice b3 n3 k3) (.slice b4 n4 k4)) r) ((fr n1 n2 n3 n4) r) ((yD n1 n2 n3 n4) r)) ∧ Gx w w9 ((fr (.slice b1 n1 k1) (.slice b2 n2 k2) (.slice b3 n3 k3) (.slice b4 n4 k4)) 1) [(w.heap.size, #[.int .i64 n, .int .i64 m, .slice b1 n1 k1, .slice b2 n2 k2, .slice b3 n3 k3], 25)] 3 1 n2 ((yD n1 n2 n3 n4) 1) [.int .i64 6] (.slice (some ⟨gv, 0, none⟩) (n2 + (j + 1)) cw) (j + 1)) := A0 ⟨H9.out.2.1, fun r hr hc => H9.out.2.2.2 r hr (by omega) _ _ _ _ _ (HB.out.2.1 r hr hc), H9.out.1⟩
                   clear H9 HB
                   go_wp2_with fail
                   go_roundw
                   case rel => exact ⟨j + 1, some ⟨gv, 0, none⟩, cw, by omega, rfl, by go_num, J⟩
                   case measure => simp [intOf]; omega
                 · have hin : 90 = j := by omega
                   subst hin
                   have i2 : ¬ ((90 : Nat) : Int) < 90 := by omega
                   have HO := A0 (And.intro HY.out.1 HY.out.2.1)
                   clear HY
                   have q2' : wr.cell? ⟨w.heap.size, 2, none⟩ = some (.slice b1 n1 k1) := A1 (HO.out.1.b (w.heap.size, #[.int .i64 n, .int .i64 m, .slice b1 n1 k1, .slice b2 n2 k2, .slice b3 n3 k3], 25) (by simp)) rfl
                   have q3' : wr.cell? ⟨w.heap.size, 3, none⟩ = some (.slice b2 n2 k2) := A1 (HO.out.1.b (w.heap.size, #[.int .i64 n, .int .i64 m, .slice b1 n1 k1, .slice b2 n2 k2, .slice b3 n3 k3], 25) (by simp)) rfl
                   have q4' : wr.cell? ⟨w.heap.size, 4, none⟩ = some (.slice b3 n3 k3) := A1 (HO.out.1.b (w.heap.size, #[.int .i64 n, .int .i64 m, .slice b1 n1 k1, .slice b2 n2 k2, .slice b3 n3 k3], 25) (by simp)) rfl
                   have HZ : Hid (Gg w wr 4 (fr (.slice b1 n1 k1) (.slice b2 n2 k2) (.slice b3 n3 k3) (.slice b4 n4 k4)) [(w.heap.size, #[.int .i64 n, .int .i64 m, .slice b1 n1 k1, .slice b2 n2 k2, .slice b3 n3 k3], 25)] (yD n1 n2 n3 n4) ∧ (∀ r, r < 4 → 3 ≤ r → wr.ownsRow 0 ((fr 3 3 50 57) r) ((fr 1 1 3 2) r) ((fr (.slice b1 n1 k1) (.slice b2 n2 k2) (.slice b3 n3 k3) (.slice b4 n4 k4)) r) ((fr n1 n2 n3 n4) r) ((yD n1 n2 n3 n4) r)) ∧ Gx w wr ((fr (.slice b1 n1 k1) (.slice b2 n2 k2) (.slice b3 n3 k3) (.slice b4 n4 k4)) 2) [(w.heap.size, #[.int .i64 n, .int .i64 m, .slice b1 n1 k1, .slice b2 n2 k2, .slice b3 n3 k3], 25)] 50 3 n3 ((yD n1 n2 n3 n4) 2) [.int .i64 7, .int .i64 0, .int .i64 0] (.slice b3 (n3 + 0) k3) 0) := A0 ⟨HO.out.1, fun q hq hc => HO.out.2 q hq (by omega), Gx.zero' rfl (HO.out.2 2 (by omega) (Nat.le_refl _))⟩
                   clear HO
                   go_wp2_with fail
                   clear q2' q3' q4'
                   go_loopw [13, 14] (fun mv jv wr => ∃ j av cv, j ≤ 90 ∧ mv = .slice av (n3 + j) cv ∧ jv = .int .i64 (j : Nat) ∧ Hid (Gg w wr 4 (fr (.slice b1 n1 k1) (.slice b2 n2 k2) (.slice b3 n3 k3) (.slice b4 n4 k4)) [(w.heap.size, #[.int .i64 n, .int .i64 m, .slice b1 n1 k1, .slice b2 n2 k2, .slice b3 n3 k3], 25)] (yD n1 n2 n3 n4) ∧ (∀ r, r < 4 → 3 ≤ r → wr.ownsRow 0 ((fr 3 3 50 57) r) ((fr 1 1 3 2) r) ((fr (.slice b1 n1 k1) (.slice b2 n2 k2) (.slice b3 n3 k3) (.slice b4 n4 k4)) r) ((fr n1 n2 n3 n4) r) ((yD n1 n2 n3 n4) r)) ∧ Gx w wr ((fr (.slice b1 n1 k1) (.slice b2 n2 k2) (.slice b3 n3 k3) (.slice b4 n4 k4)) 2) [(w.heap.size, #[.int .i64 n, .int .i64 m, .slice b1 n1 k1, .slice b2 n2 k2, .slice b3 n3 k3], 25)] 50 3 n3 ((yD n1 n2 n3 n4) 2) [.int .i64 7, .int .i64 0, .int .i64 0] (.slice av (n3 + j) cv) j)) (fun _ jv _ => 90 - (intOf jv).toNat)
                   case atStart => exact ⟨0, b3, k3, Nat.zero_le _, rfl, rfl, HZ⟩
                   case round =>
                    obtain ⟨j, av2, cv2, hj, rfl, rfl, HY⟩ := hrel
                    clear HZ
                    by_cases hjl : j < 90
                    · have i2 : (j : Int) < 90 := by omega
                      have dA : Below wr.heap.size wr (wr.alloc (.cells #[.int .i64 7, .int .i64 0, .int .i64 0] 50)) := (Below.refl _ _).alloc (Nat.le_refl _) _
                      have HB := A0 (And.intro (HY.out.1.below dA) (And.intro (fun (r : Nat) (hr : r < 4) (hc : 3 ≤ r) => A6 (HY.out.2.1 r hr hc) dA) (HY.out.2.2.below dA)))
                      clear dA HY
                      go_wp2_with (at_builtin; refine Dq underlying23 hi5 hz50 hz51 hz52 rfl (by omega) (by omega) HS.out HB.out.1 2 (by omega) HB.out.2.2 rfl _ _ rfl rfl ⟨wr.heap.size, 0, none⟩ rfl rfl (Jz wr [.int .i64 7, .int .i64 0, .int .i64 0] 50) (by simp [Value.oneCell']) (by omega) ?_)
                      intro gv cw w9 H9
                      have J : Hid (Gg w w9 4 (fr (.slice b1 n1 k1) (.slice b2 n2 k2) (.slice b3 n3 k3) (.slice b4 n4 k4)) [(w.heap.size, #[.int .i64 n, .int .i64 m, .slice b1 n1 k1, .slice b2 n2 k2, .slice b3 n3 k3], 25)] (yD n1 n2 n3 n4) ∧ (∀ r, r < 4 → 3 ≤ r → w9.ownsRow 0 ((fr 3 3 50 57) r) ((fr 1 1 3 2) r) ((fr (.slice b1 n1 k1) (.slice b2 n2 k2) (.slice b3 n3 k3) (.slice b4 n4 k4)) r) ((fr n1 n2 n3 n4) r) ((yD n1 n2 n3 n4) r)) ∧ Gx w w9 ((fr (.slice b1 n1 k1) (.slice b2 n2 k2) (.slice b3 n3 k3) (.slice b4 n4 k4)) 2) [(w.heap.size, #[.int .i64 n, .int .i64 m, .slice b1 n1 k1, .slice b2 n2 k2, .slice b3 n3 k3], 25)] 50 3 n3 ((yD n1 n2 n3 n4) 2) [.int .i64 7, .int .i64 0, .int .i64 0] (.slice (some ⟨gv, 0, none⟩) (n3 + (j + 1)) cw) (j + 1)) := A0 ⟨H9.out.2.1, fun r hr hc => H9.out.2.2.2 r hr (by omega) _ _ _ _ _ (HB.out.2.1 r hr hc), H9.out.1⟩
                      clear H9 HB
                      go_wp2_with fail
                      go_roundw
                      case rel => exact ⟨j + 1, some ⟨gv, 0, none⟩, cw, by omega, rfl, by go_num, J⟩
                      case measure => simp [intOf]; omega
                    · have hin : 90 = j := by omega
                      subst hin
                      have i2 : ¬ ((90 : Nat) : Int) < 90 := by omega
                      have HO := A0 (And.intro HY.out.1 HY.out.2.1)
                      clear HY
                      have HZ : Hid (Gg w wr 4 (fr (.slice b1 n1 k1) (.slice b2 n2 k2) (.slice b3 n3 k3) (.slice b4 n4 k4)) [(w.heap.size, #[.int .i64 n, .int .i64 m, .slice b1 n1 k1, .slice b2 n2 k2, .slice b3 n3 k3], 25)] (yD n1 n2 n3 n4) ∧ (∀ r, r < 4 → 4 ≤ r → wr.ownsRow 0 ((fr 3 3 50 57) r) ((fr 1 1 3 2) r) ((fr (.slice b1 n1 k1) (.slice b2 n2 k2) (.slice b3 n3 k3) (.slice b4 n4 k4)) r) ((fr n1 n2 n3 n4) r) ((yD n1 n2 n3 n4) r)) ∧ Gx w wr ((fr (.slice b1 n1 k1) (.slice b2 n2 k2) (.slice b3 n3 k3) (.slice b4 n4 k4)) 3) [(w.heap.size, #[.int .i64 n, .int .i64 m, .slice b1 n1 k1, .slice b2 n2 k2, .slice b3 n3 k3], 25)] 57 2 n4 ((yD n1 n2 n3 n4) 3) [.int .i64 8, .int .i64 9] (.slice b4 (n4 + 0) k4) 0) := A0 ⟨HO.out.1, fun q hq hc => HO.out.2 q hq (by omega), Gx.zero' rfl (HO.out.2 3 (by omega) (Nat.le_refl _))⟩
                      clear HO
                      go_wp2_with fail
                      go_loopw [15, 16] (fun mv jv wr => ∃ j av cv, j ≤ 90 ∧ mv = .slice av (n4 + j) cv ∧ jv = .int .i64 (j : Nat) ∧ Hid (Gg w wr 4 (fr (.slice b1 n1 k1) (.slice b2 n2 k2) (.slice b3 n3 k3) (.slice b4 n4 k4)) [(w.heap.size, #[.int .i64 n, .int .i64 m, .slice b1 n1 k1, .slice b2 n2 k2, .slice b3 n3 k3], 25)] (yD n1 n2 n3 n4) ∧ (∀ r, r < 4 → 4 ≤ r → wr.ownsRow 0 ((fr 3 3 50 57) r) ((fr 1 1 3 2) r) ((fr (.slice b1 n1 k1) (.slice b2 n2 k2) (.slice b3 n3 k3) (.slice b4 n4 k4)) r) ((fr n1 n2 n3 n4) r) ((yD n1 n2 n3 n4) r)) ∧ Gx w wr ((fr (.slice b1 n1 k1) (.slice b2 n2 k2) (.slice b3 n3 k3) (.slice b4 n4 k4)) 3) [(w.heap.size, #[.int .i64 n, .int .i64 m, .slice b1 n1 k1, .slice b2 n2 k2, .slice b3 n3 k3], 25)] 57 2 n4 ((yD n1 n2 n3 n4) 3) [.int .i64 8, .int .i64 9] (.slice av (n4 + j) cv) j)) (fun _ jv _ => 90 - (intOf jv).toNat)
                      case atStart => exact ⟨0, b4, k4, Nat.zero_le _, rfl, rfl, HZ⟩
                      case round =>
                       obtain ⟨j, av3, cv3, hj, rfl, rfl, HY⟩ := hrel
                       clear HZ
                       by_cases hjl : j < 90
                       · have i2 : (j : Int) < 90 := by omega
                         have dA : Below wr.heap.size wr (wr.alloc (.cells #[.int .i64 8, .int .i64 9] 57)) := (Below.refl _ _).alloc (Nat.le_refl _) _
                         have HB := A0 (And.intro (HY.out.1.below dA) (And.intro (fun (r : Nat) (hr : r < 4) (hc : 4 ≤ r) => A6 (HY.out.2.1 r hr hc) dA) (HY.out.2.2.below dA)))
                         clear dA HY
                         go_wp2_with (at_builtin; refine Dq underlying29 hi7 hz70 hz71 hz72 rfl (by omega) (by omega) HS.out HB.out.1 3 (by omega) HB.out.2.2 rfl _ _ rfl rfl ⟨wr.heap.size, 0, none⟩ rfl rfl (Jz wr [.int .i64 8, .int .i64 9] 57) (by simp [Value.oneCell']) (by omega) ?_)
                         intro gv cw w9 H9
                         have J : Hid (Gg w w9 4 (fr (.slice b1 n1 k1) (.slice b2 n2 k2) (.slice b3 n3 k3) (.slice b4 n4 k4)) [(w.heap.size, #[.int .i64 n, .int .i64 m, .slice b1 n1 k1, .slice b2 n2 k2, .slice b3 n3 k3], 25)] (yD n1 n2 n3 n4) ∧ (∀ r, r < 4 → 4 ≤ r → w9.ownsRow 0 ((fr 3 3 50 57) r) ((fr 1 1 3 2) r) ((fr (.slice b1 n1 k1) (.slice b2 n2 k2) (.slice b3 n3 k3) (.slice b4 n4 k4)) r) ((fr n1 n2 n3 n4) r) ((yD n1 n2 n3 n4) r)) ∧ Gx w w9 ((fr (.slice b1 n1 k1) (.slice b2 n2 k2) (.slice b3 n3 k3) (.slice b4 n4 k4)) 3) [(w.heap.size, #[.int .i64 n, .int .i64 m, .slice b1 n1 k1, .slice b2 n2 k2, .slice b3 n3 k3], 25)] 57 2 n4 ((yD n1 n2 n3 n4) 3) [.int .i64 8, .int .i64 9] (.slice (some ⟨gv, 0, none⟩) (n4 + (j + 1)) cw) (j + 1)) := A0 ⟨H9.out.2.1, fun r hr hc => H9.out.2.2.2 r hr (by omega) _ _ _ _ _ (HB.out.2.1 r hr hc), H9.out.1⟩
                         clear H9 HB
                         go_wp2_with fail
                         go_roundw
                         case rel => exact ⟨j + 1, some ⟨gv, 0, none⟩, cw, by omega, rfl, by go_num, J⟩
                         case measure => simp [intOf]; omega
                       · have hin : 90 = j := by omega
                         subst hin
                         have i2 : ¬ ((90 : Nat) : Int) < 90 := by omega
                         have HO := A0 (And.intro HY.out.1 HY.out.2.1)
                         clear HY
                         have HG := A0 HO.out.1
                         clear HO
                         go_wp2_with fail
                         rename World => ws
                         go_loopw [112] (fun iv wr => ∃ i : Nat, i ≤ n4 ∧ iv = .int .i64 (i : Int) ∧ wr = ws) (fun iv _ => n4 - (intOf iv).toNat)
                         case atStart => exact ⟨0, Nat.zero_le _, rfl, rfl⟩
                         case round =>
                          obtain ⟨i, hi, rfl, hws⟩ := hrel
                          subst hws
                          have i2 : (0 : Int) ≤ (i : Int) := by omega
                          by_cases hil : i < n4
                          · have i3 : (i : Int) < (n4 : Int) := by omega
                            obtain ⟨g, hg⟩ := HA3.out (by omega)
                            subst hg
                            have q1 : wr.cell? ⟨g, i * 2, none⟩ = some (.int .i64 (-(i : Int))) := by
                             rw [HG.out.r 3 (by omega) g rfl (i * 2) (by show i * 2 < ((List.range (n4 * 2)).map _).length; rw [List.length_map, List.length_range]; omega)]
                             exact congrArg some (Mc _ _ _ _ (i * 2) (by omega) (NL i) _)
                            have q2 : wr.cell? ⟨g, i * 2 + 1, none⟩ = some (.int .i64 (-4)) := by
                             rw [HG.out.r 3 (by omega) g rfl (i * 2 + 1) (by show i * 2 + 1 < ((List.range (n4 * 2)).map _).length; rw [List.length_map, List.length_range]; omega)]
                             exact congrArg some (Mc _ _ _ _ (i * 2 + 1) (by omega) (ND i) _)
                            have e1 : IntKind.i64.wrap (-(i : Int)) = -(i : Int) := by rw [IntKind.wrap_i64]; omega
                            have e4 : ((-(i : Int)) != (-(i : Int))) = false := by simp
                            have e5 : ((-(i : Int)) == (-(i : Int))) = true := by simp
                            go_wp2_with fail
                            go_roundw
                            case rel => exact ⟨i + 1, by omega, by go_num, by trivial⟩
                            case measure => simp [intOf]; omega
                          · have hin : n4 = i := by omega
                            subst hin
                            have i3 : ¬ (n4 : Int) < (n4 : Int) := by omega
                            have q2' : wr.cell? ⟨w.heap.size, 2, none⟩ = some (.slice b1 n1 k1) := A1 (HG.out.b (w.heap.size, #[.int .i64 n, .int .i64 m, .slice b1 n1 k1, .slice b2 n2 k2, .slice b3 n3 k3], 25) (by simp)) rfl
                            have q3' : wr.cell? ⟨w.heap.size, 3, none⟩ = some (.slice b2 n2 k2) := A1 (HG.out.b (w.heap.size, #[.int .i64 n, .int .i64 m, .slice b1 n1 k1, .slice b2 n2 k2, .slice b3 n3 k3], 25) (by simp)) rfl
                            have q4' : wr.cell? ⟨w.heap.size, 4, none⟩ = some (.slice b3 n3 k3) := A1 (HG.out.b (w.heap.size, #[.int .i64 n, .int .i64 m, .slice b1 n1 k1, .slice b2 n2 k2, .slice b3 n3 k3], 25) (by simp)) rfl
                            go_wp2_with fail
                            clear q2' q3' q4'
                            rename World => ws
                            go_loopw [127] (fun iv wr => ∃ i : Nat, i ≤ n1 ∧ iv = .int .i64 (i : Int) ∧ wr = ws) (fun iv _ => n1 - (intOf iv).toNat)
                            case atStart => exact ⟨0, Nat.zero_le _, rfl, rfl⟩
                            case round =>
                             obtain ⟨i, hi, rfl, hws⟩ := hrel
                             subst hws
                             have q0 : wr.cell? ⟨w.heap.size, 2, none⟩ = some (.slice b1 n1 k1) := A1 (HG.out.b (w.heap.size, #[.int .i64 n, .int .i64 m, .slice b1 n1 k1, .slice b2 n2 k2, .slice b3 n3 k3], 25) (by simp)) rfl
                             have i2 : (0 : Int) ≤ (i : Int) := by omega
                             by_cases hil : i < n1
                             · have i3 : (i : Int) < (n1 : Int) := by omega
                               obtain ⟨g, hg⟩ := HA0.out (by omega)
                               subst hg
                               have q1 : wr.cell? ⟨g, i, none⟩ = some (.int .i64 (-1000000 - (i : Int))) := by
                                rw [HG.out.r 0 (by omega) g rfl i (by show i < ((List.range n1).map _).length; simpa using hil)]
                                exact congrArg some (OP _ _ _ _ i hil _)
                               have e1 : IntKind.i64.wrap (-1000000 - (i : Int)) = -1000000 - (i : Int) := by rw [IntKind.wrap_i64]; omega
                               have e4 : ((-1000000 - (i : Int)) != (-1000000 - (i : Int))) = false := by simp
                               go_wp2_with fail
                               go_roundw
                               case rel => exact ⟨i + 1, by omega, by go_num, by trivial⟩
                               case measure => simp [intOf]; omega
                             · have hin : n1 = i := by omega
                               subst hin
                               have i3 : ¬ (n1 : Int) < (n1 : Int) := by omega
                               have q2' : wr.cell? ⟨w.heap.size, 2, none⟩ = some (.slice b1 n1 k1) := A1 (HG.out.b (w.heap.size, #[.int .i64 n, .int .i64 m, .slice b1 n1 k1, .slice b2 n2 k2, .slice b3 n3 k3], 25) (by simp)) rfl
                               have q3' : wr.cell? ⟨w.heap.size, 3, none⟩ = some (.slice b2 n2 k2) := A1 (HG.out.b (w.heap.size, #[.int .i64 n, .int .i64 m, .slice b1 n1 k1, .slice b2 n2 k2, .slice b3 n3 k3], 25) (by simp)) rfl
                               have q4' : wr.cell? ⟨w.heap.size, 4, none⟩ = some (.slice b3 n3 k3) := A1 (HG.out.b (w.heap.size, #[.int .i64 n, .int .i64 m, .slice b1 n1 k1, .slice b2 n2 k2, .slice b3 n3 k3], 25) (by simp)) rfl
                               go_wp2_with fail
                               clear q2' q3' q4'
                               rename World => ws
                               go_loopw [142] (fun iv wr => ∃ i : Nat, i ≤ n2 ∧ iv = .int .i64 (i : Int) ∧ wr = ws) (fun iv _ => n2 - (intOf iv).toNat)
                               case atStart => exact ⟨0, Nat.zero_le _, rfl, rfl⟩
                               case round =>
                                obtain ⟨i, hi, rfl, hws⟩ := hrel
                                subst hws
                                have q0 : wr.cell? ⟨w.heap.size, 3, none⟩ = some (.slice b2 n2 k2) := A1 (HG.out.b (w.heap.size, #[.int .i64 n, .int .i64 m, .slice b1 n1 k1, .slice b2 n2 k2, .slice b3 n3 k3], 25) (by simp)) rfl
                                have i2 : (0 : Int) ≤ (i : Int) := by omega
                                by_cases hil : i < n2
                                · have i3 : (i : Int) < (n2 : Int) := by omega
                                  obtain ⟨g, hg⟩ := HA1.out (by omega)
                                  subst hg
                                  have q1 : wr.cell? ⟨g, i, none⟩ = some (.int .i64 (-2000000 - (i : Int))) := by
                                   rw [HG.out.r 1 (by omega) g rfl i (by show i < ((List.range n2).map _).length; simpa using hil)]
                                   exact congrArg some (Ot _ _ _ _ i hil _)
                                  have e1 : IntKind.i64.wrap (-2000000 - (i : Int)) = -2000000 - (i : Int) := by rw [IntKind.wrap_i64]; omega
                                  have e4 : ((-2000000 - (i : Int)) != (-2000000 - (i : Int))) = false := by simp
                                  go_wp2_with fail
                                  go_roundw
                                  case rel => exact ⟨i + 1, by omega, by go_num, by trivial⟩
                                  case measure => simp [intOf]; omega
                                · have hin : n2 = i := by omega
                                  subst hin
                                  have i3 : ¬ (n2 : Int) < (n2 : Int) := by omega
                                  have q2' : wr.cell? ⟨w.heap.size, 2, none⟩ = some (.slice b1 n1 k1) := A1 (HG.out.b (w.heap.size, #[.int .i64 n, .int .i64 m, .slice b1 n1 k1, .slice b2 n2 k2, .slice b3 n3 k3], 25) (by simp)) rfl
                                  have q3' : wr.cell? ⟨w.heap.size, 3, none⟩ = some (.slice b2 n2 k2) := A1 (HG.out.b (w.heap.size, #[.int .i64 n, .int .i64 m, .slice b1 n1 k1, .slice b2 n2 k2, .slice b3 n3 k3], 25) (by simp)) rfl
                                  have q4' : wr.cell? ⟨w.heap.size, 4, none⟩ = some (.slice b3 n3 k3) := A1 (HG.out.b (w.heap.size, #[.int .i64 n, .int .i64 m, .slice b1 n1 k1, .slice b2 n2 k2, .slice b3 n3 k3], 25) (by simp)) rfl
                                  go_wp2_with fail
                                  clear q2' q3' q4'
                                  rename World => ws
                                  go_loopw [157] (fun iv wr => ∃ i : Nat, i ≤ n3 ∧ iv = .int .i64 (i : Int) ∧ wr = ws) (fun iv _ => n3 - (intOf iv).toNat)
                                  case atStart => exact ⟨0, Nat.zero_le _, rfl, rfl⟩
                                  case round =>
                                   obtain ⟨i, hi, rfl, hws⟩ := hrel
                                   subst hws
                                   have q0 : wr.cell? ⟨w.heap.size, 4, none⟩ = some (.slice b3 n3 k3) := A1 (HG.out.b (w.heap.size, #[.int .i64 n, .int .i64 m, .slice b1 n1 k1, .slice b2 n2 k2, .slice b3 n3 k3], 25) (by simp)) rfl
                                   have i2 : (0 : Int) ≤ (i : Int) := by omega
                                   by_cases hil : i < n3
                                   · have i3 : (i : Int) < (n3 : Int) := by omega
                                     obtain ⟨g, hg⟩ := HA2.out (by omega)
                                     subst hg
                                     have q1 : wr.cell? ⟨g, i * 3, none⟩ = some (.int .i64 (-(i : Int))) := by
                                      rw [HG.out.r 2 (by omega) g rfl (i * 3) (by show i * 3 < ((List.range (n3 * 3)).map _).length; rw [List.length_map, List.length_range]; omega)]
                                      exact congrArg some (J5 _ _ _ _ (i * 3) (by omega) (NK i) _)
                                     have q2 : wr.cell? ⟨g, i * 3 + 1, none⟩ = some (.int .i64 (-3)) := by
                                      rw [HG.out.r 2 (by omega) g rfl (i * 3 + 1) (by show i * 3 + 1 < ((List.range (n3 * 3)).map _).length; rw [List.length_map, List.length_range]; omega)]
                                      exact congrArg some (J5 _ _ _ _ (i * 3 + 1) (by omega) (NM i) _)
                                     have q3 : wr.cell? ⟨g, i * 3 + 2, none⟩ = some (.int .i64 0) := by
                                      rw [HG.out.r 2 (by omega) g rfl (i * 3 + 2) (by show i * 3 + 2 < ((List.range (n3 * 3)).map _).length; rw [List.length_map, List.length_range]; omega)]
                                      exact congrArg some (J5 _ _ _ _ (i * 3 + 2) (by omega) (NH i) _)
                                     have e1 : IntKind.i64.wrap (-(i : Int)) = -(i : Int) := by rw [IntKind.wrap_i64]; omega
                                     have e4 : ((-(i : Int)) != (-(i : Int))) = false := by simp
                                     have e5 : ((-(i : Int)) == (-(i : Int))) = true := by simp
                                     go_wp2_with fail
                                     go_roundw
                                     case rel => exact ⟨i + 1, by omega, by go_num, by trivial⟩
                                     case measure => simp [intOf]; omega
                                   · have hin : n3 = i := by omega
                                     subst hin
                                     have i3 : ¬ (n3 : Int) < (n3 : Int) := by omega
                                     have e91 : (90 : Int) ≤ (n1 : Int) + 90 := by omega
                                     have e92 : (90 : Int) ≤ (n2 : Int) + 90 := by omega
                                     have e93 : (90 : Int) ≤ (n3 : Int) + 90 := by omega
                                     have e94 : (90 : Int) ≤ (n4 : Int) + 90 := by omega
                                     go_wp2_with fail
                                     go_ret
                                     exact ⟨rfl, A0 (HBl.out wr HG.out)⟩
end Go.Proofs.YtchoopnjckcohaaGreat
namespace Go.Proofs.YtchoopnjckcohaaGreat
open Tryz
open Go.RowKit Go.Maps Go.Shelf
attribute [local go_sem] Oper.semAt_some
theorem JZ {W : World} {x : Aq} {t : TypeId} {p : Nat} (z : W.heap[p]? = some (.cells #[.int .i64 x.1, .int .i64 x.2] t (0, 0))) : ∀ (j : Nat) (u : Value), (Bn x)[j]? = some u → W.cell? ((⟨p, 0, none⟩ : Addr).add j) = some u := fun j u hu => by
 rw [Addr.add_lit]
 match j, hu with
 | 0, hu => exact A1 z (by simpa [Bn] using hu)
 | 1, hu => exact A1 z (by simpa [Bn] using hu)
 | (j + 2), hu => simp [Bn] at hu
theorem DD {ops : Array Oper} {rest : List Oper} {o : Oper} {a : Act} {Q : Exit → Act → World → Prop} {w : World} (hgd : o.guard = none) (s x : Operand)
 (ho : o.op = .call { callee := .builtin .append, args := #[s, x], argTypes := #[29, 29] }) (B : Nat) (v : Value) (X : List Aq) (hs : a.eval s = v) (hown : w.ownsRow B 57 2 v X.length (X.flatMap Bn)) (p : Nat) (y : Aq) (hx : a.eval x = .slice (some ⟨p, 0, none⟩) 1 1) (hp : w.heap[p]? = some (.cells #[.int .i64 y.1, .int .i64 y.2] 57 (0, 0))) (hl : X.length ≤ 16777216) (hB : B ≤ w.heap.size)
 (h : ∀ v' w', Hid (w'.ownsRow B 57 2 v' (X ++ [y]).length ((X ++ [y]).flatMap Bn)) → Hid (Ab w w' (fun k => v.ownBlock = some k)) → Hid (v'.ownBlock = v.ownBlock ∨ v'.ownBlock = some w.heap.size) → wpList prog ops Q rest (a.put o.dst v') w') : wpList prog ops Q (o :: rest) a w := by
 obtain ⟨i5, hi5, hz50, hz51, hz52⟩ := AA JM
 refine wpList_append_own_at _ hgd s x 29 ho B 57 i5 _ 2 16 underlying29 hi5 hz50 hz51 hz52 rfl (by omega) v X.length (X.flatMap Bn) hs hown ⟨p, 0, none⟩ 1 1 (Bn y) hx rfl (JZ hp) (by simp [Bn, Value.oneCell']) (by unfold maxLen; omega) (by omega) (by omega) ?_
 intro v2 w2 h2 hgr _ hn
 exact h v2 w2 (A0 (by rw [List.flatMap_append, List.length_append]; simpa using h2)) (A0 (AL hgr)) (A0 hn)
def PW (cs : Array Value) : Ef := fun x lo hi W => x = .slice (some ⟨lo, 0, none⟩) 1 1 ∧ lo < hi ∧ W.heap[lo]? = some (.cells cs 57 (0, 0))
theorem Mw {cs : Array Value} : B8 (PW cs) := fun _ _ _ _ _ hs d ⟨e, l, z⟩ => ⟨e, l, (d.block _ (by omega)).trans z⟩
theorem Dz {T : List Aq} {t : Nat} (h : t < T.length) : T.take (t + 1) = T.take t ++ [T[t]] := by rw [List.take_add_one, List.getElem?_eq_getElem h]; rfl
theorem CW (w : World) (a1 a2 : Option Addr) (c1 c2 : Nat) (X Y : List Int) (hX : Hid (BB w a1 X)) (hY : Hid (BB w a2 Y)) (h1 : X.length ≤ 4194304) (h2 : Y.length ≤ 4194304) :
 Calls prog 45 #[.slice a1 X.length c1, .slice a2 Y.length c2] w fun e w' => ∃ b c, e = .returned (.slice b ((Az X Y).take 4097).length c) ∧ Hid (w'.ownsRow w.heap.size 57 2 (.slice b ((Az X Y).take 4097).length c) ((Az X Y).take 4097).length (((Az X Y).take 4097).flatMap Bn)) ∧ Below w.heap.size w w' := by
 have HT := A0 (Dl X Y)
 have HAT := A0 (Ho X Y)
 obtain ⟨T, hT⟩ : ∃ T, Az X Y = T := ⟨_, rfl⟩
 rw [hT] at HT HAT ⊢
 clear hT
 obtain ⟨L4, hL4⟩ : ∃ L, T.take 4097 = L := ⟨_, rfl⟩
 rw [hL4]
 have H4 := A0 hL4
 clear hL4
 obtain ⟨n1, hn1⟩ : ∃ n, X.length = n := ⟨_, rfl⟩
 obtain ⟨n2, hn2⟩ : ∃ n, Y.length = n := ⟨_, rfl⟩
 rw [hn1, hn2] at HT
 rw [hn1] at h1 ⊢
 rw [hn2] at h2 ⊢
 have HN := A0 (And.intro hn1 hn2)
 clear hn1 hn2
 go_enter func45, ntmps45
 go_wp2_with fail
 go_loopw [5, 6] (fun ov iv wr => ∃ (i t : Nat) (b0 : Option Addr) (d0 : Nat), i ≤ n1 ∧ t ≤ 4097 ∧ Hid (t = i * n2 ∨ (t = 4097 ∧ t ≤ T.length)) ∧ ov = .slice b0 t d0 ∧ iv = .int .i64 (i : Int) ∧ Hid (wr.ownsRow w.heap.size 57 2 (.slice b0 t d0) t ((T.take t).flatMap Bn) ∧ Below w.heap.size w wr)) (fun _ iv _ => n1 - (intOf iv).toNat)
 case atStart => exact ⟨0, 0, none, 0, Nat.zero_le _, by omega, A0 (.inl (by simp)), rfl, rfl, A0 ⟨World.ownsRow_nil _ _ _ _, Below.refl _ _⟩⟩
 case round =>
  rename World => wo
  obtain ⟨i, t, b0, d0, hi, ht, HU, rfl, rfl, HY⟩ := hrel
  by_cases hlt : i < n1
  · have i1 : (i : Int) < (n1 : Int) := by omega
    by_cases ht4 : t ≤ 4096
    · have t1 : (t : Int) ≤ 4096 := by omega
      have HU2 : Hid (t = i * n2) := A0 (by have := HU.out; omega)
      clear HU
      go_wp2_with fail
      clear i1 t1
      go_loopw [5, 7] (fun ov kv wr => ∃ (k t : Nat) (b0 : Option Addr) (d0 : Nat), k ≤ n2 ∧ t ≤ 4097 ∧ Hid (t = i * n2 + k) ∧ ov = .slice b0 t d0 ∧ kv = .int .i64 (k : Int) ∧ Hid (wr.ownsRow w.heap.size 57 2 (.slice b0 t d0) t ((T.take t).flatMap Bn) ∧ Below w.heap.size w wr)) (fun _ kv _ => n2 - (intOf kv).toNat)
      case atStart => exact ⟨0, t, b0, d0, Nat.zero_le _, ht, HU2, rfl, rfl, HY⟩
      case round =>
       clear HY HU2 ht ht4
       obtain ⟨k, t, b0, d0, hk, ht, HU, rfl, rfl, HY⟩ := hrel
       by_cases hkl : k < n2
       · have k1 : (k : Int) < (n2 : Int) := by omega
         by_cases ht4 : t ≤ 4096
         · have t1 : (t : Int) ≤ 4096 := by omega
           go_upto_region 8 with fail
           obtain ⟨g1, o1, ea1, zz1⟩ := (hX.out.on HY.out.2) i (by have := HN.out.1; omega)
           obtain ⟨g2, o2, ea2, zz2⟩ := (hY.out.on HY.out.2) k (by have := HN.out.2; omega)
           have HK : Hid (∃ h : t < T.length, T[t] = (X[i]'(by have := HN.out.1; omega), Y[k]'(by have := HN.out.2; omega))) := A0 (by
            have e2 := HN.out.2
            have e := HU.out
            subst e2
            subst e
            have hh : i * Y.length + k < T.length := by
             rw [HT.out]
             have := Nat.mul_le_mul_right Y.length (show i + 1 ≤ n1 from hlt)
             rw [Nat.add_mul, Nat.one_mul] at this
             omega
            exact ⟨hh, HAT.out i k _ _ hh⟩)
           generalize X[i]'(by have := HN.out.1; omega) = x at zz1 HK
           generalize Y[k]'(by have := HN.out.2; omega) = y at zz2 HK
           subst ea1
           subst ea2
           have KC : Hid (∀ W, Below wr.heap.size wr W → W.cell? ⟨g1, o1 + i, none⟩ = some (.int .i64 x) ∧ W.cell? ⟨g2, o2 + k, none⟩ = some (.int .i64 y)) := A0 (fun W d => ⟨(d.cell (p := ⟨g1, o1 + i, none⟩) (World.block_lt_of_cell? wr _ zz1)).trans zz1, (d.cell (p := ⟨g2, o2 + k, none⟩) (World.block_lt_of_cell? wr _ zz2)).trans zz2⟩)
           have HTl : Hid ((T.take t).length = t) := A0 (by obtain ⟨h, _⟩ := HK.out; rw [List.length_take]; omega)
           have HT2 : Hid (T.take (t + 1) = T.take t ++ [(x, y)]) := A0 (by obtain ⟨h, e⟩ := HK.out; rw [Dz h, e])
           clear zz1 zz2
           have kk0 : (0 : Int) ≤ (k : Int) := by omega
           have ii0 : (0 : Int) ≤ (i : Int) := by omega
           have ii1 : (i : Int) < (n1 : Int) := by omega
           have hmo : AJ 0 [vI 0 (.slice b0 t d0), vI 1 (.slice (some ⟨g1, o1, none⟩) n1 c1), vI 2 (.int .i64 (i : Int)), vI 3 (.pointer (some ⟨g1, o1 + i, none⟩)), vI 4 (.int .i64 x), vI 5 (.slice (some ⟨g2, o2, none⟩) n2 c2), vI 6 (.int .i64 (k : Int)), vI 7 (.pointer (some ⟨g2, o2 + k, none⟩)), vI 8 (.int .i64 y), vI 9 (.agg #[.int .i64 x, .int .i64 y]), pI 10 (PW #[.int .i64 x, .int .i64 y])] := ⟨A2 _ _, A2 _ _, A2 _ _, A2 _ _, A2 _ _, A2 _ _, A2 _ _, A2 _ _, A2 _ _, A2 _ _, Am Mw, trivial⟩
           refine Aj _ (by kernel_rfl) (by kernel_rfl) (by kernel_rfl) (by kernel_rfl) hmo ⟨?o0, ?o1, ?o2, ?o3, ?o4, ?o5, ?o6, ?o7, ?o8, ?o9, ?o10, trivial⟩ ?fin
           case o0 =>
            intro At yy W hy hb d hd K hK
            obtain ⟨s5, s5'⟩ := AG (hb 5 rfl : _ = .slice b0 t d0)
            clear hd hy hb
            go_simp
            exact Ak hK hmo d (if_pos rfl)
           case o1 =>
            intro At yy W hy hb d hd K hK
            obtain ⟨s0, s0'⟩ := AG (hb 0 rfl : _ = .slice (some ⟨g1, o1, none⟩) n1 c1)
            clear hd hy hb
            go_simp
            exact Ak hK hmo d (if_pos rfl)
           case o2 =>
            intro At yy W hy hb d hd K hK
            obtain ⟨s6, s6'⟩ := AG (hb 6 rfl : _ = .int .i64 (i : Int))
            clear hd hy hb
            go_simp
            exact Ak hK hmo d (if_pos rfl)
           case o3 =>
            intro At yy W hy hb d hd K hK
            obtain ⟨s31, s31'⟩ := Ao 1 31 .data hy hd rfl
            obtain ⟨s32, s32'⟩ := Ao 2 32 .data hy hd rfl
            clear hd hy hb
            go_simp
            exact Ak hK hmo d (if_pos rfl)
           case o4 =>
            intro At yy W hy hb d hd K hK
            obtain ⟨s33, s33'⟩ := Ao 3 33 .data hy hd rfl
            clear hd hy hb
            obtain ⟨z1, z2⟩ := KC.out W d
            go_simp
            exact Ak hK hmo d (if_pos rfl)
           case o5 =>
            intro At yy W hy hb d hd K hK
            obtain ⟨s1, s1'⟩ := AG (hb 1 rfl : _ = .slice (some ⟨g2, o2, none⟩) n2 c2)
            clear hd hy hb
            go_simp
            exact Ak hK hmo d (if_pos rfl)
           case o6 =>
            intro At yy W hy hb d hd K hK
            obtain ⟨s7, s7'⟩ := AG (hb 7 rfl : _ = .int .i64 (k : Int))
            clear hd hy hb
            go_simp
            exact Ak hK hmo d (if_pos rfl)
           case o7 =>
            intro At yy W hy hb d hd K hK
            obtain ⟨s35, s35'⟩ := Ao 5 35 .data hy hd rfl
            obtain ⟨s36, s36'⟩ := Ao 6 36 .data hy hd rfl
            clear hd hy hb
            go_simp
            exact Ak hK hmo d (if_pos rfl)
           case o8 =>
            intro At yy W hy hb d hd K hK
            obtain ⟨s37, s37'⟩ := Ao 7 37 .data hy hd rfl
            clear hd hy hb
            obtain ⟨z1, z2⟩ := KC.out W d
            go_simp
            exact Ak hK hmo d (if_pos rfl)
           case o9 =>
            intro At yy W hy hb d hd K hK
            obtain ⟨s34, s34'⟩ := Ao 4 34 .data hy hd rfl
            obtain ⟨s38, s38'⟩ := Ao 8 38 .data hy hd rfl
            clear hd hy hb
            go_simp
            exact Ak hK hmo d (if_pos rfl)
           case o10 =>
            intro At yy W hy hb d hd K hK
            obtain ⟨s39, s39'⟩ := Ao 9 39 .data hy hd rfl
            clear hd hy hb
            go_simp
            exact hK.out _ _ (Av hmo d ((Below.refl _ _).alloc (Nat.le_refl _) _)) ⟨if_pos rfl, by simp, World.alloc_heap_new _ _⟩
           case fin =>
            intro yy lo hi W hM
            show wpList _ _ _ [_, _] _ _
            have e0 := hM.v 0 (by simp) rfl rfl rfl
            have e1 := hM.v 1 (by simp) rfl rfl rfl
            have e2 := hM.v 2 (by simp) rfl rfl rfl
            have e3 := hM.v 3 (by simp) rfl rfl rfl
            have e4 := hM.v 4 (by simp) rfl rfl rfl
            have e5 := hM.v 5 (by simp) rfl rfl rfl
            have e6 := hM.v 6 (by simp) rfl rfl rfl
            have e7 := hM.v 7 (by simp) rfl rfl rfl
            have e8 := hM.v 8 (by simp) rfl rfl rfl
            have e9 := hM.v 9 (by simp) rfl rfl rfl
            obtain ⟨e10, l10, z10⟩ := hM.fact 10 (by simp) rfl (Ad 10 rfl)
            have HDD := A0 hM.d
            generalize lo 10 = p9 at e10 z10 l10
            simp only [Aw, Act.put, List.take, List.length, List.setIfInBounds_toArray, List.set_cons_zero, List.set_cons_succ, e0, e1, e2, e3, e4, e5, e6, e7, e8, e9, e10]
            clear hM hmo e0 e1 e2 e3 e4 e5 e6 e7 e8 e9 e10
            have H9 := A0 z10
            clear z10 l10
            go_wp2_with (at_builtin; refine DD rfl _ _ rfl w.heap.size (.slice b0 t d0) (T.take t) rfl (by have q := A6 HY.out.1 HDD.out; rw [HTl.out]; exact q) p9 (x, y) rfl H9.out (by have := HTl.out; omega) (by have := HY.out.2.size; have := HDD.out.size; omega) ?_; intro v5 w5 HO5 HG5 _; obtain ⟨z5, d5, e5⟩ := A8 HO5.out; have E5 : v5 = .slice z5 (t + 1) d5 := (by rw [e5, List.length_append, HTl.out]; rfl); clear e5; subst E5; have HQ : Hid (w5.ownsRow w.heap.size 57 2 (.slice z5 (t + 1) d5) (t + 1) ((T.take (t + 1)).flatMap Bn) ∧ Below w.heap.size w w5) := A0 (by
             have dd := HY.out.2.trans (HDD.out.mono HY.out.2.size)
             have q := HO5.out
             rw [List.length_append, HTl.out] at q
             exact ⟨by rw [HT2.out]; exact q, dd.trans (HG5.out.toBelow dd.size (fun j hj => (HY.out.1.lt j hj).1))⟩))
            go_roundw
            case rel => exact ⟨k + 1, t + 1, z5, d5, by omega, by omega, A0 (by have := HU.out; omega), rfl, by go_num, HQ⟩
            case measure => simp [intOf]; omega
         · have t1 : ¬ (t : Int) ≤ 4096 := by omega
           have HE : Hid (t = 4097 ∧ t ≤ T.length) := A0 (by
            have e := HU.out
            have := Nat.mul_le_mul_right n2 (show i + 1 ≤ n1 from hlt)
            rw [Nat.add_mul, Nat.one_mul] at this
            rw [HT.out]
            omega)
           go_wp2_with fail
           exact ⟨⟨i + 1, t, b0, d0, hlt, ht, A0 (.inr HE.out), rfl, by go_num, HY⟩, by simp [intOf]; omega⟩
       · have k1 : ¬ (k : Int) < (n2 : Int) := by omega
         obtain rfl : k = n2 := by omega
         have HE : Hid (t = (i + 1) * k) := A0 (by rw [HU.out, Nat.add_mul, Nat.one_mul])
         go_wp2_with fail
         exact ⟨⟨i + 1, t, b0, d0, hlt, ht, A0 (.inl HE.out), rfl, by go_num, HY⟩, by simp [intOf]; omega⟩
    · have t1 : ¬ (t : Int) ≤ 4096 := by omega
      have HL : Hid (L4.length = t ∧ L4 = T.take t) := A0 (by
       rw [← H4.out]
       have e : t = 4097 := by omega
       subst e
       refine ⟨?_, rfl⟩
       rw [List.length_take]
       rcases HU.out with q | q
       · have := Nat.mul_le_mul_right n2 (show i ≤ n1 from hi)
         rw [HT.out]
         omega
       · omega)
      go_wp2_with fail
      go_ret
      rw [HL.out.1, HL.out.2]
      exact ⟨b0, d0, rfl, A0 HY.out.1, HY.out.2⟩
  · have i1 : ¬ (i : Int) < (n1 : Int) := by omega
    have HL : Hid (L4.length = t ∧ L4 = T.take t) := A0 (by
     rw [← H4.out]
     have e : i = n1 := by omega
     subst e
     rcases HU.out with q | q
     · rw [← HT.out] at q
       subst q
       rw [List.take_of_length_le (by omega), List.take_length]
       exact ⟨rfl, rfl⟩
     · obtain ⟨rfl, q2⟩ := q
       rw [List.length_take]
       exact ⟨by omega, rfl⟩)
    go_wp2_with fail
    go_ret
    rw [HL.out.1, HL.out.2]
    exact ⟨b0, d0, rfl, A0 HY.out.1, HY.out.2⟩
theorem Bc {W : World} {B : Nat} {b : Option Addr} {c n : Nat} {L : List Aq} (hn : L.length = n) (h : W.ownsRow B 57 2 (.slice b n c) n (L.flatMap Bn)) : Hq W b L := by
 subst hn
 intro j hj
 rcases h.2 with ⟨hv, h0⟩ | ⟨g, cap, cur, hv, _⟩
 · omega
 · cases hv
   have q := GO h j hj
   exact ⟨g, 0, rfl, by rw [Nat.zero_add]; exact q.1, by rw [Nat.zero_add]; exact q.2⟩
def Ck (lay : Bool) (Ea Eb : List Aa) (p : Aq) (k : Int) : List Aq := if lay then (Az (Ct Ea p.1 k) [p.2]).take 4097 ++ (Az [p.1] (Ct Eb p.2 k)).take 4097 else (Az (Ct Ea p.1 k) (Ct Eb p.2 k)).take 4097
theorem OC (w : World) (n m n' m' : Int) (a1 a2 a3 b1 b2 b3 : Option Addr) (n1 n2 l1 l2 c1 c2 c3 d1 d2 d3 : Nat) (Ea Eb : List Aa) (p q k : Int) (hA : Hid (Cl w a3 Ea)) (hB : Hid (Cl w b3 Eb)) (h3 : Ea.length ≤ 2000000) (h6 : Eb.length ≤ 2000000) :
 Calls prog 48 #[.agg #[.int .i64 n, .int .i64 m, .slice a1 n1 c1, .slice a2 n2 c2, .slice a3 Ea.length c3], .agg #[.int .i64 n', .int .i64 m', .slice b1 l1 d1, .slice b2 l2 d2, .slice b3 Eb.length d3], .agg #[.int .i64 p, .int .i64 q], .int .i64 k, .bool false] w fun e w' => ∃ b c, e = .returned (.slice b (Ck false Ea Eb (p, q) k).length c) ∧ Hid (w'.ownsRow w.heap.size 57 2 (.slice b (Ck false Ea Eb (p, q) k).length c) (Ck false Ea Eb (p, q) k).length ((Ck false Ea Eb (p, q) k).flatMap Bn)) ∧ Below w.heap.size w w' := by
 have HL : Hid ((Az (Ct Ea p k) (Ct Eb q k)).take 4097 = Ck false Ea Eb (p, q) k) := A0 rfl
 generalize Ck false Ea Eb (p, q) k = L at *
 obtain ⟨W0, hW0⟩ : ∃ W0, ((w.alloc (.cells #[.int .i64 n, .int .i64 m, .slice a1 n1 c1, .slice a2 n2 c2, .slice a3 Ea.length c3] 25)).alloc (.cells #[.int .i64 n', .int .i64 m', .slice b1 l1 d1, .slice b2 l2 d2, .slice b3 Eb.length d3] 25)).alloc (.cells #[.int .i64 p, .int .i64 q] 57) = W0 := ⟨_, rfl⟩
 have HD : Hid (Below w.heap.size w W0 ∧ W0.heap[w.heap.size]? = some (.cells #[.int .i64 n, .int .i64 m, .slice a1 n1 c1, .slice a2 n2 c2, .slice a3 Ea.length c3] 25 (0, 0)) ∧ W0.heap[w.heap.size + 1]? = some (.cells #[.int .i64 n', .int .i64 m', .slice b1 l1 d1, .slice b2 l2 d2, .slice b3 Eb.length d3] 25 (0, 0)) ∧ W0.heap[w.heap.size + 1 + 1]? = some (.cells #[.int .i64 p, .int .i64 q] 57 (0, 0)) ∧ W0.heap.size = w.heap.size + 3) := A0 (by
  rw [← hW0]
  have q2 := Br w #[.int .i64 n, .int .i64 m, .slice a1 n1 c1, .slice a2 n2 c2, .slice a3 Ea.length c3] #[.int .i64 n', .int .i64 m', .slice b1 l1 d1, .slice b2 l2 d2, .slice b3 Eb.length d3] 25
  refine ⟨q2.1.alloc q2.1.size _, (Below.heap_alloc _ _ _ (by simp; omega)).trans q2.2.1, (Below.heap_alloc _ _ _ (by simp)).trans q2.2.2.1, ?_, by simp⟩
  have := World.alloc_heap_new ((w.alloc (.cells #[.int .i64 n, .int .i64 m, .slice a1 n1 c1, .slice a2 n2 c2, .slice a3 Ea.length c3] 25)).alloc (.cells #[.int .i64 n', .int .i64 m', .slice b1 l1 d1, .slice b2 l2 d2, .slice b3 Eb.length d3] 25)) (.cells #[.int .i64 p, .int .i64 q] 57)
  simpa using this)
 go_enter func48, ntmps48
 have HB0 : Hid (W0.heap[w.heap.size]? = some (.cells #[.int .i64 n, .int .i64 m, .slice a1 n1 c1, .slice a2 n2 c2, .slice a3 Ea.length c3] 25 (0, 0)) ∧ W0.heap[w.heap.size + 1]? = some (.cells #[.int .i64 n', .int .i64 m', .slice b1 l1 d1, .slice b2 l2 d2, .slice b3 Eb.length d3] 25 (0, 0)) ∧ W0.heap[w.heap.size + 1 + 1]? = some (.cells #[.int .i64 p, .int .i64 q] 57 (0, 0))) := A0 ⟨HD.out.2.1, HD.out.2.2.1, HD.out.2.2.2.1⟩
 obtain ⟨x0, x1, x2, x3, x4⟩ := An HB0.out.1 rfl rfl rfl rfl rfl
 obtain ⟨y0, y1, y2, y3, y4⟩ := An HB0.out.2.1 rfl rfl rfl rfl rfl
 obtain ⟨z0, z1⟩ := IV HB0.out.2.2 rfl rfl
 have T1 := Ec W0 n m a1 a2 a3 c1 c2 c3 (List.replicate n1 0) (List.replicate n2 0) Ea p k (A0 (hA.out.on HD.out.1)) (by omega)
 rw [List.length_replicate, List.length_replicate] at T1
 go_upto_region 2 with (go_at_call 67; refine T1.mono ?_; rintro e w1 ⟨e1, f1, rfl, HX, D1⟩)
 clear T1 x0 x1 x2 x3 x4 y0 y1 y2 y3 y4 z0 z1
 have HD1 := A0 (HD.out.1.trans (D1.mono HD.out.1.size))
 have HB1 : Hid (w1.heap[w.heap.size]? = some (.cells #[.int .i64 n, .int .i64 m, .slice a1 n1 c1, .slice a2 n2 c2, .slice a3 Ea.length c3] 25 (0, 0)) ∧ w1.heap[w.heap.size + 1]? = some (.cells #[.int .i64 n', .int .i64 m', .slice b1 l1 d1, .slice b2 l2 d2, .slice b3 Eb.length d3] 25 (0, 0)) ∧ w1.heap[w.heap.size + 1 + 1]? = some (.cells #[.int .i64 p, .int .i64 q] 57 (0, 0))) := A0 ⟨A3 HD.out.2.1 D1, A3 HD.out.2.2.1 D1, A3 HD.out.2.2.2.1 D1⟩
 have HS1 : Hid (w.heap.size + 3 ≤ w1.heap.size) := A0 (by have := D1.size; have := HD.out.2.2.2.2; omega)
 clear D1
 obtain ⟨x0, x1, x2, x3, x4⟩ := An HB1.out.1 rfl rfl rfl rfl rfl
 obtain ⟨y0, y1, y2, y3, y4⟩ := An HB1.out.2.1 rfl rfl rfl rfl rfl
 obtain ⟨z0, z1⟩ := IV HB1.out.2.2 rfl rfl
 have T2 := Ec w1 n' m' b1 b2 b3 d1 d2 d3 (List.replicate l1 0) (List.replicate l2 0) Eb q k (A0 (hB.out.on HD1.out)) (by omega)
 rw [List.length_replicate, List.length_replicate] at T2
 go_upto_region 3 with (go_at_call 67; refine T2.mono ?_; rintro e w2 ⟨e2, f2, rfl, HY, D2⟩)
 clear T2 x0 x1 x2 x3 x4 y0 y1 y2 y3 y4 z0 z1
 have HD2 := A0 (HD1.out.trans (D2.mono HD1.out.size))
 have HX2 : Hid (BB w2 e1 (Ct Ea p k)) := A0 (AM (A6 HX.out D2))
 have HY2 : Hid (BB w2 e2 (Ct Eb q k)) := A0 (AM HY.out)
 have HZ2 : Hid (w2.heap[w.heap.size + 1 + 1]? = some (.cells #[.int .i64 p, .int .i64 q] 57 (0, 0))) := A0 (A3 HB1.out.2.2 D2)
 have hx1 : (Ct Ea p k).length ≤ 4194304 := Nat.le_trans (Eg _ _ _) (by omega)
 have hy1 : (Ct Eb q k).length ≤ 4194304 := Nat.le_trans (Eg _ _ _) (by omega)
 clear HX HY D2 HB1 HB0
 have T3 := CW w2 e1 e2 f1 f2 (Ct Ea p k) (Ct Eb q k) HX2 HY2 hx1 hy1
 rw [HL.out] at T3
 go_wp2_with (go_at_call 45; refine T3.mono ?_; rintro e w3 ⟨e3, f3, rfl, HO, D3⟩)
 go_ret
 exact ⟨e3, f3, rfl, A0 (Ac HO.out HD2.out.size), HD2.out.trans (D3.mono HD2.out.size)⟩
theorem ON (w : World) (n m n' m' : Int) (a1 a2 a3 b1 b2 b3 : Option Addr) (n1 n2 l1 l2 c1 c2 c3 d1 d2 d3 : Nat) (Ea Eb : List Aa) (p q k : Int) (hA : Hid (Cl w a3 Ea)) (hB : Hid (Cl w b3 Eb)) (h3 : Ea.length ≤ 2000000) (h6 : Eb.length ≤ 2000000) :
 Calls prog 48 #[.agg #[.int .i64 n, .int .i64 m, .slice a1 n1 c1, .slice a2 n2 c2, .slice a3 Ea.length c3], .agg #[.int .i64 n', .int .i64 m', .slice b1 l1 d1, .slice b2 l2 d2, .slice b3 Eb.length d3], .agg #[.int .i64 p, .int .i64 q], .int .i64 k, .bool true] w fun e w' => ∃ b c, e = .returned (.slice b (Ck true Ea Eb (p, q) k).length c) ∧ Hid (w'.ownsRow w.heap.size 57 2 (.slice b (Ck true Ea Eb (p, q) k).length c) (Ck true Ea Eb (p, q) k).length ((Ck true Ea Eb (p, q) k).flatMap Bn)) ∧ Below w.heap.size w w' := by
 have HL : Hid ((Az (Ct Ea p k) [q]).take 4097 ++ (Az [p] (Ct Eb q k)).take 4097 = Ck true Ea Eb (p, q) k) := A0 rfl
 generalize Ck true Ea Eb (p, q) k = L at *
 obtain ⟨W0, hW0⟩ : ∃ W0, ((w.alloc (.cells #[.int .i64 n, .int .i64 m, .slice a1 n1 c1, .slice a2 n2 c2, .slice a3 Ea.length c3] 25)).alloc (.cells #[.int .i64 n', .int .i64 m', .slice b1 l1 d1, .slice b2 l2 d2, .slice b3 Eb.length d3] 25)).alloc (.cells #[.int .i64 p, .int .i64 q] 57) = W0 := ⟨_, rfl⟩
 have HD : Hid (Below w.heap.size w W0 ∧ W0.heap[w.heap.size]? = some (.cells #[.int .i64 n, .int .i64 m, .slice a1 n1 c1, .slice a2 n2 c2, .slice a3 Ea.length c3] 25 (0, 0)) ∧ W0.heap[w.heap.size + 1]? = some (.cells #[.int .i64 n', .int .i64 m', .slice b1 l1 d1, .slice b2 l2 d2, .slice b3 Eb.length d3] 25 (0, 0)) ∧ W0.heap[w.heap.size + 1 + 1]? = some (.cells #[.int .i64 p, .int .i64 q] 57 (0, 0)) ∧ W0.heap.size = w.heap.size + 3) := A0 (by
  rw [← hW0]
  have q2 := Br w #[.int .i64 n, .int .i64 m, .slice a1 n1 c1, .slice a2 n2 c2, .slice a3 Ea.length c3] #[.int .i64 n', .int .i64 m', .slice b1 l1 d1, .slice b2 l2 d2, .slice b3 Eb.length d3] 25
  refine ⟨q2.1.alloc q2.1.size _, (Below.heap_alloc _ _ _ (by simp; omega)).trans q2.2.1, (Below.heap_alloc _ _ _ (by simp)).trans q2.2.2.1, ?_, by simp⟩
  have := World.alloc_heap_new ((w.alloc (.cells #[.int .i64 n, .int .i64 m, .slice a1 n1 c1, .slice a2 n2 c2, .slice a3 Ea.length c3] 25)).alloc (.cells #[.int .i64 n', .int .i64 m', .slice b1 l1 d1, .slice b2 l2 d2, .slice b3 Eb.length d3] 25)) (.cells #[.int .i64 p, .int .i64 q] 57)
  simpa using this)
 go_enter func48, ntmps48
 have HB0 : Hid (W0.heap[w.heap.size]? = some (.cells #[.int .i64 n, .int .i64 m, .slice a1 n1 c1, .slice a2 n2 c2, .slice a3 Ea.length c3] 25 (0, 0)) ∧ W0.heap[w.heap.size + 1]? = some (.cells #[.int .i64 n', .int .i64 m', .slice b1 l1 d1, .slice b2 l2 d2, .slice b3 Eb.length d3] 25 (0, 0)) ∧ W0.heap[w.heap.size + 1 + 1]? = some (.cells #[.int .i64 p, .int .i64 q] 57 (0, 0))) := A0 ⟨HD.out.2.1, HD.out.2.2.1, HD.out.2.2.2.1⟩
 obtain ⟨x0, x1, x2, x3, x4⟩ := An HB0.out.1 rfl rfl rfl rfl rfl
 obtain ⟨y0, y1, y2, y3, y4⟩ := An HB0.out.2.1 rfl rfl rfl rfl rfl
 obtain ⟨z0, z1⟩ := IV HB0.out.2.2 rfl rfl
 have T1 := Ec W0 n m a1 a2 a3 c1 c2 c3 (List.replicate n1 0) (List.replicate n2 0) Ea p k (A0 (hA.out.on HD.out.1)) (by omega)
 rw [List.length_replicate, List.length_replicate] at T1
 go_upto_region 2 with (go_at_call 67; refine T1.mono ?_; rintro e w1 ⟨e1, f1, rfl, HX, D1⟩)
 clear T1 x0 x1 x2 x3 x4 y0 y1 y2 y3 y4 z0 z1
 have HD1 := A0 (HD.out.1.trans (D1.mono HD.out.1.size))
 have HB1 : Hid (w1.heap[w.heap.size]? = some (.cells #[.int .i64 n, .int .i64 m, .slice a1 n1 c1, .slice a2 n2 c2, .slice a3 Ea.length c3] 25 (0, 0)) ∧ w1.heap[w.heap.size + 1]? = some (.cells #[.int .i64 n', .int .i64 m', .slice b1 l1 d1, .slice b2 l2 d2, .slice b3 Eb.length d3] 25 (0, 0)) ∧ w1.heap[w.heap.size + 1 + 1]? = some (.cells #[.int .i64 p, .int .i64 q] 57 (0, 0))) := A0 ⟨A3 HD.out.2.1 D1, A3 HD.out.2.2.1 D1, A3 HD.out.2.2.2.1 D1⟩
 have HS1 : Hid (w.heap.size + 3 ≤ w1.heap.size) := A0 (by have := D1.size; have := HD.out.2.2.2.2; omega)
 clear D1
 obtain ⟨x0, x1, x2, x3, x4⟩ := An HB1.out.1 rfl rfl rfl rfl rfl
 obtain ⟨y0, y1, y2, y3, y4⟩ := An HB1.out.2.1 rfl rfl rfl rfl rfl
 obtain ⟨z0, z1⟩ := IV HB1.out.2.2 rfl rfl
 have T2 := Ec w1 n' m' b1 b2 b3 d1 d2 d3 (List.replicate l1 0) (List.replicate l2 0) Eb q k (A0 (hB.out.on HD1.out)) (by omega)
 rw [List.length_replicate, List.length_replicate] at T2
 go_upto_region 3 with (go_at_call 67; refine T2.mono ?_; rintro e w2 ⟨e2, f2, rfl, HY, D2⟩)
 clear T2 x0 x1 x2 x3 x4 y0 y1 y2 y3 y4 z0 z1
 have HD2 := A0 (HD1.out.trans (D2.mono HD1.out.size))
 have HX2 : Hid (BB w2 e1 (Ct Ea p k)) := A0 (AM (A6 HX.out D2))
 have HY2 : Hid (BB w2 e2 (Ct Eb q k)) := A0 (AM HY.out)
 have HZ2 : Hid (w2.heap[w.heap.size + 1 + 1]? = some (.cells #[.int .i64 p, .int .i64 q] 57 (0, 0))) := A0 (A3 HB1.out.2.2 D2)
 have hx1 : (Ct Ea p k).length ≤ 4194304 := Nat.le_trans (Eg _ _ _) (by omega)
 have hy1 : (Ct Eb q k).length ≤ 4194304 := Nat.le_trans (Eg _ _ _) (by omega)
 clear HX HY D2 HB1 HB0
 have z1 : w2.cell? ⟨w.heap.size + 1 + 1, 1, none⟩ = some (.int .i64 q) := A1 HZ2.out rfl
 have T3 := CW (w2.alloc (.cells #[.int .i64 q] 3)) e1 (some ⟨w2.heap.size, 0, none⟩) f1 1 (Ct Ea p k) [q] (A0 (HX2.out.on ((Below.refl _ _).alloc (Nat.le_refl _) _))) (A0 (ED (World.alloc_heap_new _ _))) hx1 (by simp)
 obtain ⟨L1, hL1⟩ : ∃ L, (Az (Ct Ea p k) [q]).take 4097 = L := ⟨_, rfl⟩
 have HL1 : Hid (L1.length ≤ 4097) := A0 (by rw [← hL1, List.length_take]; omega)
 rw [hL1] at T3 HL
 go_upto_region 6 with (go_at_call 45; refine T3.mono ?_; rintro e w3 ⟨e3, f3, rfl, HO, D3⟩)
 clear T3 z1 hL1
 have d23 : Below w2.heap.size w2 (w2.alloc (.cells #[.int .i64 q] 3)) := (Below.refl _ _).alloc (Nat.le_refl _) _
 have HD23 := A0 (d23.trans (D3.mono d23.size))
 have HO3 : Hid (w3.ownsRow w.heap.size 57 2 (.slice e3 L1.length f3) L1.length (L1.flatMap Bn)) := A0 (Ac HO.out (Nat.le_trans HD2.out.size d23.size))
 have HD3 := A0 (HD2.out.trans (HD23.out.mono HD2.out.size))
 have HZ3 : Hid (w3.heap[w.heap.size + 1 + 1]? = some (.cells #[.int .i64 p, .int .i64 q] 57 (0, 0))) := A0 (A3 HZ2.out HD23.out)
 have HY3 : Hid (BB w3 e2 (Ct Eb q k)) := A0 (HY2.out.on HD23.out)
 clear d23 D3 HO
 have z0 : w3.cell? ⟨w.heap.size + 1 + 1, 0, none⟩ = some (.int .i64 p) := A1 HZ3.out rfl
 have T4 := CW (w3.alloc (.cells #[.int .i64 p] 3)) (some ⟨w3.heap.size, 0, none⟩) e2 1 f2 [p] (Ct Eb q k) (A0 (ED (World.alloc_heap_new _ _))) (A0 (HY3.out.on ((Below.refl _ _).alloc (Nat.le_refl _) _))) (by simp) hy1
 obtain ⟨L2, hL2⟩ : ∃ L, (Az [p] (Ct Eb q k)).take 4097 = L := ⟨_, rfl⟩
 have HL2 : Hid (L2.length ≤ 4097) := A0 (by rw [← hL2, List.length_take]; omega)
 rw [hL2] at T4 HL
 go_upto_region 7 with (go_at_call 45; refine T4.mono ?_; rintro e w4 ⟨e4, f4, rfl, HP, D4⟩)
 clear T4 z0 hL2
 have d34 : Below w3.heap.size w3 (w3.alloc (.cells #[.int .i64 p] 3)) := (Below.refl _ _).alloc (Nat.le_refl _) _
 have HD34 := A0 (d34.trans (D4.mono d34.size))
 have HO4 : Hid (w4.ownsRow w.heap.size 57 2 (.slice e3 L1.length f3) L1.length (L1.flatMap Bn)) := A0 (A6 HO3.out HD34.out)
 have HD4 := A0 (HD3.out.trans (HD34.out.mono HD3.out.size))
 have HP4 : Hid (w4.ownsRow (w3.alloc (.cells #[.int .i64 p] 3)).heap.size 57 2 (.slice e4 L2.length f4) L2.length (L2.flatMap Bn) ∧ (∀ g, (Value.slice e3 L1.length f3).ownBlock = some g → g < (w3.alloc (.cells #[.int .i64 p] 3)).heap.size)) := A0 ⟨HP.out, fun g hg => by have := (HO3.out.lt g hg).2; rw [World.size_alloc]; omega⟩
 obtain ⟨B4, hB4⟩ : ∃ B, (w3.alloc (.cells #[.int .i64 p] 3)).heap.size = B := ⟨_, rfl⟩
 rw [hB4] at HP4
 have HB4 : Hid (w.heap.size ≤ B4 ∧ B4 ≤ w4.heap.size) := A0 ⟨by rw [← hB4]; exact Nat.le_trans HD3.out.size d34.size, by rw [← hB4]; exact D4.size⟩
 clear d34 D4 HP hB4
 obtain ⟨l2, hl2⟩ : ∃ l, L2.length = l := ⟨_, rfl⟩
 rw [hl2] at HL2 HP4 ⊢
 have HE2 := A0 hl2
 clear hl2
 obtain ⟨l1, hl1⟩ : ∃ l, L1.length = l := ⟨_, rfl⟩
 rw [hl1] at HL1 HO4 HP4 ⊢
 have HE1 := A0 hl1
 clear hl1
 go_wp2_with fail
 go_loopw [13, 15] (fun ov iv wr => ∃ (i t : Nat) (b0 : Option Addr) (d0 : Nat), i ≤ l2 ∧ ov = .slice b0 t d0 ∧ iv = .int .i64 (i : Int) ∧ Hid (t = l1 + i ∧ wr.ownsRow w.heap.size 57 2 (.slice b0 t d0) t ((L1 ++ L2.take i).flatMap Bn) ∧ Below w.heap.size w wr ∧ wr.ownsRow B4 57 2 (.slice e4 l2 f4) l2 (L2.flatMap Bn) ∧ (∀ g, (Value.slice b0 t d0).ownBlock = some g → g < B4 ∨ w4.heap.size ≤ g) ∧ w4.heap.size ≤ wr.heap.size)) (fun _ iv _ => l2 - (intOf iv).toNat)
 case atStart => exact ⟨0, l1, e3, f3, Nat.zero_le _, rfl, rfl, A0 ⟨by omega, by rw [List.take_zero, List.append_nil]; exact HO4.out, HD4.out, HP4.out.1, fun g hg => .inl (HP4.out.2 g hg), Nat.le_refl _⟩⟩
 case round =>
  obtain ⟨i, t, b0, d0, hi, rfl, rfl, HI⟩ := hrel
  by_cases hlt : i < l2
  · have i1 : (i : Int) < (l2 : Int) := by omega
    have hb2 : l2 ≤ 4097 := HL2.out
    have i0 : (0 : Int) ≤ (i : Int) := by omega
    have hi2 : i < L2.length := by rw [HE2.out]; exact hlt
    obtain ⟨g, o, ea, q0, q1⟩ := Bc HE2.out HI.out.2.2.2.1 i hi2
    subst ea
    have HT2 := A0 (Dz hi2)
    generalize L2[i] = x at q0 q1 HT2
    obtain ⟨x1, x2⟩ := x
    simp only at q0 q1
    have ht : Hid (t ≤ 8194 ∧ (L1 ++ L2.take i).length = t) := A0 (by have := HI.out.1; have := HL1.out; have := HL2.out; have := HE1.out; have := HE2.out; rw [List.length_append, List.length_take]; omega)
    go_wp2_with (at_builtin; refine DD rfl _ _ rfl w.heap.size (.slice b0 t d0) (L1 ++ L2.take i) rfl (by rw [ht.out.2]; exact A6 HI.out.2.1 ((Below.refl _ _).alloc (Nat.le_refl _) _)) wr.heap.size (x1, x2) rfl (World.alloc_heap_new _ _) (by have := ht.out; omega) (by rw [World.size_alloc]; have := HI.out.2.2.1.size; omega) ?_; intro v5 w5 HO5 HG5 HV5; obtain ⟨z5, d5, e5⟩ := A8 HO5.out; have E5 : v5 = .slice z5 (t + 1) d5 := (by rw [e5, List.length_append, ht.out.2]; rfl); clear e5; subst E5)
    have HQ : Hid (t + 1 = l1 + (i + 1) ∧ w5.ownsRow w.heap.size 57 2 (.slice z5 (t + 1) d5) (t + 1) ((L1 ++ L2.take (i + 1)).flatMap Bn) ∧ Below w.heap.size w w5 ∧ w5.ownsRow B4 57 2 (.slice (some ⟨g, o, none⟩) l2 f4) l2 (L2.flatMap Bn) ∧ (∀ g, (Value.slice z5 (t + 1) d5).ownBlock = some g → g < B4 ∨ w4.heap.size ≤ g) ∧ w4.heap.size ≤ w5.heap.size) := A0 (by
     have h := HI.out
     have da : Below wr.heap.size wr (wr.alloc (.cells #[.int .i64 x1, .int .i64 x2] 57)) := (Below.refl _ _).alloc (Nat.le_refl _) _
     have q := HO5.out
     rw [List.length_append, ht.out.2] at q
     have hsz := HG5.out.size
     rw [World.size_alloc] at hsz
     have dd := h.2.2.1.trans (da.mono h.2.2.1.size)
     refine ⟨by omega, by rw [HT2.out, ← List.append_assoc]; exact q, dd.trans (HG5.out.toBelow dd.size (fun j hj => (h.2.1.lt j hj).1)), A9 (A6 h.2.2.2.1 da) HG5.out (fun k hk e => ?_), fun k hk => ?_, by omega⟩
     · have l1' := h.2.2.2.2.1 k e
       have l2' := h.2.2.2.1.lt k hk
       have l3' := HP4.out.1.lt k hk
       omega
     · rcases HV5.out with e | e
       · rw [e] at hk; exact h.2.2.2.2.1 k hk
       · rw [e, World.size_alloc] at hk
         have : wr.heap.size + 1 = k := by simpa using hk
         omega)
    clear HO5 HG5 HV5
    go_roundw
    case rel => exact ⟨i + 1, t + 1, z5, d5, by omega, rfl, by go_num, HQ⟩
    case measure => simp [intOf]; omega
  · have i1 : ¬ (i : Int) < (l2 : Int) := by omega
    have HF : Hid (L.length = t ∧ L = L1 ++ L2.take i) := A0 (by
     have h := HI.out.1
     have e : i = L2.length := by have := HE2.out; omega
     rw [← HL.out, e, List.take_length, List.length_append]
     exact ⟨by have := HE1.out; have := HE2.out; omega, rfl⟩)
    go_wp2_with fail
    go_ret
    rw [HF.out.1, HF.out.2]
    exact ⟨b0, d0, rfl, A0 HI.out.2.1, HI.out.2.2.1⟩
theorem CO {B : Nat} {w w' : World} {v1 v2 v3 : Value} {S F : List Int} {E : List Aa} (h : Cb B w v1 v2 v3 S F E) (d : Below w.heap.size w w') : Cb B w' v1 v2 v3 S F E := ⟨A6 h.s d, A6 h.f d, A6 h.e d⟩
theorem GP {B C : Nat} {w : World} {v1 v2 v3 : Value} {S F : List Int} {E : List Aa} (h : Cb C w v1 v2 v3 S F E) (hB : B ≤ C) : Cb B w v1 v2 v3 S F E := ⟨Ac h.s hB, Ac h.f hB, Ac h.e hB⟩
theorem IB {B p q : Nat} {w w' : World} {v1 v2 v3 : Value} {S F : List Int} {E : List Aa} {cs cs' : Array Value} (h : Cb B w v1 v2 v3 S F E) (z : w.heap[p]? = some (.cells cs 25 (0, 0))) (z' : w.heap[q]? = some (.cells cs' 25 (0, 0))) (o : Ab w w' (fun k => k = p ∨ k = q)) : Cb B w' v1 v2 v3 S F E := ⟨Dx h.s z z' (by decide) o, Dx h.f z z' (by decide) o, Dx h.e z z' (by decide) o⟩
theorem O9 (w : World) (n m n' m' : Int) (a1 a2 a3 b1 b2 b3 : Option Addr) (c1 c2 c3 d1 d2 d3 : Nat) (Sa Fa Sb Fb : List Int) (Ea Eb : List Aa) (hA : Hid (AP w a1 a2 a3 Sa Fa Ea)) (_hB : Hid (AP w b1 b2 b3 Sb Fb Eb)) (h1 : Sa.length ≤ 4194304) (h2 : Fa.length ≤ 4194304) (h3 : Ea.length ≤ 4194304) (_h4 : Sb.length ≤ 4194304) (_h5 : Fb.length ≤ 4194304) (_h6 : Eb.length ≤ 4194304) (_hc : Ea.length ≤ c3) (_hc' : Eb.length ≤ d3) (em : AC n m Sa Fa Ea = false) :
 Calls prog 44 #[.agg #[.int .i64 n, .int .i64 m, .slice a1 Sa.length c1, .slice a2 Fa.length c2, .slice a3 Ea.length c3], .agg #[.int .i64 n', .int .i64 m', .slice b1 Sb.length d1, .slice b2 Fb.length d2, .slice b3 Eb.length d3]] w fun e w' => e = .returned (.tuple #[.agg #[.int .i64 0, .int .i64 0, .slice none 0 0, .slice none 0 0, .slice none 0 0], .agg #[.int .i64 0, .int .i64 0, .slice none 0 0, .slice none 0 0, .slice none 0 0], .int .i64 2]) ∧ Below w.heap.size w w' := by
 obtain ⟨W0, hW0⟩ : ∃ W0, (((w.alloc (.cells #[.int .i64 n, .int .i64 m, .slice a1 Sa.length c1, .slice a2 Fa.length c2, .slice a3 Ea.length c3] 25)).alloc (.cells #[.int .i64 n', .int .i64 m', .slice b1 Sb.length d1, .slice b2 Fb.length d2, .slice b3 Eb.length d3] 25)).alloc (.cells #[.int .i64 0, .int .i64 0, .slice none 0 0, .slice none 0 0, .slice none 0 0] 25)).alloc (.cells #[.int .i64 0, .int .i64 0, .slice none 0 0, .slice none 0 0, .slice none 0 0] 25) = W0 := ⟨_, rfl⟩
 have HD := A0 (And.intro (Iv w (.cells #[.int .i64 n, .int .i64 m, .slice a1 Sa.length c1, .slice a2 Fa.length c2, .slice a3 Ea.length c3] 25) (.cells #[.int .i64 n', .int .i64 m', .slice b1 Sb.length d1, .slice b2 Fb.length d2, .slice b3 Eb.length d3] 25) (.cells #[.int .i64 0, .int .i64 0, .slice none 0 0, .slice none 0 0, .slice none 0 0] 25) (.cells #[.int .i64 0, .int .i64 0, .slice none 0 0, .slice none 0 0, .slice none 0 0] 25)) (show ((((w.alloc (.cells #[.int .i64 n, .int .i64 m, .slice a1 Sa.length c1, .slice a2 Fa.length c2, .slice a3 Ea.length c3] 25)).alloc (.cells #[.int .i64 n', .int .i64 m', .slice b1 Sb.length d1, .slice b2 Fb.length d2, .slice b3 Eb.length d3] 25)).alloc (.cells #[.int .i64 0, .int .i64 0, .slice none 0 0, .slice none 0 0, .slice none 0 0] 25)).alloc (.cells #[.int .i64 0, .int .i64 0, .slice none 0 0, .slice none 0 0, .slice none 0 0] 25)).heap.size = w.heap.size + 4 by simp))
 rw [hW0] at HD
 obtain ⟨cy0, cy1, cy2, cy3, cy4⟩ := An HD.out.1.2.1 rfl rfl rfl rfl rfl
 have TA : Calls prog 66 #[.agg #[.int .i64 n, .int .i64 m, .slice a1 Sa.length c1, .slice a2 Fa.length c2, .slice a3 Ea.length c3]] W0 fun e w' => e = .returned (.tuple #[.agg #[.int .i64 0, .int .i64 0, .slice none 0 0, .slice none 0 0, .slice none 0 0], .int .i64 2]) ∧ Below W0.heap.size W0 w' := Df W0 n m a1 a2 a3 c1 c2 c3 Sa Fa Ea (A0 (hA.out.on HD.out.1.1)) h1 h2 h3 em
 clear em
 go_enter func44, ntmps44
 go_upto_region 3 with (go_at_call 66; refine TA.mono ?_; rintro e w1 ⟨rfl, D1⟩; have H1 := A0 D1; clear D1)
 clear TA cy0 cy1 cy2 cy3 cy4
 obtain ⟨W1, hW1⟩ : ∃ W, w1.alloc (.cells #[.int .i64 0, .int .i64 0, .slice none 0 0, .slice none 0 0, .slice none 0 0] 25) = W := ⟨_, rfl⟩
 have HW : Hid (Below W0.heap.size W0 W1) := A0 (by
  have k : Below w1.heap.size w1 W1 := by rw [← hW1]; exact (Below.refl _ _).alloc (Nat.le_refl _) _
  exact H1.out.trans (k.mono H1.out.size))
 rw [hW1]
 clear hW1 H1
 have G4 := A3 HD.out.1.2.2.2.1 HW.out
 have G5 := A3 HD.out.1.2.2.2.2 HW.out
 obtain ⟨o0, o1, o2, o3, o4⟩ := An G4 rfl rfl rfl rfl rfl
 have f0 : W1.frozen? ⟨w.heap.size + 1 + 1, 0, none⟩ = false := A4 G4
 have f1 : W1.frozen? ⟨w.heap.size + 1 + 1, 1, none⟩ = false := A4 G4
 have f2 : W1.frozen? ⟨w.heap.size + 1 + 1, 2, none⟩ = false := A4 G4
 have f3 : W1.frozen? ⟨w.heap.size + 1 + 1, 3, none⟩ = false := A4 G4
 have f4 : W1.frozen? ⟨w.heap.size + 1 + 1, 4, none⟩ = false := A4 G4
 obtain ⟨p0, p1, p2, p3, p4⟩ := An G5 rfl rfl rfl rfl rfl
 have fz0 : W1.frozen? ⟨w.heap.size + 1 + 1 + 1, 0, none⟩ = false := A4 G5
 have fz1 : W1.frozen? ⟨w.heap.size + 1 + 1 + 1, 1, none⟩ = false := A4 G5
 have fz2 : W1.frozen? ⟨w.heap.size + 1 + 1 + 1, 2, none⟩ = false := A4 G5
 have fz3 : W1.frozen? ⟨w.heap.size + 1 + 1 + 1, 3, none⟩ = false := A4 G5
 have fz4 : W1.frozen? ⟨w.heap.size + 1 + 1 + 1, 4, none⟩ = false := A4 G5
 have O5 := A0 (IH (W := W1) (x0 := .int .i64 0) (z0 := .int .i64 0) (x1 := .int .i64 0) (z1 := .int .i64 0) (x2 := .slice none 0 0) (z2 := .slice none 0 0) (x3 := .slice none 0 0) (z3 := .slice none 0 0) (x4 := .slice none 0 0) (z4 := .slice none 0 0) G4 G5 (by omega))
 clear G4 G5
 go_wp2_with fail
 refine bodyPost_ret (Bo (p := 4) (q := 5) (r := 6) (ty := 25) rfl _ _ (w.heap.size + 1 + 1) (w.heap.size + 1 + 1 + 1) 25 _ _ (0, 0) _ _ rfl rfl rfl O5.out.1 O5.out.2.1 underlying25 rfl (by kernel_rfl) (by kernel_rfl)) rfl ?_
 have s1 := HD.out.2
 have d1 := HD.out.1.1.trans (HW.out.mono HD.out.1.1.size)
 have s2 := HW.out.size
 exact ⟨rfl, d1.trans (O5.out.2.2.toBelow d1.size (fun k hk => by omega))⟩
theorem On (w : World) (n m n' m' : Int) (a1 a2 a3 b1 b2 b3 : Option Addr) (c1 c2 c3 d1 d2 d3 : Nat) (Sa Fa Sb Fb : List Int) (Ea Eb : List Aa) (hA : Hid (AP w a1 a2 a3 Sa Fa Ea)) (hB : Hid (AP w b1 b2 b3 Sb Fb Eb)) (h1 : Sa.length ≤ 4194304) (h2 : Fa.length ≤ 4194304) (h3 : Ea.length ≤ 4194304) (h4 : Sb.length ≤ 4194304) (h5 : Fb.length ≤ 4194304) (h6 : Eb.length ≤ 4194304) (hc : Ea.length ≤ c3) (_hc' : Eb.length ≤ d3) (em : AC n m Sa Fa Ea = true) (em' : AC n' m' Sb Fb Eb = false) :
 Calls prog 44 #[.agg #[.int .i64 n, .int .i64 m, .slice a1 Sa.length c1, .slice a2 Fa.length c2, .slice a3 Ea.length c3], .agg #[.int .i64 n', .int .i64 m', .slice b1 Sb.length d1, .slice b2 Fb.length d2, .slice b3 Eb.length d3]] w fun e w' => e = .returned (.tuple #[.agg #[.int .i64 0, .int .i64 0, .slice none 0 0, .slice none 0 0, .slice none 0 0], .agg #[.int .i64 0, .int .i64 0, .slice none 0 0, .slice none 0 0, .slice none 0 0], .int .i64 2]) ∧ Below w.heap.size w w' := by
 obtain ⟨W0, hW0⟩ : ∃ W0, (((w.alloc (.cells #[.int .i64 n, .int .i64 m, .slice a1 Sa.length c1, .slice a2 Fa.length c2, .slice a3 Ea.length c3] 25)).alloc (.cells #[.int .i64 n', .int .i64 m', .slice b1 Sb.length d1, .slice b2 Fb.length d2, .slice b3 Eb.length d3] 25)).alloc (.cells #[.int .i64 0, .int .i64 0, .slice none 0 0, .slice none 0 0, .slice none 0 0] 25)).alloc (.cells #[.int .i64 0, .int .i64 0, .slice none 0 0, .slice none 0 0, .slice none 0 0] 25) = W0 := ⟨_, rfl⟩
 have HD := A0 (And.intro (Iv w (.cells #[.int .i64 n, .int .i64 m, .slice a1 Sa.length c1, .slice a2 Fa.length c2, .slice a3 Ea.length c3] 25) (.cells #[.int .i64 n', .int .i64 m', .slice b1 Sb.length d1, .slice b2 Fb.length d2, .slice b3 Eb.length d3] 25) (.cells #[.int .i64 0, .int .i64 0, .slice none 0 0, .slice none 0 0, .slice none 0 0] 25) (.cells #[.int .i64 0, .int .i64 0, .slice none 0 0, .slice none 0 0, .slice none 0 0] 25)) (show ((((w.alloc (.cells #[.int .i64 n, .int .i64 m, .slice a1 Sa.length c1, .slice a2 Fa.length c2, .slice a3 Ea.length c3] 25)).alloc (.cells #[.int .i64 n', .int .i64 m', .slice b1 Sb.length d1, .slice b2 Fb.length d2, .slice b3 Eb.length d3] 25)).alloc (.cells #[.int .i64 0, .int .i64 0, .slice none 0 0, .slice none 0 0, .slice none 0 0] 25)).alloc (.cells #[.int .i64 0, .int .i64 0, .slice none 0 0, .slice none 0 0, .slice none 0 0] 25)).heap.size = w.heap.size + 4 by simp))
 rw [hW0] at HD
 obtain ⟨cy0, cy1, cy2, cy3, cy4⟩ := An HD.out.1.2.1 rfl rfl rfl rfl rfl
 have TA : Calls prog 66 #[.agg #[.int .i64 n, .int .i64 m, .slice a1 Sa.length c1, .slice a2 Fa.length c2, .slice a3 Ea.length c3]] W0 (Ga W0 ⟨n, m, A5 Sa, A5 Fa, A7 Ea, 0⟩) := by
  have q := C3 W0 n m a1 a2 a3 c1 c2 c3 Sa Fa Ea (A0 (hA.out.on HD.out.1.1)) h1 h2 h3 hc
  rwa [show CP n m Sa Fa Ea = ⟨n, m, A5 Sa, A5 Fa, A7 Ea, 0⟩ from if_pos em] at q
 have TB : Hid (∀ W, Below w.heap.size w W → Calls prog 66 #[.agg #[.int .i64 n', .int .i64 m', .slice b1 Sb.length d1, .slice b2 Fb.length d2, .slice b3 Eb.length d3]] W fun e w' => e = .returned (.tuple #[.agg #[.int .i64 0, .int .i64 0, .slice none 0 0, .slice none 0 0, .slice none 0 0], .int .i64 2]) ∧ Below W.heap.size W w') := A0 (fun W d => Df W n' m' b1 b2 b3 d1 d2 d3 Sb Fb Eb (A0 (hB.out.on d)) h4 h5 h6 em')
 clear em em'
 generalize A5 Sa = S1 at *
 generalize A5 Fa = F1 at *
 generalize A7 Ea = E1 at *
 go_enter func44, ntmps44
 go_upto_region 4 with (go_at_call 66; refine TA.mono ?_; rintro e w1 ⟨x1, k1, x2, k2, x3, k3, rfl, O1, D1⟩; have H1 := A0 (And.intro O1.out D1); clear O1 D1)
 clear TA cy0 cy1 cy2 cy3 cy4
 obtain ⟨W1, hW1⟩ : ∃ W, w1.alloc (.cells #[.int .i64 n, .int .i64 m, .slice x1 S1.length k1, .slice x2 F1.length k2, .slice x3 E1.length k3] 25) = W := ⟨_, rfl⟩
 have HW : Hid (W1.heap[w1.heap.size]? = some (.cells #[.int .i64 n, .int .i64 m, .slice x1 S1.length k1, .slice x2 F1.length k2, .slice x3 E1.length k3] 25 (0, 0)) ∧ Cb W0.heap.size W1 (.slice x1 S1.length k1) (.slice x2 F1.length k2) (.slice x3 E1.length k3) S1 F1 E1 ∧ Below W0.heap.size W0 W1) := A0 (by
  have k : Below w1.heap.size w1 W1 := by rw [← hW1]; exact (Below.refl _ _).alloc (Nat.le_refl _) _
  have z := World.alloc_heap_new w1 (.cells #[.int .i64 n, .int .i64 m, .slice x1 S1.length k1, .slice x2 F1.length k2, .slice x3 E1.length k3] 25)
  rw [hW1] at z
  exact ⟨z, CO H1.out.1 k, H1.out.2.trans (k.mono H1.out.2.size)⟩)
 rw [hW1]
 have HSZ0 : W0.heap.size ≤ w1.heap.size := H1.out.2.size
 clear hW1 H1
 have DW1 : Hid (Below w.heap.size w W1) := A0 (HD.out.1.1.trans (HW.out.2.2.mono HD.out.1.1.size))
 obtain ⟨cx0, cx1, cx2, cx3, cx4⟩ := An (A3 HD.out.1.2.2.1 HW.out.2.2) rfl rfl rfl rfl rfl
 go_upto_region 6 with (go_at_call 66; refine (TB.out _ DW1.out).mono ?_; rintro e w2 ⟨rfl, D2⟩; have H2 := A0 D2; clear D2)
 clear TB cx0 cx1 cx2 cx3 cx4
 obtain ⟨W2, hW2⟩ : ∃ W, w2.alloc (.cells #[.int .i64 0, .int .i64 0, .slice none 0 0, .slice none 0 0, .slice none 0 0] 25) = W := ⟨_, rfl⟩
 have HV : Hid (Below W0.heap.size W0 W2) := A0 (by
  have k : Below w2.heap.size w2 W2 := by rw [← hW2]; exact (Below.refl _ _).alloc (Nat.le_refl _) _
  have d := H2.out.trans (k.mono H2.out.size)
  exact HW.out.2.2.trans (d.mono HW.out.2.2.size))
 rw [hW2]
 clear hW2 H2
 have G4 := A3 HD.out.1.2.2.2.1 HV.out
 have G5 := A3 HD.out.1.2.2.2.2 HV.out
 obtain ⟨o0, o1, o2, o3, o4⟩ := An G4 rfl rfl rfl rfl rfl
 have f0 : W2.frozen? ⟨w.heap.size + 1 + 1, 0, none⟩ = false := A4 G4
 have f1 : W2.frozen? ⟨w.heap.size + 1 + 1, 1, none⟩ = false := A4 G4
 have f2 : W2.frozen? ⟨w.heap.size + 1 + 1, 2, none⟩ = false := A4 G4
 have f3 : W2.frozen? ⟨w.heap.size + 1 + 1, 3, none⟩ = false := A4 G4
 have f4 : W2.frozen? ⟨w.heap.size + 1 + 1, 4, none⟩ = false := A4 G4
 obtain ⟨p0, p1, p2, p3, p4⟩ := An G5 rfl rfl rfl rfl rfl
 have fz0 : W2.frozen? ⟨w.heap.size + 1 + 1 + 1, 0, none⟩ = false := A4 G5
 have fz1 : W2.frozen? ⟨w.heap.size + 1 + 1 + 1, 1, none⟩ = false := A4 G5
 have fz2 : W2.frozen? ⟨w.heap.size + 1 + 1 + 1, 2, none⟩ = false := A4 G5
 have fz3 : W2.frozen? ⟨w.heap.size + 1 + 1 + 1, 3, none⟩ = false := A4 G5
 have fz4 : W2.frozen? ⟨w.heap.size + 1 + 1 + 1, 4, none⟩ = false := A4 G5
 have O5 := A0 (IH (W := W2) (x0 := .int .i64 0) (z0 := .int .i64 0) (x1 := .int .i64 0) (z1 := .int .i64 0) (x2 := .slice none 0 0) (z2 := .slice none 0 0) (x3 := .slice none 0 0) (z3 := .slice none 0 0) (x4 := .slice none 0 0) (z4 := .slice none 0 0) G4 G5 (by omega))
 clear G4 G5
 go_wp2_with fail
 refine bodyPost_ret (Bo (p := 4) (q := 5) (r := 6) (ty := 25) rfl _ _ (w.heap.size + 1 + 1) (w.heap.size + 1 + 1 + 1) 25 _ _ (0, 0) _ _ rfl rfl rfl O5.out.1 O5.out.2.1 underlying25 rfl (by kernel_rfl) (by kernel_rfl)) rfl ?_
 have s1 := HD.out.2
 have d1 := HD.out.1.1.trans (HV.out.mono HD.out.1.1.size)
 have s2 := HV.out.size
 exact ⟨rfl, d1.trans (O5.out.2.2.toBelow d1.size (fun k hk => by omega))⟩
theorem MF (w : World) (n m n' m' : Int) (a1 a2 a3 b1 b2 b3 : Option Addr) (c1 c2 c3 d1 d2 d3 : Nat) (Sa Fa Sb Fb : List Int) (Ea Eb : List Aa) (hA : Hid (AP w a1 a2 a3 Sa Fa Ea)) (hB : Hid (AP w b1 b2 b3 Sb Fb Eb)) (h1 : Sa.length ≤ 4194304) (h2 : Fa.length ≤ 4194304) (h3 : Ea.length ≤ 4194304) (h4 : Sb.length ≤ 4194304) (h5 : Fb.length ≤ 4194304) (h6 : Eb.length ≤ 4194304) (hc : Ea.length ≤ c3) (hc' : Eb.length ≤ d3) (em : AC n m Sa Fa Ea = true) (em' : AC n' m' Sb Fb Eb = true) (hmm : (m != m') = false) :
 Calls prog 44 #[.agg #[.int .i64 n, .int .i64 m, .slice a1 Sa.length c1, .slice a2 Fa.length c2, .slice a3 Ea.length c3], .agg #[.int .i64 n', .int .i64 m', .slice b1 Sb.length d1, .slice b2 Fb.length d2, .slice b3 Eb.length d3]] w fun e w' => ∃ x1 k1 x2 k2 x3 k3 y1 j1 y2 j2 y3 j3, e = .returned (.tuple #[.agg #[.int .i64 n, .int .i64 m, .slice x1 (A5 Sa).length k1, .slice x2 (A5 Fa).length k2, .slice x3 (A7 Ea).length k3], .agg #[.int .i64 n', .int .i64 m', .slice y1 (A5 Sb).length j1, .slice y2 (A5 Fb).length j2, .slice y3 (A7 Eb).length j3], .int .i64 0]) ∧ Hid (AP w' x1 x2 x3 (A5 Sa) (A5 Fa) (A7 Ea) ∧ AP w' y1 y2 y3 (A5 Sb) (A5 Fb) (A7 Eb) ∧ Below w.heap.size w w') := by
 obtain ⟨W0, hW0⟩ : ∃ W0, (((w.alloc (.cells #[.int .i64 n, .int .i64 m, .slice a1 Sa.length c1, .slice a2 Fa.length c2, .slice a3 Ea.length c3] 25)).alloc (.cells #[.int .i64 n', .int .i64 m', .slice b1 Sb.length d1, .slice b2 Fb.length d2, .slice b3 Eb.length d3] 25)).alloc (.cells #[.int .i64 0, .int .i64 0, .slice none 0 0, .slice none 0 0, .slice none 0 0] 25)).alloc (.cells #[.int .i64 0, .int .i64 0, .slice none 0 0, .slice none 0 0, .slice none 0 0] 25) = W0 := ⟨_, rfl⟩
 have HD := A0 (And.intro (Iv w (.cells #[.int .i64 n, .int .i64 m, .slice a1 Sa.length c1, .slice a2 Fa.length c2, .slice a3 Ea.length c3] 25) (.cells #[.int .i64 n', .int .i64 m', .slice b1 Sb.length d1, .slice b2 Fb.length d2, .slice b3 Eb.length d3] 25) (.cells #[.int .i64 0, .int .i64 0, .slice none 0 0, .slice none 0 0, .slice none 0 0] 25) (.cells #[.int .i64 0, .int .i64 0, .slice none 0 0, .slice none 0 0, .slice none 0 0] 25)) (show ((((w.alloc (.cells #[.int .i64 n, .int .i64 m, .slice a1 Sa.length c1, .slice a2 Fa.length c2, .slice a3 Ea.length c3] 25)).alloc (.cells #[.int .i64 n', .int .i64 m', .slice b1 Sb.length d1, .slice b2 Fb.length d2, .slice b3 Eb.length d3] 25)).alloc (.cells #[.int .i64 0, .int .i64 0, .slice none 0 0, .slice none 0 0, .slice none 0 0] 25)).alloc (.cells #[.int .i64 0, .int .i64 0, .slice none 0 0, .slice none 0 0, .slice none 0 0] 25)).heap.size = w.heap.size + 4 by simp))
 rw [hW0] at HD
 obtain ⟨cy0, cy1, cy2, cy3, cy4⟩ := An HD.out.1.2.1 rfl rfl rfl rfl rfl
 have TA : Calls prog 66 #[.agg #[.int .i64 n, .int .i64 m, .slice a1 Sa.length c1, .slice a2 Fa.length c2, .slice a3 Ea.length c3]] W0 (Ga W0 ⟨n, m, A5 Sa, A5 Fa, A7 Ea, 0⟩) := by
  have q := C3 W0 n m a1 a2 a3 c1 c2 c3 Sa Fa Ea (A0 (hA.out.on HD.out.1.1)) h1 h2 h3 hc
  rwa [show CP n m Sa Fa Ea = ⟨n, m, A5 Sa, A5 Fa, A7 Ea, 0⟩ from if_pos em] at q
 have TB : Hid (∀ W, Below w.heap.size w W → Calls prog 66 #[.agg #[.int .i64 n', .int .i64 m', .slice b1 Sb.length d1, .slice b2 Fb.length d2, .slice b3 Eb.length d3]] W (Ga W ⟨n', m', A5 Sb, A5 Fb, A7 Eb, 0⟩)) := A0 (fun W d => by
  have q := C3 W n' m' b1 b2 b3 d1 d2 d3 Sb Fb Eb (A0 (hB.out.on d)) h4 h5 h6 hc'
  rwa [show CP n' m' Sb Fb Eb = ⟨n', m', A5 Sb, A5 Fb, A7 Eb, 0⟩ from if_pos em'] at q)
 clear em em'
 generalize A5 Sa = S1 at *
 generalize A5 Fa = F1 at *
 generalize A7 Ea = E1 at *
 generalize A5 Sb = S2 at *
 generalize A5 Fb = F2 at *
 generalize A7 Eb = E2 at *
 go_enter func44, ntmps44
 go_upto_region 4 with (go_at_call 66; refine TA.mono ?_; rintro e w1 ⟨x1, k1, x2, k2, x3, k3, rfl, O1, D1⟩; have H1 := A0 (And.intro O1.out D1); clear O1 D1)
 clear TA cy0 cy1 cy2 cy3 cy4
 obtain ⟨W1, hW1⟩ : ∃ W, w1.alloc (.cells #[.int .i64 n, .int .i64 m, .slice x1 S1.length k1, .slice x2 F1.length k2, .slice x3 E1.length k3] 25) = W := ⟨_, rfl⟩
 have HW : Hid (W1.heap[w1.heap.size]? = some (.cells #[.int .i64 n, .int .i64 m, .slice x1 S1.length k1, .slice x2 F1.length k2, .slice x3 E1.length k3] 25 (0, 0)) ∧ Cb W0.heap.size W1 (.slice x1 S1.length k1) (.slice x2 F1.length k2) (.slice x3 E1.length k3) S1 F1 E1 ∧ Below W0.heap.size W0 W1) := A0 (by
  have k : Below w1.heap.size w1 W1 := by rw [← hW1]; exact (Below.refl _ _).alloc (Nat.le_refl _) _
  have z := World.alloc_heap_new w1 (.cells #[.int .i64 n, .int .i64 m, .slice x1 S1.length k1, .slice x2 F1.length k2, .slice x3 E1.length k3] 25)
  rw [hW1] at z
  exact ⟨z, CO H1.out.1 k, H1.out.2.trans (k.mono H1.out.2.size)⟩)
 rw [hW1]
 have HSZ0 : W0.heap.size ≤ w1.heap.size := H1.out.2.size
 clear hW1 H1
 have DW1 : Hid (Below w.heap.size w W1) := A0 (HD.out.1.1.trans (HW.out.2.2.mono HD.out.1.1.size))
 obtain ⟨cx0, cx1, cx2, cx3, cx4⟩ := An (A3 HD.out.1.2.2.1 HW.out.2.2) rfl rfl rfl rfl rfl
 have HSZ : Hid (W0.heap.size ≤ w1.heap.size) := A0 HSZ0
 go_upto_region 7 with (go_at_call 66; refine (TB.out _ DW1.out).mono ?_; rintro e w2 ⟨y1, j1, y2, j2, y3, j3, rfl, O2, D2⟩; have H2 := A0 (And.intro O2.out D2); clear O2 D2)
 clear TB cx0 cx1 cx2 cx3 cx4
 obtain ⟨W2, hW2⟩ : ∃ W, w2.alloc (.cells #[.int .i64 n', .int .i64 m', .slice y1 S2.length j1, .slice y2 F2.length j2, .slice y3 E2.length j3] 25) = W := ⟨_, rfl⟩
 have HV : Hid (W2.heap[w2.heap.size]? = some (.cells #[.int .i64 n', .int .i64 m', .slice y1 S2.length j1, .slice y2 F2.length j2, .slice y3 E2.length j3] 25 (0, 0)) ∧ W2.heap[w1.heap.size]? = some (.cells #[.int .i64 n, .int .i64 m, .slice x1 S1.length k1, .slice x2 F1.length k2, .slice x3 E1.length k3] 25 (0, 0)) ∧ Cb W0.heap.size W2 (.slice x1 S1.length k1) (.slice x2 F1.length k2) (.slice x3 E1.length k3) S1 F1 E1 ∧ Cb W0.heap.size W2 (.slice y1 S2.length j1) (.slice y2 F2.length j2) (.slice y3 E2.length j3) S2 F2 E2 ∧ Below W0.heap.size W0 W2 ∧ W0.heap.size ≤ w1.heap.size ∧ w1.heap.size < w2.heap.size) := A0 (by
  have k : Below w2.heap.size w2 W2 := by rw [← hW2]; exact (Below.refl _ _).alloc (Nat.le_refl _) _
  have z := World.alloc_heap_new w2 (.cells #[.int .i64 n', .int .i64 m', .slice y1 S2.length j1, .slice y2 F2.length j2, .slice y3 E2.length j3] 25)
  rw [hW2] at z
  have d := H2.out.2.trans (k.mono H2.out.2.size)
  have q := (Array.getElem?_eq_some_iff.1 HW.out.1).1
  exact ⟨z, A3 HW.out.1 d, CO HW.out.2.1 d, CO (GP H2.out.1 HW.out.2.2.size) k, HW.out.2.2.trans (d.mono HW.out.2.2.size), HSZ.out, by have := H2.out.2.size; omega⟩)
 rw [hW2]
 clear hW2 H2
 have DW2 : Hid (Below w.heap.size w W2) := A0 (HD.out.1.1.trans (HV.out.2.2.2.2.1.mono HD.out.1.1.size))
 obtain ⟨W3, hW3⟩ : ∃ W, W2 = W := ⟨_, rfl⟩
 have HQ : Hid (W3.heap[w2.heap.size]? = some (.cells #[.int .i64 n', .int .i64 m', .slice y1 S2.length j1, .slice y2 F2.length j2, .slice y3 E2.length j3] 25 (0, 0)) ∧ W3.heap[w1.heap.size]? = some (.cells #[.int .i64 n, .int .i64 m, .slice x1 S1.length k1, .slice x2 F1.length k2, .slice x3 E1.length k3] 25 (0, 0)) ∧ Cb W0.heap.size W3 (.slice x1 S1.length k1) (.slice x2 F1.length k2) (.slice x3 E1.length k3) S1 F1 E1 ∧ Cb W0.heap.size W3 (.slice y1 S2.length j1) (.slice y2 F2.length j2) (.slice y3 E2.length j3) S2 F2 E2 ∧ Below W0.heap.size W0 W3) := A0 (by rw [← hW3]; exact ⟨HV.out.1, HV.out.2.1, HV.out.2.2.1, HV.out.2.2.2.1, HV.out.2.2.2.2.1⟩)
 rw [hW3]
 clear hW3
 have G4 := A3 HD.out.1.2.2.2.1 HQ.out.2.2.2.2
 have G5 := A3 HD.out.1.2.2.2.2 HQ.out.2.2.2.2
 obtain ⟨u0, u1, u2, u3, u4⟩ := An HQ.out.2.1 rfl rfl rfl rfl rfl
 obtain ⟨v0, v1, v2, v3, v4⟩ := An HQ.out.1 rfl rfl rfl rfl rfl
 obtain ⟨o0, o1, o2, o3, o4⟩ := An G4 rfl rfl rfl rfl rfl
 have f0 : W3.frozen? ⟨w.heap.size + 1 + 1, 0, none⟩ = false := A4 G4
 have f1 : W3.frozen? ⟨w.heap.size + 1 + 1, 1, none⟩ = false := A4 G4
 have f2 : W3.frozen? ⟨w.heap.size + 1 + 1, 2, none⟩ = false := A4 G4
 have f3 : W3.frozen? ⟨w.heap.size + 1 + 1, 3, none⟩ = false := A4 G4
 have f4 : W3.frozen? ⟨w.heap.size + 1 + 1, 4, none⟩ = false := A4 G4
 obtain ⟨p0, p1, p2, p3, p4⟩ := An G5 rfl rfl rfl rfl rfl
 have fz0 : W3.frozen? ⟨w.heap.size + 1 + 1 + 1, 0, none⟩ = false := A4 G5
 have fz1 : W3.frozen? ⟨w.heap.size + 1 + 1 + 1, 1, none⟩ = false := A4 G5
 have fz2 : W3.frozen? ⟨w.heap.size + 1 + 1 + 1, 2, none⟩ = false := A4 G5
 have fz3 : W3.frozen? ⟨w.heap.size + 1 + 1 + 1, 3, none⟩ = false := A4 G5
 have fz4 : W3.frozen? ⟨w.heap.size + 1 + 1 + 1, 4, none⟩ = false := A4 G5
 have O5 := A0 (IH (W := W3) (x0 := .int .i64 n) (z0 := .int .i64 n') (x1 := .int .i64 m) (z1 := .int .i64 m') (x2 := .slice x1 S1.length k1) (z2 := .slice y1 S2.length j1) (x3 := .slice x2 F1.length k2) (z3 := .slice y2 F2.length j2) (x4 := .slice x3 E1.length k3) (z4 := .slice y3 E2.length j3) G4 G5 (by omega))
 have hne1 : w1.heap.size ≠ w.heap.size + 1 + 1 := by have := HD.out.2; have := HSZ.out; omega
 have hne2 : w2.heap.size ≠ w.heap.size + 1 + 1 := by have := HD.out.2; have := HSZ.out; have := HV.out.2.2.2.2.2.2; omega
 have HK : Hid (Cb W0.heap.size (((((((((((W3.setCell ⟨w.heap.size + 1 + 1, 0, none⟩ (.int .i64 n)).setCell ⟨w.heap.size + 1 + 1, 1, none⟩ (.int .i64 m)).setCell ⟨w.heap.size + 1 + 1, 2, none⟩ (.slice x1 S1.length k1)).setCell ⟨w.heap.size + 1 + 1, 3, none⟩ (.slice x2 F1.length k2)).setCell ⟨w.heap.size + 1 + 1, 4, none⟩ (.slice x3 E1.length k3)).setCell ⟨w.heap.size + 1 + 1 + 1, 0, none⟩ (.int .i64 n')).setCell ⟨w.heap.size + 1 + 1 + 1, 1, none⟩ (.int .i64 m')).setCell ⟨w.heap.size + 1 + 1 + 1, 2, none⟩ (.slice y1 S2.length j1)).setCell ⟨w.heap.size + 1 + 1 + 1, 3, none⟩ (.slice y2 F2.length j2)).setCell ⟨w.heap.size + 1 + 1 + 1, 4, none⟩ (.slice y3 E2.length j3))) (.slice x1 S1.length k1) (.slice x2 F1.length k2) (.slice x3 E1.length k3) S1 F1 E1 ∧ Cb W0.heap.size (((((((((((W3.setCell ⟨w.heap.size + 1 + 1, 0, none⟩ (.int .i64 n)).setCell ⟨w.heap.size + 1 + 1, 1, none⟩ (.int .i64 m)).setCell ⟨w.heap.size + 1 + 1, 2, none⟩ (.slice x1 S1.length k1)).setCell ⟨w.heap.size + 1 + 1, 3, none⟩ (.slice x2 F1.length k2)).setCell ⟨w.heap.size + 1 + 1, 4, none⟩ (.slice x3 E1.length k3)).setCell ⟨w.heap.size + 1 + 1 + 1, 0, none⟩ (.int .i64 n')).setCell ⟨w.heap.size + 1 + 1 + 1, 1, none⟩ (.int .i64 m')).setCell ⟨w.heap.size + 1 + 1 + 1, 2, none⟩ (.slice y1 S2.length j1)).setCell ⟨w.heap.size + 1 + 1 + 1, 3, none⟩ (.slice y2 F2.length j2)).setCell ⟨w.heap.size + 1 + 1 + 1, 4, none⟩ (.slice y3 E2.length j3))) (.slice y1 S2.length j1) (.slice y2 F2.length j2) (.slice y3 E2.length j3) S2 F2 E2) := A0 ⟨IB HQ.out.2.2.1 G4 G5 O5.out.2.2, IB HQ.out.2.2.2.1 G4 G5 O5.out.2.2⟩
 clear G4 G5
 go_upto_region 9 with fail
 go_region_law (fail)
 all_goals
  have O6 := O5.out
  have K6 := HK.out
  generalize ((((((((((W3.setCell ⟨w.heap.size + 1 + 1, 0, none⟩ (.int .i64 n)).setCell ⟨w.heap.size + 1 + 1, 1, none⟩ (.int .i64 m)).setCell ⟨w.heap.size + 1 + 1, 2, none⟩ (.slice x1 S1.length k1)).setCell ⟨w.heap.size + 1 + 1, 3, none⟩ (.slice x2 F1.length k2)).setCell ⟨w.heap.size + 1 + 1, 4, none⟩ (.slice x3 E1.length k3)).setCell ⟨w.heap.size + 1 + 1 + 1, 0, none⟩ (.int .i64 n')).setCell ⟨w.heap.size + 1 + 1 + 1, 1, none⟩ (.int .i64 m')).setCell ⟨w.heap.size + 1 + 1 + 1, 2, none⟩ (.slice y1 S2.length j1)).setCell ⟨w.heap.size + 1 + 1 + 1, 3, none⟩ (.slice y2 F2.length j2)).setCell ⟨w.heap.size + 1 + 1 + 1, 4, none⟩ (.slice y3 E2.length j3)) = W6 at O6 K6 ⊢
  have Q6 : Hid (W6.drew.heap[w.heap.size + 1 + 1]? = some (.cells #[.int .i64 n, .int .i64 m, .slice x1 S1.length k1, .slice x2 F1.length k2, .slice x3 E1.length k3] 25 (0, 0)) ∧ W6.drew.heap[w.heap.size + 1 + 1 + 1]? = some (.cells #[.int .i64 n', .int .i64 m', .slice y1 S2.length j1, .slice y2 F2.length j2, .slice y3 E2.length j3] 25 (0, 0)) ∧ AP W6.drew x1 x2 x3 S1 F1 E1 ∧ AP W6.drew y1 y2 y3 S2 F2 E2 ∧ Below w.heap.size w W6.drew) := A0 (by
   have dq : Below W6.heap.size W6 W6.drew := ⟨rfl, rfl, rfl, Nat.le_refl _, fun _ _ => rfl⟩
   have d3 := HD.out.1.1.trans (HQ.out.2.2.2.2.mono HD.out.1.1.size)
   have d6 := d3.trans (O6.2.2.toBelow d3.size (fun k hk => by omega))
   exact ⟨O6.1, O6.2.1, (Cb.rd K6.1).on dq, (Cb.rd K6.2).on dq, d6.trans (dq.mono d6.size)⟩)
  clear O6 K6
  go_wp2_with fail
  refine bodyPost_ret (Bo (p := 4) (q := 5) (r := 6) (ty := 25) rfl _ _ (w.heap.size + 1 + 1) (w.heap.size + 1 + 1 + 1) 25 _ _ (0, 0) _ _ rfl rfl rfl Q6.out.1 Q6.out.2.1 underlying25 rfl (by kernel_rfl) (by kernel_rfl)) rfl ?_
  exact ⟨x1, k1, x2, k2, x3, k3, y1, j1, y2, j2, y3, j3, rfl, A0 Q6.out.2.2⟩
theorem OQ (w : World) (n m n' m' : Int) (a1 a2 a3 b1 b2 b3 : Option Addr) (c1 c2 c3 d1 d2 d3 : Nat) (Sa Fa Sb Fb : List Int) (Ea Eb : List Aa) (hA : Hid (AP w a1 a2 a3 Sa Fa Ea)) (hB : Hid (AP w b1 b2 b3 Sb Fb Eb)) (h1 : Sa.length ≤ 4194304) (h2 : Fa.length ≤ 4194304) (h3 : Ea.length ≤ 4194304) (h4 : Sb.length ≤ 4194304) (h5 : Fb.length ≤ 4194304) (h6 : Eb.length ≤ 4194304) (hc : Ea.length ≤ c3) (hc' : Eb.length ≤ d3) (em : AC n m Sa Fa Ea = true) (em' : AC n' m' Sb Fb Eb = true) (hmm : (m != m') = true) :
 Calls prog 44 #[.agg #[.int .i64 n, .int .i64 m, .slice a1 Sa.length c1, .slice a2 Fa.length c2, .slice a3 Ea.length c3], .agg #[.int .i64 n', .int .i64 m', .slice b1 Sb.length d1, .slice b2 Fb.length d2, .slice b3 Eb.length d3]] w fun e w' => e = .returned (.tuple #[.agg #[.int .i64 0, .int .i64 0, .slice none 0 0, .slice none 0 0, .slice none 0 0], .agg #[.int .i64 0, .int .i64 0, .slice none 0 0, .slice none 0 0, .slice none 0 0], .int .i64 6]) ∧ Below w.heap.size w w' := by
 obtain ⟨W0, hW0⟩ : ∃ W0, (((w.alloc (.cells #[.int .i64 n, .int .i64 m, .slice a1 Sa.length c1, .slice a2 Fa.length c2, .slice a3 Ea.length c3] 25)).alloc (.cells #[.int .i64 n', .int .i64 m', .slice b1 Sb.length d1, .slice b2 Fb.length d2, .slice b3 Eb.length d3] 25)).alloc (.cells #[.int .i64 0, .int .i64 0, .slice none 0 0, .slice none 0 0, .slice none 0 0] 25)).alloc (.cells #[.int .i64 0, .int .i64 0, .slice none 0 0, .slice none 0 0, .slice none 0 0] 25) = W0 := ⟨_, rfl⟩
 have HD := A0 (And.intro (Iv w (.cells #[.int .i64 n, .int .i64 m, .slice a1 Sa.length c1, .slice a2 Fa.length c2, .slice a3 Ea.length c3] 25) (.cells #[.int .i64 n', .int .i64 m', .slice b1 Sb.length d1, .slice b2 Fb.length d2, .slice b3 Eb.length d3] 25) (.cells #[.int .i64 0, .int .i64 0, .slice none 0 0, .slice none 0 0, .slice none 0 0] 25) (.cells #[.int .i64 0, .int .i64 0, .slice none 0 0, .slice none 0 0, .slice none 0 0] 25)) (show ((((w.alloc (.cells #[.int .i64 n, .int .i64 m, .slice a1 Sa.length c1, .slice a2 Fa.length c2, .slice a3 Ea.length c3] 25)).alloc (.cells #[.int .i64 n', .int .i64 m', .slice b1 Sb.length d1, .slice b2 Fb.length d2, .slice b3 Eb.length d3] 25)).alloc (.cells #[.int .i64 0, .int .i64 0, .slice none 0 0, .slice none 0 0, .slice none 0 0] 25)).alloc (.cells #[.int .i64 0, .int .i64 0, .slice none 0 0, .slice none 0 0, .slice none 0 0] 25)).heap.size = w.heap.size + 4 by simp))
 rw [hW0] at HD
 obtain ⟨cy0, cy1, cy2, cy3, cy4⟩ := An HD.out.1.2.1 rfl rfl rfl rfl rfl
 have TA : Calls prog 66 #[.agg #[.int .i64 n, .int .i64 m, .slice a1 Sa.length c1, .slice a2 Fa.length c2, .slice a3 Ea.length c3]] W0 (Ga W0 ⟨n, m, A5 Sa, A5 Fa, A7 Ea, 0⟩) := by
  have q := C3 W0 n m a1 a2 a3 c1 c2 c3 Sa Fa Ea (A0 (hA.out.on HD.out.1.1)) h1 h2 h3 hc
  rwa [show CP n m Sa Fa Ea = ⟨n, m, A5 Sa, A5 Fa, A7 Ea, 0⟩ from if_pos em] at q
 have TB : Hid (∀ W, Below w.heap.size w W → Calls prog 66 #[.agg #[.int .i64 n', .int .i64 m', .slice b1 Sb.length d1, .slice b2 Fb.length d2, .slice b3 Eb.length d3]] W (Ga W ⟨n', m', A5 Sb, A5 Fb, A7 Eb, 0⟩)) := A0 (fun W d => by
  have q := C3 W n' m' b1 b2 b3 d1 d2 d3 Sb Fb Eb (A0 (hB.out.on d)) h4 h5 h6 hc'
  rwa [show CP n' m' Sb Fb Eb = ⟨n', m', A5 Sb, A5 Fb, A7 Eb, 0⟩ from if_pos em'] at q)
 clear em em'
 generalize A5 Sa = S1 at *
 generalize A5 Fa = F1 at *
 generalize A7 Ea = E1 at *
 generalize A5 Sb = S2 at *
 generalize A5 Fb = F2 at *
 generalize A7 Eb = E2 at *
 go_enter func44, ntmps44
 go_upto_region 4 with (go_at_call 66; refine TA.mono ?_; rintro e w1 ⟨x1, k1, x2, k2, x3, k3, rfl, O1, D1⟩; have H1 := A0 (And.intro O1.out D1); clear O1 D1)
 clear TA cy0 cy1 cy2 cy3 cy4
 obtain ⟨W1, hW1⟩ : ∃ W, w1.alloc (.cells #[.int .i64 n, .int .i64 m, .slice x1 S1.length k1, .slice x2 F1.length k2, .slice x3 E1.length k3] 25) = W := ⟨_, rfl⟩
 have HW : Hid (W1.heap[w1.heap.size]? = some (.cells #[.int .i64 n, .int .i64 m, .slice x1 S1.length k1, .slice x2 F1.length k2, .slice x3 E1.length k3] 25 (0, 0)) ∧ Cb W0.heap.size W1 (.slice x1 S1.length k1) (.slice x2 F1.length k2) (.slice x3 E1.length k3) S1 F1 E1 ∧ Below W0.heap.size W0 W1) := A0 (by
  have k : Below w1.heap.size w1 W1 := by rw [← hW1]; exact (Below.refl _ _).alloc (Nat.le_refl _) _
  have z := World.alloc_heap_new w1 (.cells #[.int .i64 n, .int .i64 m, .slice x1 S1.length k1, .slice x2 F1.length k2, .slice x3 E1.length k3] 25)
  rw [hW1] at z
  exact ⟨z, CO H1.out.1 k, H1.out.2.trans (k.mono H1.out.2.size)⟩)
 rw [hW1]
 have HSZ0 : W0.heap.size ≤ w1.heap.size := H1.out.2.size
 clear hW1 H1
 have DW1 : Hid (Below w.heap.size w W1) := A0 (HD.out.1.1.trans (HW.out.2.2.mono HD.out.1.1.size))
 obtain ⟨cx0, cx1, cx2, cx3, cx4⟩ := An (A3 HD.out.1.2.2.1 HW.out.2.2) rfl rfl rfl rfl rfl
 have HSZ : Hid (W0.heap.size ≤ w1.heap.size) := A0 HSZ0
 go_upto_region 7 with (go_at_call 66; refine (TB.out _ DW1.out).mono ?_; rintro e w2 ⟨y1, j1, y2, j2, y3, j3, rfl, O2, D2⟩; have H2 := A0 (And.intro O2.out D2); clear O2 D2)
 clear TB cx0 cx1 cx2 cx3 cx4
 obtain ⟨W2, hW2⟩ : ∃ W, w2.alloc (.cells #[.int .i64 n', .int .i64 m', .slice y1 S2.length j1, .slice y2 F2.length j2, .slice y3 E2.length j3] 25) = W := ⟨_, rfl⟩
 have HV : Hid (W2.heap[w2.heap.size]? = some (.cells #[.int .i64 n', .int .i64 m', .slice y1 S2.length j1, .slice y2 F2.length j2, .slice y3 E2.length j3] 25 (0, 0)) ∧ W2.heap[w1.heap.size]? = some (.cells #[.int .i64 n, .int .i64 m, .slice x1 S1.length k1, .slice x2 F1.length k2, .slice x3 E1.length k3] 25 (0, 0)) ∧ Cb W0.heap.size W2 (.slice x1 S1.length k1) (.slice x2 F1.length k2) (.slice x3 E1.length k3) S1 F1 E1 ∧ Cb W0.heap.size W2 (.slice y1 S2.length j1) (.slice y2 F2.length j2) (.slice y3 E2.length j3) S2 F2 E2 ∧ Below W0.heap.size W0 W2 ∧ W0.heap.size ≤ w1.heap.size ∧ w1.heap.size < w2.heap.size) := A0 (by
  have k : Below w2.heap.size w2 W2 := by rw [← hW2]; exact (Below.refl _ _).alloc (Nat.le_refl _) _
  have z := World.alloc_heap_new w2 (.cells #[.int .i64 n', .int .i64 m', .slice y1 S2.length j1, .slice y2 F2.length j2, .slice y3 E2.length j3] 25)
  rw [hW2] at z
  have d := H2.out.2.trans (k.mono H2.out.2.size)
  have q := (Array.getElem?_eq_some_iff.1 HW.out.1).1
  exact ⟨z, A3 HW.out.1 d, CO HW.out.2.1 d, CO (GP H2.out.1 HW.out.2.2.size) k, HW.out.2.2.trans (d.mono HW.out.2.2.size), HSZ.out, by have := H2.out.2.size; omega⟩)
 rw [hW2]
 clear hW2 H2
 have DW2 : Hid (Below w.heap.size w W2) := A0 (HD.out.1.1.trans (HV.out.2.2.2.2.1.mono HD.out.1.1.size))
 obtain ⟨W3, hW3⟩ : ∃ W, W2 = W := ⟨_, rfl⟩
 have HQ : Hid (W3.heap[w2.heap.size]? = some (.cells #[.int .i64 n', .int .i64 m', .slice y1 S2.length j1, .slice y2 F2.length j2, .slice y3 E2.length j3] 25 (0, 0)) ∧ W3.heap[w1.heap.size]? = some (.cells #[.int .i64 n, .int .i64 m, .slice x1 S1.length k1, .slice x2 F1.length k2, .slice x3 E1.length k3] 25 (0, 0)) ∧ Cb W0.heap.size W3 (.slice x1 S1.length k1) (.slice x2 F1.length k2) (.slice x3 E1.length k3) S1 F1 E1 ∧ Cb W0.heap.size W3 (.slice y1 S2.length j1) (.slice y2 F2.length j2) (.slice y3 E2.length j3) S2 F2 E2 ∧ Below W0.heap.size W0 W3) := A0 (by rw [← hW3]; exact ⟨HV.out.1, HV.out.2.1, HV.out.2.2.1, HV.out.2.2.2.1, HV.out.2.2.2.2.1⟩)
 rw [hW3]
 clear hW3
 have G4 := A3 HD.out.1.2.2.2.1 HQ.out.2.2.2.2
 have G5 := A3 HD.out.1.2.2.2.2 HQ.out.2.2.2.2
 obtain ⟨u0, u1, u2, u3, u4⟩ := An HQ.out.2.1 rfl rfl rfl rfl rfl
 obtain ⟨v0, v1, v2, v3, v4⟩ := An HQ.out.1 rfl rfl rfl rfl rfl
 obtain ⟨o0, o1, o2, o3, o4⟩ := An G4 rfl rfl rfl rfl rfl
 have f0 : W3.frozen? ⟨w.heap.size + 1 + 1, 0, none⟩ = false := A4 G4
 have f1 : W3.frozen? ⟨w.heap.size + 1 + 1, 1, none⟩ = false := A4 G4
 have f2 : W3.frozen? ⟨w.heap.size + 1 + 1, 2, none⟩ = false := A4 G4
 have f3 : W3.frozen? ⟨w.heap.size + 1 + 1, 3, none⟩ = false := A4 G4
 have f4 : W3.frozen? ⟨w.heap.size + 1 + 1, 4, none⟩ = false := A4 G4
 obtain ⟨p0, p1, p2, p3, p4⟩ := An G5 rfl rfl rfl rfl rfl
 have fz0 : W3.frozen? ⟨w.heap.size + 1 + 1 + 1, 0, none⟩ = false := A4 G5
 have fz1 : W3.frozen? ⟨w.heap.size + 1 + 1 + 1, 1, none⟩ = false := A4 G5
 have fz2 : W3.frozen? ⟨w.heap.size + 1 + 1 + 1, 2, none⟩ = false := A4 G5
 have fz3 : W3.frozen? ⟨w.heap.size + 1 + 1 + 1, 3, none⟩ = false := A4 G5
 have fz4 : W3.frozen? ⟨w.heap.size + 1 + 1 + 1, 4, none⟩ = false := A4 G5
 have O5 := A0 (IH (W := W3) (x0 := .int .i64 0) (z0 := .int .i64 0) (x1 := .int .i64 0) (z1 := .int .i64 0) (x2 := .slice none 0 0) (z2 := .slice none 0 0) (x3 := .slice none 0 0) (z3 := .slice none 0 0) (x4 := .slice none 0 0) (z4 := .slice none 0 0) G4 G5 (by omega))
 clear G4 G5
 go_wp2_with fail
 refine bodyPost_ret (Bo (p := 4) (q := 5) (r := 6) (ty := 25) rfl _ _ (w.heap.size + 1 + 1) (w.heap.size + 1 + 1 + 1) 25 _ _ (0, 0) _ _ rfl rfl rfl O5.out.1 O5.out.2.1 underlying25 rfl (by kernel_rfl) (by kernel_rfl)) rfl ?_
 have d1 := HD.out.1.1.trans (HQ.out.2.2.2.2.mono HD.out.1.1.size)
 have s2 := d1.size
 exact ⟨rfl, d1.trans (O5.out.2.2.toBelow d1.size (fun k hk => by omega))⟩
end Go.Proofs.YtchoopnjckcohaaGreat
