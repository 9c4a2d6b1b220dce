import Derived.Test.YtchoopnjckcohaaGreatDoorQaq
import Derived.Deep.Cut
set_option maxRecDepth 100000
set_option maxHeartbeats 40000000
namespace Go.Proofs.YtchoopnjckcohaaGreatDoor
open Go.RowKit Go.Maps Go.Shelf
attribute [local go_sem] Oper.semAt_some
theorem SS.ends {D : Nat} {W : World} {b bm : Nat} {f : Value} {bud : Int} {vp ve vn : Value} {ps : List PrT} {es : List EdT} {nn : Nat} {xn : List Value} (h : SS D W b bm f bud vp ve vn ps es nn xn) (hbD : b < D) {W' : World} {v : Value} {n2 : Nat} {x2 : List Value} (hW : Only W W' (fun k => vn.ownBlock = some k)) (hv : W'.ownsRow D 3 1 v n2 x2) :
 SS D (W'.setCell ⟨b, 5, none⟩ v) b bm f bud vp ve v ps es n2 x2 ∧ Only W (W'.setCell ⟨b, 5, none⟩ v) (fun k => k = b ∨ vn.ownBlock = some k) := by
 obtain ⟨Dm, hm, hp⟩ := h.mo
 have hbb : b ≠ bm := by
  rintro rfl
  obtain ⟨es, ck, q1, _⟩ := hm
  rw [h.bx] at q1; cases q1
 have hnb : vn.ownBlock ≠ some b := fun e => by have := (h.no.lt b e).1; omega
 have b1 := hW.cellK h.bx hnb
 have o2 := only_set W' b 5 v
 have p1 := row_only h.po hW (fun k hk hk2 => rows_differ h.no h.po (by decide) hk2 hk)
 have e1 := row_only h.eo hW (fun k hk hk2 => rows_differ h.no h.eo (by decide) hk2 hk)
 have m1 := map_only hm hW (fun e => row_map h.no hm e)
 refine ⟨⟨?_, row_only p1 o2 (fun k hk e => by have := (p1.lt k hk).1; omega), ⟨Dm, map_only m1 o2 (fun e => hbb e.symm), hp⟩, row_only e1 o2 (fun k hk e => by have := (e1.lt k hk).1; omega), row_only hv o2 (fun k hk e => by have := (hv.lt k hk).1; omega), h.ok, h.nd⟩, ?_⟩
 · have := heap_setCell_same W' b 5 _ 97 v b1
   simpa using this
 · exact (hW.mono (fun k _ e => .inr e)).andNew o2 (fun k _ e => .inl e)
theorem two_box (w : World) (A Z : Array Value) (t u : TypeId) : Below w.heap.size w ((w.alloc (.cells A t)).alloc (.cells Z u)) ∧ ((w.alloc (.cells A t)).alloc (.cells Z u)).heap[w.heap.size]? = some (.cells A t (0, 0)) ∧ ((w.alloc (.cells A t)).alloc (.cells Z u)).heap[w.heap.size + 1]? = some (.cells Z u (0, 0)) ∧ ((w.alloc (.cells A t)).alloc (.cells Z u)).heap.size = w.heap.size + 2 := by
 refine ⟨((Below.refl _ _).alloc (Nat.le_refl _) _).alloc (by simp) _, (Below.heap_alloc _ _ _ (by simp)).trans (World.alloc_heap_new _ _), ?_, by simp⟩
 have := World.alloc_heap_new (w.alloc (.cells A t)) (.cells Z u)
 simpa using this
theorem prV_inj {a b : PrT} (h : prV a = prV b) : a = b := by
 obtain ⟨p, r⟩ := a
 obtain ⟨p', r'⟩ := b
 simp only [prV, Value.agg.injEq, Array.mk.injEq, List.cons.injEq, Value.int.injEq, true_and, and_true] at h
 exact Prod.ext h.1 h.2
theorem infoP3 : (Tryz.prog.info? 3).map (fun i => (i.zero, i.size, i.bytes)) = some (some (.int .i64 0), 1, 8) := by kernel_rfl
theorem one_new (w : World) (n : Int) : ∀ (j : Nat) (u : Value), ([Value.int .i64 n])[j]? = some u → (w.alloc (.cells #[Value.int .i64 n] 3)).cell? ((⟨w.heap.size, 0, none⟩ : Addr).add j) = some u := by
 intro j u hu
 rw [Addr.add_lit, Nat.zero_add]
 refine cell_of (World.alloc_heap_new _ _) ?_
 rw [← hu]
 rw [List.getElem?_toArray]
def noDeferB (ops : Array Oper) : Bool := ops.toList.all fun o => match o.op with | .defer _ => false | _ => true
theorem noDefer_at {ops : Array Oper} (h : noDeferB ops = true) (i : Nat) (o : Oper) (ho : ops[i]? = some o) : ∀ c, o.op ≠ .defer c := by
 intro c e
 unfold noDeferB at h
 rw [List.all_eq_true] at h
 have := h o (List.mem_of_getElem? (i := i) (by simpa using ho))
 rw [e] at this
 cases this
theorem nodup_le {α : Type} [BEq α] [LawfulBEq α] : ∀ {l m : List α}, l.Nodup → (∀ t ∈ l, t ∈ m) → l.length ≤ m.length
 | [], _, _, _ => Nat.zero_le _
 | x :: l, m, h, hs => by
  have hx := hs x (by simp)
  have h2 := List.nodup_cons.1 h
  have := nodup_le (l := l) (m := m.erase x) h2.2 (fun t ht => (List.mem_erase_of_ne (fun e : t = x => h2.1 (by rw [← e]; exact ht))).2 (hs t (by simp [ht])))
  rw [List.length_erase_of_mem hx] at this
  have : 0 < m.length := List.length_pos_of_mem hx
  simp
  omega
theorem results_130 (tmps : Array Value) (w : World) (g : Nat) (v : Value) (hp : tmps.getD 6 undef = .pointer (some ⟨g, 0, none⟩)) (hc : w.cell? ⟨g, 0, none⟩ = some v) : (results Tryz.f130 tmps).run Tryz.prog w = .ok v w := by
 have hp' : tmps[6]?.getD undef = .pointer (some ⟨g, 0, none⟩) := by simpa using hp
 have ha : (isAgg 29).run Tryz.prog w = .ok false w := Tryz.isAgg29 w
 simp [results, hp', asAddr, loadVar, ha, go_sem, hc]
theorem wp_onlyN {P : Program} {c : Code} {Q : Exit → Act → World → Prop} {a : Act} {w : World} (h : c.wp P (onlyN (Q .normal)) a w) : c.wp P Q a w := wp_mono h (fun e a w h => by
 cases e with
 | normal => exact h
 | _ => exact h.elim)
theorem onlyN_of {K : Act → World → Prop} {a : Act} {w : World} (h : K a w) : onlyN K .normal a w := h
theorem pr_at {W : World} {B g cap : Nat} {ps : List PrT} (h : W.ownsRow B 79 2 (.slice (some ⟨g, 0, none⟩) ps.length cap) ps.length (ps.flatMap prC)) (i : Nat) (hi : i < ps.length) : W.cell? ⟨g, i * 2, none⟩ = some (.int .i64 ps[i].1) ∧ W.cell? ⟨g, i * 2 + 1, none⟩ = some (.int .i64 ps[i].2) := by
 have hx : ∀ (l : List PrT) (i : Nat) (hi : i < l.length), (l.flatMap prC)[i * 2]? = some (.int .i64 l[i].1) ∧ (l.flatMap prC)[i * 2 + 1]? = some (.int .i64 l[i].2) := by
  intro l
  induction l with
  | nil => intro i hi; simp at hi
  | cons x l ih =>
   intro i hi
   cases i with
   | zero => exact ⟨rfl, rfl⟩
   | succ i =>
    have q := ih i (by simpa using hi)
    have e1 : (i + 1) * 2 = (i * 2) + 2 := by omega
    rw [List.flatMap_cons, e1]
    exact q
 have c1 := h.cells (g := g) rfl (i * 2) _ (hx ps i hi).1
 have c2 := h.cells (g := g) rfl (i * 2 + 1) _ (hx ps i hi).2
 rw [Addr.add_lit, Nat.zero_add] at c1 c2
 exact ⟨c1, c2⟩
def SfF (D b bm x : Nat) (k : Nat) : Prop := (k < D ∧ k ≠ b ∧ k ≠ bm) ∨ k = x ∨ k = x + 1
theorem only_putObj (W : World) (g : Nat) (o : Obj) : Only W (W.putObj g o) (fun k => k = g) := ⟨rfl, rfl, rfl, by simp [World.putObj], fun k _ hk => World.putObj_heap_other (fun e => hk e)⟩
structure FoK (w : World) (D b bm kv x : Nat) (f : Value) (bud : Int) (p q s : Nat) (fl : Bool) (ve : Value) (ps : List PrT) (es : List EdT) (T : List PrT) (k : Nat) (vp vn : Value) (ps' : List PrT) (ns : List Int) (W : World) : Prop where
 eq : metF bud fl ps T [] = metF bud fl ps' (T.drop k) ns
 ss : SS D W b bm f bud vp ve vn ps' es ns.length (ns.map (Value.int .i64))
 sb : W.heap[w.heap.size]? = some (.cells #[.pointer (some ⟨b, 0, none⟩)] 127 (0, 0))
 rb : W.heap[w.heap.size + 1]? = some (.cells #[.int .i64 0] 29 (0, 0))
 fx : W.heap[x]? = some (.cells #[.int .i64 (p : Int), .int .i64 (q : Int)] 79 (0, 0))
 sx : W.heap[x + 1]? = some (.cells #[.int .i64 (s : Int)] 3 (0, 0))
 on : Only w W (fun k => k = b ∨ k = bm ∨ (D ≤ k ∧ k ≠ kv))
 ap : ∀ k, vp.ownBlock = some k → (k < w.heap.size ∨ x + 4 ≤ k) ∧ k ≠ kv
 an : ∀ k, vn.ownBlock = some k → (k < w.heap.size ∨ x + 4 ≤ k) ∧ k ≠ kv
 ae : ∀ k, ve.ownBlock = some k → k < w.heap.size ∧ k ≠ kv
 inn : ∀ t ∈ T.take k, t ∈ ps'
 le : ns.length ≤ k
 pl : ps'.length ≤ 4096
 kl : kv < w.heap.size
section
variable {w : World} {D b bm kv x : Nat} {f : Value} {bud : Int} {p q s : Nat} {fl : Bool} {ve : Value} {ps : List PrT} {es : List EdT} {T : List PrT} {k : Nat} {vp vn : Value} {ps' : List PrT} {ns : List Int} {W W' : World} {R : Nat → Prop}
theorem FoK.onlyR (h : FoK w D b bm kv x f bud p q s fl ve ps es T k vp vn ps' ns W) (hx : w.heap.size + 2 ≤ x) (hD : b < D ∧ bm < D ∧ D ≤ w.heap.size) (o : Only W W' R) (hR : ∀ k, R k → x + 2 ≤ k ∧ k < x + 4) : FoK w D b bm kv x f bud p q s fl ve ps es T k vp vn ps' ns W' := by
 have no : ∀ y, y < x + 2 → ¬ R y := fun y hy e => by have := hR y e; omega
 refine ⟨h.eq, h.ss.onlyR o (no _ (by omega)) (no _ (by omega)) (fun k hk e => ?_) (fun k hk e => ?_) (fun k hk e => ?_), o.cellK h.sb (no _ (by omega)), o.cellK h.rb (no _ (by omega)), o.cellK h.fx (no _ (by omega)), o.cellK h.sx (no _ (by omega)), h.on.trans (o.mono (fun k _ e => .inr (.inr (by have := hR k e; have := h.kl; omega)))), h.ap, h.an, h.ae, h.inn, h.le, h.pl, h.kl⟩
 · have := hR k e; have := h.ap k hk; omega
 · have := hR k e; have := h.ae k hk; omega
 · have := hR k e; have := h.an k hk; omega
theorem FoK.below (h : FoK w D b bm kv x f bud p q s fl ve ps es T k vp vn ps' ns W) (hx : w.heap.size + 2 ≤ x) (hD : b < D ∧ bm < D ∧ D ≤ w.heap.size) (d : Below W.heap.size W W') : FoK w D b bm kv x f bud p q s fl ve ps es T k vp vn ps' ns W' := h.onlyR hx hD (Only.ofBelow (R := fun _ => False) d) (fun _ e => e.elim)
theorem FoK.step {vp2 vn2 : Value} {ps2 : List PrT} {ns2 : List Int} (h : FoK w D b bm kv x f bud p q s fl ve ps es T k vp vn ps' ns W) (hx : w.heap.size + 2 ≤ x) (hD : b < D ∧ bm < D ∧ D ≤ w.heap.size) (hL : x + 4 ≤ W.heap.size) (hk : k < T.length)
 (s2 : SS D W' b bm f bud vp2 ve vn2 ps2 es ns2.length (ns2.map (Value.int .i64))) (o : Only W W' (fun k => k = b ∨ k = bm ∨ vp.ownBlock = some k ∨ vn.ownBlock = some k)) (a1 : ∀ k, vp2.ownBlock = some k → vp.ownBlock = some k ∨ W.heap.size ≤ k) (a2 : ∀ k, vn2.ownBlock = some k → vn.ownBlock = some k ∨ W.heap.size ≤ k)
 (e2 : metF bud fl ps' (T.drop k) ns = metF bud fl ps2 (T.drop (k + 1)) ns2) (hs : ∀ t ∈ ps', t ∈ ps2) (ht : T[k] ∈ ps2) (hl : ns2.length ≤ ns.length + 1) (h4 : ps2.length ≤ 4096) :
 FoK w D b bm kv x f bud p q s fl ve ps es T (k + 1) vp2 vn2 ps2 ns2 W' ∧ KpT (SfF D b bm x) W W' ∧ W'.heap[x + 2]? = W.heap[x + 2]? ∧ W'.heap[x + 2 + 1]? = W.heap[x + 2 + 1]? := by
 have no : ∀ y, w.heap.size ≤ y → y < x + 4 → ¬ (y = b ∨ y = bm ∨ vp.ownBlock = some y ∨ vn.ownBlock = some y) := by
  rintro y h1 h2 (e | e | e | e)
  · omega
  · omega
  · have := h.ap y e; omega
  · have := h.an y e; omega
 refine ⟨⟨h.eq.trans e2, s2, o.cellK h.sb (no _ (by omega) (by omega)), o.cellK h.rb (no _ (by omega) (by omega)), o.cellK h.fx (no _ (by omega) (by omega)), o.cellK h.sx (no _ (by omega) (by omega)), h.on.trans (o.mono ?_), fun k hk => ?_, fun k hk => ?_, h.ae, ?_, by have := h.le; omega, h4, h.kl⟩, KpT.ofOnly o ?_, o.block _ (by omega) (no _ (by omega) (by omega)), o.block _ (by omega) (no _ (by omega) (by omega))⟩
 · rintro k _ (e | e | e | e)
   · exact .inl e
   · exact .inr (.inl e)
   · exact .inr (.inr ⟨(h.ss.po.lt k e).1, (h.ap k e).2⟩)
   · exact .inr (.inr ⟨(h.ss.no.lt k e).1, (h.an k e).2⟩)
 · rcases a1 k hk with e | e
   · exact h.ap k e
   · have := h.kl; have := h.on.size; omega
 · rcases a2 k hk with e | e
   · exact h.an k e
   · have := h.kl; have := h.on.size; omega
 · intro t h1
   rw [List.take_succ_eq_append_getElem hk] at h1
   rcases List.mem_append.1 h1 with h1 | h1
   · exact hs t (h.inn t h1)
   · rw [List.mem_singleton.1 h1]; exact ht
 · rintro y (⟨h1, h2, h3⟩ | rfl | rfl) hr
   · rcases hr with e | e | e | e
     · exact h2 e
     · exact h3 e
     · have := (h.ss.po.lt y e).1; omega
     · have := (h.ss.no.lt y e).1; omega
   · exact no _ (by omega) (by omega) hr
   · exact no _ (by omega) (by omega) hr
end
structure MtA (D b bm : Nat) (f : Value) (bud : Int) (fl : Bool) (vp ve vn : Value) (ps : List PrT) (es : List EdT) (ns : List Int) (nn : Nat) (xn : List Value) (t : PrT) (num : Int) (vp2 : Value) (ps2 : List PrT) (W W' : World) : Prop where
 ss : SS D W' b bm f bud vp2 ve vn ps2 es nn xn
 on : Only W W' (fun k => k = b ∨ k = bm ∨ vp.ownBlock = some k)
 ap : ∀ k, vp2.ownBlock = some k → vp.ownBlock = some k ∨ W.heap.size ≤ k
 eq : ∀ ts, metF bud fl ps (t :: ts) ns = metF bud fl ps2 ts (if fl then ns else ns ++ [num])
 sub : ∀ y ∈ ps, y ∈ ps2
 mem : t ∈ ps2
 pl : ps2.length ≤ 4096
theorem meet_u (w : World) (D b bm : Nat) (f : Value) (bud : Int) (fl : Bool) (vp ve vn : Value) (ps : List PrT) (es : List EdT) (ns : List Int) (nn : Nat) (xn : List Value) (t : PrT) (h : Hid (SS D w b bm f bud vp ve vn ps es nn xn)) (hok : Hid (okPr t)) (hbD : Hid (b < D ∧ D ≤ w.heap.size)) (hl : ps.length ≤ 4096) :
 Calls Tryz.prog 129 #[.pointer (some ⟨b, 0, none⟩), .agg #[.int .i64 t.1, .int .i64 t.2]] w fun e w' => (∃ num vp2 ps2, e = .returned (.tuple #[.int .i64 num, .int .i64 0]) ∧ Hid (MtA D b bm f bud fl vp ve vn ps es ns nn xn t num vp2 ps2 w w')) ∨ ∃ er, e = .returned (.tuple #[.int .i64 0, .int .i64 er]) ∧ (er = 8 ∨ er = 9) ∧ Hid ((∀ ts, metF bud fl ps (t :: ts) ns = (er, ps, ns)) ∧ Below w.heap.size w w') := by
 by_cases hm : t ∈ ps
 · have hi := List.idxOf_lt_length_of_mem hm
   refine (smeet_old (ps.idxOf t) w D b bm f bud vp ve vn ps es nn xn t h hi (hide (List.getElem_idxOf hi).symm)).mono ?_
   rintro e w' ⟨rfl, d⟩
   exact .inl ⟨_, vp, ps, rfl, hide ⟨h.out.on d, Only.ofBelow d, fun k hk => .inl hk, fun ts => by rw [metF, if_pos hm], fun y hy => hy, hm, hl⟩⟩
 · by_cases h1 : bud ≤ (ps.length : Int)
   · refine (smeet_full w D b bm f bud vp ve vn ps es nn xn t h (hide hm) hok 9 (.inl ⟨h1, rfl⟩)).mono ?_
     rintro e w' ⟨rfl, d⟩
     exact .inr ⟨9, rfl, .inr rfl, hide ⟨fun ts => by rw [metF, if_neg hm, if_pos h1], d⟩⟩
   · by_cases h2 : 4096 ≤ ps.length
     · refine (smeet_full w D b bm f bud vp ve vn ps es nn xn t h (hide hm) hok 8 (.inr ⟨h1, h2, rfl⟩)).mono ?_
       rintro e w' ⟨rfl, d⟩
       exact .inr ⟨8, rfl, .inl rfl, hide ⟨fun ts => by rw [metF, if_neg hm, if_neg h1, if_pos h2], d⟩⟩
     · refine (smeet_new w D b bm f bud vp ve vn ps es nn xn t h (hide hm) hok hbD (by omega) (by omega)).mono ?_
       rintro e w' ⟨rfl, vp2, s2, o2, a2⟩
       exact .inl ⟨_, vp2, ps ++ [t], rfl, hide ⟨s2, o2, a2, fun ts => by rw [metF, if_neg hm, if_neg h1, if_neg h2], fun y hy => by simp [hy], by simp, by simp; omega⟩⟩
structure FoX (w : World) (D b bm kv x : Nat) (f : Value) (bud : Int) (fl : Bool) (ve : Value) (ps : List PrT) (es : List EdT) (T : List PrT) (er : Int) (vp vn : Value) (ps' : List PrT) (ns : List Int) (W : World) : Prop where
 eq : metF bud fl ps T [] = (er, ps', ns)
 ee : er = 8 ∨ er = 9
 ss : SS D W b bm f bud vp ve vn ps' es ns.length (ns.map (Value.int .i64))
 rb : W.heap[w.heap.size + 1]? = some (.cells #[.int .i64 er] 29 (0, 0))
 on : Only w W (fun k => k = b ∨ k = bm ∨ (D ≤ k ∧ k ≠ kv))
 ap : ∀ k, vp.ownBlock = some k → (k < w.heap.size ∨ x + 4 ≤ k) ∧ k ≠ kv
 an : ∀ k, vn.ownBlock = some k → (k < w.heap.size ∨ x + 4 ≤ k) ∧ k ≠ kv
 ae : ∀ k, ve.ownBlock = some k → k < w.heap.size ∧ k ≠ kv
 pl : ps'.length ≤ 4096
 kl : kv < w.heap.size
theorem FoX.onlyR {w : World} {D b bm kv x : Nat} {f : Value} {bud : Int} {fl : Bool} {ve : Value} {ps : List PrT} {es : List EdT} {T : List PrT} {er : Int} {vp vn : Value} {ps' : List PrT} {ns : List Int} {W W' : World} {R : Nat → Prop} (h : FoX w D b bm kv x f bud fl ve ps es T er vp vn ps' ns W) (hx : w.heap.size + 2 ≤ x) (hD : b < D ∧ bm < D ∧ D ≤ w.heap.size) (o : Only W W' R) (hR : ∀ k, R k → x + 2 ≤ k ∧ k < x + 4) : FoX w D b bm kv x f bud fl ve ps es T er vp vn ps' ns W' := by
 have no : ∀ y, y < x + 2 → ¬ R y := fun y hy e => by have := hR y e; omega
 refine ⟨h.eq, h.ee, h.ss.onlyR o (no _ (by omega)) (no _ (by omega)) (fun k hk e => ?_) (fun k hk e => ?_) (fun k hk e => ?_), o.cellK h.rb (no _ (by omega)), h.on.trans (o.mono (fun k _ e => .inr (.inr (by have := hR k e; have := h.kl; omega)))), h.ap, h.an, h.ae, h.pl, h.kl⟩
 · have := hR k e; have := h.ap k hk; omega
 · have := hR k e; have := h.ae k hk; omega
 · have := hR k e; have := h.an k hk; omega
theorem ss_but {D : Nat} {W W' : World} {b bm : Nat} {f : Value} {bud : Int} {vp ve vn : Value} {ps : List PrT} {es : List EdT} {nn : Nat} {xn : List Value} {y : Nat} {ds : Option (List Deferred)} (h : SS D W b bm f bud vp ve vn ps es nn xn) (o : Only W W' (fun k => k = y)) (hq : W.heap[y]? = some (.deferred ds)) : SS D W' b bm f bud vp ve vn ps es nn xn := by
 have hr : ∀ {B sz n : Nat} {e : TypeId} {v : Value} {xs : List Value}, W.ownsRow B e sz v n xs → ∀ k, v.ownBlock = some k → ¬ k = y := by
  intro B sz n e v xs hv k hk e2
  rcases hv.2 with ⟨e3, _⟩ | ⟨g, cap, cur, e3, _, hg, _⟩
  · rw [e3] at hk; cases hk
  · rw [e3] at hk
    obtain rfl : g = k := by simpa [Value.ownBlock] using hk
    rw [e2, hq] at hg; cases hg
 refine h.onlyR o (fun e => ?_) (fun e => ?_) (hr h.po) (hr h.eo) (hr h.no)
 · have := h.bx; rw [e, hq] at this; cases this
 · obtain ⟨_, ⟨es', ck, q1, _⟩, _⟩ := h.mo
   rw [e, hq] at q1; cases q1
theorem SS.edges {D : Nat} {W : World} {b bm : Nat} {f : Value} {bud : Int} {vp ve vn : Value} {ps : List PrT} {es : List EdT} {nn : Nat} {xn : List Value} (h : SS D W b bm f bud vp ve vn ps es nn xn) (hbD : b < D) {W' : World} {v : Value} {e2 : List EdT} {x2 : List Value} (hW : Only W W' (fun k => ve.ownBlock = some k ∨ vn.ownBlock = some k)) (hv : W'.ownsRow D 61 3 v e2.length (e2.flatMap encE)) (hn : W'.ownsRow D 3 1 vn nn x2) :
 SS D (W'.setCell ⟨b, 4, none⟩ v) b bm f bud vp v vn ps e2 nn x2 ∧ Only W (W'.setCell ⟨b, 4, none⟩ v) (fun k => k = b ∨ ve.ownBlock = some k ∨ vn.ownBlock = some k) := by
 obtain ⟨Dm, hm, hp⟩ := h.mo
 have hbb : b ≠ bm := by
  rintro rfl
  obtain ⟨es, ck, q1, _⟩ := hm
  rw [h.bx] at q1; cases q1
 have hnb : ¬ (ve.ownBlock = some b ∨ vn.ownBlock = some b) := by
  rintro (e | e)
  · have := (h.eo.lt b e).1; omega
  · have := (h.no.lt b e).1; omega
 have b1 := hW.cellK h.bx hnb
 have o2 := only_set W' b 4 v
 have p1 := row_only h.po hW (fun k hk hk2 => by
  rcases hk2 with hk2 | hk2
  · exact rows_differ h.eo h.po (by decide) hk2 hk
  · exact rows_differ h.no h.po (by decide) hk2 hk)
 have m1 := map_only hm hW (fun e => by
  rcases e with e | e
  · exact row_map h.eo hm e
  · exact row_map h.no hm e)
 refine ⟨⟨?_, row_only p1 o2 (fun k hk e => by have := (p1.lt k hk).1; omega), ⟨Dm, map_only m1 o2 (fun e => hbb e.symm), hp⟩, row_only hv o2 (fun k hk e => by have := (hv.lt k hk).1; omega), row_only hn o2 (fun k hk e => by have := (hn.lt k hk).1; omega), h.ok, h.nd⟩, ?_⟩
 · have := heap_setCell_same W' b 4 _ 97 v b1
   simpa using this
 · exact (hW.mono (fun k _ e => .inr e)).andNew o2 (fun k _ e => .inl e)
theorem fo_end {w : World} {D b bm kv x : Nat} {f : Value} {bud : Int} {p q s : Nat} {fl : Bool} {ve : Value} {ps : List PrT} {es : List EdT} {T : List PrT} {k : Nat} {vp vn : Value} {ps' : List PrT} {ns : List Int} {W W8 : World} {v8 : Value} {e8 : List EdT} {x8 : List Value} {D' : Nat} (h : FoK w D b bm kv x f bud p q s fl ve ps es T k vp vn ps' ns W) (hx : w.heap.size + 2 ≤ x) (hD : b < D ∧ bm < D ∧ D ≤ w.heap.size) (s8 : SS D W8 b bm f bud vp v8 vn ps' e8 ns.length x8) (o : Only W W8 (fun k => k = b ∨ ve.ownBlock = some k ∨ vn.ownBlock = some k)) (hq : W.heap[D']? = some (.deferred (some []))) (a8 : ∀ k, v8.ownBlock = some k → ve.ownBlock = some k ∨ W.heap.size ≤ k) :
 SS D W8 b bm f bud vp v8 vn ps' e8 ns.length x8 ∧ W8.heap[w.heap.size + 1]? = some (.cells #[.int .i64 0] 29 (0, 0)) ∧ Only w W8 (fun k => k = b ∨ k = bm ∨ (D ≤ k ∧ k ≠ kv)) ∧ W8.heap[D']? = some (.deferred (some [])) ∧ ∀ k, v8.ownBlock = some k → k ≠ kv := by
 refine ⟨s8, o.cellK h.rb ?_, h.on.trans (o.mono ?_), o.cellK hq ?_, fun k hk => ?_⟩
 · rintro (e | e | e)
   · omega
   · have := h.ae _ e; omega
   · have := h.an _ e; omega
 · rintro k _ (e | e | e)
   · exact .inl e
   · exact .inr (.inr ⟨(h.ss.eo.lt k e).1, (h.ae k e).2⟩)
   · exact .inr (.inr ⟨(h.ss.no.lt k e).1, (h.an k e).2⟩)
 · have hr : ∀ {B sz n : Nat} {e : TypeId} {v : Value} {xs : List Value}, W.ownsRow B e sz v n xs → ¬ v.ownBlock = some D' := by
    intro B sz n e v xs hv hk
    rcases hv.2 with ⟨e3, _⟩ | ⟨g, cap, cur, e3, _, hg, _⟩
    · rw [e3] at hk; cases hk
    · rw [e3] at hk
      obtain rfl : g = D' := by simpa [Value.ownBlock] using hk
      rw [hq] at hg; cases hg
   rintro (e | e | e)
   · have := h.ss.bx; rw [← e, hq] at this; cases this
   · exact hr h.ss.eo e
   · exact hr h.ss.no e
 · rcases a8 k hk with e | e
   · exact (h.ae k e).2
   · have := h.kl; have := h.on.size; omega
theorem RwT.weak {Sf Sg : Nat → Prop} {W : World} {bx B m R : Nat} {Ed : List EdT} {aE : Option Addr} {cE g : Nat} (h : RwT Sf W bx B m R Ed aE cE g) (k : ∀ i, Sf i → Sg i) : RwT Sg W bx B m R Ed aE cE g := ⟨h.hb, h.rw, k _ h.sx, k _ h.sg, fun i o e => k _ (h.se i o e)⟩
structure FoR (w : World) (D b bm kv : Nat) (f : Value) (bud : Int) (ps : List PrT) (es : List EdT) (T : List PrT) (i s : Nat) (er : Int) (vp ve vn : Value) (ps' : List PrT) (ns : List Int) (nn : Nat) (xn : List Value) (W : World) : Prop where
 eq : metF bud (decide (65536 < es.length)) ps T [] = (er, ps', ns)
 ss : SS D W b bm f bud vp ve vn ps' (if er = 0 then ledL es (i : Int) (s : Int) (riseL ns) else es) nn xn
 on : Only w W (fun k => k = b ∨ k = bm ∨ (D ≤ k ∧ k ≠ kv))
 pl : ps'.length ≤ 4096
 nl : er = 0 → ns.length ≤ 4096
 nv : (∀ k, vp.ownBlock = some k → k ≠ kv) ∧ (∀ k, ve.ownBlock = some k → k ≠ kv) ∧ ∀ k, vn.ownBlock = some k → k ≠ kv
theorem follow_any (w : World) (D b bm kv b1 b2 B1 B2 m R1 R2 : Nat) (E1 E2 : List EdT) (a1 a2 : Option Addr) (c1 c2 g1 g2 i p q s : Nat) (bud : Int) (vp ve vn : Value) (ps : List PrT) (es : List EdT) (nn : Nat) (xn : List Value)
 (h : Hid (SS D w b bm (.func (.func 94) #[] #[.pointer (some ⟨b1, 0, none⟩), .pointer (some ⟨b2, 0, none⟩)]) bud vp ve vn ps es nn xn)) (hD : Hid (b < D ∧ bm < D ∧ D ≤ w.heap.size)) (hi : i < ps.length) (hpq : Hid (ps[i] = ((p : Int), (q : Int)))) (hps : ps.length ≤ 4096) (hkv : Hid (kv < w.heap.size ∧ (∀ k, vp.ownBlock = some k → k ≠ kv) ∧ (∀ k, ve.ownBlock = some k → k ≠ kv) ∧ ∀ k, vn.ownBlock = some k → k ≠ kv))
 (hR1 : Hid (RwT (fun k => k < D ∧ k ≠ b ∧ k ≠ bm) w b1 B1 m R1 E1 a1 c1 g1)) (hR2 : Hid (RwT (fun k => k < D ∧ k ≠ b ∧ k ≠ bm) w b2 B2 m R2 E2 a2 c2 g2)) (q1 : Hid (RwQ m R1 p s E1)) (q2 : Hid (RwQ m R2 q s E2)) (hT : Hid (∀ t ∈ (prsL (toL (fromL E1 p (s : Int))) (toL (fromL E2 q (s : Int)))), okPr t)) (hN : Hid ((prsL (toL (fromL E1 p (s : Int))) (toL (fromL E2 q (s : Int))))).Nodup) (he : es.length ≤ 4000000) :
 Calls Tryz.prog 130 #[.pointer (some ⟨b, 0, none⟩), .int .i64 (i : Int), .int .i64 (s : Int)] w fun e w' => ∃ er vp' ve' vn' ps' ns nn' xn', e = .returned (.int .i64 er) ∧ Hid (FoR w D b bm kv (.func (.func 94) #[] #[.pointer (some ⟨b1, 0, none⟩), .pointer (some ⟨b2, 0, none⟩)]) bud ps es (prsL (toL (fromL E1 p (s : Int))) (toL (fromL E2 q (s : Int)))) i s er vp' ve' vn' ps' ns nn' xn' w') := by
 obtain ⟨W0, hW0⟩ : ∃ W0, (w.alloc (.cells #[.pointer (some ⟨b, 0, none⟩)] 127)).alloc (.cells #[.int .i64 0] 29) = W0 := ⟨_, rfl⟩
 have HD : Hid (Below w.heap.size w W0 ∧ W0.heap[w.heap.size]? = some (.cells #[.pointer (some ⟨b, 0, none⟩)] 127 (0, 0)) ∧ W0.heap[w.heap.size + 1]? = some (.cells #[.int .i64 0] 29 (0, 0)) ∧ W0.heap.size = w.heap.size + 2) := hide (by
  rw [← hW0]
  refine ⟨((Below.refl _ _).alloc (Nat.le_refl _) _).alloc (by simp) _, (Below.heap_alloc _ _ _ (by simp)).trans (World.alloc_heap_new _ _), ?_, by simp⟩
  have := World.alloc_heap_new (w.alloc (.cells #[.pointer (some ⟨b, 0, none⟩)] 127)) (.cells #[.int .i64 0] 29)
  simpa using this)
 have HS0 := hide (h.out.on HD.out.1)
 have k0 : W0.cell? ⟨w.heap.size, 0, none⟩ = some (.pointer (some ⟨b, 0, none⟩)) := cell_of HD.out.2.1 rfl
 have f5 : W0.frozen? ⟨b, 5, none⟩ = false := fz_of HS0.out.bx
 refine (callsIn_wide (n := 9)).1 (callsIn_of_wp_marks Tryz.func130 rfl trivial ?_ rfl)
 simp only [Tryz.ntmps130, List.size_toArray, List.length_cons, List.length_nil, Nat.reduceAdd, Nat.reduceSub, Array.replicate_succ, Array.replicate_zero, List.push_toArray, List.append_toArray, List.nil_append, List.cons_append]
 refine wpIn_wide.2 ?_
 go_upto_region 1 with fail
 go_cut [3] from 10 to 17 (fun v3 W => v3 = .pointer (some ⟨w.heap.size, 0, none⟩) ∧ ∃ v, Hid (SS D W b bm (.func (.func 94) #[] #[.pointer (some ⟨b1, 0, none⟩), .pointer (some ⟨b2, 0, none⟩)]) bud vp ve v ps es 0 [] ∧ Only W0 W (fun k => k = b) ∧ v.ownBlock = vn.ownBlock))
 case first =>
  have HR : Hid (∀ v, W0.ownsRow D 3 1 v 0 [] → v.ownBlock = vn.ownBlock → SS D ((W0.setCell ⟨b, 5, none⟩ v).drew) b bm (.func (.func 94) #[] #[.pointer (some ⟨b1, 0, none⟩), .pointer (some ⟨b2, 0, none⟩)]) bud vp ve v ps es 0 [] ∧ Only W0 ((W0.setCell ⟨b, 5, none⟩ v).drew) (fun k => k = b)) := hide (fun v hv _ => by
   have q := HS0.out.ends hD.out.1 (W' := W0) (v := v) (n2 := 0) (x2 := []) ⟨rfl, rfl, rfl, Nat.le_refl _, fun _ _ _ => rfl⟩ hv
   have o2 := only_set W0 b 5 v
   exact ⟨q.1.on ⟨rfl, rfl, rfl, Nat.le_refl _, fun _ _ => rfl⟩, ⟨o2.os, o2.tape, o2.output, o2.size, o2.block⟩⟩)
  rcases HS0.out.no.2 with ⟨ev, e0⟩ | ⟨gn, cn, cur, ev, r1, r2, r3, r4, r5, r6⟩
  · have k5 : W0.cell? ⟨b, 5, none⟩ = some (.slice none 0 0) := by rw [← ev]; exact cell_of HS0.out.bx rfl
    have HE := hide ev
    clear ev
    go_region
    all_goals
     go_wp2_with fail
     go_meet
     refine ⟨rfl, _, hide ⟨(HR.out _ (World.ownsRow_nil _ _ _ _) (by rw [HE.out])).1, (HR.out _ (World.ownsRow_nil _ _ _ _) (by rw [HE.out])).2, by rw [HE.out]⟩⟩
  · have k5 : W0.cell? ⟨b, 5, none⟩ = some (.slice (some ⟨gn, 0, none⟩) nn cn) := by rw [← ev]; exact cell_of HS0.out.bx rfl
    have HE := hide ev
    have HO : Hid (W0.ownsRow D 3 1 (.slice (some ⟨gn, 0, none⟩) 0 cn) 0 []) := hide ⟨rfl, .inr ⟨gn, cn, cur, rfl, r1, r2, Nat.zero_le _, r4, r5, by simp⟩⟩
    clear ev r1 r2 r3 r4 r5 r6
    go_region
    all_goals
     go_wp2_with fail
     go_meet
     refine ⟨rfl, _, hide ⟨(HR.out _ HO.out (by rw [HE.out]; rfl)).1, (HR.out _ HO.out (by rw [HE.out]; rfl)).2, by rw [HE.out]; rfl⟩⟩
 case rest =>
  obtain ⟨rfl, vn1, H1⟩ := hcut
  rename World => w1
  clear k0 f5 hW0
  have HB1 : Hid (w1.heap[w.heap.size]? = some (.cells #[.pointer (some ⟨b, 0, none⟩)] 127 (0, 0)) ∧ w1.heap[w.heap.size + 1]? = some (.cells #[.int .i64 0] 29 (0, 0)) ∧ w.heap.size + 2 ≤ w1.heap.size ∧ Only w w1 (fun k => k = b ∨ k = bm ∨ (D ≤ k ∧ k ≠ kv))) := hide (by
   have l := hD.out
   have o := H1.out.2.1
   refine ⟨o.cellK HD.out.2.1 (by omega), o.cellK HD.out.2.2.1 (by omega), by have := o.size; have := HD.out.2.2.2; omega, (Only.ofBelow HD.out.1).andNew o (fun k _ e => .inl e)⟩)
  obtain ⟨gp, cp, hvp⟩ : ∃ gp cp, vp = .slice (some ⟨gp, 0, none⟩) ps.length cp := by
   rcases h.out.po.2 with ⟨_, e0⟩ | ⟨g, cap, cur, e, _⟩
   · omega
   · exact ⟨g, cap, e⟩
  have HVP := hide hvp
  have k0 : w1.cell? ⟨w.heap.size, 0, none⟩ = some (.pointer (some ⟨b, 0, none⟩)) := cell_of HB1.out.1 rfl
  have k1 : w1.cell? ⟨b, 0, none⟩ = some (.func (.func 94) #[] #[.pointer (some ⟨b1, 0, none⟩), .pointer (some ⟨b2, 0, none⟩)]) := cell_of H1.out.1.bx rfl
  have k2 : w1.cell? ⟨b, 3, none⟩ = some (.slice (some ⟨gp, 0, none⟩) ps.length cp) := by rw [← hvp]; exact cell_of H1.out.1.bx rfl
  have HP := H1.out.1.po
  rw [hvp] at HP
  have k3 : w1.cell? ⟨gp, i * 2, none⟩ = some (.int .i64 (p : Int)) := by
   have := pr_at HP i hi
   rw [hpq.out] at this
   exact this.1
  have k4 : w1.cell? ⟨gp, i * 2 + 1, none⟩ = some (.int .i64 (q : Int)) := by
   have := pr_at HP i hi
   rw [hpq.out] at this
   exact this.2
  have i0 : (0 : Int) ≤ (i : Int) := by omega
  have i1 : (i : Int) < (ps.length : Int) := by omega
  clear HP hvp
  go_upto_region 2 with fail
  go_cut [30] from 18 to 30 (fun v30 W => v30 = .func (.func 95) #[] #[.pointer (some ⟨b1, 0, none⟩), .pointer (some ⟨w1.heap.size, 0, none⟩), .pointer (some ⟨w1.heap.size + 1, 0, none⟩), .pointer (some ⟨b2, 0, none⟩)] ∧ Hid (Below w1.heap.size w1 W ∧ W.heap[w1.heap.size]? = some (.cells #[.int .i64 (p : Int), .int .i64 (q : Int)] 79 (0, 0)) ∧ W.heap[w1.heap.size + 1]? = some (.cells #[.int .i64 (s : Int)] 3 (0, 0)) ∧ W.heap.size = w1.heap.size + 2))
  case first =>
   have HZ := hide (two_box w1 #[.int .i64 (p : Int), .int .i64 (q : Int)] #[.int .i64 (s : Int)] 79 3)
   go_region_held3 (fun W2 => W2.cell? ⟨w.heap.size, 0, none⟩ = some (.pointer (some ⟨b, 0, none⟩)) ∧ W2.cell? ⟨b, 0, none⟩ = some (.func (.func 94) #[] #[.pointer (some ⟨b1, 0, none⟩), .pointer (some ⟨b2, 0, none⟩)]) ∧ W2.cell? ⟨b, 3, none⟩ = some (.slice (some ⟨gp, 0, none⟩) ps.length cp) ∧ W2.cell? ⟨gp, i * 2, none⟩ = some (.int .i64 (p : Int)) ∧ W2.cell? ⟨gp, i * 2 + 1, none⟩ = some (.int .i64 (q : Int)))
    (first | go_keep | assumption)
    (first | (go_at_call 94; refine (tog1_any (p : Int) (q : Int) (s : Int) b1 b2 _).mono ?_; rintro e w2 ⟨rfl, hw2⟩; subst hw2))
   all_goals
    go_wp2_with fail
    go_meet
    exact ⟨rfl, hide ⟨HZ.out.1.drew, HZ.out.2.1, HZ.out.2.2.1, HZ.out.2.2.2⟩⟩
  case rest =>
   obtain ⟨rfl, H2⟩ := hcut
   rename World => w2
   obtain ⟨T, hTe⟩ : ∃ T, (prsL (toL (fromL E1 p (s : Int))) (toL (fromL E2 q (s : Int)))) = T := ⟨_, rfl⟩
   rw [hTe] at hT hN
   obtain ⟨x, hxe⟩ : ∃ x, w1.heap.size = x := ⟨_, rfl⟩
   have hx : w.heap.size + 2 ≤ x := by have := HB1.out.2.2.1; omega
   have HX1 := hide (show w.heap.size + 2 ≤ w1.heap.size from HB1.out.2.2.1)
   rw [hxe] at H2
   have z2 : w2.heap.size = x + 2 := H2.out.2.2.2
   have HSQ : Hid (SeqL 8 95 #[.pointer (some ⟨b1, 0, none⟩), .pointer (some ⟨x, 0, none⟩), .pointer (some ⟨x + 1, 0, none⟩), .pointer (some ⟨b2, 0, none⟩)] (T.map prV) (KpT (SfF D b bm x)) w2) := hide (by
    have kk : KpT (fun k => k < D ∧ k ≠ b ∧ k ≠ bm) w w2 := (KpT.ofOnly HB1.out.2.2.2 (fun k h1 h2 => by omega)).trans (KpT.ofBelow (by rw [hxe]; exact H2.out.1))
    have := tog_seq 8 (SfF D b bm x) w2 b1 b2 x (x + 1) B1 B2 m R1 R2 E1 E2 a1 a2 c1 c2 g1 g2 p q s (hide ⟨(hR1.out.kp kk).weak (fun k hk => .inl hk), (hR2.out.kp kk).weak (fun k hk => .inl hk), H2.out.2.1, H2.out.2.2.1, .inr (.inl rfl), .inr (.inr rfl)⟩) q1 q2
    rw [hTe] at this
    exact this)
   have HI0 : Hid (FoK w D b bm kv x (.func (.func 94) #[] #[.pointer (some ⟨b1, 0, none⟩), .pointer (some ⟨b2, 0, none⟩)]) bud p q s (decide (65536 < es.length)) ve ps es T 0 vp vn1 ps [] w2) := hide (by
    have d : Below w1.heap.size w1 w2 := by rw [hxe]; exact H2.out.1
    refine ⟨rfl, H1.out.1.on d, blk_on HB1.out.1 d, blk_on HB1.out.2.1 d, H2.out.2.1, H2.out.2.2.1, HB1.out.2.2.2.trans (Only.ofBelow d), fun k hk => ⟨.inl (h.out.po.lt k hk).2, hkv.out.2.1 k hk⟩, fun k hk => ⟨.inl (h.out.no.lt k (by rw [← H1.out.2.2]; exact hk)).2, hkv.out.2.2.2 k (by rw [← H1.out.2.2]; exact hk)⟩, fun k hk => ⟨(h.out.eo.lt k hk).2, hkv.out.2.2.1 k hk⟩, by simp, Nat.le_refl _, hps, hkv.out.1⟩)
   have hDo := hD.out
   have HNL : Hid (∀ k ps' ns', ∀ {vp' vn' : Value} {W : World}, k ≤ T.length → FoK w D b bm kv x (.func (.func 94) #[] #[.pointer (some ⟨b1, 0, none⟩), .pointer (some ⟨b2, 0, none⟩)]) bud p q s (decide (65536 < es.length)) ve ps es T k vp' vn' ps' ns' W → ns'.length ≤ 4096) := hide (fun k ps' ns' vp' vn' W hk H => by
    have h1 : (T.take k).length ≤ ps'.length := nodup_le (hN.out.sublist (List.take_sublist _ _)) H.inn
    have h2 := H.pl
    have h3 := H.le
    rw [List.length_take] at h1
    omega)
   rw [hxe]
   have HTE := hide hTe
   clear k0 k1 k2 k3 k4 H2 H1 HB1 HD HS0 HX1 hxe hTe
   have HZ2 := hide z2
   clear z2
   go_wp2_with fail
   have z2 := HZ2.out
   refine (wpIn_wide (n := 9)).1 ?_
   refine range_leaves (n := 9) (by omega) rfl (enters_of Tryz.func95 (by kernel_rfl) rfl) HSQ.out KpT.trans (fun A B _ d => KpT.ofBelow d) ?kb (Below.refl _ _) (fun k W => ∃ vp' vn' ps' ns', FoK w D b bm kv x (.func (.func 94) #[] #[.pointer (some ⟨b1, 0, none⟩), .pointer (some ⟨b2, 0, none⟩)]) bud p q s (decide (65536 < es.length)) ve ps es T k vp' vn' ps' ns' W) (fun W => ∃ er vp' vn' ps' ns', FoX w D b bm kv x (.func (.func 94) #[] #[.pointer (some ⟨b1, 0, none⟩), .pointer (some ⟨b2, 0, none⟩)]) bud (decide (65536 < es.length)) ve ps es T er vp' vn' ps' ns' W) ?mi ?ip ?mx ?xp ⟨_, _, _, _, HI0.out⟩ (fun v a' W => ∃ bp t, v = prV t ∧ W.heap[bp]? = some (.cells #[.int .i64 t.1, .int .i64 t.2] 79 (0, 0)) ∧ a' = { tmps := #[.pointer (some ⟨b, 0, none⟩), .int .i64 (i : Int), .int .i64 (s : Int), .pointer (some ⟨w.heap.size, 0, none⟩), undef, undef, .pointer (some ⟨w.heap.size + 1, 0, none⟩), .pointer (some ⟨bp, 0, none⟩), undef, undef, u10, u11, u12, u13, u14, u15, u16, u17, u18, u19, u20, u21, u22, u23, u24, u25, u26, u27, u28, u29, .func (.func 95) #[] #[.pointer (some ⟨b1, 0, none⟩), .pointer (some ⟨x, 0, none⟩), .pointer (some ⟨x + 1, 0, none⟩), .pointer (some ⟨b2, 0, none⟩)], .agg #[.int .i64 t.1, .int .i64 t.2], undef, undef, undef, undef, undef, undef, undef, undef, undef, undef, undef, undef, undef, undef, undef, undef, undef, undef, undef, undef, undef, undef, undef, undef, undef, undef, undef, undef, undef, undef, undef, undef, undef, undef, undef, undef], defers := [] }) ?ap ?assign ?body ?done ?stop
   case kb => exact fun W r r' hr => KpT.ofOnly (only_putObj _ _ _) (fun k hs e => by unfold SfF at hs; omega)
   case mi => rintro k A A' ⟨vp', vn', ps', ns', H⟩ d; exact ⟨_, _, _, _, H.below hx hDo d⟩
   case ip => rintro k A r r' ⟨vp', vn', ps', ns', H⟩ hr; exact ⟨_, _, _, _, H.onlyR hx hDo (only_putObj _ _ _) (fun k e => by omega)⟩
   case mx => rintro A A' ⟨er, vp', vn', ps', ns', H⟩ d; exact ⟨_, _, _, _, _, H.onlyR hx hDo (Only.ofBelow (R := fun _ => False) d) (fun _ e => e.elim)⟩
   case xp => rintro A r r' ⟨er, vp', vn', ps', ns', H⟩ hr; exact ⟨_, _, _, _, _, H.onlyR hx hDo (only_putObj _ _ _) (fun k e => by omega)⟩
   case ap =>
    rintro v a' A r r' ⟨bp, t, e1, e2, e3⟩ hr
    refine ⟨bp, t, e1, ?_, e3⟩
    refine (only_putObj _ _ _).cellK e2 (fun e => ?_)
    rw [e] at e2
    rw [e2] at hr
    cases hr
   case assign =>
    intro l v hv W K hK
    obtain ⟨t, _, rfl⟩ := List.mem_map.1 hv
    simp only [prV]
    gi_wp2
    exact hK _ _ ((Below.refl _ _).alloc (Nat.le_refl _) _) ⟨W.heap.size, t, rfl, World.alloc_heap_new _ _, rfl⟩
   case body =>
    rintro l0 k a' W hk ⟨vp', vn', ps', ns', HK0⟩ ⟨bp, t, et, hbp, rfl⟩ hd ⟨r, hr⟩
    have hkT : k < T.length := by simpa using hk
    have ett : T[k] = t := prV_inj (by rw [List.getElem_map] at et; exact et)
    have HK := hide HK0
    have HL := hide (show x + 4 ≤ W.heap.size by have := (Array.getElem?_eq_some_iff.1 hr).1; omega)
    have y0 : W.cell? ⟨w.heap.size, 0, none⟩ = some (.pointer (some ⟨b, 0, none⟩)) := cell_of HK0.sb rfl
    obtain ⟨y1, y2⟩ := zd2 hbp rfl rfl
    have HTd := hide (show T.drop k = t :: T.drop (k + 1) by rw [List.drop_eq_getElem_cons hkT, ett])
    have HTk := hide ett
    have TMe := meet_u W D b bm (.func (.func 94) #[] #[.pointer (some ⟨b1, 0, none⟩), .pointer (some ⟨b2, 0, none⟩)]) bud (decide (65536 < es.length)) vp' ve vn' ps' es ns' ns'.length (ns'.map (Value.int .i64)) t (hide HK0.ss) (hide (hT.out t (by rw [← ett]; exact List.getElem_mem hkT))) (hide ⟨hDo.1, by have := HK0.on.size; omega⟩) HK0.pl
    have NO := hide (show ∀ y, w.heap.size ≤ y → y < x + 4 → ¬ (y = b ∨ y = bm ∨ vp'.ownBlock = some y) by
     rintro y u1 u2 (e | e | e)
     · omega
     · omega
     · have := HK0.ap y e; omega)
    clear HK0 hbp hd hr et ett hk
    have HZ3 := hide z2
    clear z2
    gi_wp2
    refine ⟨trivial, (CallsIn.inRound l0 (callsIn_wide.2 TMe)).mono ?_⟩
    rintro e W4 (⟨num, vp2, ps2, rfl, HM⟩ | ⟨er, rfl, her, HM⟩)
    · clear TMe y0 y1 y2
      have HSB := hide (HM.out.on.cellK HK.out.sb (NO.out _ (by omega) (by omega)))
      have y0 : W4.cell? ⟨w.heap.size, 0, none⟩ = some (.pointer (some ⟨b, 0, none⟩)) := cell_of HSB.out rfl
      have TF := full_any W4 D b bm (.func (.func 94) #[] #[.pointer (some ⟨b1, 0, none⟩), .pointer (some ⟨b2, 0, none⟩)]) bud vp2 ve vn' ps2 es _ _ (hide HM.out.ss)
      have HMo := hide (HM.out.on.mono (R' := fun k => k = b ∨ k = bm ∨ vp'.ownBlock = some k ∨ vn'.ownBlock = some k) (fun k _ e => by
       rcases e with e | e | e
       · exact .inl e
       · exact .inr (.inl e)
       · exact .inr (.inr (.inl e))))
      by_cases hfl : 65536 < es.length
      · rw [decide_eq_true hfl] at TF
        have HFL := hide hfl
        clear hfl
        gi_wp2
        refine ⟨trivial, (CallsIn.inRound l0 (callsIn_wide.2 TF)).mono ?_⟩
        rintro e W5 ⟨rfl, hw5⟩
        obtain rfl := hw5.symm
        clear hw5
        gi_wp2
        have st := HK.out.step hx hDo HL.out hkT HM.out.ss HMo.out HM.out.ap (fun k hk => .inl hk) (by rw [HTd.out, HM.out.eq, decide_eq_true HFL.out]; rfl) HM.out.sub (by rw [HTk.out]; exact HM.out.mem) (Nat.le_succ _) HM.out.pl
        exact ⟨⟨by rw [HZ3.out]; exact st.2.2.1, by rw [HZ3.out]; exact st.2.2.2⟩, st.2.1, _, _, _, _, st.1⟩
      · rw [decide_eq_false hfl] at TF
        have HFL := hide hfl
        clear hfl
        gi_wp2
        refine ⟨trivial, (CallsIn.inRound l0 (callsIn_wide.2 TF)).mono ?_⟩
        rintro e W5 ⟨rfl, hw5⟩
        obtain rfl := hw5.symm
        clear hw5
        gi_wp2
        obtain ⟨i3, hi3, hz30, hz31, hz32⟩ := info_parts infoP3
        obtain ⟨an, cn, hvn⟩ := own_slice HM.out.ss.no
        have HVN := hide hvn
        have hnl : ns'.length ≤ 4096 := HNL.out k ps' ns' (Nat.le_of_lt hkT) HK.out
        have hbW : b < W4.heap.size := (Array.getElem?_eq_some_iff.1 HM.out.ss.bx).1
        have hwW : w.heap.size < W4.heap.size := (Array.getElem?_eq_some_iff.1 HSB.out).1
        have c5 : W4.cell? ⟨b, 5, none⟩ = some (.slice an ns'.length cn) := by rw [← hvn]; exact cell_of HM.out.ss.bx rfl
        have HOV : Hid (W4.ownsRow D 3 1 (.slice an ns'.length cn) ns'.length (ns'.map (Value.int .i64))) := hide (by rw [← hvn]; exact HM.out.ss.no)
        have yA : (W4.alloc (.cells #[.int .i64 num] 3)).cell? ⟨w.heap.size, 0, none⟩ = some (.pointer (some ⟨b, 0, none⟩)) := (World.cell?_of_block (a := ⟨w.heap.size, 0, none⟩) (Below.heap_alloc _ _ _ hwW)).trans y0
        have cA : (W4.alloc (.cells #[.int .i64 num] 3)).cell? ⟨b, 5, none⟩ = some (.slice an ns'.length cn) := (World.cell?_of_block (a := ⟨b, 5, none⟩) (Below.heap_alloc _ _ _ hbW)).trans c5
        have hDW : D ≤ W4.heap.size := by have := HK.out.on.size; have := HM.out.on.size; omega
        have HS6 := hide (fun (w6 : World) (hg : (W4.alloc (.cells #[.int .i64 num] 3)).drew.grownBy w6 (Value.slice an ns'.length cn).ownBlock) => show w6.cell? ⟨w.heap.size, 0, none⟩ = some (.pointer (some ⟨b, 0, none⟩)) ∧ w6.frozen? ⟨b, 5, none⟩ = false ∧ w6.cell? ⟨b, 5, none⟩ = some (.slice an ns'.length cn) by
         rw [← hvn] at hg
         have q1 : w6.heap[b]? = some (.cells #[(.func (.func 94) #[] #[.pointer (some ⟨b1, 0, none⟩), .pointer (some ⟨b2, 0, none⟩)]), .int .i64 bud, .map (some bm), vp2, ve, vn'] 97 (0, 0)) := (hg.block b (by simp; omega) (fun e => by have := (HM.out.ss.no.lt b e.symm).1; omega)).trans ((Below.heap_alloc _ _ b hbW).trans HM.out.ss.bx)
         have q2 : w6.heap[w.heap.size]? = some (.cells #[.pointer (some ⟨b, 0, none⟩)] 127 (0, 0)) := (hg.block _ (by simp; omega) (fun e => by have := HK.out.an _ e.symm; omega)).trans ((Below.heap_alloc _ _ _ hwW).trans HSB.out)
         exact ⟨cell_of q2 rfl, by simp [World.frozen?, q1], by rw [← hvn]; exact cell_of q1 rfl⟩)
        have FIN := hide (fun (gg cap2 : Nat) (w6 : World) (HF : Hid (w6.ownsRow D 3 1 (.slice (some ⟨gg, 0, none⟩) (ns'.length + 1) cap2) (ns'.length + 1) (ns'.map (Value.int .i64) ++ [Value.int .i64 num]) ∧ (W4.alloc (.cells #[.int .i64 num] 3)).drew.grownBy w6 (Value.slice an ns'.length cn).ownBlock ∧ ((Value.slice an ns'.length cn).ownBlock = some gg ∨ gg = W4.heap.size + 1))) =>
         show ((w6.setCell ⟨b, 5, none⟩ (.slice (some ⟨gg, 0, none⟩) (ns'.length + 1) cap2)).heap[w2.heap.size]? = W.heap[w2.heap.size]? ∧ (w6.setCell ⟨b, 5, none⟩ (.slice (some ⟨gg, 0, none⟩) (ns'.length + 1) cap2)).heap[w2.heap.size + 1]? = W.heap[w2.heap.size + 1]?) ∧ KpT (SfF D b bm x) W (w6.setCell ⟨b, 5, none⟩ (.slice (some ⟨gg, 0, none⟩) (ns'.length + 1) cap2)) ∧ ∃ vpA vnA psA nsA, FoK w D b bm kv x (.func (.func 94) #[] #[.pointer (some ⟨b1, 0, none⟩), .pointer (some ⟨b2, 0, none⟩)]) bud p q s (decide (65536 < es.length)) ve ps es T (k + 1) vpA vnA psA nsA (w6.setCell ⟨b, 5, none⟩ (.slice (some ⟨gg, 0, none⟩) (ns'.length + 1) cap2)) by
         obtain ⟨ho, hg, hat⟩ := HF.out
         rw [← HVN.out] at hg hat
         have d : Below W4.heap.size W4 (W4.alloc (.cells #[.int .i64 num] 3)).drew := ((Below.refl _ _).alloc (Nat.le_refl _) _).drew
         obtain ⟨s7, o7⟩ := (HM.out.ss.on d).ends hDo.1 (W' := w6) (grown_only hg) ho
         have e2 : ns'.map (Value.int .i64) ++ [Value.int .i64 num] = (ns' ++ [num]).map (Value.int .i64) := by simp
         have e5 : ns'.length + 1 = (ns' ++ [num]).length := by simp
         have s8 : SS D (w6.setCell ⟨b, 5, none⟩ (.slice (some ⟨gg, 0, none⟩) (ns'.length + 1) cap2)) b bm (.func (.func 94) #[] #[.pointer (some ⟨b1, 0, none⟩), .pointer (some ⟨b2, 0, none⟩)]) bud vp2 ve (.slice (some ⟨gg, 0, none⟩) (ns'.length + 1) cap2) ps2 es (ns' ++ [num]).length ((ns' ++ [num]).map (Value.int .i64)) := by rw [← e2, ← e5]; exact s7
         have st := HK.out.step (ns2 := ns' ++ [num]) hx hDo HL.out hkT s8 ((HMo.out.trans (Only.ofBelow d)).andNew o7 (fun y _ e => by
          rcases e with e | e
          · exact .inl e
          · exact .inr (.inr (.inr e)))) HM.out.ap (fun y hy => by
          have e3 : gg = y := by simpa [Value.ownBlock] using hy
          subst e3
          rcases hat with e | e
          · exact .inl e
          · right; have := HM.out.on.size; omega) (by rw [HTd.out, HM.out.eq, decide_eq_false HFL.out]; rfl) HM.out.sub (by rw [HTk.out]; exact HM.out.mem) (by simp) HM.out.pl
         exact ⟨⟨by rw [HZ3.out]; exact st.2.2.1, by rw [HZ3.out]; exact st.2.2.2⟩, st.2.1, _, _, _, _, st.1⟩)
        clear hvn
        refine wpIn_region_of_any (by kernel_rfl) (noDefer_at (by kernel_rfl)) ?_
        refine wpAny_take (i := 5) (v := .int .i64 num) rfl (by kernel_rfl) (by kernel_rfl) (by kernel_rfl) (fun _ _ _ h => h) (Or.inl ⟨by rfl, fun _ => by go_simp⟩) ?_
        refine wpAny_ready (rs := [0, 1, 6]) (by kernel_rfl) (by simp) ?_
        refine AllReady.cons rfl (fun K hK => ?_) ?_
        · go_simp
          refine hK _ _ ?_
          clear hK K
          refine wpAny_ready (rs := [1, 6]) (by kernel_rfl) (by simp) ?_
          refine AllReady.cons rfl (fun K hK => ?_) ?_
          · go_simp
            refine hK _ _ ?_
            clear hK K
            refine wpAny_take (i := 2) (v := .pointer (some ⟨b, 0, none⟩)) rfl (by kernel_rfl) (by kernel_rfl) (by kernel_rfl) (fun _ _ _ h => h) (Or.inl ⟨by rfl, fun _ => by go_simp⟩) ?_
            refine wpAny_take (i := 3) (v := .pointer (some ⟨b, 5, none⟩)) rfl (by kernel_rfl) (by kernel_rfl) (by kernel_rfl) (fun _ _ _ h => h) (Or.inl ⟨by rfl, fun _ => by go_simp⟩) ?_
            refine wpAny_ready (rs := [4, 6]) (by kernel_rfl) (by simp) ?_
            refine AllReady.cons rfl (fun K hK => ?_) ?_
            · go_simp
              refine hK _ _ ?_
              clear hK K
              refine wpAny_ready (rs := [6]) (by kernel_rfl) (by simp) ?_
              refine AllReady.cons rfl (fun K hK => ?_) ?_
              · go_simp
                refine hK _ _ ?_
                clear hK K
                refine wpAny_ready (rs := [7]) (by kernel_rfl) (by simp) ?_
                refine AllReady.cons rfl (fun K hK => ?_) ?_
                · (refine step_append_lies _ (by rfl) _ _ _ (by rfl) D 3 i3 _ 1 8 Tryz.underlying22 hi3 hz30 hz31 hz32 rfl (by omega) (.slice an ns'.length cn) ns'.length (ns'.map (Value.int .i64)) (by rfl) (by exact HOV.out.alloc _) ⟨W4.heap.size, 0, none⟩ 1 1 ([Value.int .i64 num]) (by rfl) (by rfl) (by exact one_new W4 num) (by intro u hu; rw [List.mem_singleton.1 hu]; rfl) (by omega) (by unfold maxLen; omega) (by omega) (by simp; omega) (W4.heap.size + 1) (by simp) ?_; intro gg cap2 w6 hown6 hgr6 hat hlt; have S6 := (HS6.out w6 hgr6).1; have F6 := (HS6.out w6 hgr6).2.1; have C6 := (HS6.out w6 hgr6).2.2; have HF := hide (And.intro hown6 (And.intro hgr6 hat)); clear hown6 hgr6 hat)
                  try go_simp
                  refine hK _ _ ?_
                  clear hK K
                  refine wpAny_take (i := 8) (v := .pointer (some ⟨b, 0, none⟩)) rfl (by kernel_rfl) (by kernel_rfl) (by kernel_rfl) (fun _ _ _ h => h) (Or.inl ⟨by rfl, fun _ => by go_simp⟩) ?_
                  refine wpAny_take (i := 9) (v := .pointer (some ⟨b, 5, none⟩)) rfl (by kernel_rfl) (by kernel_rfl) (by kernel_rfl) (fun _ _ _ h => h) (Or.inl ⟨by rfl, fun _ => by go_simp⟩) ?_
                  refine wpAny_ready (rs := [10]) (by kernel_rfl) (by simp) ?_
                  refine AllReady.cons rfl (fun K hK => ?_) ?_
                  · go_simp
                    refine hK _ _ ?_
                    clear hK K
                    refine wpAny_done (by kernel_rfl) ?_ _
                    exact FIN.out _ _ _ HF
                  exact AllReady.nil
                exact AllReady.nil
              exact AllReady.nil
            refine AllReady.cons rfl (fun K hK => ?_) ?_
            · go_simp
              refine hK _ _ ?_
              clear hK K
              refine wpAny_ready (rs := [4]) (by kernel_rfl) (by simp) ?_
              refine AllReady.cons rfl (fun K hK => ?_) ?_
              · go_simp
                refine hK _ _ ?_
                clear hK K
                refine wpAny_ready (rs := [7]) (by kernel_rfl) (by simp) ?_
                refine AllReady.cons rfl (fun K hK => ?_) ?_
                · (refine step_append_lies _ (by rfl) _ _ _ (by rfl) D 3 i3 _ 1 8 Tryz.underlying22 hi3 hz30 hz31 hz32 rfl (by omega) (.slice an ns'.length cn) ns'.length (ns'.map (Value.int .i64)) (by rfl) (by exact HOV.out.alloc _) ⟨W4.heap.size, 0, none⟩ 1 1 ([Value.int .i64 num]) (by rfl) (by rfl) (by exact one_new W4 num) (by intro u hu; rw [List.mem_singleton.1 hu]; rfl) (by omega) (by unfold maxLen; omega) (by omega) (by simp; omega) (W4.heap.size + 1) (by simp) ?_; intro gg cap2 w6 hown6 hgr6 hat hlt; have S6 := (HS6.out w6 hgr6).1; have F6 := (HS6.out w6 hgr6).2.1; have C6 := (HS6.out w6 hgr6).2.2; have HF := hide (And.intro hown6 (And.intro hgr6 hat)); clear hown6 hgr6 hat)
                  try go_simp
                  refine hK _ _ ?_
                  clear hK K
                  refine wpAny_take (i := 8) (v := .pointer (some ⟨b, 0, none⟩)) rfl (by kernel_rfl) (by kernel_rfl) (by kernel_rfl) (fun _ _ _ h => h) (Or.inl ⟨by rfl, fun _ => by go_simp⟩) ?_
                  refine wpAny_take (i := 9) (v := .pointer (some ⟨b, 5, none⟩)) rfl (by kernel_rfl) (by kernel_rfl) (by kernel_rfl) (fun _ _ _ h => h) (Or.inl ⟨by rfl, fun _ => by go_simp⟩) ?_
                  refine wpAny_ready (rs := [10]) (by kernel_rfl) (by simp) ?_
                  refine AllReady.cons rfl (fun K hK => ?_) ?_
                  · go_simp
                    refine hK _ _ ?_
                    clear hK K
                    refine wpAny_done (by kernel_rfl) ?_ _
                    exact FIN.out _ _ _ HF
                  exact AllReady.nil
                exact AllReady.nil
              exact AllReady.nil
            exact AllReady.nil
          refine AllReady.cons rfl (fun K hK => ?_) ?_
          · go_simp
            refine hK _ _ ?_
            clear hK K
            refine wpAny_ready (rs := [1]) (by kernel_rfl) (by simp) ?_
            refine AllReady.cons rfl (fun K hK => ?_) ?_
            · go_simp
              refine hK _ _ ?_
              clear hK K
              refine wpAny_take (i := 2) (v := .pointer (some ⟨b, 0, none⟩)) rfl (by kernel_rfl) (by kernel_rfl) (by kernel_rfl) (fun _ _ _ h => h) (Or.inl ⟨by rfl, fun _ => by go_simp⟩) ?_
              refine wpAny_take (i := 3) (v := .pointer (some ⟨b, 5, none⟩)) rfl (by kernel_rfl) (by kernel_rfl) (by kernel_rfl) (fun _ _ _ h => h) (Or.inl ⟨by rfl, fun _ => by go_simp⟩) ?_
              refine wpAny_ready (rs := [4]) (by kernel_rfl) (by simp) ?_
              refine AllReady.cons rfl (fun K hK => ?_) ?_
              · go_simp
                refine hK _ _ ?_
                clear hK K
                refine wpAny_ready (rs := [7]) (by kernel_rfl) (by simp) ?_
                refine AllReady.cons rfl (fun K hK => ?_) ?_
                · (refine step_append_lies _ (by rfl) _ _ _ (by rfl) D 3 i3 _ 1 8 Tryz.underlying22 hi3 hz30 hz31 hz32 rfl (by omega) (.slice an ns'.length cn) ns'.length (ns'.map (Value.int .i64)) (by rfl) (by exact HOV.out.alloc _) ⟨W4.heap.size, 0, none⟩ 1 1 ([Value.int .i64 num]) (by rfl) (by rfl) (by exact one_new W4 num) (by intro u hu; rw [List.mem_singleton.1 hu]; rfl) (by omega) (by unfold maxLen; omega) (by omega) (by simp; omega) (W4.heap.size + 1) (by simp) ?_; intro gg cap2 w6 hown6 hgr6 hat hlt; have S6 := (HS6.out w6 hgr6).1; have F6 := (HS6.out w6 hgr6).2.1; have C6 := (HS6.out w6 hgr6).2.2; have HF := hide (And.intro hown6 (And.intro hgr6 hat)); clear hown6 hgr6 hat)
                  try go_simp
                  refine hK _ _ ?_
                  clear hK K
                  refine wpAny_take (i := 8) (v := .pointer (some ⟨b, 0, none⟩)) rfl (by kernel_rfl) (by kernel_rfl) (by kernel_rfl) (fun _ _ _ h => h) (Or.inl ⟨by rfl, fun _ => by go_simp⟩) ?_
                  refine wpAny_take (i := 9) (v := .pointer (some ⟨b, 5, none⟩)) rfl (by kernel_rfl) (by kernel_rfl) (by kernel_rfl) (fun _ _ _ h => h) (Or.inl ⟨by rfl, fun _ => by go_simp⟩) ?_
                  refine wpAny_ready (rs := [10]) (by kernel_rfl) (by simp) ?_
                  refine AllReady.cons rfl (fun K hK => ?_) ?_
                  · go_simp
                    refine hK _ _ ?_
                    clear hK K
                    refine wpAny_done (by kernel_rfl) ?_ _
                    exact FIN.out _ _ _ HF
                  exact AllReady.nil
                exact AllReady.nil
              exact AllReady.nil
            exact AllReady.nil
          exact AllReady.nil
        refine AllReady.cons rfl (fun K hK => ?_) ?_
        · go_simp
          refine hK _ _ ?_
          clear hK K
          refine wpAny_take (i := 2) (v := .pointer (some ⟨b, 0, none⟩)) rfl (by kernel_rfl) (by kernel_rfl) (by kernel_rfl) (fun _ _ _ h => h) (Or.inl ⟨by rfl, fun _ => by go_simp⟩) ?_
          refine wpAny_take (i := 3) (v := .pointer (some ⟨b, 5, none⟩)) rfl (by kernel_rfl) (by kernel_rfl) (by kernel_rfl) (fun _ _ _ h => h) (Or.inl ⟨by rfl, fun _ => by go_simp⟩) ?_
          refine wpAny_ready (rs := [0, 4, 6]) (by kernel_rfl) (by simp) ?_
          refine AllReady.cons rfl (fun K hK => ?_) ?_
          · go_simp
            refine hK _ _ ?_
            clear hK K
            refine wpAny_ready (rs := [4, 6]) (by kernel_rfl) (by simp) ?_
            refine AllReady.cons rfl (fun K hK => ?_) ?_
            · go_simp
              refine hK _ _ ?_
              clear hK K
              refine wpAny_ready (rs := [6]) (by kernel_rfl) (by simp) ?_
              refine AllReady.cons rfl (fun K hK => ?_) ?_
              · go_simp
                refine hK _ _ ?_
                clear hK K
                refine wpAny_ready (rs := [7]) (by kernel_rfl) (by simp) ?_
                refine AllReady.cons rfl (fun K hK => ?_) ?_
                · (refine step_append_lies _ (by rfl) _ _ _ (by rfl) D 3 i3 _ 1 8 Tryz.underlying22 hi3 hz30 hz31 hz32 rfl (by omega) (.slice an ns'.length cn) ns'.length (ns'.map (Value.int .i64)) (by rfl) (by exact HOV.out.alloc _) ⟨W4.heap.size, 0, none⟩ 1 1 ([Value.int .i64 num]) (by rfl) (by rfl) (by exact one_new W4 num) (by intro u hu; rw [List.mem_singleton.1 hu]; rfl) (by omega) (by unfold maxLen; omega) (by omega) (by simp; omega) (W4.heap.size + 1) (by simp) ?_; intro gg cap2 w6 hown6 hgr6 hat hlt; have S6 := (HS6.out w6 hgr6).1; have F6 := (HS6.out w6 hgr6).2.1; have C6 := (HS6.out w6 hgr6).2.2; have HF := hide (And.intro hown6 (And.intro hgr6 hat)); clear hown6 hgr6 hat)
                  try go_simp
                  refine hK _ _ ?_
                  clear hK K
                  refine wpAny_take (i := 8) (v := .pointer (some ⟨b, 0, none⟩)) rfl (by kernel_rfl) (by kernel_rfl) (by kernel_rfl) (fun _ _ _ h => h) (Or.inl ⟨by rfl, fun _ => by go_simp⟩) ?_
                  refine wpAny_take (i := 9) (v := .pointer (some ⟨b, 5, none⟩)) rfl (by kernel_rfl) (by kernel_rfl) (by kernel_rfl) (fun _ _ _ h => h) (Or.inl ⟨by rfl, fun _ => by go_simp⟩) ?_
                  refine wpAny_ready (rs := [10]) (by kernel_rfl) (by simp) ?_
                  refine AllReady.cons rfl (fun K hK => ?_) ?_
                  · go_simp
                    refine hK _ _ ?_
                    clear hK K
                    refine wpAny_done (by kernel_rfl) ?_ _
                    exact FIN.out _ _ _ HF
                  exact AllReady.nil
                exact AllReady.nil
              exact AllReady.nil
            refine AllReady.cons rfl (fun K hK => ?_) ?_
            · go_simp
              refine hK _ _ ?_
              clear hK K
              refine wpAny_ready (rs := [4]) (by kernel_rfl) (by simp) ?_
              refine AllReady.cons rfl (fun K hK => ?_) ?_
              · go_simp
                refine hK _ _ ?_
                clear hK K
                refine wpAny_ready (rs := [7]) (by kernel_rfl) (by simp) ?_
                refine AllReady.cons rfl (fun K hK => ?_) ?_
                · (refine step_append_lies _ (by rfl) _ _ _ (by rfl) D 3 i3 _ 1 8 Tryz.underlying22 hi3 hz30 hz31 hz32 rfl (by omega) (.slice an ns'.length cn) ns'.length (ns'.map (Value.int .i64)) (by rfl) (by exact HOV.out.alloc _) ⟨W4.heap.size, 0, none⟩ 1 1 ([Value.int .i64 num]) (by rfl) (by rfl) (by exact one_new W4 num) (by intro u hu; rw [List.mem_singleton.1 hu]; rfl) (by omega) (by unfold maxLen; omega) (by omega) (by simp; omega) (W4.heap.size + 1) (by simp) ?_; intro gg cap2 w6 hown6 hgr6 hat hlt; have S6 := (HS6.out w6 hgr6).1; have F6 := (HS6.out w6 hgr6).2.1; have C6 := (HS6.out w6 hgr6).2.2; have HF := hide (And.intro hown6 (And.intro hgr6 hat)); clear hown6 hgr6 hat)
                  try go_simp
                  refine hK _ _ ?_
                  clear hK K
                  refine wpAny_take (i := 8) (v := .pointer (some ⟨b, 0, none⟩)) rfl (by kernel_rfl) (by kernel_rfl) (by kernel_rfl) (fun _ _ _ h => h) (Or.inl ⟨by rfl, fun _ => by go_simp⟩) ?_
                  refine wpAny_take (i := 9) (v := .pointer (some ⟨b, 5, none⟩)) rfl (by kernel_rfl) (by kernel_rfl) (by kernel_rfl) (fun _ _ _ h => h) (Or.inl ⟨by rfl, fun _ => by go_simp⟩) ?_
                  refine wpAny_ready (rs := [10]) (by kernel_rfl) (by simp) ?_
                  refine AllReady.cons rfl (fun K hK => ?_) ?_
                  · go_simp
                    refine hK _ _ ?_
                    clear hK K
                    refine wpAny_done (by kernel_rfl) ?_ _
                    exact FIN.out _ _ _ HF
                  exact AllReady.nil
                exact AllReady.nil
              exact AllReady.nil
            exact AllReady.nil
          refine AllReady.cons rfl (fun K hK => ?_) ?_
          · go_simp
            refine hK _ _ ?_
            clear hK K
            refine wpAny_ready (rs := [0, 6]) (by kernel_rfl) (by simp) ?_
            refine AllReady.cons rfl (fun K hK => ?_) ?_
            · go_simp
              refine hK _ _ ?_
              clear hK K
              refine wpAny_ready (rs := [6]) (by kernel_rfl) (by simp) ?_
              refine AllReady.cons rfl (fun K hK => ?_) ?_
              · go_simp
                refine hK _ _ ?_
                clear hK K
                refine wpAny_ready (rs := [7]) (by kernel_rfl) (by simp) ?_
                refine AllReady.cons rfl (fun K hK => ?_) ?_
                · (refine step_append_lies _ (by rfl) _ _ _ (by rfl) D 3 i3 _ 1 8 Tryz.underlying22 hi3 hz30 hz31 hz32 rfl (by omega) (.slice an ns'.length cn) ns'.length (ns'.map (Value.int .i64)) (by rfl) (by exact HOV.out.alloc _) ⟨W4.heap.size, 0, none⟩ 1 1 ([Value.int .i64 num]) (by rfl) (by rfl) (by exact one_new W4 num) (by intro u hu; rw [List.mem_singleton.1 hu]; rfl) (by omega) (by unfold maxLen; omega) (by omega) (by simp; omega) (W4.heap.size + 1) (by simp) ?_; intro gg cap2 w6 hown6 hgr6 hat hlt; have S6 := (HS6.out w6 hgr6).1; have F6 := (HS6.out w6 hgr6).2.1; have C6 := (HS6.out w6 hgr6).2.2; have HF := hide (And.intro hown6 (And.intro hgr6 hat)); clear hown6 hgr6 hat)
                  try go_simp
                  refine hK _ _ ?_
                  clear hK K
                  refine wpAny_take (i := 8) (v := .pointer (some ⟨b, 0, none⟩)) rfl (by kernel_rfl) (by kernel_rfl) (by kernel_rfl) (fun _ _ _ h => h) (Or.inl ⟨by rfl, fun _ => by go_simp⟩) ?_
                  refine wpAny_take (i := 9) (v := .pointer (some ⟨b, 5, none⟩)) rfl (by kernel_rfl) (by kernel_rfl) (by kernel_rfl) (fun _ _ _ h => h) (Or.inl ⟨by rfl, fun _ => by go_simp⟩) ?_
                  refine wpAny_ready (rs := [10]) (by kernel_rfl) (by simp) ?_
                  refine AllReady.cons rfl (fun K hK => ?_) ?_
                  · go_simp
                    refine hK _ _ ?_
                    clear hK K
                    refine wpAny_done (by kernel_rfl) ?_ _
                    exact FIN.out _ _ _ HF
                  exact AllReady.nil
                exact AllReady.nil
              exact AllReady.nil
            refine AllReady.cons rfl (fun K hK => ?_) ?_
            · go_simp
              refine hK _ _ ?_
              clear hK K
              refine wpAny_ready (rs := [0, 7]) (by kernel_rfl) (by simp) ?_
              refine AllReady.cons rfl (fun K hK => ?_) ?_
              · go_simp
                refine hK _ _ ?_
                clear hK K
                refine wpAny_ready (rs := [7]) (by kernel_rfl) (by simp) ?_
                refine AllReady.cons rfl (fun K hK => ?_) ?_
                · (refine step_append_lies _ (by rfl) _ _ _ (by rfl) D 3 i3 _ 1 8 Tryz.underlying22 hi3 hz30 hz31 hz32 rfl (by omega) (.slice an ns'.length cn) ns'.length (ns'.map (Value.int .i64)) (by rfl) (by exact HOV.out.alloc _) ⟨W4.heap.size, 0, none⟩ 1 1 ([Value.int .i64 num]) (by rfl) (by rfl) (by exact one_new W4 num) (by intro u hu; rw [List.mem_singleton.1 hu]; rfl) (by omega) (by unfold maxLen; omega) (by omega) (by simp; omega) (W4.heap.size + 1) (by simp) ?_; intro gg cap2 w6 hown6 hgr6 hat hlt; have S6 := (HS6.out w6 hgr6).1; have F6 := (HS6.out w6 hgr6).2.1; have C6 := (HS6.out w6 hgr6).2.2; have HF := hide (And.intro hown6 (And.intro hgr6 hat)); clear hown6 hgr6 hat)
                  try go_simp
                  refine hK _ _ ?_
                  clear hK K
                  refine wpAny_take (i := 8) (v := .pointer (some ⟨b, 0, none⟩)) rfl (by kernel_rfl) (by kernel_rfl) (by kernel_rfl) (fun _ _ _ h => h) (Or.inl ⟨by rfl, fun _ => by go_simp⟩) ?_
                  refine wpAny_take (i := 9) (v := .pointer (some ⟨b, 5, none⟩)) rfl (by kernel_rfl) (by kernel_rfl) (by kernel_rfl) (fun _ _ _ h => h) (Or.inl ⟨by rfl, fun _ => by go_simp⟩) ?_
                  refine wpAny_ready (rs := [10]) (by kernel_rfl) (by simp) ?_
                  refine AllReady.cons rfl (fun K hK => ?_) ?_
                  · go_simp
                    refine hK _ _ ?_
                    clear hK K
                    refine wpAny_done (by kernel_rfl) ?_ _
                    exact FIN.out _ _ _ HF
                  exact AllReady.nil
                exact AllReady.nil
              refine AllReady.cons rfl (fun K hK => ?_) ?_
              · (refine step_append_lies _ (by rfl) _ _ _ (by rfl) D 3 i3 _ 1 8 Tryz.underlying22 hi3 hz30 hz31 hz32 rfl (by omega) (.slice an ns'.length cn) ns'.length (ns'.map (Value.int .i64)) (by rfl) (by exact HOV.out.alloc _) ⟨W4.heap.size, 0, none⟩ 1 1 ([Value.int .i64 num]) (by rfl) (by rfl) (by exact one_new W4 num) (by intro u hu; rw [List.mem_singleton.1 hu]; rfl) (by omega) (by unfold maxLen; omega) (by omega) (by simp; omega) (W4.heap.size + 1) (by simp) ?_; intro gg cap2 w6 hown6 hgr6 hat hlt; have S6 := (HS6.out w6 hgr6).1; have F6 := (HS6.out w6 hgr6).2.1; have C6 := (HS6.out w6 hgr6).2.2; have HF := hide (And.intro hown6 (And.intro hgr6 hat)); clear hown6 hgr6 hat)
                try go_simp
                refine hK _ _ ?_
                clear hK K
                refine wpAny_ready (rs := [0]) (by kernel_rfl) (by simp) ?_
                refine AllReady.cons rfl (fun K hK => ?_) ?_
                · go_simp
                  refine hK _ _ ?_
                  clear hK K
                  refine wpAny_take (i := 8) (v := .pointer (some ⟨b, 0, none⟩)) rfl (by kernel_rfl) (by kernel_rfl) (by kernel_rfl) (fun _ _ _ h => h) (Or.inl ⟨by rfl, fun _ => by go_simp⟩) ?_
                  refine wpAny_take (i := 9) (v := .pointer (some ⟨b, 5, none⟩)) rfl (by kernel_rfl) (by kernel_rfl) (by kernel_rfl) (fun _ _ _ h => h) (Or.inl ⟨by rfl, fun _ => by go_simp⟩) ?_
                  refine wpAny_ready (rs := [10]) (by kernel_rfl) (by simp) ?_
                  refine AllReady.cons rfl (fun K hK => ?_) ?_
                  · go_simp
                    refine hK _ _ ?_
                    clear hK K
                    refine wpAny_done (by kernel_rfl) ?_ _
                    exact FIN.out _ _ _ HF
                  exact AllReady.nil
                exact AllReady.nil
              exact AllReady.nil
            exact AllReady.nil
          refine AllReady.cons rfl (fun K hK => ?_) ?_
          · go_simp
            refine hK _ _ ?_
            clear hK K
            refine wpAny_ready (rs := [0, 4]) (by kernel_rfl) (by simp) ?_
            refine AllReady.cons rfl (fun K hK => ?_) ?_
            · go_simp
              refine hK _ _ ?_
              clear hK K
              refine wpAny_ready (rs := [4]) (by kernel_rfl) (by simp) ?_
              refine AllReady.cons rfl (fun K hK => ?_) ?_
              · go_simp
                refine hK _ _ ?_
                clear hK K
                refine wpAny_ready (rs := [7]) (by kernel_rfl) (by simp) ?_
                refine AllReady.cons rfl (fun K hK => ?_) ?_
                · (refine step_append_lies _ (by rfl) _ _ _ (by rfl) D 3 i3 _ 1 8 Tryz.underlying22 hi3 hz30 hz31 hz32 rfl (by omega) (.slice an ns'.length cn) ns'.length (ns'.map (Value.int .i64)) (by rfl) (by exact HOV.out.alloc _) ⟨W4.heap.size, 0, none⟩ 1 1 ([Value.int .i64 num]) (by rfl) (by rfl) (by exact one_new W4 num) (by intro u hu; rw [List.mem_singleton.1 hu]; rfl) (by omega) (by unfold maxLen; omega) (by omega) (by simp; omega) (W4.heap.size + 1) (by simp) ?_; intro gg cap2 w6 hown6 hgr6 hat hlt; have S6 := (HS6.out w6 hgr6).1; have F6 := (HS6.out w6 hgr6).2.1; have C6 := (HS6.out w6 hgr6).2.2; have HF := hide (And.intro hown6 (And.intro hgr6 hat)); clear hown6 hgr6 hat)
                  try go_simp
                  refine hK _ _ ?_
                  clear hK K
                  refine wpAny_take (i := 8) (v := .pointer (some ⟨b, 0, none⟩)) rfl (by kernel_rfl) (by kernel_rfl) (by kernel_rfl) (fun _ _ _ h => h) (Or.inl ⟨by rfl, fun _ => by go_simp⟩) ?_
                  refine wpAny_take (i := 9) (v := .pointer (some ⟨b, 5, none⟩)) rfl (by kernel_rfl) (by kernel_rfl) (by kernel_rfl) (fun _ _ _ h => h) (Or.inl ⟨by rfl, fun _ => by go_simp⟩) ?_
                  refine wpAny_ready (rs := [10]) (by kernel_rfl) (by simp) ?_
                  refine AllReady.cons rfl (fun K hK => ?_) ?_
                  · go_simp
                    refine hK _ _ ?_
                    clear hK K
                    refine wpAny_done (by kernel_rfl) ?_ _
                    exact FIN.out _ _ _ HF
                  exact AllReady.nil
                exact AllReady.nil
              exact AllReady.nil
            refine AllReady.cons rfl (fun K hK => ?_) ?_
            · go_simp
              refine hK _ _ ?_
              clear hK K
              refine wpAny_ready (rs := [0, 7]) (by kernel_rfl) (by simp) ?_
              refine AllReady.cons rfl (fun K hK => ?_) ?_
              · go_simp
                refine hK _ _ ?_
                clear hK K
                refine wpAny_ready (rs := [7]) (by kernel_rfl) (by simp) ?_
                refine AllReady.cons rfl (fun K hK => ?_) ?_
                · (refine step_append_lies _ (by rfl) _ _ _ (by rfl) D 3 i3 _ 1 8 Tryz.underlying22 hi3 hz30 hz31 hz32 rfl (by omega) (.slice an ns'.length cn) ns'.length (ns'.map (Value.int .i64)) (by rfl) (by exact HOV.out.alloc _) ⟨W4.heap.size, 0, none⟩ 1 1 ([Value.int .i64 num]) (by rfl) (by rfl) (by exact one_new W4 num) (by intro u hu; rw [List.mem_singleton.1 hu]; rfl) (by omega) (by unfold maxLen; omega) (by omega) (by simp; omega) (W4.heap.size + 1) (by simp) ?_; intro gg cap2 w6 hown6 hgr6 hat hlt; have S6 := (HS6.out w6 hgr6).1; have F6 := (HS6.out w6 hgr6).2.1; have C6 := (HS6.out w6 hgr6).2.2; have HF := hide (And.intro hown6 (And.intro hgr6 hat)); clear hown6 hgr6 hat)
                  try go_simp
                  refine hK _ _ ?_
                  clear hK K
                  refine wpAny_take (i := 8) (v := .pointer (some ⟨b, 0, none⟩)) rfl (by kernel_rfl) (by kernel_rfl) (by kernel_rfl) (fun _ _ _ h => h) (Or.inl ⟨by rfl, fun _ => by go_simp⟩) ?_
                  refine wpAny_take (i := 9) (v := .pointer (some ⟨b, 5, none⟩)) rfl (by kernel_rfl) (by kernel_rfl) (by kernel_rfl) (fun _ _ _ h => h) (Or.inl ⟨by rfl, fun _ => by go_simp⟩) ?_
                  refine wpAny_ready (rs := [10]) (by kernel_rfl) (by simp) ?_
                  refine AllReady.cons rfl (fun K hK => ?_) ?_
                  · go_simp
                    refine hK _ _ ?_
                    clear hK K
                    refine wpAny_done (by kernel_rfl) ?_ _
                    exact FIN.out _ _ _ HF
                  exact AllReady.nil
                exact AllReady.nil
              refine AllReady.cons rfl (fun K hK => ?_) ?_
              · (refine step_append_lies _ (by rfl) _ _ _ (by rfl) D 3 i3 _ 1 8 Tryz.underlying22 hi3 hz30 hz31 hz32 rfl (by omega) (.slice an ns'.length cn) ns'.length (ns'.map (Value.int .i64)) (by rfl) (by exact HOV.out.alloc _) ⟨W4.heap.size, 0, none⟩ 1 1 ([Value.int .i64 num]) (by rfl) (by rfl) (by exact one_new W4 num) (by intro u hu; rw [List.mem_singleton.1 hu]; rfl) (by omega) (by unfold maxLen; omega) (by omega) (by simp; omega) (W4.heap.size + 1) (by simp) ?_; intro gg cap2 w6 hown6 hgr6 hat hlt; have S6 := (HS6.out w6 hgr6).1; have F6 := (HS6.out w6 hgr6).2.1; have C6 := (HS6.out w6 hgr6).2.2; have HF := hide (And.intro hown6 (And.intro hgr6 hat)); clear hown6 hgr6 hat)
                try go_simp
                refine hK _ _ ?_
                clear hK K
                refine wpAny_ready (rs := [0]) (by kernel_rfl) (by simp) ?_
                refine AllReady.cons rfl (fun K hK => ?_) ?_
                · go_simp
                  refine hK _ _ ?_
                  clear hK K
                  refine wpAny_take (i := 8) (v := .pointer (some ⟨b, 0, none⟩)) rfl (by kernel_rfl) (by kernel_rfl) (by kernel_rfl) (fun _ _ _ h => h) (Or.inl ⟨by rfl, fun _ => by go_simp⟩) ?_
                  refine wpAny_take (i := 9) (v := .pointer (some ⟨b, 5, none⟩)) rfl (by kernel_rfl) (by kernel_rfl) (by kernel_rfl) (fun _ _ _ h => h) (Or.inl ⟨by rfl, fun _ => by go_simp⟩) ?_
                  refine wpAny_ready (rs := [10]) (by kernel_rfl) (by simp) ?_
                  refine AllReady.cons rfl (fun K hK => ?_) ?_
                  · go_simp
                    refine hK _ _ ?_
                    clear hK K
                    refine wpAny_done (by kernel_rfl) ?_ _
                    exact FIN.out _ _ _ HF
                  exact AllReady.nil
                exact AllReady.nil
              exact AllReady.nil
            exact AllReady.nil
          exact AllReady.nil
        refine AllReady.cons rfl (fun K hK => ?_) ?_
        · go_simp
          refine hK _ _ ?_
          clear hK K
          refine wpAny_ready (rs := [0, 1]) (by kernel_rfl) (by simp) ?_
          refine AllReady.cons rfl (fun K hK => ?_) ?_
          · go_simp
            refine hK _ _ ?_
            clear hK K
            refine wpAny_ready (rs := [1]) (by kernel_rfl) (by simp) ?_
            refine AllReady.cons rfl (fun K hK => ?_) ?_
            · go_simp
              refine hK _ _ ?_
              clear hK K
              refine wpAny_take (i := 2) (v := .pointer (some ⟨b, 0, none⟩)) rfl (by kernel_rfl) (by kernel_rfl) (by kernel_rfl) (fun _ _ _ h => h) (Or.inl ⟨by rfl, fun _ => by go_simp⟩) ?_
              refine wpAny_take (i := 3) (v := .pointer (some ⟨b, 5, none⟩)) rfl (by kernel_rfl) (by kernel_rfl) (by kernel_rfl) (fun _ _ _ h => h) (Or.inl ⟨by rfl, fun _ => by go_simp⟩) ?_
              refine wpAny_ready (rs := [4]) (by kernel_rfl) (by simp) ?_
              refine AllReady.cons rfl (fun K hK => ?_) ?_
              · go_simp
                refine hK _ _ ?_
                clear hK K
                refine wpAny_ready (rs := [7]) (by kernel_rfl) (by simp) ?_
                refine AllReady.cons rfl (fun K hK => ?_) ?_
                · (refine step_append_lies _ (by rfl) _ _ _ (by rfl) D 3 i3 _ 1 8 Tryz.underlying22 hi3 hz30 hz31 hz32 rfl (by omega) (.slice an ns'.length cn) ns'.length (ns'.map (Value.int .i64)) (by rfl) (by exact HOV.out.alloc _) ⟨W4.heap.size, 0, none⟩ 1 1 ([Value.int .i64 num]) (by rfl) (by rfl) (by exact one_new W4 num) (by intro u hu; rw [List.mem_singleton.1 hu]; rfl) (by omega) (by unfold maxLen; omega) (by omega) (by simp; omega) (W4.heap.size + 1) (by simp) ?_; intro gg cap2 w6 hown6 hgr6 hat hlt; have S6 := (HS6.out w6 hgr6).1; have F6 := (HS6.out w6 hgr6).2.1; have C6 := (HS6.out w6 hgr6).2.2; have HF := hide (And.intro hown6 (And.intro hgr6 hat)); clear hown6 hgr6 hat)
                  try go_simp
                  refine hK _ _ ?_
                  clear hK K
                  refine wpAny_take (i := 8) (v := .pointer (some ⟨b, 0, none⟩)) rfl (by kernel_rfl) (by kernel_rfl) (by kernel_rfl) (fun _ _ _ h => h) (Or.inl ⟨by rfl, fun _ => by go_simp⟩) ?_
                  refine wpAny_take (i := 9) (v := .pointer (some ⟨b, 5, none⟩)) rfl (by kernel_rfl) (by kernel_rfl) (by kernel_rfl) (fun _ _ _ h => h) (Or.inl ⟨by rfl, fun _ => by go_simp⟩) ?_
                  refine wpAny_ready (rs := [10]) (by kernel_rfl) (by simp) ?_
                  refine AllReady.cons rfl (fun K hK => ?_) ?_
                  · go_simp
                    refine hK _ _ ?_
                    clear hK K
                    refine wpAny_done (by kernel_rfl) ?_ _
                    exact FIN.out _ _ _ HF
                  exact AllReady.nil
                exact AllReady.nil
              exact AllReady.nil
            exact AllReady.nil
          refine AllReady.cons rfl (fun K hK => ?_) ?_
          · go_simp
            refine hK _ _ ?_
            clear hK K
            refine wpAny_take (i := 2) (v := .pointer (some ⟨b, 0, none⟩)) rfl (by kernel_rfl) (by kernel_rfl) (by kernel_rfl) (fun _ _ _ h => h) (Or.inl ⟨by rfl, fun _ => by go_simp⟩) ?_
            refine wpAny_take (i := 3) (v := .pointer (some ⟨b, 5, none⟩)) rfl (by kernel_rfl) (by kernel_rfl) (by kernel_rfl) (fun _ _ _ h => h) (Or.inl ⟨by rfl, fun _ => by go_simp⟩) ?_
            refine wpAny_ready (rs := [0, 4]) (by kernel_rfl) (by simp) ?_
            refine AllReady.cons rfl (fun K hK => ?_) ?_
            · go_simp
              refine hK _ _ ?_
              clear hK K
              refine wpAny_ready (rs := [4]) (by kernel_rfl) (by simp) ?_
              refine AllReady.cons rfl (fun K hK => ?_) ?_
              · go_simp
                refine hK _ _ ?_
                clear hK K
                refine wpAny_ready (rs := [7]) (by kernel_rfl) (by simp) ?_
                refine AllReady.cons rfl (fun K hK => ?_) ?_
                · (refine step_append_lies _ (by rfl) _ _ _ (by rfl) D 3 i3 _ 1 8 Tryz.underlying22 hi3 hz30 hz31 hz32 rfl (by omega) (.slice an ns'.length cn) ns'.length (ns'.map (Value.int .i64)) (by rfl) (by exact HOV.out.alloc _) ⟨W4.heap.size, 0, none⟩ 1 1 ([Value.int .i64 num]) (by rfl) (by rfl) (by exact one_new W4 num) (by intro u hu; rw [List.mem_singleton.1 hu]; rfl) (by omega) (by unfold maxLen; omega) (by omega) (by simp; omega) (W4.heap.size + 1) (by simp) ?_; intro gg cap2 w6 hown6 hgr6 hat hlt; have S6 := (HS6.out w6 hgr6).1; have F6 := (HS6.out w6 hgr6).2.1; have C6 := (HS6.out w6 hgr6).2.2; have HF := hide (And.intro hown6 (And.intro hgr6 hat)); clear hown6 hgr6 hat)
                  try go_simp
                  refine hK _ _ ?_
                  clear hK K
                  refine wpAny_take (i := 8) (v := .pointer (some ⟨b, 0, none⟩)) rfl (by kernel_rfl) (by kernel_rfl) (by kernel_rfl) (fun _ _ _ h => h) (Or.inl ⟨by rfl, fun _ => by go_simp⟩) ?_
                  refine wpAny_take (i := 9) (v := .pointer (some ⟨b, 5, none⟩)) rfl (by kernel_rfl) (by kernel_rfl) (by kernel_rfl) (fun _ _ _ h => h) (Or.inl ⟨by rfl, fun _ => by go_simp⟩) ?_
                  refine wpAny_ready (rs := [10]) (by kernel_rfl) (by simp) ?_
                  refine AllReady.cons rfl (fun K hK => ?_) ?_
                  · go_simp
                    refine hK _ _ ?_
                    clear hK K
                    refine wpAny_done (by kernel_rfl) ?_ _
                    exact FIN.out _ _ _ HF
                  exact AllReady.nil
                exact AllReady.nil
              exact AllReady.nil
            refine AllReady.cons rfl (fun K hK => ?_) ?_
            · go_simp
              refine hK _ _ ?_
              clear hK K
              refine wpAny_ready (rs := [0, 7]) (by kernel_rfl) (by simp) ?_
              refine AllReady.cons rfl (fun K hK => ?_) ?_
              · go_simp
                refine hK _ _ ?_
                clear hK K
                refine wpAny_ready (rs := [7]) (by kernel_rfl) (by simp) ?_
                refine AllReady.cons rfl (fun K hK => ?_) ?_
                · (refine step_append_lies _ (by rfl) _ _ _ (by rfl) D 3 i3 _ 1 8 Tryz.underlying22 hi3 hz30 hz31 hz32 rfl (by omega) (.slice an ns'.length cn) ns'.length (ns'.map (Value.int .i64)) (by rfl) (by exact HOV.out.alloc _) ⟨W4.heap.size, 0, none⟩ 1 1 ([Value.int .i64 num]) (by rfl) (by rfl) (by exact one_new W4 num) (by intro u hu; rw [List.mem_singleton.1 hu]; rfl) (by omega) (by unfold maxLen; omega) (by omega) (by simp; omega) (W4.heap.size + 1) (by simp) ?_; intro gg cap2 w6 hown6 hgr6 hat hlt; have S6 := (HS6.out w6 hgr6).1; have F6 := (HS6.out w6 hgr6).2.1; have C6 := (HS6.out w6 hgr6).2.2; have HF := hide (And.intro hown6 (And.intro hgr6 hat)); clear hown6 hgr6 hat)
                  try go_simp
                  refine hK _ _ ?_
                  clear hK K
                  refine wpAny_take (i := 8) (v := .pointer (some ⟨b, 0, none⟩)) rfl (by kernel_rfl) (by kernel_rfl) (by kernel_rfl) (fun _ _ _ h => h) (Or.inl ⟨by rfl, fun _ => by go_simp⟩) ?_
                  refine wpAny_take (i := 9) (v := .pointer (some ⟨b, 5, none⟩)) rfl (by kernel_rfl) (by kernel_rfl) (by kernel_rfl) (fun _ _ _ h => h) (Or.inl ⟨by rfl, fun _ => by go_simp⟩) ?_
                  refine wpAny_ready (rs := [10]) (by kernel_rfl) (by simp) ?_
                  refine AllReady.cons rfl (fun K hK => ?_) ?_
                  · go_simp
                    refine hK _ _ ?_
                    clear hK K
                    refine wpAny_done (by kernel_rfl) ?_ _
                    exact FIN.out _ _ _ HF
                  exact AllReady.nil
                exact AllReady.nil
              refine AllReady.cons rfl (fun K hK => ?_) ?_
              · (refine step_append_lies _ (by rfl) _ _ _ (by rfl) D 3 i3 _ 1 8 Tryz.underlying22 hi3 hz30 hz31 hz32 rfl (by omega) (.slice an ns'.length cn) ns'.length (ns'.map (Value.int .i64)) (by rfl) (by exact HOV.out.alloc _) ⟨W4.heap.size, 0, none⟩ 1 1 ([Value.int .i64 num]) (by rfl) (by rfl) (by exact one_new W4 num) (by intro u hu; rw [List.mem_singleton.1 hu]; rfl) (by omega) (by unfold maxLen; omega) (by omega) (by simp; omega) (W4.heap.size + 1) (by simp) ?_; intro gg cap2 w6 hown6 hgr6 hat hlt; have S6 := (HS6.out w6 hgr6).1; have F6 := (HS6.out w6 hgr6).2.1; have C6 := (HS6.out w6 hgr6).2.2; have HF := hide (And.intro hown6 (And.intro hgr6 hat)); clear hown6 hgr6 hat)
                try go_simp
                refine hK _ _ ?_
                clear hK K
                refine wpAny_ready (rs := [0]) (by kernel_rfl) (by simp) ?_
                refine AllReady.cons rfl (fun K hK => ?_) ?_
                · go_simp
                  refine hK _ _ ?_
                  clear hK K
                  refine wpAny_take (i := 8) (v := .pointer (some ⟨b, 0, none⟩)) rfl (by kernel_rfl) (by kernel_rfl) (by kernel_rfl) (fun _ _ _ h => h) (Or.inl ⟨by rfl, fun _ => by go_simp⟩) ?_
                  refine wpAny_take (i := 9) (v := .pointer (some ⟨b, 5, none⟩)) rfl (by kernel_rfl) (by kernel_rfl) (by kernel_rfl) (fun _ _ _ h => h) (Or.inl ⟨by rfl, fun _ => by go_simp⟩) ?_
                  refine wpAny_ready (rs := [10]) (by kernel_rfl) (by simp) ?_
                  refine AllReady.cons rfl (fun K hK => ?_) ?_
                  · go_simp
                    refine hK _ _ ?_
                    clear hK K
                    refine wpAny_done (by kernel_rfl) ?_ _
                    exact FIN.out _ _ _ HF
                  exact AllReady.nil
                exact AllReady.nil
              exact AllReady.nil
            exact AllReady.nil
          exact AllReady.nil
        exact AllReady.nil
    · have HRB := hide (blk_on HK.out.rb HM.out.2)
      have y5 : W4.cell? ⟨w.heap.size + 1, 0, none⟩ = some (.int .i64 0) := cell_of HRB.out rfl
      have f5 : W4.frozen? ⟨w.heap.size + 1, 0, none⟩ = false := fz_of HRB.out
      have HFX : Hid (FoX w D b bm kv x (.func (.func 94) #[] #[.pointer (some ⟨b1, 0, none⟩), .pointer (some ⟨b2, 0, none⟩)]) bud (decide (65536 < es.length)) ve ps es T er vp' vn' ps' ns' (W4.setCell ⟨w.heap.size + 1, 0, none⟩ (.int .i64 er)) ∧ (W4.setCell ⟨w.heap.size + 1, 0, none⟩ (.int .i64 er)).heap[x + 2]? = W.heap[x + 2]? ∧ (W4.setCell ⟨w.heap.size + 1, 0, none⟩ (.int .i64 er)).heap[x + 2 + 1]? = W.heap[x + 2 + 1]?) := hide (by
       have o := only_set W4 (w.heap.size + 1) 0 (.int .i64 er)
       have d := HM.out.2
       have hL := HL.out
       have sz := d.size
       have kl := HK.out.kl
       refine ⟨⟨HK.out.eq.trans (by rw [HTd.out]; exact HM.out.1 _), her, (HK.out.ss.on d).onlyR o (by omega) (by omega) (fun k hk e => ?_) (fun k hk e => ?_) (fun k hk e => ?_), heap_setCell_same W4 _ 0 _ 29 _ HRB.out, (HK.out.on.trans (Only.ofBelow d)).trans (o.mono (fun k _ e => .inr (.inr (by omega)))), HK.out.ap, HK.out.an, HK.out.ae, HK.out.pl, HK.out.kl⟩, (o.block _ (by omega) (by omega)).trans (d.block _ (by omega)), (o.block _ (by omega) (by omega)).trans (d.block _ (by omega))⟩
       · have := HK.out.ap k hk; omega
       · have := HK.out.ae k hk; omega
       · have := HK.out.an k hk; omega)
      clear TMe y0 y1 y2
      rcases her with rfl | rfl
      all_goals
       gi_wp2
       exact ⟨⟨by rw [HZ3.out]; exact HFX.out.2.1, by rw [HZ3.out]; exact HFX.out.2.2⟩, _, _, _, _, _, HFX.out.1⟩
   case done =>
    rintro D' W hD' ⟨vp', vn', ps', ns', HK0⟩ hq
    have hTl : (T.map prV).length = T.length := by simp
    rw [hTl] at HK0
    have HK := hide HK0
    have hnl := HNL.out T.length ps' ns' (Nat.le_refl _) HK0
    have hsW := HK0.on.size
    obtain ⟨ae, ce, hve⟩ := own_slice HK0.ss.eo
    obtain ⟨an, cn, hvn⟩ := own_slice HK0.ss.no
    have HV := hide (And.intro hve hvn)
    have y0 : W.cell? ⟨w.heap.size, 0, none⟩ = some (.pointer (some ⟨b, 0, none⟩)) := cell_of HK0.sb rfl
    have y4 : W.cell? ⟨b, 4, none⟩ = some (.slice ae es.length ce) := by rw [← hve]; exact cell_of HK0.ss.bx rfl
    have y5 : W.cell? ⟨b, 5, none⟩ = some (.slice an ns'.length cn) := by rw [← hvn]; exact cell_of HK0.ss.bx rfl
    have f4 : W.frozen? ⟨b, 4, none⟩ = false := fz_of HK0.ss.bx
    have dd : Below W.heap.size W W.drew := (Below.refl _ _).drew
    have TL := lead_own W.drew D (.slice ae es.length ce) (.slice an ns'.length cn) es (i : Int) (s : Int) ns'.length ns' rfl (hide (by rw [← hve]; exact (HK0.ss.on dd).eo)) (hide (by rw [← hvn]; exact (HK0.ss.on dd).no)) (by have := hsW; exact Nat.le_trans hDo.2.2 this) (by omega) (by omega)
    have HP5 := hide (fun (w5 : World) (o : Only W.drew w5 (fun k => (Value.slice ae es.length ce).ownBlock = some k ∨ (Value.slice an ns'.length cn).ownBlock = some k)) => show w5.cell? ⟨w.heap.size, 0, none⟩ = some (.pointer (some ⟨b, 0, none⟩)) ∧ w5.frozen? ⟨b, 4, none⟩ = false ∧ w5.cell? ⟨b, 4, none⟩ = some (.slice ae es.length ce) by
     rw [← HV.out.1, ← HV.out.2] at o
     have q1 := o.cellK (o := .cells _ 97 (0, 0)) HK.out.ss.bx (fun e => by
      rcases e with e | e
      · have := (HK.out.ss.eo.lt _ e).1; omega
      · have := (HK.out.ss.no.lt _ e).1; omega)
     have q2 := o.cellK (o := .cells _ 127 (0, 0)) HK.out.sb (fun e => by
      rcases e with e | e
      · have := HK.out.ae _ e; omega
      · have := HK.out.an _ e; omega)
     exact ⟨cell_of q2 rfl, fz_of q1, by rw [← HV.out.1]; exact cell_of q1 rfl⟩)
    have HQ := hide hq
    clear HK0 hve hvn hq
    go_upto_region 9 with fail
    go_cut [6] from 54 to 67 (fun v6 W8 => v6 = .pointer (some ⟨w.heap.size + 1, 0, none⟩) ∧ ∃ v8 x8, Hid (SS D W8 b bm (.func (.func 94) #[] #[.pointer (some ⟨b1, 0, none⟩), .pointer (some ⟨b2, 0, none⟩)]) bud vp' v8 vn' ps' (ledL es (i : Int) (s : Int) (riseL ns')) ns'.length x8 ∧ W8.heap[w.heap.size + 1]? = some (.cells #[.int .i64 0] 29 (0, 0)) ∧ Only w W8 (fun k => k = b ∨ k = bm ∨ (D ≤ k ∧ k ≠ kv)) ∧ W8.heap[D']? = some (.deferred (some [])) ∧ ∀ k, v8.ownBlock = some k → k ≠ kv))
    case first =>
     refine wp_onlyN ?_
     go_region_with (go_at_call 123; refine TL.mono ?_; rintro e w5 ⟨v5, rfl, H5⟩; obtain ⟨a5, k5, rfl⟩ := own_slice H5.out.1; have z0 := (HP5.out w5 H5.out.2.2.1).1; have z1 := (HP5.out w5 H5.out.2.2.1).2.1; have z2' := (HP5.out w5 H5.out.2.2.1).2.2)
     all_goals
      refine onlyN_of ?_
      first | (go_wp2_with fail; go_meet) | go_meet
      obtain ⟨r1, ⟨x8, r2⟩, r3, r4⟩ := H5.out
      rw [← HV.out.1, ← HV.out.2] at r3
      rw [← HV.out.1] at r4
      rw [← HV.out.2] at r2
      obtain ⟨s8, o8⟩ := (HK.out.ss.on (Below.refl _ W).drew).edges hDo.1 r3 r1 r2
      have oW : Only W W.drew (fun k => k = b ∨ ve.ownBlock = some k ∨ vn'.ownBlock = some k) := Only.ofBelow (Below.refl _ W).drew
      have o9 := oW.trans o8
      exact ⟨rfl, _, x8, hide (fo_end HK.out hx hDo s8 o9 HQ.out r4)⟩
    case rest =>
     obtain ⟨rfl, v8, x8, H8⟩ := hcut
     rename World => w8
     have y6 : w8.cell? ⟨w.heap.size + 1, 0, none⟩ = some (.int .i64 0) := cell_of H8.out.2.1 rfl
     have f6 : w8.frozen? ⟨w.heap.size + 1, 0, none⟩ = false := fz_of H8.out.2.1
     have HO : Only w8 ((w8.setCell ⟨w.heap.size + 1, 0, none⟩ (.int .i64 0)).putObj D' (.deferred none)) (fun k => k = w.heap.size + 1 ∨ k = D') := ((only_set w8 _ 0 _).mono (fun k _ e => .inl e)).trans ((only_putObj _ _ _).mono (fun k _ e => .inr e))
     have hne : D' ≠ w.heap.size + 1 := fun e => by have := H8.out.2.2.2.1; rw [e, H8.out.2.1] at this; cases this
     have hq9 : (w8.setCell ⟨w.heap.size + 1, 0, none⟩ (.int .i64 0)).heap[D']? = some (.deferred (some [])) := (only_set w8 _ 0 _).cellK H8.out.2.2.2.1 hne
     have hr9 : (w8.setCell ⟨w.heap.size + 1, 0, none⟩ (.int .i64 0)).heap[w.heap.size + 1]? = some (.cells #[.int .i64 0] 29 (0, 0)) := by have := heap_setCell_same w8 (w.heap.size + 1) 0 _ 29 (.int .i64 0) H8.out.2.1; simpa using this
     have c9 : ((w8.setCell ⟨w.heap.size + 1, 0, none⟩ (.int .i64 0)).putObj D' (.deferred none)).cell? ⟨w.heap.size + 1, 0, none⟩ = some (.int .i64 0) := cell_of ((only_putObj _ _ _).cellK hr9 (fun e => hne e.symm)) rfl
     have HF : Hid (FoR w D b bm kv (.func (.func 94) #[] #[.pointer (some ⟨b1, 0, none⟩), .pointer (some ⟨b2, 0, none⟩)]) bud ps es T i s 0 vp' v8 vn' ps' ns' ns'.length x8 ((w8.setCell ⟨w.heap.size + 1, 0, none⟩ (.int .i64 0)).putObj D' (.deferred none))) := hide (by
      have kl := HK.out.kl
      refine ⟨HK.out.eq.trans (by rw [List.drop_length]; rfl), ?_, H8.out.2.2.1.trans (HO.mono (fun k _ e => .inr (.inr (by omega)))), HK.out.pl, fun _ => hnl, fun k hk => (HK.out.ap k hk).2, H8.out.2.2.2.2, fun k hk => (HK.out.an k hk).2⟩
      rw [if_pos rfl]
      refine ss_but (H8.out.1.onlyR (only_set w8 (w.heap.size + 1) 0 (.int .i64 0)) (by omega) (by omega) (fun k hk e => ?_) (fun k hk e => ?_) (fun k hk e => ?_)) (only_putObj _ _ _) hq9
      · have := HK.out.ap k hk; omega
      · have q9 := H8.out.1.eo
        rcases q9.2 with ⟨e3, _⟩ | ⟨g, cap, cur, e3, _, hg, _⟩
        · rw [e3] at hk; cases hk
        · rw [e3] at hk
          obtain rfl : g = k := by simpa [Value.ownBlock] using hk
          rw [e, H8.out.2.1] at hg; cases hg
      · have := HK.out.an k hk; omega)
     have HQ9 := hide hq9
     clear y0 y4 y5 f4 TL hq9 hr9 hne
     go_wp2_with fail
     refine ⟨by simp, .inl ⟨_, _, rfl, run_takeDeferred HQ9.out, ?_⟩⟩
     refine ⟨_, results_130 _ _ (w.heap.size + 1) _ rfl c9, ?_⟩
     exact ⟨0, vp', v8, vn', ps', ns', ns'.length, x8, rfl, hide (by rw [HTE.out]; exact HF.out)⟩
   case stop =>
    rintro D' W hD' ⟨er, vp', vn', ps', ns', HX⟩ hq
    have HXX := hide HX
    clear HX
    refine wpIn_wide.2 ?_
    go_wp2_with fail
    refine ⟨by simp, .inl ⟨_, _, rfl, run_takeDeferred hq, ?_⟩⟩
    have HO : Only W (W.putObj D' (.deferred none)) (fun k => k = D') := only_putObj _ _ _
    have hbq : ∀ {k : Nat} {cs : Array Value} {t : TypeId} {fr : Nat × Nat}, W.heap[k]? = some (.cells cs t fr) → k ≠ D' := fun hk e => by rw [e, hq] at hk; cases hk
    have c6 : (W.putObj D' (.deferred none)).cell? ⟨w.heap.size + 1, 0, none⟩ = some (.int .i64 er) := cell_of (HO.cellK HXX.out.rb (hbq HXX.out.rb)) rfl
    refine ⟨_, results_130 _ _ (w.heap.size + 1) _ rfl c6, ?_⟩
    refine ⟨er, vp', ve, vn', ps', ns', ns'.length, ns'.map (Value.int .i64), rfl, hide ⟨?_, ?_, ?_, HXX.out.pl, ?_, fun k hk => (HXX.out.ap k hk).2, fun k hk => (HXX.out.ae k hk).2, fun k hk => (HXX.out.an k hk).2⟩⟩
    · rw [HTE.out]; exact HXX.out.eq
    · have ne : er ≠ 0 := by rcases HXX.out.ee with e | e <;> omega
      rw [if_neg ne]
      exact ss_but HXX.out.ss HO hq
    · exact HXX.out.on.trans (HO.mono (fun k _ e => .inr (.inr (by have := HXX.out.kl; omega))))
    · intro e; rcases HXX.out.ee with e2 | e2 <;> omega
end Go.Proofs.YtchoopnjckcohaaGreatDoor
