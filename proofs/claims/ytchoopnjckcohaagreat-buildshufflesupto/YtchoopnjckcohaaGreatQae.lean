import Derived.Test.YtchoopnjckcohaaGreatQad
import Derived.Deep.Cut
namespace Go.Proofs.YtchoopnjckcohaaGreat
open Go.RowKit Go.Maps Go.Shelf
attribute [local go_sem] Oper.semAt_some
/-! ### follow -/
theorem SS.ends {D : Nat} {W : World} {b bm : Nat} {f : Value} {bud : Int} {vp ve vn : Value} {ps : List PrT} {es : List EdT} {nn : Nat} {xn : List Value} (h : SS D W b bm f bud vp ve vn ps es nn xn) (hbD : b < D) {W' : World} {v : Value} {n2 : Nat} {x2 : List Value} (hW : Only W W' (fun k => vn.ownBlock = some k)) (hv : W'.ownsRow D 3 1 v n2 x2) :
    SS D (W'.setCell ⟨b, 5, none⟩ v) b bm f bud vp ve v ps es n2 x2 ∧ Only W (W'.setCell ⟨b, 5, none⟩ v) (fun k => k = b ∨ vn.ownBlock = some k) := by
  obtain ⟨Dm, hm, hp⟩ := h.mo
  have hbb : b ≠ bm := by
    rintro rfl
    obtain ⟨es, ck, q1, _⟩ := hm
    rw [h.bx] at q1; cases q1
  have hnb : vn.ownBlock ≠ some b := fun e => by have := (h.no.lt b e).1; omega
  have b1 := hW.cellK h.bx hnb
  have o2 := only_set W' b 5 v
  have p1 := row_only h.po hW (fun k hk hk2 => rows_differ h.no h.po (by decide) hk2 hk)
  have e1 := row_only h.eo hW (fun k hk hk2 => rows_differ h.no h.eo (by decide) hk2 hk)
  have m1 := map_only hm hW (fun e => row_map h.no hm e)
  refine ⟨⟨?_, row_only p1 o2 (fun k hk e => by have := (p1.lt k hk).1; omega), ⟨Dm, map_only m1 o2 (fun e => hbb e.symm), hp⟩, row_only e1 o2 (fun k hk e => by have := (e1.lt k hk).1; omega), row_only hv o2 (fun k hk e => by have := (hv.lt k hk).1; omega), h.ok, h.nd⟩, ?_⟩
  · have := heap_setCell_same W' b 5 _ 71 v b1
    simpa using this
  · exact (hW.mono (fun k _ e => .inr e)).andNew o2 (fun k _ e => .inl e)
theorem two_box (w : World) (A Z : Array Value) (t u : TypeId) : Below w.heap.size w ((w.alloc (.cells A t)).alloc (.cells Z u)) ∧ ((w.alloc (.cells A t)).alloc (.cells Z u)).heap[w.heap.size]? = some (.cells A t (0, 0)) ∧ ((w.alloc (.cells A t)).alloc (.cells Z u)).heap[w.heap.size + 1]? = some (.cells Z u (0, 0)) ∧ ((w.alloc (.cells A t)).alloc (.cells Z u)).heap.size = w.heap.size + 2 := by
  refine ⟨((Below.refl _ _).alloc (Nat.le_refl _) _).alloc (by simp) _, (Below.heap_alloc _ _ _ (by simp)).trans (World.alloc_heap_new _ _), ?_, by simp⟩
  have := World.alloc_heap_new (w.alloc (.cells A t)) (.cells Z u)
  simpa using this
theorem prV_inj {a b : PrT} (h : prV a = prV b) : a = b := by
  obtain ⟨p, r⟩ := a
  obtain ⟨p', r'⟩ := b
  simp only [prV, Value.agg.injEq, Array.mk.injEq, List.cons.injEq, Value.int.injEq, true_and, and_true] at h
  exact Prod.ext h.1 h.2
theorem infoP3 : (Tryz.prog.info? 3).map (fun i => (i.zero, i.size, i.bytes)) = some (some (.int .i64 0), 1, 8) := by kernel_rfl
theorem one_new (w : World) (n : Int) : ∀ (j : Nat) (u : Value), ([Value.int .i64 n])[j]? = some u → (w.alloc (.cells #[Value.int .i64 n] 3)).cell? ((⟨w.heap.size, 0, none⟩ : Addr).add j) = some u := by
  intro j u hu
  rw [Addr.add_lit, Nat.zero_add]
  refine cell_of (World.alloc_heap_new _ _) ?_
  rw [← hu]
  rw [List.getElem?_toArray]
def noDeferB (ops : Array Oper) : Bool := ops.toList.all fun o => match o.op with | .defer _ => false | _ => true
theorem noDefer_at {ops : Array Oper} (h : noDeferB ops = true) (i : Nat) (o : Oper) (ho : ops[i]? = some o) : ∀ c, o.op ≠ .defer c := by
  intro c e
  unfold noDeferB at h
  rw [List.all_eq_true] at h
  have := h o (List.mem_of_getElem? (i := i) (by simpa using ho))
  rw [e] at this
  cases this
theorem nodup_le {α : Type} [BEq α] [LawfulBEq α] : ∀ {l m : List α}, l.Nodup → (∀ t ∈ l, t ∈ m) → l.length ≤ m.length
  | [], _, _, _ => Nat.zero_le _
  | x :: l, m, h, hs => by
    have hx := hs x (by simp)
    have h2 := List.nodup_cons.1 h
    have := nodup_le (l := l) (m := m.erase x) h2.2 (fun t ht => (List.mem_erase_of_ne (fun e : t = x => h2.1 (by rw [← e]; exact ht))).2 (hs t (by simp [ht])))
    rw [List.length_erase_of_mem hx] at this
    have : 0 < m.length := List.length_pos_of_mem hx
    simp
    omega
theorem results_130 (tmps : Array Value) (w : World) (g : Nat) (v : Value) (hp : tmps.getD 6 undef = .pointer (some ⟨g, 0, none⟩)) (hc : w.cell? ⟨g, 0, none⟩ = some v) : (results Tryz.f59 tmps).run Tryz.prog w = .ok v w := by
  have hp' : tmps[6]?.getD undef = .pointer (some ⟨g, 0, none⟩) := by simpa using hp
  have ha : (isAgg 30).run Tryz.prog w = .ok false w := Tryz.isAgg30 w
  simp [results, hp', asAddr, loadVar, ha, go_sem, hc]
theorem wp_onlyN {P : Program} {c : Code} {Q : Exit → Act → World → Prop} {a : Act} {w : World} (h : c.wp P (onlyN (Q .normal)) a w) : c.wp P Q a w := wp_mono h (fun e a w h => by
  cases e with
  | normal => exact h
  | _ => exact h.elim)
theorem onlyN_of {K : Act → World → Prop} {a : Act} {w : World} (h : K a w) : onlyN K .normal a w := h
theorem pr_at {W : World} {B g cap : Nat} {ps : List PrT} (h : W.ownsRow B 57 2 (.slice (some ⟨g, 0, none⟩) ps.length cap) ps.length (ps.flatMap prC)) (i : Nat) (hi : i < ps.length) : W.cell? ⟨g, i * 2, none⟩ = some (.int .i64 ps[i].1) ∧ W.cell? ⟨g, i * 2 + 1, none⟩ = some (.int .i64 ps[i].2) := by
  have hx : ∀ (l : List PrT) (i : Nat) (hi : i < l.length), (l.flatMap prC)[i * 2]? = some (.int .i64 l[i].1) ∧ (l.flatMap prC)[i * 2 + 1]? = some (.int .i64 l[i].2) := by
    intro l
    induction l with
    | nil => intro i hi; simp at hi
    | cons x l ih =>
      intro i hi
      cases i with
      | zero => exact ⟨rfl, rfl⟩
      | succ i =>
        have q := ih i (by simpa using hi)
        have e1 : (i + 1) * 2 = (i * 2) + 2 := by omega
        rw [List.flatMap_cons, e1]
        exact q
  have c1 := h.cells (g := g) rfl (i * 2) _ (hx ps i hi).1
  have c2 := h.cells (g := g) rfl (i * 2 + 1) _ (hx ps i hi).2
  rw [Addr.add_lit, Nat.zero_add] at c1 c2
  exact ⟨c1, c2⟩
def SfF (D b bm x : Nat) (k : Nat) : Prop := (k < D ∧ k ≠ b ∧ k ≠ bm) ∨ k = x ∨ k = x + 1
theorem only_putObj (W : World) (g : Nat) (o : Obj) : Only W (W.putObj g o) (fun k => k = g) := ⟨rfl, rfl, rfl, by simp [World.putObj], fun k _ hk => World.putObj_heap_other (fun e => hk e)⟩
/-- What follow holds. -/
structure FoK (w : World) (D b bm kv x : Nat) (f : Value) (bud : Int) (p q s : Nat) (fl : Bool) (ve : Value) (ps : List PrT) (es : List EdT) (T : List PrT) (k : Nat) (vp vn : Value) (ps' : List PrT) (ns : List Int) (W : World) : Prop where
  eq : metF bud fl ps T [] = metF bud fl ps' (T.drop k) ns
  ss : SS D W b bm f bud vp ve vn ps' es ns.length (ns.map (Value.int .i64))
  sb : W.heap[w.heap.size]? = some (.cells #[.pointer (some ⟨b, 0, none⟩)] 94 (0, 0))
  rb : W.heap[w.heap.size + 1]? = some (.cells #[.int .i64 0] 30 (0, 0))
  fx : W.heap[x]? = some (.cells #[.int .i64 (p : Int), .int .i64 (q : Int)] 57 (0, 0))
  sx : W.heap[x + 1]? = some (.cells #[.int .i64 (s : Int)] 3 (0, 0))
  on : Only w W (fun k => k = b ∨ k = bm ∨ (D ≤ k ∧ k ≠ kv))
  ap : ∀ k, vp.ownBlock = some k → (k < w.heap.size ∨ x + 4 ≤ k) ∧ k ≠ kv
  an : ∀ k, vn.ownBlock = some k → (k < w.heap.size ∨ x + 4 ≤ k) ∧ k ≠ kv
  ae : ∀ k, ve.ownBlock = some k → k < w.heap.size ∧ k ≠ kv
  inn : ∀ t ∈ T.take k, t ∈ ps'
  le : ns.length ≤ k
  pl : ps'.length ≤ 4096
  kl : kv < w.heap.size
section
variable {w : World} {D b bm kv x : Nat} {f : Value} {bud : Int} {p q s : Nat} {fl : Bool} {ve : Value} {ps : List PrT} {es : List EdT} {T : List PrT} {k : Nat} {vp vn : Value} {ps' : List PrT} {ns : List Int} {W W' : World} {R : Nat → Prop}
theorem FoK.onlyR (h : FoK w D b bm kv x f bud p q s fl ve ps es T k vp vn ps' ns W) (hx : w.heap.size + 2 ≤ x) (hD : b < D ∧ bm < D ∧ D ≤ w.heap.size) (o : Only W W' R) (hR : ∀ k, R k → x + 2 ≤ k ∧ k < x + 4) : FoK w D b bm kv x f bud p q s fl ve ps es T k vp vn ps' ns W' := by
  have no : ∀ y, y < x + 2 → ¬ R y := fun y hy e => by have := hR y e; omega
  refine ⟨h.eq, h.ss.onlyR o (no _ (by omega)) (no _ (by omega)) (fun k hk e => ?_) (fun k hk e => ?_) (fun k hk e => ?_), o.cellK h.sb (no _ (by omega)), o.cellK h.rb (no _ (by omega)), o.cellK h.fx (no _ (by omega)), o.cellK h.sx (no _ (by omega)), h.on.trans (o.mono (fun k _ e => .inr (.inr (by have := hR k e; have := h.kl; omega)))), h.ap, h.an, h.ae, h.inn, h.le, h.pl, h.kl⟩
  · have := hR k e; have := h.ap k hk; omega
  · have := hR k e; have := h.ae k hk; omega
  · have := hR k e; have := h.an k hk; omega
theorem FoK.below (h : FoK w D b bm kv x f bud p q s fl ve ps es T k vp vn ps' ns W) (hx : w.heap.size + 2 ≤ x) (hD : b < D ∧ bm < D ∧ D ≤ w.heap.size) (d : Below W.heap.size W W') : FoK w D b bm kv x f bud p q s fl ve ps es T k vp vn ps' ns W' := h.onlyR hx hD (Only.ofBelow (R := fun _ => False) d) (fun _ e => e.elim)
/-- A round's end. -/
theorem FoK.step {vp2 vn2 : Value} {ps2 : List PrT} {ns2 : List Int} (h : FoK w D b bm kv x f bud p q s fl ve ps es T k vp vn ps' ns W) (hx : w.heap.size + 2 ≤ x) (hD : b < D ∧ bm < D ∧ D ≤ w.heap.size) (hL : x + 4 ≤ W.heap.size) (hk : k < T.length)
    (s2 : SS D W' b bm f bud vp2 ve vn2 ps2 es ns2.length (ns2.map (Value.int .i64))) (o : Only W W' (fun k => k = b ∨ k = bm ∨ vp.ownBlock = some k ∨ vn.ownBlock = some k)) (a1 : ∀ k, vp2.ownBlock = some k → vp.ownBlock = some k ∨ W.heap.size ≤ k) (a2 : ∀ k, vn2.ownBlock = some k → vn.ownBlock = some k ∨ W.heap.size ≤ k)
    (e2 : metF bud fl ps' (T.drop k) ns = metF bud fl ps2 (T.drop (k + 1)) ns2) (hs : ∀ t ∈ ps', t ∈ ps2) (ht : T[k] ∈ ps2) (hl : ns2.length ≤ ns.length + 1) (h4 : ps2.length ≤ 4096) :
    FoK w D b bm kv x f bud p q s fl ve ps es T (k + 1) vp2 vn2 ps2 ns2 W' ∧ KpT (SfF D b bm x) W W' ∧ W'.heap[x + 2]? = W.heap[x + 2]? ∧ W'.heap[x + 2 + 1]? = W.heap[x + 2 + 1]? := by
  have no : ∀ y, w.heap.size ≤ y → y < x + 4 → ¬ (y = b ∨ y = bm ∨ vp.ownBlock = some y ∨ vn.ownBlock = some y) := by
    rintro y h1 h2 (e | e | e | e)
    · omega
    · omega
    · have := h.ap y e; omega
    · have := h.an y e; omega
  refine ⟨⟨h.eq.trans e2, s2, o.cellK h.sb (no _ (by omega) (by omega)), o.cellK h.rb (no _ (by omega) (by omega)), o.cellK h.fx (no _ (by omega) (by omega)), o.cellK h.sx (no _ (by omega) (by omega)), h.on.trans (o.mono ?_), fun k hk => ?_, fun k hk => ?_, h.ae, ?_, by have := h.le; omega, h4, h.kl⟩, KpT.ofOnly o ?_, o.block _ (by omega) (no _ (by omega) (by omega)), o.block _ (by omega) (no _ (by omega) (by omega))⟩
  · rintro k _ (e | e | e | e)
    · exact .inl e
    · exact .inr (.inl e)
    · exact .inr (.inr ⟨(h.ss.po.lt k e).1, (h.ap k e).2⟩)
    · exact .inr (.inr ⟨(h.ss.no.lt k e).1, (h.an k e).2⟩)
  · rcases a1 k hk with e | e
    · exact h.ap k e
    · have := h.kl; have := h.on.size; omega
  · rcases a2 k hk with e | e
    · exact h.an k e
    · have := h.kl; have := h.on.size; omega
  · intro t h1
    rw [List.take_succ_eq_append_getElem hk] at h1
    rcases List.mem_append.1 h1 with h1 | h1
    · exact hs t (h.inn t h1)
    · rw [List.mem_singleton.1 h1]; exact ht
  · rintro y (⟨h1, h2, h3⟩ | rfl | rfl) hr
    · rcases hr with e | e | e | e
      · exact h2 e
      · exact h3 e
      · have := (h.ss.po.lt y e).1; omega
      · have := (h.ss.no.lt y e).1; omega
    · exact no _ (by omega) (by omega) hr
    · exact no _ (by omega) (by omega) hr
end
/-- What a pair's number is, and what the search is then. -/
structure MtA (D b bm : Nat) (f : Value) (bud : Int) (fl : Bool) (vp ve vn : Value) (ps : List PrT) (es : List EdT) (ns : List Int) (nn : Nat) (xn : List Value) (t : PrT) (num : Int) (vp2 : Value) (ps2 : List PrT) (W W' : World) : Prop where
  ss : SS D W' b bm f bud vp2 ve vn ps2 es nn xn
  on : Only W W' (fun k => k = b ∨ k = bm ∨ vp.ownBlock = some k)
  ap : ∀ k, vp2.ownBlock = some k → vp.ownBlock = some k ∨ W.heap.size ≤ k
  eq : ∀ ts, metF bud fl ps (t :: ts) ns = metF bud fl ps2 ts (if fl then ns else ns ++ [num])
  sub : ∀ y ∈ ps, y ∈ ps2
  mem : t ∈ ps2
  pl : ps2.length ≤ 4096
theorem meet_u (w : World) (D b bm : Nat) (f : Value) (bud : Int) (fl : Bool) (vp ve vn : Value) (ps : List PrT) (es : List EdT) (ns : List Int) (nn : Nat) (xn : List Value) (t : PrT) (h : Hid (SS D w b bm f bud vp ve vn ps es nn xn)) (hok : Hid (okPr t)) (hbD : Hid (b < D ∧ D ≤ w.heap.size)) (hl : ps.length ≤ 4096) :
    Calls Tryz.prog 58 #[.pointer (some ⟨b, 0, none⟩), .agg #[.int .i64 t.1, .int .i64 t.2]] w fun e w' => (∃ num vp2 ps2, e = .returned (.tuple #[.int .i64 num, .int .i64 0]) ∧ Hid (MtA D b bm f bud fl vp ve vn ps es ns nn xn t num vp2 ps2 w w')) ∨ ∃ er, e = .returned (.tuple #[.int .i64 0, .int .i64 er]) ∧ (er = 8 ∨ er = 9) ∧ Hid ((∀ ts, metF bud fl ps (t :: ts) ns = (er, ps, ns)) ∧ Below w.heap.size w w') := by
  by_cases hm : t ∈ ps
  · have hi := List.idxOf_lt_length_of_mem hm
    refine (smeet_old (ps.idxOf t) w D b bm f bud vp ve vn ps es nn xn t h hi (hide (List.getElem_idxOf hi).symm)).mono ?_
    rintro e w' ⟨rfl, d⟩
    exact .inl ⟨_, vp, ps, rfl, hide ⟨h.out.on d, Only.ofBelow d, fun k hk => .inl hk, fun ts => by rw [metF, if_pos hm], fun y hy => hy, hm, hl⟩⟩
  · by_cases h1 : bud ≤ (ps.length : Int)
    · refine (smeet_full w D b bm f bud vp ve vn ps es nn xn t h (hide hm) hok 9 (.inl ⟨h1, rfl⟩)).mono ?_
      rintro e w' ⟨rfl, d⟩
      exact .inr ⟨9, rfl, .inr rfl, hide ⟨fun ts => by rw [metF, if_neg hm, if_pos h1], d⟩⟩
    · by_cases h2 : 4096 ≤ ps.length
      · refine (smeet_full w D b bm f bud vp ve vn ps es nn xn t h (hide hm) hok 8 (.inr ⟨h1, h2, rfl⟩)).mono ?_
        rintro e w' ⟨rfl, d⟩
        exact .inr ⟨8, rfl, .inl rfl, hide ⟨fun ts => by rw [metF, if_neg hm, if_neg h1, if_pos h2], d⟩⟩
      · refine (smeet_new w D b bm f bud vp ve vn ps es nn xn t h (hide hm) hok hbD (by omega) (by omega)).mono ?_
        rintro e w' ⟨rfl, vp2, s2, o2, a2⟩
        exact .inl ⟨_, vp2, ps ++ [t], rfl, hide ⟨s2, o2, a2, fun ts => by rw [metF, if_neg hm, if_neg h1, if_neg h2], fun y hy => by simp [hy], by simp, by simp; omega⟩⟩
/-- How follow leaves. -/
structure FoX (w : World) (D b bm kv x : Nat) (f : Value) (bud : Int) (fl : Bool) (ve : Value) (ps : List PrT) (es : List EdT) (T : List PrT) (er : Int) (vp vn : Value) (ps' : List PrT) (ns : List Int) (W : World) : Prop where
  eq : metF bud fl ps T [] = (er, ps', ns)
  ee : er = 8 ∨ er = 9
  ss : SS D W b bm f bud vp ve vn ps' es ns.length (ns.map (Value.int .i64))
  rb : W.heap[w.heap.size + 1]? = some (.cells #[.int .i64 er] 30 (0, 0))
  on : Only w W (fun k => k = b ∨ k = bm ∨ (D ≤ k ∧ k ≠ kv))
  ap : ∀ k, vp.ownBlock = some k → (k < w.heap.size ∨ x + 4 ≤ k) ∧ k ≠ kv
  an : ∀ k, vn.ownBlock = some k → (k < w.heap.size ∨ x + 4 ≤ k) ∧ k ≠ kv
  ae : ∀ k, ve.ownBlock = some k → k < w.heap.size ∧ k ≠ kv
  pl : ps'.length ≤ 4096
  kl : kv < w.heap.size
theorem FoX.onlyR {w : World} {D b bm kv x : Nat} {f : Value} {bud : Int} {fl : Bool} {ve : Value} {ps : List PrT} {es : List EdT} {T : List PrT} {er : Int} {vp vn : Value} {ps' : List PrT} {ns : List Int} {W W' : World} {R : Nat → Prop} (h : FoX w D b bm kv x f bud fl ve ps es T er vp vn ps' ns W) (hx : w.heap.size + 2 ≤ x) (hD : b < D ∧ bm < D ∧ D ≤ w.heap.size) (o : Only W W' R) (hR : ∀ k, R k → x + 2 ≤ k ∧ k < x + 4) : FoX w D b bm kv x f bud fl ve ps es T er vp vn ps' ns W' := by
  have no : ∀ y, y < x + 2 → ¬ R y := fun y hy e => by have := hR y e; omega
  refine ⟨h.eq, h.ee, h.ss.onlyR o (no _ (by omega)) (no _ (by omega)) (fun k hk e => ?_) (fun k hk e => ?_) (fun k hk e => ?_), o.cellK h.rb (no _ (by omega)), h.on.trans (o.mono (fun k _ e => .inr (.inr (by have := hR k e; have := h.kl; omega)))), h.ap, h.an, h.ae, h.pl, h.kl⟩
  · have := hR k e; have := h.ap k hk; omega
  · have := hR k e; have := h.ae k hk; omega
  · have := hR k e; have := h.an k hk; omega
theorem ss_but {D : Nat} {W W' : World} {b bm : Nat} {f : Value} {bud : Int} {vp ve vn : Value} {ps : List PrT} {es : List EdT} {nn : Nat} {xn : List Value} {y : Nat} {ds : Option (List Deferred)} (h : SS D W b bm f bud vp ve vn ps es nn xn) (o : Only W W' (fun k => k = y)) (hq : W.heap[y]? = some (.deferred ds)) : SS D W' b bm f bud vp ve vn ps es nn xn := by
  have hr : ∀ {B sz n : Nat} {e : TypeId} {v : Value} {xs : List Value}, W.ownsRow B e sz v n xs → ∀ k, v.ownBlock = some k → ¬ k = y := by
    intro B sz n e v xs hv k hk e2
    rcases hv.2 with ⟨e3, _⟩ | ⟨g, cap, cur, e3, _, hg, _⟩
    · rw [e3] at hk; cases hk
    · rw [e3] at hk
      obtain rfl : g = k := by simpa [Value.ownBlock] using hk
      rw [e2, hq] at hg; cases hg
  refine h.onlyR o (fun e => ?_) (fun e => ?_) (hr h.po) (hr h.eo) (hr h.no)
  · have := h.bx; rw [e, hq] at this; cases this
  · obtain ⟨_, ⟨es', ck, q1, _⟩, _⟩ := h.mo
    rw [e, hq] at q1; cases q1
theorem SS.edges {D : Nat} {W : World} {b bm : Nat} {f : Value} {bud : Int} {vp ve vn : Value} {ps : List PrT} {es : List EdT} {nn : Nat} {xn : List Value} (h : SS D W b bm f bud vp ve vn ps es nn xn) (hbD : b < D) {W' : World} {v : Value} {e2 : List EdT} {x2 : List Value} (hW : Only W W' (fun k => ve.ownBlock = some k ∨ vn.ownBlock = some k)) (hv : W'.ownsRow D 50 3 v e2.length (e2.flatMap encE)) (hn : W'.ownsRow D 3 1 vn nn x2) :
    SS D (W'.setCell ⟨b, 4, none⟩ v) b bm f bud vp v vn ps e2 nn x2 ∧ Only W (W'.setCell ⟨b, 4, none⟩ v) (fun k => k = b ∨ ve.ownBlock = some k ∨ vn.ownBlock = some k) := by
  obtain ⟨Dm, hm, hp⟩ := h.mo
  have hbb : b ≠ bm := by
    rintro rfl
    obtain ⟨es, ck, q1, _⟩ := hm
    rw [h.bx] at q1; cases q1
  have hnb : ¬ (ve.ownBlock = some b ∨ vn.ownBlock = some b) := by
    rintro (e | e)
    · have := (h.eo.lt b e).1; omega
    · have := (h.no.lt b e).1; omega
  have b1 := hW.cellK h.bx hnb
  have o2 := only_set W' b 4 v
  have p1 := row_only h.po hW (fun k hk hk2 => by
    rcases hk2 with hk2 | hk2
    · exact rows_differ h.eo h.po (by decide) hk2 hk
    · exact rows_differ h.no h.po (by decide) hk2 hk)
  have m1 := map_only hm hW (fun e => by
    rcases e with e | e
    · exact row_map h.eo hm e
    · exact row_map h.no hm e)
  refine ⟨⟨?_, row_only p1 o2 (fun k hk e => by have := (p1.lt k hk).1; omega), ⟨Dm, map_only m1 o2 (fun e => hbb e.symm), hp⟩, row_only hv o2 (fun k hk e => by have := (hv.lt k hk).1; omega), row_only hn o2 (fun k hk e => by have := (hn.lt k hk).1; omega), h.ok, h.nd⟩, ?_⟩
  · have := heap_setCell_same W' b 4 _ 71 v b1
    simpa using this
  · exact (hW.mono (fun k _ e => .inr e)).andNew o2 (fun k _ e => .inl e)
theorem fo_end {w : World} {D b bm kv x : Nat} {f : Value} {bud : Int} {p q s : Nat} {fl : Bool} {ve : Value} {ps : List PrT} {es : List EdT} {T : List PrT} {k : Nat} {vp vn : Value} {ps' : List PrT} {ns : List Int} {W W8 : World} {v8 : Value} {e8 : List EdT} {x8 : List Value} {D' : Nat} (h : FoK w D b bm kv x f bud p q s fl ve ps es T k vp vn ps' ns W) (hx : w.heap.size + 2 ≤ x) (hD : b < D ∧ bm < D ∧ D ≤ w.heap.size) (s8 : SS D W8 b bm f bud vp v8 vn ps' e8 ns.length x8) (o : Only W W8 (fun k => k = b ∨ ve.ownBlock = some k ∨ vn.ownBlock = some k)) (hq : W.heap[D']? = some (.deferred (some []))) (a8 : ∀ k, v8.ownBlock = some k → ve.ownBlock = some k ∨ W.heap.size ≤ k) :
    SS D W8 b bm f bud vp v8 vn ps' e8 ns.length x8 ∧ W8.heap[w.heap.size + 1]? = some (.cells #[.int .i64 0] 30 (0, 0)) ∧ Only w W8 (fun k => k = b ∨ k = bm ∨ (D ≤ k ∧ k ≠ kv)) ∧ W8.heap[D']? = some (.deferred (some [])) ∧ ∀ k, v8.ownBlock = some k → k ≠ kv := by
  refine ⟨s8, o.cellK h.rb ?_, h.on.trans (o.mono ?_), o.cellK hq ?_, fun k hk => ?_⟩
  · rintro (e | e | e)
    · omega
    · have := h.ae _ e; omega
    · have := h.an _ e; omega
  · rintro k _ (e | e | e)
    · exact .inl e
    · exact .inr (.inr ⟨(h.ss.eo.lt k e).1, (h.ae k e).2⟩)
    · exact .inr (.inr ⟨(h.ss.no.lt k e).1, (h.an k e).2⟩)
  · have hr : ∀ {B sz n : Nat} {e : TypeId} {v : Value} {xs : List Value}, W.ownsRow B e sz v n xs → ¬ v.ownBlock = some D' := by
      intro B sz n e v xs hv hk
      rcases hv.2 with ⟨e3, _⟩ | ⟨g, cap, cur, e3, _, hg, _⟩
      · rw [e3] at hk; cases hk
      · rw [e3] at hk
        obtain rfl : g = D' := by simpa [Value.ownBlock] using hk
        rw [hq] at hg; cases hg
    rintro (e | e | e)
    · have := h.ss.bx; rw [← e, hq] at this; cases this
    · exact hr h.ss.eo e
    · exact hr h.ss.no e
  · rcases a8 k hk with e | e
    · exact (h.ae k e).2
    · have := h.kl; have := h.on.size; omega
theorem RwT.weak {Sf Sg : Nat → Prop} {W : World} {bx B m R : Nat} {Ed : List EdT} {aE : Option Addr} {cE g : Nat} (h : RwT Sf W bx B m R Ed aE cE g) (k : ∀ i, Sf i → Sg i) : RwT Sg W bx B m R Ed aE cE g := ⟨h.hb, h.rw, k _ h.sx, k _ h.sg, fun i o e => k _ (h.se i o e)⟩
/-- What follow leaves. -/
structure FoR (w : World) (D b bm kv : Nat) (f : Value) (bud : Int) (ps : List PrT) (es : List EdT) (T : List PrT) (i s : Nat) (er : Int) (vp ve vn : Value) (ps' : List PrT) (ns : List Int) (nn : Nat) (xn : List Value) (W : World) : Prop where
  eq : metF bud (decide (65536 < es.length)) ps T [] = (er, ps', ns)
  ss : SS D W b bm f bud vp ve vn ps' (if er = 0 then ledL es (i : Int) (s : Int) (riseL ns) else es) nn xn
  on : Only w W (fun k => k = b ∨ k = bm ∨ (D ≤ k ∧ k ≠ kv))
  pl : ps'.length ≤ 4096
  nl : er = 0 → ns.length ≤ 8192
  nv : (∀ k, vp.ownBlock = some k → k ≠ kv) ∧ (∀ k, ve.ownBlock = some k → k ≠ kv) ∧ ∀ k, vn.ownBlock = some k → k ≠ kv
set_option maxRecDepth 100000 in
set_option maxHeartbeats 4000000 in
theorem follow_any (w : World) (D b bm kv b1 b2 B1 B2 m R1 R2 : Nat) (E1 E2 : List EdT) (a1 a2 : Option Addr) (c1 c2 g1 g2 i p q s : Nat) (bud : Int) (vp ve vn : Value) (ps : List PrT) (es : List EdT) (nn : Nat) (xn : List Value)
    (h : Hid (SS D w b bm (.func (.func 39) #[] #[.pointer (some ⟨b1, 0, none⟩), .pointer (some ⟨b2, 0, none⟩)]) bud vp ve vn ps es nn xn)) (hD : Hid (b < D ∧ bm < D ∧ D ≤ w.heap.size)) (hi : i < ps.length) (hpq : Hid (ps[i] = ((p : Int), (q : Int)))) (hps : ps.length ≤ 4096) (hkv : Hid (kv < w.heap.size ∧ (∀ k, vp.ownBlock = some k → k ≠ kv) ∧ (∀ k, ve.ownBlock = some k → k ≠ kv) ∧ ∀ k, vn.ownBlock = some k → k ≠ kv))
    (hR1 : Hid (RwT (fun k => k < D ∧ k ≠ b ∧ k ≠ bm) w b1 B1 m R1 E1 a1 c1 g1)) (hR2 : Hid (RwT (fun k => k < D ∧ k ≠ b ∧ k ≠ bm) w b2 B2 m R2 E2 a2 c2 g2)) (q1 : Hid (RwQ m R1 p s E1)) (q2 : Hid (RwQ m R2 q s E2)) (hT : Hid (∀ t ∈ (trnL (toL (fromL E1 p (s : Int))) (toL (fromL E2 q (s : Int))) (p : Int) (q : Int)), okPr t)) (hN : Hid ((trnL (toL (fromL E1 p (s : Int))) (toL (fromL E2 q (s : Int))) (p : Int) (q : Int)).length ≤ 8192)) (he : es.length ≤ 4000000) :
    Calls Tryz.prog 59 #[.pointer (some ⟨b, 0, none⟩), .int .i64 (i : Int), .int .i64 (s : Int)] w fun e w' => ∃ er vp' ve' vn' ps' ns nn' xn', e = .returned (.int .i64 er) ∧ Hid (FoR w D b bm kv (.func (.func 39) #[] #[.pointer (some ⟨b1, 0, none⟩), .pointer (some ⟨b2, 0, none⟩)]) bud ps es (trnL (toL (fromL E1 p (s : Int))) (toL (fromL E2 q (s : Int))) (p : Int) (q : Int)) i s er vp' ve' vn' ps' ns nn' xn' w') := by
  obtain ⟨W0, hW0⟩ : ∃ W0, (w.alloc (.cells #[.pointer (some ⟨b, 0, none⟩)] 94)).alloc (.cells #[.int .i64 0] 30) = W0 := ⟨_, rfl⟩
  have HD : Hid (Below w.heap.size w W0 ∧ W0.heap[w.heap.size]? = some (.cells #[.pointer (some ⟨b, 0, none⟩)] 94 (0, 0)) ∧ W0.heap[w.heap.size + 1]? = some (.cells #[.int .i64 0] 30 (0, 0)) ∧ W0.heap.size = w.heap.size + 2) := hide (by
    rw [← hW0]
    refine ⟨((Below.refl _ _).alloc (Nat.le_refl _) _).alloc (by simp) _, (Below.heap_alloc _ _ _ (by simp)).trans (World.alloc_heap_new _ _), ?_, by simp⟩
    have := World.alloc_heap_new (w.alloc (.cells #[.pointer (some ⟨b, 0, none⟩)] 94)) (.cells #[.int .i64 0] 30)
    simpa using this)
  have HS0 := hide (h.out.on HD.out.1)
  have k0 : W0.cell? ⟨w.heap.size, 0, none⟩ = some (.pointer (some ⟨b, 0, none⟩)) := cell_of HD.out.2.1 rfl
  have f5 : W0.frozen? ⟨b, 5, none⟩ = false := fz_of HS0.out.bx
  refine (callsIn_wide (n := 9)).1 (callsIn_of_wp_marks Tryz.func59 rfl trivial ?_ rfl)
  simp only [Tryz.ntmps59, List.size_toArray, List.length_cons, List.length_nil, Nat.reduceAdd, Nat.reduceSub, Array.replicate_succ, Array.replicate_zero, List.push_toArray, List.append_toArray, List.nil_append, List.cons_append]
  refine wpIn_wide.2 ?_
  go_upto_region 1 with fail
  go_cut [3] from 10 to 17 (fun v3 W => v3 = .pointer (some ⟨w.heap.size, 0, none⟩) ∧ ∃ v, Hid (SS D W b bm (.func (.func 39) #[] #[.pointer (some ⟨b1, 0, none⟩), .pointer (some ⟨b2, 0, none⟩)]) bud vp ve v ps es 0 [] ∧ Only W0 W (fun k => k = b) ∧ v.ownBlock = vn.ownBlock))
  case first =>
    have HR : Hid (∀ v, W0.ownsRow D 3 1 v 0 [] → v.ownBlock = vn.ownBlock → SS D ((W0.setCell ⟨b, 5, none⟩ v).drew) b bm (.func (.func 39) #[] #[.pointer (some ⟨b1, 0, none⟩), .pointer (some ⟨b2, 0, none⟩)]) bud vp ve v ps es 0 [] ∧ Only W0 ((W0.setCell ⟨b, 5, none⟩ v).drew) (fun k => k = b)) := hide (fun v hv _ => by
      have q := HS0.out.ends hD.out.1 (W' := W0) (v := v) (n2 := 0) (x2 := []) ⟨rfl, rfl, rfl, Nat.le_refl _, fun _ _ _ => rfl⟩ hv
      have o2 := only_set W0 b 5 v
      exact ⟨q.1.on ⟨rfl, rfl, rfl, Nat.le_refl _, fun _ _ => rfl⟩, ⟨o2.os, o2.tape, o2.output, o2.size, o2.block⟩⟩)
    rcases HS0.out.no.2 with ⟨ev, e0⟩ | ⟨gn, cn, cur, ev, r1, r2, r3, r4, r5, r6⟩
    · have k5 : W0.cell? ⟨b, 5, none⟩ = some (.slice none 0 0) := by rw [← ev]; exact cell_of HS0.out.bx rfl
      have HE := hide ev
      clear ev
      go_region
      all_goals
        go_wp2_with fail
        go_meet
        refine ⟨rfl, _, hide ⟨(HR.out _ (World.ownsRow_nil _ _ _ _) (by rw [HE.out])).1, (HR.out _ (World.ownsRow_nil _ _ _ _) (by rw [HE.out])).2, by rw [HE.out]⟩⟩
    · have k5 : W0.cell? ⟨b, 5, none⟩ = some (.slice (some ⟨gn, 0, none⟩) nn cn) := by rw [← ev]; exact cell_of HS0.out.bx rfl
      have HE := hide ev
      have HO : Hid (W0.ownsRow D 3 1 (.slice (some ⟨gn, 0, none⟩) 0 cn) 0 []) := hide ⟨rfl, .inr ⟨gn, cn, cur, rfl, r1, r2, Nat.zero_le _, r4, r5, by simp⟩⟩
      clear ev r1 r2 r3 r4 r5 r6
      go_region
      all_goals
        go_wp2_with fail
        go_meet
        refine ⟨rfl, _, hide ⟨(HR.out _ HO.out (by rw [HE.out]; rfl)).1, (HR.out _ HO.out (by rw [HE.out]; rfl)).2, by rw [HE.out]; rfl⟩⟩
  case rest =>
    obtain ⟨rfl, vn1, H1⟩ := hcut
    rename World => w1
    clear k0 f5 hW0
    have HB1 : Hid (w1.heap[w.heap.size]? = some (.cells #[.pointer (some ⟨b, 0, none⟩)] 94 (0, 0)) ∧ w1.heap[w.heap.size + 1]? = some (.cells #[.int .i64 0] 30 (0, 0)) ∧ w.heap.size + 2 ≤ w1.heap.size ∧ Only w w1 (fun k => k = b ∨ k = bm ∨ (D ≤ k ∧ k ≠ kv))) := hide (by
      have l := hD.out
      have o := H1.out.2.1
      refine ⟨o.cellK HD.out.2.1 (by omega), o.cellK HD.out.2.2.1 (by omega), by have := o.size; have := HD.out.2.2.2; omega, (Only.ofBelow HD.out.1).andNew o (fun k _ e => .inl e)⟩)
    obtain ⟨gp, cp, hvp⟩ : ∃ gp cp, vp = .slice (some ⟨gp, 0, none⟩) ps.length cp := by
      rcases h.out.po.2 with ⟨_, e0⟩ | ⟨g, cap, cur, e, _⟩
      · omega
      · exact ⟨g, cap, e⟩
    have HVP := hide hvp
    have k0 : w1.cell? ⟨w.heap.size, 0, none⟩ = some (.pointer (some ⟨b, 0, none⟩)) := cell_of HB1.out.1 rfl
    have k1 : w1.cell? ⟨b, 0, none⟩ = some (.func (.func 39) #[] #[.pointer (some ⟨b1, 0, none⟩), .pointer (some ⟨b2, 0, none⟩)]) := cell_of H1.out.1.bx rfl
    have k2 : w1.cell? ⟨b, 3, none⟩ = some (.slice (some ⟨gp, 0, none⟩) ps.length cp) := by rw [← hvp]; exact cell_of H1.out.1.bx rfl
    have HP := H1.out.1.po
    rw [hvp] at HP
    have k3 : w1.cell? ⟨gp, i * 2, none⟩ = some (.int .i64 (p : Int)) := by
      have := pr_at HP i hi
      rw [hpq.out] at this
      exact this.1
    have k4 : w1.cell? ⟨gp, i * 2 + 1, none⟩ = some (.int .i64 (q : Int)) := by
      have := pr_at HP i hi
      rw [hpq.out] at this
      exact this.2
    have i0 : (0 : Int) ≤ (i : Int) := by omega
    have i1 : (i : Int) < (ps.length : Int) := by omega
    clear HP hvp
    go_upto_region 2 with fail
    go_cut [30] from 18 to 30 (fun v30 W => v30 = .func (.func 40) #[] #[.pointer (some ⟨b1, 0, none⟩), .pointer (some ⟨w1.heap.size, 0, none⟩), .pointer (some ⟨w1.heap.size + 1, 0, none⟩), .pointer (some ⟨b2, 0, none⟩)] ∧ Hid (Below w1.heap.size w1 W ∧ W.heap[w1.heap.size]? = some (.cells #[.int .i64 (p : Int), .int .i64 (q : Int)] 57 (0, 0)) ∧ W.heap[w1.heap.size + 1]? = some (.cells #[.int .i64 (s : Int)] 3 (0, 0)) ∧ W.heap.size = w1.heap.size + 2))
    case first =>
      have HZ := hide (two_box w1 #[.int .i64 (p : Int), .int .i64 (q : Int)] #[.int .i64 (s : Int)] 57 3)
      go_region_held3 (fun W2 => W2.cell? ⟨w.heap.size, 0, none⟩ = some (.pointer (some ⟨b, 0, none⟩)) ∧ W2.cell? ⟨b, 0, none⟩ = some (.func (.func 39) #[] #[.pointer (some ⟨b1, 0, none⟩), .pointer (some ⟨b2, 0, none⟩)]) ∧ W2.cell? ⟨b, 3, none⟩ = some (.slice (some ⟨gp, 0, none⟩) ps.length cp) ∧ W2.cell? ⟨gp, i * 2, none⟩ = some (.int .i64 (p : Int)) ∧ W2.cell? ⟨gp, i * 2 + 1, none⟩ = some (.int .i64 (q : Int)))
        (first | go_keep | assumption)
        (first | (go_at_call 39; refine (trn1_any (p : Int) (q : Int) (s : Int) b1 b2 _).mono ?_; rintro e w2 ⟨rfl, hw2⟩; subst hw2))
      all_goals
        go_wp2_with fail
        go_meet
        exact ⟨rfl, hide ⟨HZ.out.1.drew, HZ.out.2.1, HZ.out.2.2.1, HZ.out.2.2.2⟩⟩
    case rest =>
      obtain ⟨rfl, H2⟩ := hcut
      rename World => w2
      obtain ⟨T, hTe⟩ : ∃ T, (trnL (toL (fromL E1 p (s : Int))) (toL (fromL E2 q (s : Int))) (p : Int) (q : Int)) = T := ⟨_, rfl⟩
      rw [hTe] at hT hN
      obtain ⟨x, hxe⟩ : ∃ x, w1.heap.size = x := ⟨_, rfl⟩
      have hx : w.heap.size + 2 ≤ x := by have := HB1.out.2.2.1; omega
      have HX1 := hide (show w.heap.size + 2 ≤ w1.heap.size from HB1.out.2.2.1)
      rw [hxe] at H2
      have z2 : w2.heap.size = x + 2 := H2.out.2.2.2
      have HSQ : Hid (SeqL 8 40 #[.pointer (some ⟨b1, 0, none⟩), .pointer (some ⟨x, 0, none⟩), .pointer (some ⟨x + 1, 0, none⟩), .pointer (some ⟨b2, 0, none⟩)] (T.map prV) (KpT (SfF D b bm x)) w2) := hide (by
        have kk : KpT (fun k => k < D ∧ k ≠ b ∧ k ≠ bm) w w2 := (KpT.ofOnly HB1.out.2.2.2 (fun k h1 h2 => by omega)).trans (KpT.ofBelow (by rw [hxe]; exact H2.out.1))
        have := trn_seq 8 (SfF D b bm x) w2 b1 b2 x (x + 1) B1 B2 m R1 R2 E1 E2 a1 a2 c1 c2 g1 g2 p q s (hide ⟨(hR1.out.kp kk).weak (fun k hk => .inl hk), (hR2.out.kp kk).weak (fun k hk => .inl hk), H2.out.2.1, H2.out.2.2.1, .inr (.inl rfl), .inr (.inr rfl)⟩) q1 q2
        rw [hTe] at this
        exact this)
      have HI0 : Hid (FoK w D b bm kv x (.func (.func 39) #[] #[.pointer (some ⟨b1, 0, none⟩), .pointer (some ⟨b2, 0, none⟩)]) bud p q s (decide (65536 < es.length)) ve ps es T 0 vp vn1 ps [] w2) := hide (by
        have d : Below w1.heap.size w1 w2 := by rw [hxe]; exact H2.out.1
        refine ⟨rfl, H1.out.1.on d, blk_on HB1.out.1 d, blk_on HB1.out.2.1 d, H2.out.2.1, H2.out.2.2.1, HB1.out.2.2.2.trans (Only.ofBelow d), fun k hk => ⟨.inl (h.out.po.lt k hk).2, hkv.out.2.1 k hk⟩, fun k hk => ⟨.inl (h.out.no.lt k (by rw [← H1.out.2.2]; exact hk)).2, hkv.out.2.2.2 k (by rw [← H1.out.2.2]; exact hk)⟩, fun k hk => ⟨(h.out.eo.lt k hk).2, hkv.out.2.2.1 k hk⟩, by simp, Nat.le_refl _, hps, hkv.out.1⟩)
      have hDo := hD.out
      have HNL : Hid (∀ k ps' ns', ∀ {vp' vn' : Value} {W : World}, k ≤ T.length → FoK w D b bm kv x (.func (.func 39) #[] #[.pointer (some ⟨b1, 0, none⟩), .pointer (some ⟨b2, 0, none⟩)]) bud p q s (decide (65536 < es.length)) ve ps es T k vp' vn' ps' ns' W → ns'.length ≤ 8192) := hide (fun k ps' ns' vp' vn' W hk H => by
        have h3 := H.le
        have h4 := hN.out
        omega)
      rw [hxe]
      have HTE := hide hTe
      clear k0 k1 k2 k3 k4 H2 H1 HB1 HD HS0 HX1 hxe hTe
      have HZ2 := hide z2
      clear z2
      go_wp2_with fail
      have z2 := HZ2.out
      refine (wpIn_wide (n := 9)).1 ?_
      refine range_leaves (n := 9) (by omega) rfl (enters_of Tryz.func40 (by kernel_rfl) rfl) HSQ.out KpT.trans (fun A B _ d => KpT.ofBelow d) ?kb (Below.refl _ _) (fun k W => ∃ vp' vn' ps' ns', FoK w D b bm kv x (.func (.func 39) #[] #[.pointer (some ⟨b1, 0, none⟩), .pointer (some ⟨b2, 0, none⟩)]) bud p q s (decide (65536 < es.length)) ve ps es T k vp' vn' ps' ns' W) (fun W => ∃ er vp' vn' ps' ns', FoX w D b bm kv x (.func (.func 39) #[] #[.pointer (some ⟨b1, 0, none⟩), .pointer (some ⟨b2, 0, none⟩)]) bud (decide (65536 < es.length)) ve ps es T er vp' vn' ps' ns' W) ?mi ?ip ?mx ?xp ⟨_, _, _, _, HI0.out⟩ (fun v a' W => ∃ bp t, v = prV t ∧ W.heap[bp]? = some (.cells #[.int .i64 t.1, .int .i64 t.2] 57 (0, 0)) ∧ a' = { tmps := #[.pointer (some ⟨b, 0, none⟩), .int .i64 (i : Int), .int .i64 (s : Int), .pointer (some ⟨w.heap.size, 0, none⟩), undef, undef, .pointer (some ⟨w.heap.size + 1, 0, none⟩), .pointer (some ⟨bp, 0, none⟩), undef, undef, u10, u11, u12, u13, u14, u15, u16, u17, u18, u19, u20, u21, u22, u23, u24, u25, u26, u27, u28, u29, .func (.func 40) #[] #[.pointer (some ⟨b1, 0, none⟩), .pointer (some ⟨x, 0, none⟩), .pointer (some ⟨x + 1, 0, none⟩), .pointer (some ⟨b2, 0, none⟩)], .agg #[.int .i64 t.1, .int .i64 t.2], undef, undef, undef, undef, undef, undef, undef, undef, undef, undef, undef, undef, undef, undef, undef, undef, undef, undef, undef, undef, undef, undef, undef, undef, undef, undef, undef, undef, undef, undef, undef, undef, undef, undef, undef, undef], defers := [] }) ?ap ?assign ?body ?done ?stop
      case kb => exact fun W r r' hr => KpT.ofOnly (only_putObj _ _ _) (fun k hs e => by unfold SfF at hs; omega)
      case mi => rintro k A A' ⟨vp', vn', ps', ns', H⟩ d; exact ⟨_, _, _, _, H.below hx hDo d⟩
      case ip => rintro k A r r' ⟨vp', vn', ps', ns', H⟩ hr; exact ⟨_, _, _, _, H.onlyR hx hDo (only_putObj _ _ _) (fun k e => by omega)⟩
      case mx => rintro A A' ⟨er, vp', vn', ps', ns', H⟩ d; exact ⟨_, _, _, _, _, H.onlyR hx hDo (Only.ofBelow (R := fun _ => False) d) (fun _ e => e.elim)⟩
      case xp => rintro A r r' ⟨er, vp', vn', ps', ns', H⟩ hr; exact ⟨_, _, _, _, _, H.onlyR hx hDo (only_putObj _ _ _) (fun k e => by omega)⟩
      case ap =>
        rintro v a' A r r' ⟨bp, t, e1, e2, e3⟩ hr
        refine ⟨bp, t, e1, ?_, e3⟩
        refine (only_putObj _ _ _).cellK e2 (fun e => ?_)
        rw [e] at e2
        rw [e2] at hr
        cases hr
      case assign =>
        intro l v hv W K hK
        obtain ⟨t, _, rfl⟩ := List.mem_map.1 hv
        simp only [prV]
        gi_wp2
        exact hK _ _ ((Below.refl _ _).alloc (Nat.le_refl _) _) ⟨W.heap.size, t, rfl, World.alloc_heap_new _ _, rfl⟩
      case body =>
        rintro l0 k a' W hk ⟨vp', vn', ps', ns', HK0⟩ ⟨bp, t, et, hbp, rfl⟩ hd ⟨r, hr⟩
        have hkT : k < T.length := by simpa using hk
        have ett : T[k] = t := prV_inj (by rw [List.getElem_map] at et; exact et)
        have HK := hide HK0
        have HL := hide (show x + 4 ≤ W.heap.size by have := (Array.getElem?_eq_some_iff.1 hr).1; omega)
        have y0 : W.cell? ⟨w.heap.size, 0, none⟩ = some (.pointer (some ⟨b, 0, none⟩)) := cell_of HK0.sb rfl
        have y1 : W.cell? ⟨bp, 0, none⟩ = some (.int .i64 t.1) := cell_of hbp rfl
        have y2 : W.cell? ⟨bp, 1, none⟩ = some (.int .i64 t.2) := cell_of hbp rfl
        have HTd := hide (show T.drop k = t :: T.drop (k + 1) by rw [List.drop_eq_getElem_cons hkT, ett])
        have HTk := hide ett
        have TMe := meet_u W D b bm (.func (.func 39) #[] #[.pointer (some ⟨b1, 0, none⟩), .pointer (some ⟨b2, 0, none⟩)]) bud (decide (65536 < es.length)) vp' ve vn' ps' es ns' ns'.length (ns'.map (Value.int .i64)) t (hide HK0.ss) (hide (hT.out t (by rw [← ett]; exact List.getElem_mem hkT))) (hide ⟨hDo.1, by have := HK0.on.size; omega⟩) HK0.pl
        have NO := hide (show ∀ y, w.heap.size ≤ y → y < x + 4 → ¬ (y = b ∨ y = bm ∨ vp'.ownBlock = some y) by
          rintro y u1 u2 (e | e | e)
          · omega
          · omega
          · have := HK0.ap y e; omega)
        clear HK0 hbp hd hr et ett hk
        have HZ3 := hide z2
        clear z2
        gi_wp2
        refine ⟨trivial, (CallsIn.inRound l0 (callsIn_wide.2 TMe)).mono ?_⟩
        rintro e W4 (⟨num, vp2, ps2, rfl, HM⟩ | ⟨er, rfl, her, HM⟩)
        · clear TMe y0 y1 y2
          have HSB := hide (HM.out.on.cellK HK.out.sb (NO.out _ (by omega) (by omega)))
          have y0 : W4.cell? ⟨w.heap.size, 0, none⟩ = some (.pointer (some ⟨b, 0, none⟩)) := cell_of HSB.out rfl
          have TF := full_any W4 D b bm (.func (.func 39) #[] #[.pointer (some ⟨b1, 0, none⟩), .pointer (some ⟨b2, 0, none⟩)]) bud vp2 ve vn' ps2 es _ _ (hide HM.out.ss)
          have HMo := hide (HM.out.on.mono (R' := fun k => k = b ∨ k = bm ∨ vp'.ownBlock = some k ∨ vn'.ownBlock = some k) (fun k _ e => by
            rcases e with e | e | e
            · exact .inl e
            · exact .inr (.inl e)
            · exact .inr (.inr (.inl e))))
          by_cases hfl : 65536 < es.length
          · rw [decide_eq_true hfl] at TF
            have HFL := hide hfl
            clear hfl
            gi_wp2
            refine ⟨trivial, (CallsIn.inRound l0 (callsIn_wide.2 TF)).mono ?_⟩
            rintro e W5 ⟨rfl, hw5⟩
            obtain rfl := hw5.symm
            clear hw5
            gi_wp2
            have st := HK.out.step hx hDo HL.out hkT HM.out.ss HMo.out HM.out.ap (fun k hk => .inl hk) (by rw [HTd.out, HM.out.eq, decide_eq_true HFL.out]; rfl) HM.out.sub (by rw [HTk.out]; exact HM.out.mem) (Nat.le_succ _) HM.out.pl
            exact ⟨⟨by rw [HZ3.out]; exact st.2.2.1, by rw [HZ3.out]; exact st.2.2.2⟩, st.2.1, _, _, _, _, st.1⟩
          · rw [decide_eq_false hfl] at TF
            have HFL := hide hfl
            clear hfl
            gi_wp2
            refine ⟨trivial, (CallsIn.inRound l0 (callsIn_wide.2 TF)).mono ?_⟩
            rintro e W5 ⟨rfl, hw5⟩
            obtain rfl := hw5.symm
            clear hw5
            gi_wp2
            obtain ⟨i3, hi3, hz30, hz31, hz32⟩ := info_parts infoP3
            obtain ⟨an, cn, hvn⟩ := own_slice HM.out.ss.no
            have HVN := hide hvn
            have hnl : ns'.length ≤ 8192 := HNL.out k ps' ns' (Nat.le_of_lt hkT) HK.out
            have hbW : b < W4.heap.size := (Array.getElem?_eq_some_iff.1 HM.out.ss.bx).1
            have hwW : w.heap.size < W4.heap.size := (Array.getElem?_eq_some_iff.1 HSB.out).1
            have c5 : W4.cell? ⟨b, 5, none⟩ = some (.slice an ns'.length cn) := by rw [← hvn]; exact cell_of HM.out.ss.bx rfl
            have HOV : Hid (W4.ownsRow D 3 1 (.slice an ns'.length cn) ns'.length (ns'.map (Value.int .i64))) := hide (by rw [← hvn]; exact HM.out.ss.no)
            have yA : (W4.alloc (.cells #[.int .i64 num] 3)).cell? ⟨w.heap.size, 0, none⟩ = some (.pointer (some ⟨b, 0, none⟩)) := (World.cell?_of_block (a := ⟨w.heap.size, 0, none⟩) (Below.heap_alloc _ _ _ hwW)).trans y0
            have cA : (W4.alloc (.cells #[.int .i64 num] 3)).cell? ⟨b, 5, none⟩ = some (.slice an ns'.length cn) := (World.cell?_of_block (a := ⟨b, 5, none⟩) (Below.heap_alloc _ _ _ hbW)).trans c5
            have hDW : D ≤ W4.heap.size := by have := HK.out.on.size; have := HM.out.on.size; omega
            have HS6 := hide (fun (w6 : World) (hg : (W4.alloc (.cells #[.int .i64 num] 3)).drew.grownBy w6 (Value.slice an ns'.length cn).ownBlock) => show w6.cell? ⟨w.heap.size, 0, none⟩ = some (.pointer (some ⟨b, 0, none⟩)) ∧ w6.frozen? ⟨b, 5, none⟩ = false ∧ w6.cell? ⟨b, 5, none⟩ = some (.slice an ns'.length cn) by
              rw [← hvn] at hg
              have q1 : w6.heap[b]? = some (.cells #[(.func (.func 39) #[] #[.pointer (some ⟨b1, 0, none⟩), .pointer (some ⟨b2, 0, none⟩)]), .int .i64 bud, .map (some bm), vp2, ve, vn'] 71 (0, 0)) := (hg.block b (by simp; omega) (fun e => by have := (HM.out.ss.no.lt b e.symm).1; omega)).trans ((Below.heap_alloc _ _ b hbW).trans HM.out.ss.bx)
              have q2 : w6.heap[w.heap.size]? = some (.cells #[.pointer (some ⟨b, 0, none⟩)] 94 (0, 0)) := (hg.block _ (by simp; omega) (fun e => by have := HK.out.an _ e.symm; omega)).trans ((Below.heap_alloc _ _ _ hwW).trans HSB.out)
              exact ⟨cell_of q2 rfl, by simp [World.frozen?, q1], by rw [← hvn]; exact cell_of q1 rfl⟩)
            have FIN := hide (fun (gg cap2 : Nat) (w6 : World) (HF : Hid (w6.ownsRow D 3 1 (.slice (some ⟨gg, 0, none⟩) (ns'.length + 1) cap2) (ns'.length + 1) (ns'.map (Value.int .i64) ++ [Value.int .i64 num]) ∧ (W4.alloc (.cells #[.int .i64 num] 3)).drew.grownBy w6 (Value.slice an ns'.length cn).ownBlock ∧ ((Value.slice an ns'.length cn).ownBlock = some gg ∨ gg = W4.heap.size + 1))) =>
              show ((w6.setCell ⟨b, 5, none⟩ (.slice (some ⟨gg, 0, none⟩) (ns'.length + 1) cap2)).heap[w2.heap.size]? = W.heap[w2.heap.size]? ∧ (w6.setCell ⟨b, 5, none⟩ (.slice (some ⟨gg, 0, none⟩) (ns'.length + 1) cap2)).heap[w2.heap.size + 1]? = W.heap[w2.heap.size + 1]?) ∧ KpT (SfF D b bm x) W (w6.setCell ⟨b, 5, none⟩ (.slice (some ⟨gg, 0, none⟩) (ns'.length + 1) cap2)) ∧ ∃ vpA vnA psA nsA, FoK w D b bm kv x (.func (.func 39) #[] #[.pointer (some ⟨b1, 0, none⟩), .pointer (some ⟨b2, 0, none⟩)]) bud p q s (decide (65536 < es.length)) ve ps es T (k + 1) vpA vnA psA nsA (w6.setCell ⟨b, 5, none⟩ (.slice (some ⟨gg, 0, none⟩) (ns'.length + 1) cap2)) by
              obtain ⟨ho, hg, hat⟩ := HF.out
              rw [← HVN.out] at hg hat
              have d : Below W4.heap.size W4 (W4.alloc (.cells #[.int .i64 num] 3)).drew := ((Below.refl _ _).alloc (Nat.le_refl _) _).drew
              obtain ⟨s7, o7⟩ := (HM.out.ss.on d).ends hDo.1 (W' := w6) (grown_only hg) ho
              have e2 : ns'.map (Value.int .i64) ++ [Value.int .i64 num] = (ns' ++ [num]).map (Value.int .i64) := by simp
              have e5 : ns'.length + 1 = (ns' ++ [num]).length := by simp
              have s8 : SS D (w6.setCell ⟨b, 5, none⟩ (.slice (some ⟨gg, 0, none⟩) (ns'.length + 1) cap2)) b bm (.func (.func 39) #[] #[.pointer (some ⟨b1, 0, none⟩), .pointer (some ⟨b2, 0, none⟩)]) bud vp2 ve (.slice (some ⟨gg, 0, none⟩) (ns'.length + 1) cap2) ps2 es (ns' ++ [num]).length ((ns' ++ [num]).map (Value.int .i64)) := by rw [← e2, ← e5]; exact s7
              have st := HK.out.step (ns2 := ns' ++ [num]) hx hDo HL.out hkT s8 ((HMo.out.trans (Only.ofBelow d)).andNew o7 (fun y _ e => by
                rcases e with e | e
                · exact .inl e
                · exact .inr (.inr (.inr e)))) HM.out.ap (fun y hy => by
                have e3 : gg = y := by simpa [Value.ownBlock] using hy
                subst e3
                rcases hat with e | e
                · exact .inl e
                · right; have := HM.out.on.size; omega) (by rw [HTd.out, HM.out.eq, decide_eq_false HFL.out]; rfl) HM.out.sub (by rw [HTk.out]; exact HM.out.mem) (by simp) HM.out.pl
              exact ⟨⟨by rw [HZ3.out]; exact st.2.2.1, by rw [HZ3.out]; exact st.2.2.2⟩, st.2.1, _, _, _, _, st.1⟩)
            clear hvn
            refine wpIn_region_of_any (by kernel_rfl) (noDefer_at (by kernel_rfl)) ?_
            refine wpAny_take (i := 5) (v := .int .i64 num) rfl (by kernel_rfl) (by kernel_rfl) (by kernel_rfl) (fun _ _ _ h => h) (Or.inl ⟨by rfl, fun _ => by go_simp⟩) ?_
            refine wpAny_ready (rs := [0, 1, 6]) (by kernel_rfl) (by simp) ?_
            refine AllReady.cons rfl (fun K hK => ?_) ?_
            · go_simp
              refine hK _ _ ?_
              clear hK K
              refine wpAny_ready (rs := [1, 6]) (by kernel_rfl) (by simp) ?_
              refine AllReady.cons rfl (fun K hK => ?_) ?_
              · go_simp
                refine hK _ _ ?_
                clear hK K
                refine wpAny_take (i := 2) (v := .pointer (some ⟨b, 0, none⟩)) rfl (by kernel_rfl) (by kernel_rfl) (by kernel_rfl) (fun _ _ _ h => h) (Or.inl ⟨by rfl, fun _ => by go_simp⟩) ?_
                refine wpAny_take (i := 3) (v := .pointer (some ⟨b, 5, none⟩)) rfl (by kernel_rfl) (by kernel_rfl) (by kernel_rfl) (fun _ _ _ h => h) (Or.inl ⟨by rfl, fun _ => by go_simp⟩) ?_
                refine wpAny_ready (rs := [4, 6]) (by kernel_rfl) (by simp) ?_
                refine AllReady.cons rfl (fun K hK => ?_) ?_
                · go_simp
                  refine hK _ _ ?_
                  clear hK K
                  refine wpAny_ready (rs := [6]) (by kernel_rfl) (by simp) ?_
                  refine AllReady.cons rfl (fun K hK => ?_) ?_
                  · go_simp
                    refine hK _ _ ?_
                    clear hK K
                    refine wpAny_ready (rs := [7]) (by kernel_rfl) (by simp) ?_
                    refine AllReady.cons rfl (fun K hK => ?_) ?_
                    · (refine step_append_lies _ (by rfl) _ _ _ (by rfl) D 3 i3 _ 1 8 Tryz.underlying22 hi3 hz30 hz31 hz32 rfl (by omega) (.slice an ns'.length cn) ns'.length (ns'.map (Value.int .i64)) (by rfl) (by exact HOV.out.alloc _) ⟨W4.heap.size, 0, none⟩ 1 1 ([Value.int .i64 num]) (by rfl) (by rfl) (by exact one_new W4 num) (by intro u hu; rw [List.mem_singleton.1 hu]; rfl) (by omega) (by unfold maxLen; omega) (by omega) (by simp; omega) (W4.heap.size + 1) (by simp) ?_; intro gg cap2 w6 hown6 hgr6 hat hlt; have S6 := (HS6.out w6 hgr6).1; have F6 := (HS6.out w6 hgr6).2.1; have C6 := (HS6.out w6 hgr6).2.2; have HF := hide (And.intro hown6 (And.intro hgr6 hat)); clear hown6 hgr6 hat)
                      try go_simp
                      refine hK _ _ ?_
                      clear hK K
                      refine wpAny_take (i := 8) (v := .pointer (some ⟨b, 0, none⟩)) rfl (by kernel_rfl) (by kernel_rfl) (by kernel_rfl) (fun _ _ _ h => h) (Or.inl ⟨by rfl, fun _ => by go_simp⟩) ?_
                      refine wpAny_take (i := 9) (v := .pointer (some ⟨b, 5, none⟩)) rfl (by kernel_rfl) (by kernel_rfl) (by kernel_rfl) (fun _ _ _ h => h) (Or.inl ⟨by rfl, fun _ => by go_simp⟩) ?_
                      refine wpAny_ready (rs := [10]) (by kernel_rfl) (by simp) ?_
                      refine AllReady.cons rfl (fun K hK => ?_) ?_
                      · go_simp
                        refine hK _ _ ?_
                        clear hK K
                        refine wpAny_done (by kernel_rfl) ?_ _
                        exact FIN.out _ _ _ HF
                      exact AllReady.nil
                    exact AllReady.nil
                  exact AllReady.nil
                refine AllReady.cons rfl (fun K hK => ?_) ?_
                · go_simp
                  refine hK _ _ ?_
                  clear hK K
                  refine wpAny_ready (rs := [4]) (by kernel_rfl) (by simp) ?_
                  refine AllReady.cons rfl (fun K hK => ?_) ?_
                  · go_simp
                    refine hK _ _ ?_
                    clear hK K
                    refine wpAny_ready (rs := [7]) (by kernel_rfl) (by simp) ?_
                    refine AllReady.cons rfl (fun K hK => ?_) ?_
                    · (refine step_append_lies _ (by rfl) _ _ _ (by rfl) D 3 i3 _ 1 8 Tryz.underlying22 hi3 hz30 hz31 hz32 rfl (by omega) (.slice an ns'.length cn) ns'.length (ns'.map (Value.int .i64)) (by rfl) (by exact HOV.out.alloc _) ⟨W4.heap.size, 0, none⟩ 1 1 ([Value.int .i64 num]) (by rfl) (by rfl) (by exact one_new W4 num) (by intro u hu; rw [List.mem_singleton.1 hu]; rfl) (by omega) (by unfold maxLen; omega) (by omega) (by simp; omega) (W4.heap.size + 1) (by simp) ?_; intro gg cap2 w6 hown6 hgr6 hat hlt; have S6 := (HS6.out w6 hgr6).1; have F6 := (HS6.out w6 hgr6).2.1; have C6 := (HS6.out w6 hgr6).2.2; have HF := hide (And.intro hown6 (And.intro hgr6 hat)); clear hown6 hgr6 hat)
                      try go_simp
                      refine hK _ _ ?_
                      clear hK K
                      refine wpAny_take (i := 8) (v := .pointer (some ⟨b, 0, none⟩)) rfl (by kernel_rfl) (by kernel_rfl) (by kernel_rfl) (fun _ _ _ h => h) (Or.inl ⟨by rfl, fun _ => by go_simp⟩) ?_
                      refine wpAny_take (i := 9) (v := .pointer (some ⟨b, 5, none⟩)) rfl (by kernel_rfl) (by kernel_rfl) (by kernel_rfl) (fun _ _ _ h => h) (Or.inl ⟨by rfl, fun _ => by go_simp⟩) ?_
                      refine wpAny_ready (rs := [10]) (by kernel_rfl) (by simp) ?_
                      refine AllReady.cons rfl (fun K hK => ?_) ?_
                      · go_simp
                        refine hK _ _ ?_
                        clear hK K
                        refine wpAny_done (by kernel_rfl) ?_ _
                        exact FIN.out _ _ _ HF
                      exact AllReady.nil
                    exact AllReady.nil
                  exact AllReady.nil
                exact AllReady.nil
              refine AllReady.cons rfl (fun K hK => ?_) ?_
              · go_simp
                refine hK _ _ ?_
                clear hK K
                refine wpAny_ready (rs := [1]) (by kernel_rfl) (by simp) ?_
                refine AllReady.cons rfl (fun K hK => ?_) ?_
                · go_simp
                  refine hK _ _ ?_
                  clear hK K
                  refine wpAny_take (i := 2) (v := .pointer (some ⟨b, 0, none⟩)) rfl (by kernel_rfl) (by kernel_rfl) (by kernel_rfl) (fun _ _ _ h => h) (Or.inl ⟨by rfl, fun _ => by go_simp⟩) ?_
                  refine wpAny_take (i := 3) (v := .pointer (some ⟨b, 5, none⟩)) rfl (by kernel_rfl) (by kernel_rfl) (by kernel_rfl) (fun _ _ _ h => h) (Or.inl ⟨by rfl, fun _ => by go_simp⟩) ?_
                  refine wpAny_ready (rs := [4]) (by kernel_rfl) (by simp) ?_
                  refine AllReady.cons rfl (fun K hK => ?_) ?_
                  · go_simp
                    refine hK _ _ ?_
                    clear hK K
                    refine wpAny_ready (rs := [7]) (by kernel_rfl) (by simp) ?_
                    refine AllReady.cons rfl (fun K hK => ?_) ?_
                    · (refine step_append_lies _ (by rfl) _ _ _ (by rfl) D 3 i3 _ 1 8 Tryz.underlying22 hi3 hz30 hz31 hz32 rfl (by omega) (.slice an ns'.length cn) ns'.length (ns'.map (Value.int .i64)) (by rfl) (by exact HOV.out.alloc _) ⟨W4.heap.size, 0, none⟩ 1 1 ([Value.int .i64 num]) (by rfl) (by rfl) (by exact one_new W4 num) (by intro u hu; rw [List.mem_singleton.1 hu]; rfl) (by omega) (by unfold maxLen; omega) (by omega) (by simp; omega) (W4.heap.size + 1) (by simp) ?_; intro gg cap2 w6 hown6 hgr6 hat hlt; have S6 := (HS6.out w6 hgr6).1; have F6 := (HS6.out w6 hgr6).2.1; have C6 := (HS6.out w6 hgr6).2.2; have HF := hide (And.intro hown6 (And.intro hgr6 hat)); clear hown6 hgr6 hat)
                      try go_simp
                      refine hK _ _ ?_
                      clear hK K
                      refine wpAny_take (i := 8) (v := .pointer (some ⟨b, 0, none⟩)) rfl (by kernel_rfl) (by kernel_rfl) (by kernel_rfl) (fun _ _ _ h => h) (Or.inl ⟨by rfl, fun _ => by go_simp⟩) ?_
                      refine wpAny_take (i := 9) (v := .pointer (some ⟨b, 5, none⟩)) rfl (by kernel_rfl) (by kernel_rfl) (by kernel_rfl) (fun _ _ _ h => h) (Or.inl ⟨by rfl, fun _ => by go_simp⟩) ?_
                      refine wpAny_ready (rs := [10]) (by kernel_rfl) (by simp) ?_
                      refine AllReady.cons rfl (fun K hK => ?_) ?_
                      · go_simp
                        refine hK _ _ ?_
                        clear hK K
                        refine wpAny_done (by kernel_rfl) ?_ _
                        exact FIN.out _ _ _ HF
                      exact AllReady.nil
                    exact AllReady.nil
                  exact AllReady.nil
                exact AllReady.nil
              exact AllReady.nil
            refine AllReady.cons rfl (fun K hK => ?_) ?_
            · go_simp
              refine hK _ _ ?_
              clear hK K
              refine wpAny_take (i := 2) (v := .pointer (some ⟨b, 0, none⟩)) rfl (by kernel_rfl) (by kernel_rfl) (by kernel_rfl) (fun _ _ _ h => h) (Or.inl ⟨by rfl, fun _ => by go_simp⟩) ?_
              refine wpAny_take (i := 3) (v := .pointer (some ⟨b, 5, none⟩)) rfl (by kernel_rfl) (by kernel_rfl) (by kernel_rfl) (fun _ _ _ h => h) (Or.inl ⟨by rfl, fun _ => by go_simp⟩) ?_
              refine wpAny_ready (rs := [0, 4, 6]) (by kernel_rfl) (by simp) ?_
              refine AllReady.cons rfl (fun K hK => ?_) ?_
              · go_simp
                refine hK _ _ ?_
                clear hK K
                refine wpAny_ready (rs := [4, 6]) (by kernel_rfl) (by simp) ?_
                refine AllReady.cons rfl (fun K hK => ?_) ?_
                · go_simp
                  refine hK _ _ ?_
                  clear hK K
                  refine wpAny_ready (rs := [6]) (by kernel_rfl) (by simp) ?_
                  refine AllReady.cons rfl (fun K hK => ?_) ?_
                  · go_simp
                    refine hK _ _ ?_
                    clear hK K
                    refine wpAny_ready (rs := [7]) (by kernel_rfl) (by simp) ?_
                    refine AllReady.cons rfl (fun K hK => ?_) ?_
                    · (refine step_append_lies _ (by rfl) _ _ _ (by rfl) D 3 i3 _ 1 8 Tryz.underlying22 hi3 hz30 hz31 hz32 rfl (by omega) (.slice an ns'.length cn) ns'.length (ns'.map (Value.int .i64)) (by rfl) (by exact HOV.out.alloc _) ⟨W4.heap.size, 0, none⟩ 1 1 ([Value.int .i64 num]) (by rfl) (by rfl) (by exact one_new W4 num) (by intro u hu; rw [List.mem_singleton.1 hu]; rfl) (by omega) (by unfold maxLen; omega) (by omega) (by simp; omega) (W4.heap.size + 1) (by simp) ?_; intro gg cap2 w6 hown6 hgr6 hat hlt; have S6 := (HS6.out w6 hgr6).1; have F6 := (HS6.out w6 hgr6).2.1; have C6 := (HS6.out w6 hgr6).2.2; have HF := hide (And.intro hown6 (And.intro hgr6 hat)); clear hown6 hgr6 hat)
                      try go_simp
                      refine hK _ _ ?_
                      clear hK K
                      refine wpAny_take (i := 8) (v := .pointer (some ⟨b, 0, none⟩)) rfl (by kernel_rfl) (by kernel_rfl) (by kernel_rfl) (fun _ _ _ h => h) (Or.inl ⟨by rfl, fun _ => by go_simp⟩) ?_
                      refine wpAny_take (i := 9) (v := .pointer (some ⟨b, 5, none⟩)) rfl (by kernel_rfl) (by kernel_rfl) (by kernel_rfl) (fun _ _ _ h => h) (Or.inl ⟨by rfl, fun _ => by go_simp⟩) ?_
                      refine wpAny_ready (rs := [10]) (by kernel_rfl) (by simp) ?_
                      refine AllReady.cons rfl (fun K hK => ?_) ?_
                      · go_simp
                        refine hK _ _ ?_
                        clear hK K
                        refine wpAny_done (by kernel_rfl) ?_ _
                        exact FIN.out _ _ _ HF
                      exact AllReady.nil
                    exact AllReady.nil
                  exact AllReady.nil
                refine AllReady.cons rfl (fun K hK => ?_) ?_
                · go_simp
                  refine hK _ _ ?_
                  clear hK K
                  refine wpAny_ready (rs := [4]) (by kernel_rfl) (by simp) ?_
                  refine AllReady.cons rfl (fun K hK => ?_) ?_
                  · go_simp
                    refine hK _ _ ?_
                    clear hK K
                    refine wpAny_ready (rs := [7]) (by kernel_rfl) (by simp) ?_
                    refine AllReady.cons rfl (fun K hK => ?_) ?_
                    · (refine step_append_lies _ (by rfl) _ _ _ (by rfl) D 3 i3 _ 1 8 Tryz.underlying22 hi3 hz30 hz31 hz32 rfl (by omega) (.slice an ns'.length cn) ns'.length (ns'.map (Value.int .i64)) (by rfl) (by exact HOV.out.alloc _) ⟨W4.heap.size, 0, none⟩ 1 1 ([Value.int .i64 num]) (by rfl) (by rfl) (by exact one_new W4 num) (by intro u hu; rw [List.mem_singleton.1 hu]; rfl) (by omega) (by unfold maxLen; omega) (by omega) (by simp; omega) (W4.heap.size + 1) (by simp) ?_; intro gg cap2 w6 hown6 hgr6 hat hlt; have S6 := (HS6.out w6 hgr6).1; have F6 := (HS6.out w6 hgr6).2.1; have C6 := (HS6.out w6 hgr6).2.2; have HF := hide (And.intro hown6 (And.intro hgr6 hat)); clear hown6 hgr6 hat)
                      try go_simp
                      refine hK _ _ ?_
                      clear hK K
                      refine wpAny_take (i := 8) (v := .pointer (some ⟨b, 0, none⟩)) rfl (by kernel_rfl) (by kernel_rfl) (by kernel_rfl) (fun _ _ _ h => h) (Or.inl ⟨by rfl, fun _ => by go_simp⟩) ?_
                      refine wpAny_take (i := 9) (v := .pointer (some ⟨b, 5, none⟩)) rfl (by kernel_rfl) (by kernel_rfl) (by kernel_rfl) (fun _ _ _ h => h) (Or.inl ⟨by rfl, fun _ => by go_simp⟩) ?_
                      refine wpAny_ready (rs := [10]) (by kernel_rfl) (by simp) ?_
                      refine AllReady.cons rfl (fun K hK => ?_) ?_
                      · go_simp
                        refine hK _ _ ?_
                        clear hK K
                        refine wpAny_done (by kernel_rfl) ?_ _
                        exact FIN.out _ _ _ HF
                      exact AllReady.nil
                    exact AllReady.nil
                  exact AllReady.nil
                exact AllReady.nil
              refine AllReady.cons rfl (fun K hK => ?_) ?_
              · go_simp
                refine hK _ _ ?_
                clear hK K
                refine wpAny_ready (rs := [0, 6]) (by kernel_rfl) (by simp) ?_
                refine AllReady.cons rfl (fun K hK => ?_) ?_
                · go_simp
                  refine hK _ _ ?_
                  clear hK K
                  refine wpAny_ready (rs := [6]) (by kernel_rfl) (by simp) ?_
                  refine AllReady.cons rfl (fun K hK => ?_) ?_
                  · go_simp
                    refine hK _ _ ?_
                    clear hK K
                    refine wpAny_ready (rs := [7]) (by kernel_rfl) (by simp) ?_
                    refine AllReady.cons rfl (fun K hK => ?_) ?_
                    · (refine step_append_lies _ (by rfl) _ _ _ (by rfl) D 3 i3 _ 1 8 Tryz.underlying22 hi3 hz30 hz31 hz32 rfl (by omega) (.slice an ns'.length cn) ns'.length (ns'.map (Value.int .i64)) (by rfl) (by exact HOV.out.alloc _) ⟨W4.heap.size, 0, none⟩ 1 1 ([Value.int .i64 num]) (by rfl) (by rfl) (by exact one_new W4 num) (by intro u hu; rw [List.mem_singleton.1 hu]; rfl) (by omega) (by unfold maxLen; omega) (by omega) (by simp; omega) (W4.heap.size + 1) (by simp) ?_; intro gg cap2 w6 hown6 hgr6 hat hlt; have S6 := (HS6.out w6 hgr6).1; have F6 := (HS6.out w6 hgr6).2.1; have C6 := (HS6.out w6 hgr6).2.2; have HF := hide (And.intro hown6 (And.intro hgr6 hat)); clear hown6 hgr6 hat)
                      try go_simp
                      refine hK _ _ ?_
                      clear hK K
                      refine wpAny_take (i := 8) (v := .pointer (some ⟨b, 0, none⟩)) rfl (by kernel_rfl) (by kernel_rfl) (by kernel_rfl) (fun _ _ _ h => h) (Or.inl ⟨by rfl, fun _ => by go_simp⟩) ?_
                      refine wpAny_take (i := 9) (v := .pointer (some ⟨b, 5, none⟩)) rfl (by kernel_rfl) (by kernel_rfl) (by kernel_rfl) (fun _ _ _ h => h) (Or.inl ⟨by rfl, fun _ => by go_simp⟩) ?_
                      refine wpAny_ready (rs := [10]) (by kernel_rfl) (by simp) ?_
                      refine AllReady.cons rfl (fun K hK => ?_) ?_
                      · go_simp
                        refine hK _ _ ?_
                        clear hK K
                        refine wpAny_done (by kernel_rfl) ?_ _
                        exact FIN.out _ _ _ HF
                      exact AllReady.nil
                    exact AllReady.nil
                  exact AllReady.nil
                refine AllReady.cons rfl (fun K hK => ?_) ?_
                · go_simp
                  refine hK _ _ ?_
                  clear hK K
                  refine wpAny_ready (rs := [0, 7]) (by kernel_rfl) (by simp) ?_
                  refine AllReady.cons rfl (fun K hK => ?_) ?_
                  · go_simp
                    refine hK _ _ ?_
                    clear hK K
                    refine wpAny_ready (rs := [7]) (by kernel_rfl) (by simp) ?_
                    refine AllReady.cons rfl (fun K hK => ?_) ?_
                    · (refine step_append_lies _ (by rfl) _ _ _ (by rfl) D 3 i3 _ 1 8 Tryz.underlying22 hi3 hz30 hz31 hz32 rfl (by omega) (.slice an ns'.length cn) ns'.length (ns'.map (Value.int .i64)) (by rfl) (by exact HOV.out.alloc _) ⟨W4.heap.size, 0, none⟩ 1 1 ([Value.int .i64 num]) (by rfl) (by rfl) (by exact one_new W4 num) (by intro u hu; rw [List.mem_singleton.1 hu]; rfl) (by omega) (by unfold maxLen; omega) (by omega) (by simp; omega) (W4.heap.size + 1) (by simp) ?_; intro gg cap2 w6 hown6 hgr6 hat hlt; have S6 := (HS6.out w6 hgr6).1; have F6 := (HS6.out w6 hgr6).2.1; have C6 := (HS6.out w6 hgr6).2.2; have HF := hide (And.intro hown6 (And.intro hgr6 hat)); clear hown6 hgr6 hat)
                      try go_simp
                      refine hK _ _ ?_
                      clear hK K
                      refine wpAny_take (i := 8) (v := .pointer (some ⟨b, 0, none⟩)) rfl (by kernel_rfl) (by kernel_rfl) (by kernel_rfl) (fun _ _ _ h => h) (Or.inl ⟨by rfl, fun _ => by go_simp⟩) ?_
                      refine wpAny_take (i := 9) (v := .pointer (some ⟨b, 5, none⟩)) rfl (by kernel_rfl) (by kernel_rfl) (by kernel_rfl) (fun _ _ _ h => h) (Or.inl ⟨by rfl, fun _ => by go_simp⟩) ?_
                      refine wpAny_ready (rs := [10]) (by kernel_rfl) (by simp) ?_
                      refine AllReady.cons rfl (fun K hK => ?_) ?_
                      · go_simp
                        refine hK _ _ ?_
                        clear hK K
                        refine wpAny_done (by kernel_rfl) ?_ _
                        exact FIN.out _ _ _ HF
                      exact AllReady.nil
                    exact AllReady.nil
                  refine AllReady.cons rfl (fun K hK => ?_) ?_
                  · (refine step_append_lies _ (by rfl) _ _ _ (by rfl) D 3 i3 _ 1 8 Tryz.underlying22 hi3 hz30 hz31 hz32 rfl (by omega) (.slice an ns'.length cn) ns'.length (ns'.map (Value.int .i64)) (by rfl) (by exact HOV.out.alloc _) ⟨W4.heap.size, 0, none⟩ 1 1 ([Value.int .i64 num]) (by rfl) (by rfl) (by exact one_new W4 num) (by intro u hu; rw [List.mem_singleton.1 hu]; rfl) (by omega) (by unfold maxLen; omega) (by omega) (by simp; omega) (W4.heap.size + 1) (by simp) ?_; intro gg cap2 w6 hown6 hgr6 hat hlt; have S6 := (HS6.out w6 hgr6).1; have F6 := (HS6.out w6 hgr6).2.1; have C6 := (HS6.out w6 hgr6).2.2; have HF := hide (And.intro hown6 (And.intro hgr6 hat)); clear hown6 hgr6 hat)
                    try go_simp
                    refine hK _ _ ?_
                    clear hK K
                    refine wpAny_ready (rs := [0]) (by kernel_rfl) (by simp) ?_
                    refine AllReady.cons rfl (fun K hK => ?_) ?_
                    · go_simp
                      refine hK _ _ ?_
                      clear hK K
                      refine wpAny_take (i := 8) (v := .pointer (some ⟨b, 0, none⟩)) rfl (by kernel_rfl) (by kernel_rfl) (by kernel_rfl) (fun _ _ _ h => h) (Or.inl ⟨by rfl, fun _ => by go_simp⟩) ?_
                      refine wpAny_take (i := 9) (v := .pointer (some ⟨b, 5, none⟩)) rfl (by kernel_rfl) (by kernel_rfl) (by kernel_rfl) (fun _ _ _ h => h) (Or.inl ⟨by rfl, fun _ => by go_simp⟩) ?_
                      refine wpAny_ready (rs := [10]) (by kernel_rfl) (by simp) ?_
                      refine AllReady.cons rfl (fun K hK => ?_) ?_
                      · go_simp
                        refine hK _ _ ?_
                        clear hK K
                        refine wpAny_done (by kernel_rfl) ?_ _
                        exact FIN.out _ _ _ HF
                      exact AllReady.nil
                    exact AllReady.nil
                  exact AllReady.nil
                exact AllReady.nil
              refine AllReady.cons rfl (fun K hK => ?_) ?_
              · go_simp
                refine hK _ _ ?_
                clear hK K
                refine wpAny_ready (rs := [0, 4]) (by kernel_rfl) (by simp) ?_
                refine AllReady.cons rfl (fun K hK => ?_) ?_
                · go_simp
                  refine hK _ _ ?_
                  clear hK K
                  refine wpAny_ready (rs := [4]) (by kernel_rfl) (by simp) ?_
                  refine AllReady.cons rfl (fun K hK => ?_) ?_
                  · go_simp
                    refine hK _ _ ?_
                    clear hK K
                    refine wpAny_ready (rs := [7]) (by kernel_rfl) (by simp) ?_
                    refine AllReady.cons rfl (fun K hK => ?_) ?_
                    · (refine step_append_lies _ (by rfl) _ _ _ (by rfl) D 3 i3 _ 1 8 Tryz.underlying22 hi3 hz30 hz31 hz32 rfl (by omega) (.slice an ns'.length cn) ns'.length (ns'.map (Value.int .i64)) (by rfl) (by exact HOV.out.alloc _) ⟨W4.heap.size, 0, none⟩ 1 1 ([Value.int .i64 num]) (by rfl) (by rfl) (by exact one_new W4 num) (by intro u hu; rw [List.mem_singleton.1 hu]; rfl) (by omega) (by unfold maxLen; omega) (by omega) (by simp; omega) (W4.heap.size + 1) (by simp) ?_; intro gg cap2 w6 hown6 hgr6 hat hlt; have S6 := (HS6.out w6 hgr6).1; have F6 := (HS6.out w6 hgr6).2.1; have C6 := (HS6.out w6 hgr6).2.2; have HF := hide (And.intro hown6 (And.intro hgr6 hat)); clear hown6 hgr6 hat)
                      try go_simp
                      refine hK _ _ ?_
                      clear hK K
                      refine wpAny_take (i := 8) (v := .pointer (some ⟨b, 0, none⟩)) rfl (by kernel_rfl) (by kernel_rfl) (by kernel_rfl) (fun _ _ _ h => h) (Or.inl ⟨by rfl, fun _ => by go_simp⟩) ?_
                      refine wpAny_take (i := 9) (v := .pointer (some ⟨b, 5, none⟩)) rfl (by kernel_rfl) (by kernel_rfl) (by kernel_rfl) (fun _ _ _ h => h) (Or.inl ⟨by rfl, fun _ => by go_simp⟩) ?_
                      refine wpAny_ready (rs := [10]) (by kernel_rfl) (by simp) ?_
                      refine AllReady.cons rfl (fun K hK => ?_) ?_
                      · go_simp
                        refine hK _ _ ?_
                        clear hK K
                        refine wpAny_done (by kernel_rfl) ?_ _
                        exact FIN.out _ _ _ HF
                      exact AllReady.nil
                    exact AllReady.nil
                  exact AllReady.nil
                refine AllReady.cons rfl (fun K hK => ?_) ?_
                · go_simp
                  refine hK _ _ ?_
                  clear hK K
                  refine wpAny_ready (rs := [0, 7]) (by kernel_rfl) (by simp) ?_
                  refine AllReady.cons rfl (fun K hK => ?_) ?_
                  · go_simp
                    refine hK _ _ ?_
                    clear hK K
                    refine wpAny_ready (rs := [7]) (by kernel_rfl) (by simp) ?_
                    refine AllReady.cons rfl (fun K hK => ?_) ?_
                    · (refine step_append_lies _ (by rfl) _ _ _ (by rfl) D 3 i3 _ 1 8 Tryz.underlying22 hi3 hz30 hz31 hz32 rfl (by omega) (.slice an ns'.length cn) ns'.length (ns'.map (Value.int .i64)) (by rfl) (by exact HOV.out.alloc _) ⟨W4.heap.size, 0, none⟩ 1 1 ([Value.int .i64 num]) (by rfl) (by rfl) (by exact one_new W4 num) (by intro u hu; rw [List.mem_singleton.1 hu]; rfl) (by omega) (by unfold maxLen; omega) (by omega) (by simp; omega) (W4.heap.size + 1) (by simp) ?_; intro gg cap2 w6 hown6 hgr6 hat hlt; have S6 := (HS6.out w6 hgr6).1; have F6 := (HS6.out w6 hgr6).2.1; have C6 := (HS6.out w6 hgr6).2.2; have HF := hide (And.intro hown6 (And.intro hgr6 hat)); clear hown6 hgr6 hat)
                      try go_simp
                      refine hK _ _ ?_
                      clear hK K
                      refine wpAny_take (i := 8) (v := .pointer (some ⟨b, 0, none⟩)) rfl (by kernel_rfl) (by kernel_rfl) (by kernel_rfl) (fun _ _ _ h => h) (Or.inl ⟨by rfl, fun _ => by go_simp⟩) ?_
                      refine wpAny_take (i := 9) (v := .pointer (some ⟨b, 5, none⟩)) rfl (by kernel_rfl) (by kernel_rfl) (by kernel_rfl) (fun _ _ _ h => h) (Or.inl ⟨by rfl, fun _ => by go_simp⟩) ?_
                      refine wpAny_ready (rs := [10]) (by kernel_rfl) (by simp) ?_
                      refine AllReady.cons rfl (fun K hK => ?_) ?_
                      · go_simp
                        refine hK _ _ ?_
                        clear hK K
                        refine wpAny_done (by kernel_rfl) ?_ _
                        exact FIN.out _ _ _ HF
                      exact AllReady.nil
                    exact AllReady.nil
                  refine AllReady.cons rfl (fun K hK => ?_) ?_
                  · (refine step_append_lies _ (by rfl) _ _ _ (by rfl) D 3 i3 _ 1 8 Tryz.underlying22 hi3 hz30 hz31 hz32 rfl (by omega) (.slice an ns'.length cn) ns'.length (ns'.map (Value.int .i64)) (by rfl) (by exact HOV.out.alloc _) ⟨W4.heap.size, 0, none⟩ 1 1 ([Value.int .i64 num]) (by rfl) (by rfl) (by exact one_new W4 num) (by intro u hu; rw [List.mem_singleton.1 hu]; rfl) (by omega) (by unfold maxLen; omega) (by omega) (by simp; omega) (W4.heap.size + 1) (by simp) ?_; intro gg cap2 w6 hown6 hgr6 hat hlt; have S6 := (HS6.out w6 hgr6).1; have F6 := (HS6.out w6 hgr6).2.1; have C6 := (HS6.out w6 hgr6).2.2; have HF := hide (And.intro hown6 (And.intro hgr6 hat)); clear hown6 hgr6 hat)
                    try go_simp
                    refine hK _ _ ?_
                    clear hK K
                    refine wpAny_ready (rs := [0]) (by kernel_rfl) (by simp) ?_
                    refine AllReady.cons rfl (fun K hK => ?_) ?_
                    · go_simp
                      refine hK _ _ ?_
                      clear hK K
                      refine wpAny_take (i := 8) (v := .pointer (some ⟨b, 0, none⟩)) rfl (by kernel_rfl) (by kernel_rfl) (by kernel_rfl) (fun _ _ _ h => h) (Or.inl ⟨by rfl, fun _ => by go_simp⟩) ?_
                      refine wpAny_take (i := 9) (v := .pointer (some ⟨b, 5, none⟩)) rfl (by kernel_rfl) (by kernel_rfl) (by kernel_rfl) (fun _ _ _ h => h) (Or.inl ⟨by rfl, fun _ => by go_simp⟩) ?_
                      refine wpAny_ready (rs := [10]) (by kernel_rfl) (by simp) ?_
                      refine AllReady.cons rfl (fun K hK => ?_) ?_
                      · go_simp
                        refine hK _ _ ?_
                        clear hK K
                        refine wpAny_done (by kernel_rfl) ?_ _
                        exact FIN.out _ _ _ HF
                      exact AllReady.nil
                    exact AllReady.nil
                  exact AllReady.nil
                exact AllReady.nil
              exact AllReady.nil
            refine AllReady.cons rfl (fun K hK => ?_) ?_
            · go_simp
              refine hK _ _ ?_
              clear hK K
              refine wpAny_ready (rs := [0, 1]) (by kernel_rfl) (by simp) ?_
              refine AllReady.cons rfl (fun K hK => ?_) ?_
              · go_simp
                refine hK _ _ ?_
                clear hK K
                refine wpAny_ready (rs := [1]) (by kernel_rfl) (by simp) ?_
                refine AllReady.cons rfl (fun K hK => ?_) ?_
                · go_simp
                  refine hK _ _ ?_
                  clear hK K
                  refine wpAny_take (i := 2) (v := .pointer (some ⟨b, 0, none⟩)) rfl (by kernel_rfl) (by kernel_rfl) (by kernel_rfl) (fun _ _ _ h => h) (Or.inl ⟨by rfl, fun _ => by go_simp⟩) ?_
                  refine wpAny_take (i := 3) (v := .pointer (some ⟨b, 5, none⟩)) rfl (by kernel_rfl) (by kernel_rfl) (by kernel_rfl) (fun _ _ _ h => h) (Or.inl ⟨by rfl, fun _ => by go_simp⟩) ?_
                  refine wpAny_ready (rs := [4]) (by kernel_rfl) (by simp) ?_
                  refine AllReady.cons rfl (fun K hK => ?_) ?_
                  · go_simp
                    refine hK _ _ ?_
                    clear hK K
                    refine wpAny_ready (rs := [7]) (by kernel_rfl) (by simp) ?_
                    refine AllReady.cons rfl (fun K hK => ?_) ?_
                    · (refine step_append_lies _ (by rfl) _ _ _ (by rfl) D 3 i3 _ 1 8 Tryz.underlying22 hi3 hz30 hz31 hz32 rfl (by omega) (.slice an ns'.length cn) ns'.length (ns'.map (Value.int .i64)) (by rfl) (by exact HOV.out.alloc _) ⟨W4.heap.size, 0, none⟩ 1 1 ([Value.int .i64 num]) (by rfl) (by rfl) (by exact one_new W4 num) (by intro u hu; rw [List.mem_singleton.1 hu]; rfl) (by omega) (by unfold maxLen; omega) (by omega) (by simp; omega) (W4.heap.size + 1) (by simp) ?_; intro gg cap2 w6 hown6 hgr6 hat hlt; have S6 := (HS6.out w6 hgr6).1; have F6 := (HS6.out w6 hgr6).2.1; have C6 := (HS6.out w6 hgr6).2.2; have HF := hide (And.intro hown6 (And.intro hgr6 hat)); clear hown6 hgr6 hat)
                      try go_simp
                      refine hK _ _ ?_
                      clear hK K
                      refine wpAny_take (i := 8) (v := .pointer (some ⟨b, 0, none⟩)) rfl (by kernel_rfl) (by kernel_rfl) (by kernel_rfl) (fun _ _ _ h => h) (Or.inl ⟨by rfl, fun _ => by go_simp⟩) ?_
                      refine wpAny_take (i := 9) (v := .pointer (some ⟨b, 5, none⟩)) rfl (by kernel_rfl) (by kernel_rfl) (by kernel_rfl) (fun _ _ _ h => h) (Or.inl ⟨by rfl, fun _ => by go_simp⟩) ?_
                      refine wpAny_ready (rs := [10]) (by kernel_rfl) (by simp) ?_
                      refine AllReady.cons rfl (fun K hK => ?_) ?_
                      · go_simp
                        refine hK _ _ ?_
                        clear hK K
                        refine wpAny_done (by kernel_rfl) ?_ _
                        exact FIN.out _ _ _ HF
                      exact AllReady.nil
                    exact AllReady.nil
                  exact AllReady.nil
                exact AllReady.nil
              refine AllReady.cons rfl (fun K hK => ?_) ?_
              · go_simp
                refine hK _ _ ?_
                clear hK K
                refine wpAny_take (i := 2) (v := .pointer (some ⟨b, 0, none⟩)) rfl (by kernel_rfl) (by kernel_rfl) (by kernel_rfl) (fun _ _ _ h => h) (Or.inl ⟨by rfl, fun _ => by go_simp⟩) ?_
                refine wpAny_take (i := 3) (v := .pointer (some ⟨b, 5, none⟩)) rfl (by kernel_rfl) (by kernel_rfl) (by kernel_rfl) (fun _ _ _ h => h) (Or.inl ⟨by rfl, fun _ => by go_simp⟩) ?_
                refine wpAny_ready (rs := [0, 4]) (by kernel_rfl) (by simp) ?_
                refine AllReady.cons rfl (fun K hK => ?_) ?_
                · go_simp
                  refine hK _ _ ?_
                  clear hK K
                  refine wpAny_ready (rs := [4]) (by kernel_rfl) (by simp) ?_
                  refine AllReady.cons rfl (fun K hK => ?_) ?_
                  · go_simp
                    refine hK _ _ ?_
                    clear hK K
                    refine wpAny_ready (rs := [7]) (by kernel_rfl) (by simp) ?_
                    refine AllReady.cons rfl (fun K hK => ?_) ?_
                    · (refine step_append_lies _ (by rfl) _ _ _ (by rfl) D 3 i3 _ 1 8 Tryz.underlying22 hi3 hz30 hz31 hz32 rfl (by omega) (.slice an ns'.length cn) ns'.length (ns'.map (Value.int .i64)) (by rfl) (by exact HOV.out.alloc _) ⟨W4.heap.size, 0, none⟩ 1 1 ([Value.int .i64 num]) (by rfl) (by rfl) (by exact one_new W4 num) (by intro u hu; rw [List.mem_singleton.1 hu]; rfl) (by omega) (by unfold maxLen; omega) (by omega) (by simp; omega) (W4.heap.size + 1) (by simp) ?_; intro gg cap2 w6 hown6 hgr6 hat hlt; have S6 := (HS6.out w6 hgr6).1; have F6 := (HS6.out w6 hgr6).2.1; have C6 := (HS6.out w6 hgr6).2.2; have HF := hide (And.intro hown6 (And.intro hgr6 hat)); clear hown6 hgr6 hat)
                      try go_simp
                      refine hK _ _ ?_
                      clear hK K
                      refine wpAny_take (i := 8) (v := .pointer (some ⟨b, 0, none⟩)) rfl (by kernel_rfl) (by kernel_rfl) (by kernel_rfl) (fun _ _ _ h => h) (Or.inl ⟨by rfl, fun _ => by go_simp⟩) ?_
                      refine wpAny_take (i := 9) (v := .pointer (some ⟨b, 5, none⟩)) rfl (by kernel_rfl) (by kernel_rfl) (by kernel_rfl) (fun _ _ _ h => h) (Or.inl ⟨by rfl, fun _ => by go_simp⟩) ?_
                      refine wpAny_ready (rs := [10]) (by kernel_rfl) (by simp) ?_
                      refine AllReady.cons rfl (fun K hK => ?_) ?_
                      · go_simp
                        refine hK _ _ ?_
                        clear hK K
                        refine wpAny_done (by kernel_rfl) ?_ _
                        exact FIN.out _ _ _ HF
                      exact AllReady.nil
                    exact AllReady.nil
                  exact AllReady.nil
                refine AllReady.cons rfl (fun K hK => ?_) ?_
                · go_simp
                  refine hK _ _ ?_
                  clear hK K
                  refine wpAny_ready (rs := [0, 7]) (by kernel_rfl) (by simp) ?_
                  refine AllReady.cons rfl (fun K hK => ?_) ?_
                  · go_simp
                    refine hK _ _ ?_
                    clear hK K
                    refine wpAny_ready (rs := [7]) (by kernel_rfl) (by simp) ?_
                    refine AllReady.cons rfl (fun K hK => ?_) ?_
                    · (refine step_append_lies _ (by rfl) _ _ _ (by rfl) D 3 i3 _ 1 8 Tryz.underlying22 hi3 hz30 hz31 hz32 rfl (by omega) (.slice an ns'.length cn) ns'.length (ns'.map (Value.int .i64)) (by rfl) (by exact HOV.out.alloc _) ⟨W4.heap.size, 0, none⟩ 1 1 ([Value.int .i64 num]) (by rfl) (by rfl) (by exact one_new W4 num) (by intro u hu; rw [List.mem_singleton.1 hu]; rfl) (by omega) (by unfold maxLen; omega) (by omega) (by simp; omega) (W4.heap.size + 1) (by simp) ?_; intro gg cap2 w6 hown6 hgr6 hat hlt; have S6 := (HS6.out w6 hgr6).1; have F6 := (HS6.out w6 hgr6).2.1; have C6 := (HS6.out w6 hgr6).2.2; have HF := hide (And.intro hown6 (And.intro hgr6 hat)); clear hown6 hgr6 hat)
                      try go_simp
                      refine hK _ _ ?_
                      clear hK K
                      refine wpAny_take (i := 8) (v := .pointer (some ⟨b, 0, none⟩)) rfl (by kernel_rfl) (by kernel_rfl) (by kernel_rfl) (fun _ _ _ h => h) (Or.inl ⟨by rfl, fun _ => by go_simp⟩) ?_
                      refine wpAny_take (i := 9) (v := .pointer (some ⟨b, 5, none⟩)) rfl (by kernel_rfl) (by kernel_rfl) (by kernel_rfl) (fun _ _ _ h => h) (Or.inl ⟨by rfl, fun _ => by go_simp⟩) ?_
                      refine wpAny_ready (rs := [10]) (by kernel_rfl) (by simp) ?_
                      refine AllReady.cons rfl (fun K hK => ?_) ?_
                      · go_simp
                        refine hK _ _ ?_
                        clear hK K
                        refine wpAny_done (by kernel_rfl) ?_ _
                        exact FIN.out _ _ _ HF
                      exact AllReady.nil
                    exact AllReady.nil
                  refine AllReady.cons rfl (fun K hK => ?_) ?_
                  · (refine step_append_lies _ (by rfl) _ _ _ (by rfl) D 3 i3 _ 1 8 Tryz.underlying22 hi3 hz30 hz31 hz32 rfl (by omega) (.slice an ns'.length cn) ns'.length (ns'.map (Value.int .i64)) (by rfl) (by exact HOV.out.alloc _) ⟨W4.heap.size, 0, none⟩ 1 1 ([Value.int .i64 num]) (by rfl) (by rfl) (by exact one_new W4 num) (by intro u hu; rw [List.mem_singleton.1 hu]; rfl) (by omega) (by unfold maxLen; omega) (by omega) (by simp; omega) (W4.heap.size + 1) (by simp) ?_; intro gg cap2 w6 hown6 hgr6 hat hlt; have S6 := (HS6.out w6 hgr6).1; have F6 := (HS6.out w6 hgr6).2.1; have C6 := (HS6.out w6 hgr6).2.2; have HF := hide (And.intro hown6 (And.intro hgr6 hat)); clear hown6 hgr6 hat)
                    try go_simp
                    refine hK _ _ ?_
                    clear hK K
                    refine wpAny_ready (rs := [0]) (by kernel_rfl) (by simp) ?_
                    refine AllReady.cons rfl (fun K hK => ?_) ?_
                    · go_simp
                      refine hK _ _ ?_
                      clear hK K
                      refine wpAny_take (i := 8) (v := .pointer (some ⟨b, 0, none⟩)) rfl (by kernel_rfl) (by kernel_rfl) (by kernel_rfl) (fun _ _ _ h => h) (Or.inl ⟨by rfl, fun _ => by go_simp⟩) ?_
                      refine wpAny_take (i := 9) (v := .pointer (some ⟨b, 5, none⟩)) rfl (by kernel_rfl) (by kernel_rfl) (by kernel_rfl) (fun _ _ _ h => h) (Or.inl ⟨by rfl, fun _ => by go_simp⟩) ?_
                      refine wpAny_ready (rs := [10]) (by kernel_rfl) (by simp) ?_
                      refine AllReady.cons rfl (fun K hK => ?_) ?_
                      · go_simp
                        refine hK _ _ ?_
                        clear hK K
                        refine wpAny_done (by kernel_rfl) ?_ _
                        exact FIN.out _ _ _ HF
                      exact AllReady.nil
                    exact AllReady.nil
                  exact AllReady.nil
                exact AllReady.nil
              exact AllReady.nil
            exact AllReady.nil
        · have HRB := hide (blk_on HK.out.rb HM.out.2)
          have y5 : W4.cell? ⟨w.heap.size + 1, 0, none⟩ = some (.int .i64 0) := cell_of HRB.out rfl
          have f5 : W4.frozen? ⟨w.heap.size + 1, 0, none⟩ = false := fz_of HRB.out
          have HFX : Hid (FoX w D b bm kv x (.func (.func 39) #[] #[.pointer (some ⟨b1, 0, none⟩), .pointer (some ⟨b2, 0, none⟩)]) bud (decide (65536 < es.length)) ve ps es T er vp' vn' ps' ns' (W4.setCell ⟨w.heap.size + 1, 0, none⟩ (.int .i64 er)) ∧ (W4.setCell ⟨w.heap.size + 1, 0, none⟩ (.int .i64 er)).heap[x + 2]? = W.heap[x + 2]? ∧ (W4.setCell ⟨w.heap.size + 1, 0, none⟩ (.int .i64 er)).heap[x + 2 + 1]? = W.heap[x + 2 + 1]?) := hide (by
            have o := only_set W4 (w.heap.size + 1) 0 (.int .i64 er)
            have d := HM.out.2
            have hL := HL.out
            have sz := d.size
            have kl := HK.out.kl
            refine ⟨⟨HK.out.eq.trans (by rw [HTd.out]; exact HM.out.1 _), her, (HK.out.ss.on d).onlyR o (by omega) (by omega) (fun k hk e => ?_) (fun k hk e => ?_) (fun k hk e => ?_), heap_setCell_same W4 _ 0 _ 30 _ HRB.out, (HK.out.on.trans (Only.ofBelow d)).trans (o.mono (fun k _ e => .inr (.inr (by omega)))), HK.out.ap, HK.out.an, HK.out.ae, HK.out.pl, HK.out.kl⟩, (o.block _ (by omega) (by omega)).trans (d.block _ (by omega)), (o.block _ (by omega) (by omega)).trans (d.block _ (by omega))⟩
            · have := HK.out.ap k hk; omega
            · have := HK.out.ae k hk; omega
            · have := HK.out.an k hk; omega)
          clear TMe y0 y1 y2
          rcases her with rfl | rfl
          all_goals
            gi_wp2
            exact ⟨⟨by rw [HZ3.out]; exact HFX.out.2.1, by rw [HZ3.out]; exact HFX.out.2.2⟩, _, _, _, _, _, HFX.out.1⟩
      case done =>
        rintro D' W hD' ⟨vp', vn', ps', ns', HK0⟩ hq
        have hTl : (T.map prV).length = T.length := by simp
        rw [hTl] at HK0
        have HK := hide HK0
        have hnl := HNL.out T.length ps' ns' (Nat.le_refl _) HK0
        have hsW := HK0.on.size
        obtain ⟨ae, ce, hve⟩ := own_slice HK0.ss.eo
        obtain ⟨an, cn, hvn⟩ := own_slice HK0.ss.no
        have HV := hide (And.intro hve hvn)
        have y0 : W.cell? ⟨w.heap.size, 0, none⟩ = some (.pointer (some ⟨b, 0, none⟩)) := cell_of HK0.sb rfl
        have y4 : W.cell? ⟨b, 4, none⟩ = some (.slice ae es.length ce) := by rw [← hve]; exact cell_of HK0.ss.bx rfl
        have y5 : W.cell? ⟨b, 5, none⟩ = some (.slice an ns'.length cn) := by rw [← hvn]; exact cell_of HK0.ss.bx rfl
        have f4 : W.frozen? ⟨b, 4, none⟩ = false := fz_of HK0.ss.bx
        have dd : Below W.heap.size W W.drew := (Below.refl _ _).drew
        have TL := lead_own W.drew D (.slice ae es.length ce) (.slice an ns'.length cn) es (i : Int) (s : Int) ns'.length ns' rfl (hide (by rw [← hve]; exact (HK0.ss.on dd).eo)) (hide (by rw [← hvn]; exact (HK0.ss.on dd).no)) (by have := hsW; exact Nat.le_trans hDo.2.2 this) (by omega) (by omega)
        have HP5 := hide (fun (w5 : World) (o : Only W.drew w5 (fun k => (Value.slice ae es.length ce).ownBlock = some k ∨ (Value.slice an ns'.length cn).ownBlock = some k)) => show w5.cell? ⟨w.heap.size, 0, none⟩ = some (.pointer (some ⟨b, 0, none⟩)) ∧ w5.frozen? ⟨b, 4, none⟩ = false ∧ w5.cell? ⟨b, 4, none⟩ = some (.slice ae es.length ce) by
          rw [← HV.out.1, ← HV.out.2] at o
          have q1 := o.cellK (o := .cells _ 71 (0, 0)) HK.out.ss.bx (fun e => by
            rcases e with e | e
            · have := (HK.out.ss.eo.lt _ e).1; omega
            · have := (HK.out.ss.no.lt _ e).1; omega)
          have q2 := o.cellK (o := .cells _ 94 (0, 0)) HK.out.sb (fun e => by
            rcases e with e | e
            · have := HK.out.ae _ e; omega
            · have := HK.out.an _ e; omega)
          exact ⟨cell_of q2 rfl, fz_of q1, by rw [← HV.out.1]; exact cell_of q1 rfl⟩)
        have HQ := hide hq
        clear HK0 hve hvn hq
        go_upto_region 9 with fail
        go_cut [6] from 54 to 67 (fun v6 W8 => v6 = .pointer (some ⟨w.heap.size + 1, 0, none⟩) ∧ ∃ v8 x8, Hid (SS D W8 b bm (.func (.func 39) #[] #[.pointer (some ⟨b1, 0, none⟩), .pointer (some ⟨b2, 0, none⟩)]) bud vp' v8 vn' ps' (ledL es (i : Int) (s : Int) (riseL ns')) ns'.length x8 ∧ W8.heap[w.heap.size + 1]? = some (.cells #[.int .i64 0] 30 (0, 0)) ∧ Only w W8 (fun k => k = b ∨ k = bm ∨ (D ≤ k ∧ k ≠ kv)) ∧ W8.heap[D']? = some (.deferred (some [])) ∧ ∀ k, v8.ownBlock = some k → k ≠ kv))
        case first =>
          refine wp_onlyN ?_
          go_region_with (go_at_call 75; refine TL.mono ?_; rintro e w5 ⟨v5, rfl, H5⟩; obtain ⟨a5, k5, rfl⟩ := own_slice H5.out.1; have z0 := (HP5.out w5 H5.out.2.2.1).1; have z1 := (HP5.out w5 H5.out.2.2.1).2.1; have z2' := (HP5.out w5 H5.out.2.2.1).2.2)
          all_goals
            refine onlyN_of ?_
            first | (go_wp2_with fail; go_meet) | go_meet
            obtain ⟨r1, ⟨x8, r2⟩, r3, r4⟩ := H5.out
            rw [← HV.out.1, ← HV.out.2] at r3
            rw [← HV.out.1] at r4
            rw [← HV.out.2] at r2
            obtain ⟨s8, o8⟩ := (HK.out.ss.on (Below.refl _ W).drew).edges hDo.1 r3 r1 r2
            have oW : Only W W.drew (fun k => k = b ∨ ve.ownBlock = some k ∨ vn'.ownBlock = some k) := Only.ofBelow (Below.refl _ W).drew
            have o9 := oW.trans o8
            exact ⟨rfl, _, x8, hide (fo_end HK.out hx hDo s8 o9 HQ.out r4)⟩
        case rest =>
          obtain ⟨rfl, v8, x8, H8⟩ := hcut
          rename World => w8
          have y6 : w8.cell? ⟨w.heap.size + 1, 0, none⟩ = some (.int .i64 0) := cell_of H8.out.2.1 rfl
          have f6 : w8.frozen? ⟨w.heap.size + 1, 0, none⟩ = false := fz_of H8.out.2.1
          have HO : Only w8 ((w8.setCell ⟨w.heap.size + 1, 0, none⟩ (.int .i64 0)).putObj D' (.deferred none)) (fun k => k = w.heap.size + 1 ∨ k = D') := ((only_set w8 _ 0 _).mono (fun k _ e => .inl e)).trans ((only_putObj _ _ _).mono (fun k _ e => .inr e))
          have hne : D' ≠ w.heap.size + 1 := fun e => by have := H8.out.2.2.2.1; rw [e, H8.out.2.1] at this; cases this
          have hq9 : (w8.setCell ⟨w.heap.size + 1, 0, none⟩ (.int .i64 0)).heap[D']? = some (.deferred (some [])) := (only_set w8 _ 0 _).cellK H8.out.2.2.2.1 hne
          have hr9 : (w8.setCell ⟨w.heap.size + 1, 0, none⟩ (.int .i64 0)).heap[w.heap.size + 1]? = some (.cells #[.int .i64 0] 30 (0, 0)) := by have := heap_setCell_same w8 (w.heap.size + 1) 0 _ 30 (.int .i64 0) H8.out.2.1; simpa using this
          have c9 : ((w8.setCell ⟨w.heap.size + 1, 0, none⟩ (.int .i64 0)).putObj D' (.deferred none)).cell? ⟨w.heap.size + 1, 0, none⟩ = some (.int .i64 0) := cell_of ((only_putObj _ _ _).cellK hr9 (fun e => hne e.symm)) rfl
          have HF : Hid (FoR w D b bm kv (.func (.func 39) #[] #[.pointer (some ⟨b1, 0, none⟩), .pointer (some ⟨b2, 0, none⟩)]) bud ps es T i s 0 vp' v8 vn' ps' ns' ns'.length x8 ((w8.setCell ⟨w.heap.size + 1, 0, none⟩ (.int .i64 0)).putObj D' (.deferred none))) := hide (by
            have kl := HK.out.kl
            refine ⟨HK.out.eq.trans (by rw [List.drop_length]; rfl), ?_, H8.out.2.2.1.trans (HO.mono (fun k _ e => .inr (.inr (by omega)))), HK.out.pl, fun _ => hnl, fun k hk => (HK.out.ap k hk).2, H8.out.2.2.2.2, fun k hk => (HK.out.an k hk).2⟩
            rw [if_pos rfl]
            refine ss_but (H8.out.1.onlyR (only_set w8 (w.heap.size + 1) 0 (.int .i64 0)) (by omega) (by omega) (fun k hk e => ?_) (fun k hk e => ?_) (fun k hk e => ?_)) (only_putObj _ _ _) hq9
            · have := HK.out.ap k hk; omega
            · have q9 := H8.out.1.eo
              rcases q9.2 with ⟨e3, _⟩ | ⟨g, cap, cur, e3, _, hg, _⟩
              · rw [e3] at hk; cases hk
              · rw [e3] at hk
                obtain rfl : g = k := by simpa [Value.ownBlock] using hk
                rw [e, H8.out.2.1] at hg; cases hg
            · have := HK.out.an k hk; omega)
          have HQ9 := hide hq9
          clear y0 y4 y5 f4 TL hq9 hr9 hne
          go_wp2_with fail
          refine ⟨by simp, .inl ⟨_, _, rfl, run_takeDeferred HQ9.out, ?_⟩⟩
          refine ⟨_, results_130 _ _ (w.heap.size + 1) _ rfl c9, ?_⟩
          exact ⟨0, vp', v8, vn', ps', ns', ns'.length, x8, rfl, hide (by rw [HTE.out]; exact HF.out)⟩
      case stop =>
        rintro D' W hD' ⟨er, vp', vn', ps', ns', HX⟩ hq
        have HXX := hide HX
        clear HX
        refine wpIn_wide.2 ?_
        go_wp2_with fail
        refine ⟨by simp, .inl ⟨_, _, rfl, run_takeDeferred hq, ?_⟩⟩
        have HO : Only W (W.putObj D' (.deferred none)) (fun k => k = D') := only_putObj _ _ _
        have hbq : ∀ {k : Nat} {cs : Array Value} {t : TypeId} {fr : Nat × Nat}, W.heap[k]? = some (.cells cs t fr) → k ≠ D' := fun hk e => by rw [e, hq] at hk; cases hk
        have c6 : (W.putObj D' (.deferred none)).cell? ⟨w.heap.size + 1, 0, none⟩ = some (.int .i64 er) := cell_of (HO.cellK HXX.out.rb (hbq HXX.out.rb)) rfl
        refine ⟨_, results_130 _ _ (w.heap.size + 1) _ rfl c6, ?_⟩
        refine ⟨er, vp', ve, vn', ps', ns', ns'.length, ns'.map (Value.int .i64), rfl, hide ⟨?_, ?_, ?_, HXX.out.pl, ?_, fun k hk => (HXX.out.ap k hk).2, fun k hk => (HXX.out.ae k hk).2, fun k hk => (HXX.out.an k hk).2⟩⟩
        · rw [HTE.out]; exact HXX.out.eq
        · have ne : er ≠ 0 := by rcases HXX.out.ee with e | e <;> omega
          rw [if_neg ne]
          exact ss_but HXX.out.ss HO hq
        · exact HXX.out.on.trans (HO.mono (fun k _ e => .inr (.inr (by have := HXX.out.kl; omega))))
        · intro e; rcases HXX.out.ee with e2 | e2 <;> omega
/-! ### ending -/
def enP (f1 f2 : Nat → Bool) (x : PrT) : Bool := f1 x.1.toNat && f2 x.2.toNat
def enT (f1 f2 : Nat → Bool) (ps : List PrT) (k : Nat) : List Int := ((List.range k).filter fun j => ((ps[j]?).map (enP f1 f2)).getD false).map (fun j : Nat => (j : Int))
theorem enT_snoc (f1 f2 : Nat → Bool) (ps : List PrT) (k : Nat) (h : k < ps.length) : enT f1 f2 ps (k + 1) = enT f1 f2 ps k ++ if enP f1 f2 ps[k] then [(k : Int)] else [] := by
  unfold enT
  rw [List.range_succ, List.filter_append, List.map_append]
  congr 1
  simp only [List.filter_cons, List.filter_nil, List.getElem?_eq_getElem h, Option.map_some, Option.getD_some]
  split <;> rfl
theorem enT_len (f1 f2 : Nat → Bool) (ps : List PrT) (k : Nat) : (enT f1 f2 ps k).length ≤ k := by
  unfold enT
  rw [List.length_map]
  exact Nat.le_trans (List.length_filter_le _ _) (Nat.le_of_eq (List.length_range))
set_option maxRecDepth 100000 in
set_option maxHeartbeats 4000000 in
theorem ending_any (w : World) (D b bm : Nat) (f : Value) (bud : Int) (vp ve vn : Value) (ps : List PrT) (es : List EdT) (nn : Nat) (xn : List Value) (h1 h2 N1 N2 : Nat) (f1 f2 : Nat → Bool) (h : Hid (SS D w b bm f bud vp ve vn ps es nn xn)) (m1 : Hid (Mrw w h1 4 N1 (fun c => .bool (f1 c)) N1)) (m2 : Hid (Mrw w h2 4 N2 (fun c => .bool (f2 c)) N2)) (hb : Hid (∀ x ∈ ps, (0 ≤ x.1 ∧ x.1 < (N1 : Int)) ∧ 0 ≤ x.2 ∧ x.2 < (N2 : Int))) (hl : ps.length ≤ 4096) :
    Calls Tryz.prog 37 #[.pointer (some ⟨b, 0, none⟩), .slice (some ⟨h1, 0, none⟩) N1 N1, .slice (some ⟨h2, 0, none⟩) N2 N2] w fun e w' => ∃ v', e = .returned v' ∧ Hid (w'.ownsRow w.heap.size 3 1 v' (enT f1 f2 ps ps.length).length ((enT f1 f2 ps ps.length).map (Value.int .i64)) ∧ Below w.heap.size w w') := by
  obtain ⟨ap, cp, hv⟩ := own_slice h.out.po
  have HV := hide hv
  have c3 : w.cell? ⟨b, 3, none⟩ = some (.slice ap ps.length cp) := by rw [← hv]; exact cell_of h.out.bx rfl
  clear hv
  go_enter Tryz.func37, Tryz.ntmps37
  go_wp2_with fail
  go_loopw [7, 15] (fun v iv wr => ∃ k : Nat, k ≤ ps.length ∧ iv = .int .i64 (k : Int) ∧ Hid (wr.ownsRow w.heap.size 3 1 v (enT f1 f2 ps k).length ((enT f1 f2 ps k).map (Value.int .i64)) ∧ Below w.heap.size w wr)) (fun _ iv _ => ps.length - (intOf iv).toNat)
  case atStart => exact ⟨0, Nat.zero_le _, rfl, hide ⟨by show World.ownsRow _ _ _ _ _ ([] : List Int).length (([] : List Int).map _); exact World.ownsRow_nil _ _ _ _, Below.refl _ _⟩⟩
  case round =>
    obtain ⟨k, hk, rfl, HY⟩ := hrel
    by_cases hlt : k < ps.length
    · have i0 : (0 : Int) ≤ (k : Int) := by omega
      have i1 : (k : Int) < (ps.length : Int) := by omega
      obtain ⟨gp, hvp⟩ : ∃ gp, ap = some ⟨gp, 0, none⟩ := by
        rcases h.out.po.2 with ⟨_, e0⟩ | ⟨g, cap, cur, e, _⟩
        · omega
        · rw [HV.out] at e; cases e; exact ⟨g, rfl⟩
      subst hvp
      have HP := h.out.po
      rw [HV.out] at HP
      have q := pr_at HP k hlt
      obtain ⟨⟨l1, l2⟩, l3, l4⟩ := hb.out _ (List.getElem_mem hlt)
      have HSN := hide (enT_snoc f1 f2 ps k hlt)
      obtain ⟨p, hp⟩ := Int.eq_ofNat_of_zero_le l1
      obtain ⟨r, hr⟩ := Int.eq_ofNat_of_zero_le l3
      have hpr : ps[k] = ((p : Int), (r : Int)) := Prod.ext hp hr
      rw [hpr] at q HSN l2 l4
      have z1 : wr.cell? ⟨gp, k * 2, none⟩ = some (.int .i64 (p : Int)) := (HY.out.2.cell (p := ⟨gp, k * 2, none⟩) (World.block_lt_of_cell? w _ q.1)).trans q.1
      have z2 : wr.cell? ⟨gp, k * 2 + 1, none⟩ = some (.int .i64 (r : Int)) := (HY.out.2.cell (p := ⟨gp, k * 2 + 1, none⟩) (World.block_lt_of_cell? w _ q.2)).trans q.2
      obtain ⟨X, hX⟩ : ∃ X, wr.alloc (.cells #[.int .i64 (p : Int), .int .i64 (r : Int)] 57) = X := ⟨_, rfl⟩
      have HD : Hid (Below wr.heap.size wr X ∧ X.heap[wr.heap.size]? = some (.cells #[.int .i64 (p : Int), .int .i64 (r : Int)] 57 (0, 0))) := hide (by rw [← hX]; exact ⟨(Below.refl _ _).alloc (Nat.le_refl _) _, World.alloc_heap_new _ _⟩)
      have dX : Below w.heap.size w X := HY.out.2.trans (HD.out.1.mono HY.out.2.size)
      have x0 : X.cell? ⟨wr.heap.size, 0, none⟩ = some (.int .i64 (p : Int)) := cell_of HD.out.2 rfl
      have x1 : X.cell? ⟨wr.heap.size, 1, none⟩ = some (.int .i64 (r : Int)) := cell_of HD.out.2 rfl
      have j0 : (0 : Int) ≤ (p : Int) := by omega
      have j1 : (p : Int) < (N1 : Int) := l2
      have j2 : (0 : Int) ≤ (r : Int) := by omega
      have j3 : (r : Int) < (N2 : Int) := l4
      have b1 : X.cell? ⟨h1, p, none⟩ = some (.bool (f1 p)) := (m1.out.below dX m1.out.lt).at p (by omega)
      have b2 : X.cell? ⟨h2, r, none⟩ = some (.bool (f2 r)) := (m2.out.below dX m2.out.lt).at r (by omega)
      have hel := enT_len f1 f2 ps k
      have HO : Hid (X.ownsRow w.heap.size 3 1 u7 (enT f1 f2 ps k).length ((enT f1 f2 ps k).map (Value.int .i64))) := hide (own_below HY.out.1 HD.out.1)
      have HDX := hide dX
      clear dX q hp hr hpr l1 l2 l3 l4 HP
      cases e1 : f1 p with
      | false =>
        rw [e1] at b1
        go_wp2_with fail
        refine ⟨⟨k + 1, by omega, by go_num, hide ⟨?_, HDX.out⟩⟩, by simp [intOf]; omega⟩
        rw [HSN.out]
        simp only [enP, Int.toNat_natCast, e1, Bool.false_and]
        simpa using HO.out
      | true =>
        rw [e1] at b1
        cases e2 : f2 r with
        | false =>
          rw [e2] at b2
          go_wp2_with fail
          refine ⟨⟨k + 1, by omega, by go_num, hide ⟨?_, HDX.out⟩⟩, by simp [intOf]; omega⟩
          rw [HSN.out]
          simp only [enP, Int.toNat_natCast, e1, e2, Bool.and_false]
          simpa using HO.out
        | true =>
          rw [e2] at b2
          go_wp2_with (at_builtin; refine wpList_appI rfl _ _ rfl w.heap.size u7 (enT f1 f2 ps k) rfl (own_below HO.out ((Below.refl _ _).alloc (Nat.le_refl _) _)) X.heap.size (k : Int) rfl (World.alloc_heap_new _ _) (by omega) w (HDX.out.alloc HDX.out.size _) (Nat.le_refl _) ?_; intro v5 w5 HO5 HB5)
          refine ⟨⟨k + 1, by omega, by go_num, hide ⟨?_, HB5.out⟩⟩, by simp [intOf]; omega⟩
          rw [HSN.out]
          simp only [enP, Int.toNat_natCast, e1, e2, Bool.and_self, if_true]
          exact HO5.out
    · obtain rfl : k = ps.length := by omega
      have i1 : ¬ (ps.length : Int) < (ps.length : Int) := by omega
      go_wp2_with fail
      refine bodyPost_ret (results_tmp rfl _ _ _) rfl ?_
      exact ⟨_, rfl, HY⟩
/-! ### What the search knows -/
theorem metF_inv (bud : Int) (fl : Bool) : ∀ (T ps : List PrT) (ns : List Int) (er : Int) (ps' : List PrT) (ns' : List Int), metF bud fl ps T ns = (er, ps', ns') → ps.Nodup → (∃ x, ps' = ps ++ x) ∧ ps'.Nodup ∧ (∀ t ∈ ps', t ∈ ps ∨ t ∈ T) ∧ (er = 0 → (∀ t ∈ T, t ∈ ps') ∧ (fl = false → ∀ n, n ∈ ns' ↔ n ∈ ns ∨ ∃ t ∈ T, n = (ps'.idxOf t : Int))) ∧ (fl = true → ns' = ns)
  | [], ps, ns, er, ps', ns', h, hn => by
    rw [metF] at h
    cases h
    exact ⟨⟨[], by simp⟩, hn, fun t ht => .inl ht, fun _ => ⟨fun t ht => by simp at ht, fun _ n => by simp⟩, fun _ => rfl⟩
  | t :: ts, ps, ns, er, ps', ns', h, hn => by
    rw [metF] at h
    by_cases hm : t ∈ ps
    · rw [if_pos hm] at h
      obtain ⟨⟨x, hx⟩, q2, q3, q4, q5⟩ := metF_inv bud fl ts ps _ er ps' ns' h hn
      refine ⟨⟨x, hx⟩, q2, fun y hy => (q3 y hy).imp id (fun e => by simp [e]), fun he => ⟨fun y hy => ?_, fun hf n => ?_⟩, fun hf => by rw [q5 hf, if_pos hf]⟩
      · rcases List.mem_cons.1 hy with rfl | hy
        · rw [hx]; exact List.mem_append_left _ hm
        · exact (q4 he).1 y hy
      · rw [(q4 he).2 hf n, hf]
        have e1 : ps'.idxOf t = ps.idxOf t := by rw [hx, List.idxOf_append, if_pos hm]
        simp only [Bool.false_eq_true, if_false, List.mem_append, List.mem_cons, List.not_mem_nil, or_false, exists_eq_or_imp, e1]
        constructor
        · rintro ((h | h) | h)
          · exact .inl h
          · exact .inr (.inl h)
          · exact .inr (.inr h)
        · rintro (h | h | h)
          · exact .inl (.inl h)
          · exact .inl (.inr h)
          · exact .inr h
    · rw [if_neg hm] at h
      by_cases h1 : bud ≤ (ps.length : Int)
      · rw [if_pos h1] at h
        cases h
        exact ⟨⟨[], by simp⟩, hn, fun t ht => .inl ht, fun he => absurd he (by decide), fun _ => rfl⟩
      · rw [if_neg h1] at h
        by_cases h2 : 4096 ≤ ps.length
        · rw [if_pos h2] at h
          cases h
          exact ⟨⟨[], by simp⟩, hn, fun t ht => .inl ht, fun he => absurd he (by decide), fun _ => rfl⟩
        · rw [if_neg h2] at h
          have hn2 : (ps ++ [t]).Nodup := by
            rw [List.nodup_append]
            refine ⟨hn, by simp, fun a ha b hb => ?_⟩
            rw [List.mem_singleton] at hb
            rintro rfl
            exact hm (hb ▸ ha)
          obtain ⟨⟨x, hx⟩, q2, q3, q4, q5⟩ := metF_inv bud fl ts (ps ++ [t]) _ er ps' ns' h hn2
          have ht : t ∈ ps ++ [t] := by simp
          refine ⟨⟨[t] ++ x, by rw [hx, List.append_assoc]⟩, q2, fun y hy => ?_, fun he => ⟨fun y hy => ?_, fun hf n => ?_⟩, fun hf => by rw [q5 hf, if_pos hf]⟩
          · rcases q3 y hy with e | e
            · rcases List.mem_append.1 e with e | e
              · exact .inl e
              · rw [List.mem_singleton] at e
                exact .inr (by simp [e])
            · exact .inr (by simp [e])
          · rcases List.mem_cons.1 hy with rfl | hy
            · rw [hx]; exact List.mem_append_left _ ht
            · exact (q4 he).1 y hy
          · rw [(q4 he).2 hf n, hf]
            have e1 : ps'.idxOf t = ps.length := by
              rw [hx, List.idxOf_append, if_pos ht, List.idxOf_append, if_neg hm]
              simp
            simp only [Bool.false_eq_true, if_false, List.mem_append, List.mem_cons, List.not_mem_nil, or_false, exists_eq_or_imp, e1]
            constructor
            · rintro ((h | h) | h)
              · exact .inl h
              · exact .inr (.inl h)
              · exact .inr (.inr h)
            · rintro (h | h | h)
              · exact .inl (.inl h)
              · exact .inl (.inr h)
              · exact .inr h
/-- A step of both. -/
def stp (E1 E2 : List EdT) (x : PrT) (c : Nat) (y : PrT) : Prop := ((x.1, (c : Int), y.1) ∈ E1 ∧ y.2 = x.2) ∨ (y.1 = x.1 ∧ (x.2, (c : Int), y.2) ∈ E2)
theorem mem_toF {Ed : List EdT} {p s : Nat} {x : Int} : x ∈ toL (fromL Ed p (s : Int)) ↔ ((p : Int), (s : Int), x) ∈ Ed := by
  unfold toL
  rw [List.mem_map]
  constructor
  · rintro ⟨e, he, rfl⟩
    obtain ⟨h, h1, h2⟩ := fromL_iff.1 he
    rw [← h1, ← h2]
    exact h
  · intro h
    exact ⟨_, fromL_iff.2 ⟨h, rfl, rfl⟩, rfl⟩
theorem mem_prs {E1 E2 : List EdT} {p q s : Nat} {y : PrT} : y ∈ trnL (toL (fromL E1 p (s : Int))) (toL (fromL E2 q (s : Int))) (p : Int) (q : Int) ↔ stp E1 E2 ((p : Int), (q : Int)) s y := by
  unfold trnL stp
  rw [List.mem_append, List.mem_map, List.mem_map]
  constructor
  · rintro (⟨a, ha, rfl⟩ | ⟨a, ha, rfl⟩)
    · exact .inl ⟨mem_toF.1 ha, rfl⟩
    · exact .inr ⟨rfl, mem_toF.1 ha⟩
  · rintro (⟨h1, h2⟩ | ⟨h1, h2⟩)
    · exact .inl ⟨y.1, mem_toF.2 h1, Prod.ext rfl h2.symm⟩
    · exact .inr ⟨y.2, mem_toF.2 h2, Prod.ext h1.symm rfl⟩
def hnd (m i s a c : Nat) : Prop := (a < i ∧ c < m) ∨ (a = i ∧ c < s)
/-- What the search knows when it has gone so far. -/
structure RnI (E1 E2 : List EdT) (m N1 N2 : Nat) (ps0 ps : List PrT) (es : List EdT) (i s : Nat) : Prop where
  pre : ∃ x, ps = ps0 ++ x
  nd : ps.Nodup
  bd : ∀ x ∈ ps, ∃ p q : Nat, x = ((p : Int), (q : Int)) ∧ p < N1 ∧ q < N2
  le : es.length ≤ 73728
  cl : ∀ (a c : Nat) (x y : PrT), ps[a]? = some x → hnd m i s a c → stp E1 E2 x c y → y ∈ ps
  ed : es.length ≤ 65536 → ∀ e : EdT, e ∈ es ↔ ∃ (a c : Nat) (x y : PrT), ps[a]? = some x ∧ hnd m i s a c ∧ stp E1 E2 x c y ∧ e = ((a : Int), (c : Int), (ps.idxOf y : Int))
/-- What is asked of the rows. -/
structure RnQ (N m : Nat) (E : List EdT) : Prop where
  ss : SsE E
  sy : ∀ e ∈ E, 0 ≤ e.2.1 ∧ e.2.1 < (m : Int)
  tt : ∀ e ∈ E, 0 ≤ e.2.2 ∧ e.2.2 < (N : Int)
  hN : N ≤ 4096
  hm : m ≤ 128
  hl : E.length ≤ 4194304
theorem RnQ.rq {N m : Nat} {E : List EdT} (h : RnQ N m E) {p s : Nat} (hp : p < N) (hs : s < m) : RwQ m (N * m) p s E :=
  ⟨h.ss, h.sy, hs, by
    have := Nat.mul_le_mul_right m (show p + 1 ≤ N from hp)
    rw [Nat.add_mul, Nat.one_mul] at this
    omega, Nat.le_trans (Nat.mul_le_mul h.hN h.hm) (by decide), h.hl⟩
theorem stp_in {E1 E2 : List EdT} {N1 N2 m : Nat} (h1 : RnQ N1 m E1) (h2 : RnQ N2 m E2) {x y : PrT} {c : Nat} (hx : ∃ p q : Nat, x = ((p : Int), (q : Int)) ∧ p < N1 ∧ q < N2) (h : stp E1 E2 x c y) : ∃ p q : Nat, y = ((p : Int), (q : Int)) ∧ p < N1 ∧ q < N2 := by
  obtain ⟨p, q, rfl, hp, hq⟩ := hx
  rcases h with ⟨h, e⟩ | ⟨e, h⟩
  · obtain ⟨l1, l2⟩ := h1.tt _ h
    obtain ⟨r, hr⟩ := Int.eq_ofNat_of_zero_le l1
    exact ⟨r, q, Prod.ext hr e, by simp only at hr l2; omega, hq⟩
  · obtain ⟨l1, l2⟩ := h2.tt _ h
    obtain ⟨r, hr⟩ := Int.eq_ofNat_of_zero_le l1
    exact ⟨p, r, Prod.ext e hr, hp, by simp only at hr l2; omega⟩
theorem okPr_of {y : PrT} {N1 N2 : Nat} (hN1 : N1 ≤ 4096) (hN2 : N2 ≤ 4096) (h : ∃ p q : Nat, y = ((p : Int), (q : Int)) ∧ p < N1 ∧ q < N2) : okPr y := by
  obtain ⟨p, q, rfl, h1, h2⟩ := h
  exact ⟨⟨by simp only; omega, by simp only; omega⟩, by simp only; omega, by simp only; omega⟩
theorem toL_nodup {E : List EdT} (h : SsE E) (p s : Nat) : (toL (fromL E p (s : Int))).Nodup := by
  have hs := fromL_ss h p (s : Int)
  unfold toL
  refine List.pairwise_map.2 (List.Pairwise.imp_of_mem ?_ hs)
  intro a b ha hb q e
  obtain ⟨_, a1, a2⟩ := fromL_iff.1 ha
  obtain ⟨_, b1, b2⟩ := fromL_iff.1 hb
  obtain rfl : a = b := Prod.ext (a1.trans b1.symm) (Prod.ext (a2.trans b2.symm) e)
  simp [ltE] at q
theorem toL_le {E : List EdT} {N m : Nat} (h : RnQ N m E) (p s : Nat) : (toL (fromL E p (s : Int))).length ≤ 4096 := by
  have q := nodup_le (toL_nodup h.ss p s) (m := (List.range N).map (fun n : Nat => (n : Int))) (fun t ht => by
    obtain ⟨l1, l2⟩ := h.tt _ (mem_toF.1 ht)
    obtain ⟨r, hr⟩ := Int.eq_ofNat_of_zero_le l1
    simp only at hr l2
    exact List.mem_map.2 ⟨r, List.mem_range.2 (by omega), hr.symm⟩)
  rw [List.length_map, List.length_range] at q
  exact Nat.le_trans q h.hN
theorem trn_le {E1 E2 : List EdT} {N1 N2 m : Nat} (h1 : RnQ N1 m E1) (h2 : RnQ N2 m E2) (p q s : Nat) : (trnL (toL (fromL E1 p (s : Int))) (toL (fromL E2 q (s : Int))) (p : Int) (q : Int)).length ≤ 8192 := by
  have q1 := toL_le h1 p s
  have q2 := toL_le h2 q s
  rw [trnL_len]
  omega
theorem idx_app {ps x : List PrT} {y : PrT} (h : y ∈ ps) : (ps ++ x).idxOf y = ps.idxOf y := by rw [List.idxOf_append, if_pos h]
theorem get_app {ps x : List PrT} {a : Nat} {y : PrT} (h : ps[a]? = some y) : (ps ++ x)[a]? = some y := by
  rw [List.getElem?_append_left (List.getElem?_eq_some_iff.1 h).1]
  exact h
theorem get_back {ps x : List PrT} {a : Nat} {y : PrT} (ha : a < ps.length) (h : (ps ++ x)[a]? = some y) : ps[a]? = some y := by
  rw [List.getElem?_append_left ha] at h
  exact h
/-- One symbol of one state. -/
theorem RnI.sym {E1 E2 : List EdT} {m N1 N2 : Nat} {ps0 ps ps' : List PrT} {es : List EdT} {i s : Nat} (h : RnI E1 E2 m N1 N2 ps0 ps es i s) (g1 : RnQ N1 m E1) (g2 : RnQ N2 m E2) {p q : Nat} (hi : i < ps.length) (hpq : ps[i] = ((p : Int), (q : Int))) {bud : Int} {ns : List Int} (he : metF bud (decide (65536 < es.length)) ps (trnL (toL (fromL E1 p (s : Int))) (toL (fromL E2 q (s : Int))) (p : Int) (q : Int)) [] = (0, ps', ns)) (hn : ns.length ≤ 8192) : RnI E1 E2 m N1 N2 ps0 ps' (ledL es (i : Int) (s : Int) (riseL ns)) i (s + 1) := by
  obtain ⟨⟨x, hx⟩, k2, k3, k4, k5⟩ := metF_inv _ _ _ _ _ _ _ _ he h.nd
  obtain ⟨k6, k7⟩ := k4 rfl
  obtain ⟨z, hz⟩ := h.pre
  have hI : ps[i]? = some ((p : Int), (q : Int)) := by rw [List.getElem?_eq_getElem hi, hpq]
  have hps : ∀ (a : Nat) (y : PrT), hnd m i (s + 1) a 0 ∨ a ≤ i → ps'[a]? = some y → ps[a]? = some y := by
    intro a y ha hy
    rw [hx] at hy
    refine get_back ?_ hy
    rcases ha with (ha | ha) | ha <;> omega
  have hle : ∀ a c, hnd m i (s + 1) a c → a ≤ i := fun a c ha => by rcases ha with ha | ha <;> omega
  have hcs : ∀ a c, hnd m i (s + 1) a c ↔ hnd m i s a c ∨ (a = i ∧ c = s) := by
    intro a c
    unfold hnd
    omega
  have hcl : ∀ (a c : Nat) (x y : PrT), ps'[a]? = some x → hnd m i (s + 1) a c → stp E1 E2 x c y → (y ∈ ps ∧ hnd m i s a c ∧ ps[a]? = some x) ∨ (a = i ∧ c = s ∧ x = ((p : Int), (q : Int)) ∧ y ∈ trnL (toL (fromL E1 p (s : Int))) (toL (fromL E2 q (s : Int))) (p : Int) (q : Int)) := by
    intro a c u y hu hh hs
    have hu2 := hps a u (.inr (hle a c hh)) hu
    rcases (hcs a c).1 hh with h1 | ⟨rfl, rfl⟩
    · exact .inl ⟨h.cl a c u y hu2 h1 hs, h1, hu2⟩
    · rw [hI] at hu2
      cases hu2
      exact .inr ⟨rfl, rfl, rfl, mem_prs.2 hs⟩
  refine ⟨⟨z ++ x, by rw [hx, hz, List.append_assoc]⟩, k2, fun y hy => ?_, ?_, fun a c u y hu hh hs => ?_, fun hl e => ?_⟩
  · rcases k3 y hy with e | e
    · exact h.bd y e
    · exact stp_in g1 g2 (h.bd _ (by rw [← hpq]; exact List.getElem_mem hi)) (mem_prs.1 e)
  · rw [ledL_len]
    have q1 := riseL_len ns
    have q2 := h.le
    by_cases hf : 65536 < es.length
    · have := k5 (by rw [decide_eq_true hf])
      subst this
      rw [List.length_nil] at q1
      omega
    · omega
  · rcases hcl a c u y hu hh hs with e | e
    · rw [hx]; exact List.mem_append_left _ e.1
    · exact k6 y e.2.2.2
  · rw [ledL_len] at hl
    have hl2 : es.length ≤ 65536 := by omega
    have hf : decide (65536 < es.length) = false := by simp; omega
    have q7 := k7 hf
    unfold ledL
    rw [List.mem_append, List.mem_map, h.ed hl2]
    constructor
    · rintro (⟨a, c, u, y, e1, e2, e3, e4⟩ | ⟨n, e1, e2⟩)
      · refine ⟨a, c, u, y, by rw [hx]; exact get_app e1, (hcs a c).2 (.inl e2), e3, ?_⟩
        rw [e4, hx, idx_app (h.cl a c u y e1 e2 e3)]
      · rw [riseL_iff, q7] at e1
        rcases e1 with e1 | ⟨t, ht, rfl⟩
        · simp at e1
        · exact ⟨i, s, ((p : Int), (q : Int)), t, by rw [hx]; exact get_app hI, (hcs i s).2 (.inr ⟨rfl, rfl⟩), mem_prs.1 ht, e2.symm⟩
    · rintro ⟨a, c, u, y, e1, e2, e3, e4⟩
      rcases hcl a c u y e1 e2 e3 with e | e
      · refine .inl ⟨a, c, u, y, e.2.2, e.2.1, e3, ?_⟩
        rw [e4, hx, idx_app e.1]
      · obtain ⟨rfl, rfl, rfl, e5⟩ := e
        refine .inr ⟨_, ?_, e4.symm⟩
        rw [riseL_iff, q7]
        exact .inr ⟨y, e5, rfl⟩
/-- The next state. -/
theorem RnI.next {E1 E2 : List EdT} {m N1 N2 : Nat} {ps0 ps : List PrT} {es : List EdT} {i : Nat} (h : RnI E1 E2 m N1 N2 ps0 ps es i m) : RnI E1 E2 m N1 N2 ps0 ps es (i + 1) 0 := by
  have hh : ∀ a c, hnd m (i + 1) 0 a c ↔ hnd m i m a c := by
    intro a c
    unfold hnd
    omega
  refine ⟨h.pre, h.nd, h.bd, h.le, fun a c x y e1 e2 e3 => h.cl a c x y e1 ((hh a c).1 e2) e3, fun hl e => ?_⟩
  rw [h.ed hl]
  simp only [hh]
/-! ### run -/
structure RnS (w : World) (D b bm kv : Nat) (f : Value) (bud : Int) (E1 E2 : List EdT) (m N1 N2 : Nat) (ps0 : List PrT) (i s : Nat) (vp ve vn : Value) (ps : List PrT) (es : List EdT) (nn : Nat) (xn : List Value) (W : World) : Prop where
  ss : SS D W b bm f bud vp ve vn ps es nn xn
  on : Only w W (fun k => k = b ∨ k = bm ∨ (D ≤ k ∧ k ≠ kv))
  rn : RnI E1 E2 m N1 N2 ps0 ps es i s
  pl : ps.length ≤ 4096
  nv : (∀ k, vp.ownBlock = some k → k ≠ kv) ∧ (∀ k, ve.ownBlock = some k → k ≠ kv) ∧ ∀ k, vn.ownBlock = some k → k ≠ kv
/-- How run ends. -/
def RnE (w : World) (D b bm kv : Nat) (f : Value) (bud : Int) (E1 E2 : List EdT) (m N1 N2 : Nat) (ps0 : List PrT) (er : Int) (W : World) : Prop := (er ≠ 0 ∧ Only w W (fun k => k = b ∨ k = bm ∨ (D ≤ k ∧ k ≠ kv))) ∨ (er = 0 ∧ ∃ vp ve vn ps es nn xn, RnS w D b bm kv f bud E1 E2 m N1 N2 ps0 ps.length 0 vp ve vn ps es nn xn W ∧ es.length ≤ 65536)
set_option maxRecDepth 100000 in
set_option maxHeartbeats 4000000 in
theorem run_any (w : World) (D b bm kv b1 b2 B1 B2 m N1 N2 : Nat) (E1 E2 : List EdT) (a1 a2 : Option Addr) (c1 c2 g1 g2 : Nat) (bud : Int) (vp ve vn : Value) (ps : List PrT) (es : List EdT) (nn : Nat) (xn : List Value) (h : Hid (RnS w D b bm kv (.func (.func 39) #[] #[.pointer (some ⟨b1, 0, none⟩), .pointer (some ⟨b2, 0, none⟩)]) bud E1 E2 m N1 N2 ps 0 0 vp ve vn ps es nn xn w)) (hD : Hid (b < D ∧ bm < D ∧ D ≤ w.heap.size)) (hkv : kv < w.heap.size)
    (hR1 : Hid (RwT (fun k => k < D ∧ k ≠ b ∧ k ≠ bm) w b1 B1 m (N1 * m) E1 a1 c1 g1)) (hR2 : Hid (RwT (fun k => k < D ∧ k ≠ b ∧ k ≠ bm) w b2 B2 m (N2 * m) E2 a2 c2 g2)) (hq : Hid (RnQ N1 m E1 ∧ RnQ N2 m E2)) :
    Calls Tryz.prog 36 #[.pointer (some ⟨b, 0, none⟩), .int .i64 (m : Int)] w fun e w' => ∃ er, e = .returned (.int .i64 er) ∧ Hid (RnE w D b bm kv (.func (.func 39) #[] #[.pointer (some ⟨b1, 0, none⟩), .pointer (some ⟨b2, 0, none⟩)]) bud E1 E2 m N1 N2 ps er w') := by
  obtain ⟨M4, hM4⟩ : ∃ M : Nat, 4096 ≤ M := ⟨4096, Nat.le_refl _⟩
  have hm := hq.out.1.hm
  go_enter Tryz.func36, Tryz.ntmps36
  go_wp2_with fail
  go_loopw [5] (fun fv wr => ∃ (i : Nat) (vp ve vn : Value) (ps' : List PrT) (es' : List EdT) (nn : Nat) (xn : List Value), i ≤ ps'.length ∧ fv = .int .i64 (i : Int) ∧ Hid (RnS w D b bm kv (.func (.func 39) #[] #[.pointer (some ⟨b1, 0, none⟩), .pointer (some ⟨b2, 0, none⟩)]) bud E1 E2 m N1 N2 ps i 0 vp ve vn ps' es' nn xn wr)) (fun fv _ => M4 - (intOf fv).toNat)
  case atStart => exact ⟨0, vp, ve, vn, ps, es, nn, xn, Nat.zero_le _, rfl, h⟩
  case round =>
    rename World => wo
    obtain ⟨i, vp', ve', vn', ps', es', nn', xn', hi, rfl, HS⟩ := hrel
    obtain ⟨ap, cp, hv⟩ := own_slice HS.out.ss.po
    have c3 : wo.cell? ⟨b, 3, none⟩ = some (.slice ap ps'.length cp) := by rw [← hv]; exact cell_of HS.out.ss.bx rfl
    clear hv
    have hpl := HS.out.pl
    by_cases hlt : i < ps'.length
    · have i1 : (i : Int) < (ps'.length : Int) := by omega
      go_wp2_with fail
      clear c3 i1
      go_loopw [18] (fun sv wr => ∃ (s : Nat) (vp ve vn : Value) (ps2 : List PrT) (es2 : List EdT) (nn : Nat) (xn : List Value), s ≤ m ∧ i < ps2.length ∧ sv = .int .i64 (s : Int) ∧ Hid (RnS w D b bm kv (.func (.func 39) #[] #[.pointer (some ⟨b1, 0, none⟩), .pointer (some ⟨b2, 0, none⟩)]) bud E1 E2 m N1 N2 ps i s vp ve vn ps2 es2 nn xn wr)) (fun sv _ => m - (intOf sv).toNat)
      case atStart => exact ⟨0, vp', ve', vn', ps', es', nn', xn', Nat.zero_le _, hlt, rfl, HS⟩
      case round =>
        obtain ⟨s, vp2, ve2, vn2, ps2, es2, nn2, xn2, hs, hi2, rfl, HY⟩ := hrel
        clear HS hlt
        by_cases hsm : s < m
        · have s1 : (s : Int) < (m : Int) := by omega
          obtain ⟨p, q, hpq, hp, hq2⟩ := HY.out.rn.bd _ (List.getElem_mem hi2)
          have TF := follow_any wr D b bm kv b1 b2 B1 B2 m (N1 * m) (N2 * m) E1 E2 a1 a2 c1 c2 g1 g2 i p q s bud vp2 ve2 vn2 ps2 es2 nn2 xn2 (hide HY.out.ss) (hide ⟨hD.out.1, hD.out.2.1, Nat.le_trans hD.out.2.2 HY.out.on.size⟩) hi2 (hide hpq) HY.out.pl (hide ⟨Nat.lt_of_lt_of_le hkv HY.out.on.size, HY.out.nv⟩) (hide (hR1.out.kp (KpT.ofOnly HY.out.on (fun k h1 h2 => by omega)))) (hide (hR2.out.kp (KpT.ofOnly HY.out.on (fun k h1 h2 => by omega)))) (hide (hq.out.1.rq hp hsm)) (hide (hq.out.2.rq hq2 hsm)) (hide (fun t ht => okPr_of hq.out.1.hN hq.out.2.hN (stp_in hq.out.1 hq.out.2 ⟨p, q, rfl, hp, hq2⟩ (mem_prs.1 ht)))) (hide (trn_le hq.out.1 hq.out.2 p q s)) (by have := HY.out.rn.le; omega)
          have HPQ := hide hpq
          clear hpq hp hq2
          go_upto_region 8 with (go_at_call 59; refine TF.mono ?_; rintro e w3 ⟨er, vp3, ve3, vn3, ps3, ns, nn3, xn3, rfl, HF⟩)
          clear TF
          by_cases he : er = 0
          · subst he
            have HN : Hid (RnS w D b bm kv (.func (.func 39) #[] #[.pointer (some ⟨b1, 0, none⟩), .pointer (some ⟨b2, 0, none⟩)]) bud E1 E2 m N1 N2 ps i (s + 1) vp3 ve3 vn3 ps3 (ledL es2 (i : Int) (s : Int) (riseL ns)) nn3 xn3 w3 ∧ i < ps3.length) := hide (by
              have q1 := HF.out
              have q2 := q1.ss
              rw [if_pos rfl] at q2
              refine ⟨⟨q2, HY.out.on.trans (q1.on), HY.out.rn.sym hq.out.1 hq.out.2 hi2 HPQ.out q1.eq (q1.nl rfl), q1.pl, q1.nv⟩, ?_⟩
              obtain ⟨⟨x, hx⟩, _⟩ := metF_inv _ _ _ _ _ _ _ _ q1.eq HY.out.rn.nd
              rw [hx, List.length_append]
              omega)
            go_wp2_with fail
            exact ⟨⟨s + 1, vp3, ve3, vn3, ps3, _, nn3, xn3, hsm, HN.out.2, by go_num, hide HN.out.1⟩, by simp [intOf]; omega⟩
          · have HN := hide (HY.out.on.trans HF.out.on)
            go_wp2_with fail
            go_ret
            exact ⟨er, rfl, hide (.inl ⟨he, HN.out⟩)⟩
        · have s1 : ¬ (s : Int) < (m : Int) := by omega
          obtain rfl : s = m := by omega
          have TL := lost_any wr D b bm (.func (.func 39) #[] #[.pointer (some ⟨b1, 0, none⟩), .pointer (some ⟨b2, 0, none⟩)]) bud vp2 ve2 vn2 ps2 es2 nn2 xn2 (hide HY.out.ss)
          by_cases hL : 65536 < es2.length ∧ 4096 < bud
          · rw [decide_eq_true hL] at TL
            clear hL
            go_wp2_with (go_at_call 60; refine TL.mono ?_; rintro e w3 ⟨rfl, hw⟩; obtain rfl := hw.symm; clear hw)
            go_ret
            exact ⟨8, rfl, hide (.inl ⟨by decide, HY.out.on⟩)⟩
          · rw [decide_eq_false hL] at TL
            clear hL
            have hpl2 := HY.out.pl
            go_wp2_with (go_at_call 60; refine TL.mono ?_; rintro e w3 ⟨rfl, hw⟩; obtain rfl := hw.symm; clear hw)
            exact ⟨⟨i + 1, vp2, ve2, vn2, ps2, es2, nn2, xn2, hi2, by go_num, hide ⟨HY.out.ss, HY.out.on, HY.out.rn.next, HY.out.pl, HY.out.nv⟩⟩, by simp [intOf]; omega⟩
    · have i1 : ¬ (i : Int) < (ps'.length : Int) := by omega
      have HE : Hid (i = ps'.length) := hide (by omega)
      have TL := full_any wo D b bm (.func (.func 39) #[] #[.pointer (some ⟨b1, 0, none⟩), .pointer (some ⟨b2, 0, none⟩)]) bud vp' ve' vn' ps' es' nn' xn' (hide HS.out.ss)
      by_cases hL : 65536 < es'.length
      · rw [decide_eq_true hL] at TL
        clear hL
        go_wp2_with (go_at_call 61; refine TL.mono ?_; rintro e w3 ⟨rfl, hw⟩; obtain rfl := hw.symm; clear hw)
        go_ret
        exact ⟨8, rfl, hide (.inl ⟨by decide, HS.out.on⟩)⟩
      · rw [decide_eq_false hL] at TL
        have HL := hide hL
        clear hL
        go_wp2_with (go_at_call 61; refine TL.mono ?_; rintro e w3 ⟨rfl, hw⟩; obtain rfl := hw.symm; clear hw)
        go_ret
        exact ⟨0, rfl, hide (.inr ⟨rfl, vp', ve', vn', ps', es', nn', xn', by rw [← HE.out]; exact HS.out, by have := HL.out; omega⟩)⟩
/-! ### begin -/
theorem wpList_appJ {ops : Array Oper} {rest : List Oper} {o : Oper} {a : Act} {Q : Exit → Act → World → Prop} {w : World} (hgd : o.guard = none) (s x : Operand)
    (ho : o.op = .call { callee := .builtin .append, args := #[s, x], argTypes := #[22, 22] }) (B : Nat) (v : Value) (X : List Int) (hs : a.eval s = v) (hown : w.ownsRow B 3 1 v X.length (X.map (Value.int .i64))) (p : Nat) (y : Int) (hx : a.eval x = .slice (some ⟨p, 0, none⟩) 1 1) (hp : w.heap[p]? = some (.cells #[.int .i64 y] 3 (0, 0))) (hl : X.length ≤ 16777216) (hB : B ≤ w.heap.size)
    (h : ∀ v' w', Hid (w'.ownsRow B 3 1 v' (X ++ [y]).length ((X ++ [y]).map (Value.int .i64))) → Hid (Only w w' (fun k => v.ownBlock = some k)) → wpList Tryz.prog ops Q rest (a.put o.dst v') w') : wpList Tryz.prog ops Q (o :: rest) a w := by
  obtain ⟨i3, hi3, hz30, hz31, hz32⟩ := info_parts info3
  refine wpList_append_own_at _ hgd s x 22 ho B 3 i3 _ 1 8 Tryz.underlying22 hi3 hz30 hz31 hz32 rfl (by omega) v X.length (X.map (Value.int .i64)) hs hown ⟨p, 0, none⟩ 1 1 [.int .i64 y] hx rfl (one_cells hp) (by simp [Value.oneCell']) (by unfold maxLen; omega) (by omega) (by omega) ?_
  intro v2 w2 h2 hgr _ _
  exact h v2 w2 (hide (by rw [List.map_append, List.length_append]; exact h2)) (hide (grown_only hgr))
/-- What meet says, in one shape. -/
def MtB (D b bm : Nat) (f : Value) (bud : Int) (vp ve vn : Value) (ps : List PrT) (es : List EdT) (ns : List Int) (nn : Nat) (xn : List Value) (t : PrT) (num er : Int) (W W' : World) : Prop := (er = 0 ∧ ∃ vp2 ps2, MtA D b bm f bud false vp ve vn ps es ns nn xn t num vp2 ps2 W W') ∨ (er ≠ 0 ∧ Below W.heap.size W W')
theorem meet_v (w : World) (D b bm : Nat) (f : Value) (bud : Int) (vp ve vn : Value) (ps : List PrT) (es : List EdT) (ns : List Int) (nn : Nat) (xn : List Value) (p r : Int) (h : Hid (SS D w b bm f bud vp ve vn ps es nn xn)) (hok : Hid (okPr (p, r))) (hbD : Hid (b < D ∧ D ≤ w.heap.size)) (hl : ps.length ≤ 4096) :
    Calls Tryz.prog 58 #[.pointer (some ⟨b, 0, none⟩), .agg #[.int .i64 p, .int .i64 r]] w fun e w' => ∃ num er, e = .returned (.tuple #[.int .i64 num, .int .i64 er]) ∧ Hid (MtB D b bm f bud vp ve vn ps es ns nn xn (p, r) num er w w') := by
  refine (meet_u w D b bm f bud false vp ve vn ps es ns nn xn (p, r) h hok hbD hl).mono ?_
  rintro e w' (⟨num, vp2, ps2, rfl, HM⟩ | ⟨er, rfl, he, HM⟩)
  · exact ⟨num, 0, rfl, hide (.inl ⟨rfl, vp2, ps2, HM.out⟩)⟩
  · exact ⟨0, er, rfl, hide (.inr ⟨by omega, HM.out.2⟩)⟩
/-- What begin holds. -/
structure BgI (w : World) (D b bm : Nat) (f : Value) (bud : Int) (T : List PrT) (k : Nat) (v vp : Value) (ps : List PrT) (ns : List Int) (W : World) : Prop where
  eq : metF bud false [] T [] = metF bud false ps (T.drop k) ns
  ss : SS D W b bm f bud vp (.slice none 0 0) (.slice none 0 0) ps [] 0 []
  ow : W.ownsRow w.heap.size 3 1 v ns.length (ns.map (Value.int .i64))
  on : Only w W (fun k => k = b ∨ k = bm ∨ D ≤ k)
  pl : ps.length ≤ 4096
  le : ns.length ≤ k
theorem bgI_next {w : World} {D b bm : Nat} {f : Value} {bud : Int} {T : List PrT} {k : Nat} {v vp v5 vp2 : Value} {ps ps2 : List PrT} {ns : List Int} {W W1 Wa w5 : World} {t : PrT} {num : Int} (h : BgI w D b bm f bud T k v vp ps ns W) (hD : b < D ∧ bm < D ∧ D ≤ w.heap.size) (hk : k < T.length) (ht : T[k] = t) (a : MtA D b bm f bud false vp (.slice none 0 0) (.slice none 0 0) ps [] ns 0 [] t num vp2 ps2 W W1) (d : Below W1.heap.size W1 Wa) (o : w5.ownsRow w.heap.size 3 1 v5 (ns ++ [num]).length ((ns ++ [num]).map (Value.int .i64))) (oo : Only Wa w5 (fun k => v.ownBlock = some k)) : BgI w D b bm f bud T (k + 1) v5 vp2 ps2 (ns ++ [num]) w5 := by
  have hv := fun k e => (h.ow.lt k e).1
  have o1 : Only W1 w5 (fun k => v.ownBlock = some k) := (Only.ofBelow d).trans oo
  have v1 := row_only h.ow a.on (fun k hk e => by
    have := hv k hk
    rcases e with e | e | e
    · omega
    · omega
    · exact rows_differ h.ss.po h.ow (by decide) e hk)
  refine ⟨?_, a.ss.onlyR o1 (fun e => by have := hv _ e; omega) (fun e => by have := hv _ e; omega) (fun k hk e => rows_differ a.ss.po v1 (by decide) hk e) (fun k hk => by cases hk) (fun k hk => by cases hk), o, ?_, a.pl, by simp; have := h.le; omega⟩
  · rw [h.eq, List.drop_eq_getElem_cons hk, ht, a.eq]
    rfl
  · refine h.on.trans ((a.on.mono (fun k _ e => ?_)).trans (o1.mono (fun k _ e => ?_)))
    · rcases e with e | e | e
      · exact .inl e
      · exact .inr (.inl e)
      · exact .inr (.inr (h.ss.po.lt k e).1)
    · have := hv k e
      exact .inr (.inr (by omega))
/-- How begin ends. -/
def BgE (w : World) (D b bm : Nat) (f : Value) (bud : Int) (T : List PrT) (v : Value) (er : Int) (W : World) : Prop := (er ≠ 0 ∧ Only w W (fun k => k = b ∨ k = bm ∨ D ≤ k)) ∨ (er = 0 ∧ ∃ vp ps ns, BgI w D b bm f bud T T.length v vp ps ns W ∧ metF bud false [] T [] = (0, ps, ns))
theorem below_ro {w W W' : World} {D b bm : Nat} (h : Only w W (fun k => k = b ∨ k = bm ∨ D ≤ k)) (d : Below W.heap.size W W') : Only w W' (fun k => k = b ∨ k = bm ∨ D ≤ k) := h.trans (Only.ofBelow d)
theorem BgE.on {w : World} {D b bm : Nat} {f : Value} {bud : Int} {T : List PrT} {v : Value} {er : Int} {W : World} (h : BgE w D b bm f bud T v er W) : Only w W (fun k => k = b ∨ k = bm ∨ D ≤ k) := by
  rcases h with ⟨_, h⟩ | ⟨_, _, _, _, h, _⟩
  · exact h
  · exact h.on
set_option maxRecDepth 100000 in
set_option maxHeartbeats 4000000 in
theorem begin_any (w : World) (D b bm : Nat) (f : Value) (bud : Int) (a1 a2 : Option Addr) (c1 c2 : Nat) (F1 F2 : List Int) (h : Hid (SS D w b bm f bud (.slice none 0 0) (.slice none 0 0) (.slice none 0 0) [] [] 0 [])) (hD : Hid (b < D ∧ bm < D ∧ D ≤ w.heap.size))
    (hA1 : Hid (∀ W', KpT (fun k => k < D ∧ k ≠ b ∧ k ≠ bm) w W' → RdN W' a1 F1)) (hA2 : Hid (∀ W', KpT (fun k => k < D ∧ k ≠ b ∧ k ≠ bm) w W' → RdN W' a2 F2)) (hb : Hid (∀ t ∈ prsL F1 F2, okPr t)) (hl1 : F1.length ≤ 4096) (hl2 : F2.length ≤ 4096) :
    Calls Tryz.prog 35 #[.pointer (some ⟨b, 0, none⟩), .slice a1 F1.length c1, .slice a2 F2.length c2] w fun e w' => ∃ av nv cv er, e = .returned (.tuple #[.slice av nv cv, .int .i64 er]) ∧ Hid (BgE w D b bm f bud (prsL F1 F2) (.slice av nv cv) er w') := by
  have HT := hide (prsL_len F1 F2)
  have HAT := hide (prsL_at F1 F2)
  obtain ⟨T, hT⟩ : ∃ T, prsL F1 F2 = T := ⟨_, rfl⟩
  rw [hT] at HT HAT hb ⊢
  clear hT
  obtain ⟨n1, hn1⟩ : ∃ n, F1.length = n := ⟨_, rfl⟩
  obtain ⟨n2, hn2⟩ : ∃ n, F2.length = n := ⟨_, rfl⟩
  rw [hn1, hn2] at HT
  rw [hn1] at hl1 ⊢
  rw [hn2] at hl2 ⊢
  have HN := hide (And.intro hn1 hn2)
  clear hn1 hn2
  go_enter Tryz.func35, Tryz.ntmps35
  go_wp2_with fail
  go_loopw [8, 17] (fun v iv wr => ∃ (i : Nat) (vp : Value) (ps : List PrT) (ns : List Int), i ≤ n1 ∧ iv = .int .i64 (i : Int) ∧ Hid (BgI w D b bm f bud T (i * n2) v vp ps ns wr)) (fun _ iv _ => n1 - (intOf iv).toNat)
  case atStart => exact ⟨0, (.slice none 0 0), [], [], Nat.zero_le _, rfl, hide ⟨by simp, h.out, by show World.ownsRow _ _ _ _ _ ([] : List Int).length (([] : List Int).map _); exact World.ownsRow_nil _ _ _ _, ⟨rfl, rfl, rfl, Nat.le_refl _, fun _ _ _ => rfl⟩, by simp, by simp⟩⟩
  case round =>
    rename World => wo
    obtain ⟨i, vp, ps, ns, hi, rfl, HS⟩ := hrel
    by_cases hlt : i < n1
    · have i1 : (i : Int) < (n1 : Int) := by omega
      have i0 : (0 : Int) ≤ (i : Int) := by omega
      have hi1 : i < F1.length := by have := HN.out.1; omega
      have q1 := hA1.out wo (KpT.ofOnly HS.out.on (fun k h1 h2 => by omega)) i hi1
      obtain ⟨p, hp⟩ : ∃ p, F1[i] = p := ⟨_, rfl⟩
      rw [hp] at q1
      obtain ⟨g1, o1, ea1, z1⟩ := q1
      subst ea1
      have HP := hide hp
      clear hp
      go_wp2_with fail
      clear z1 i1 i0
      go_loopw [8, 23] (fun v jv wr => ∃ (j : Nat) (vp : Value) (ps : List PrT) (ns : List Int), j ≤ n2 ∧ jv = .int .i64 (j : Int) ∧ Hid (BgI w D b bm f bud T (i * n2 + j) v vp ps ns wr)) (fun _ jv _ => n2 - (intOf jv).toNat)
      case atStart => exact ⟨0, vp, ps, ns, Nat.zero_le _, rfl, HS⟩
      case round =>
        obtain ⟨j, vp2, ps2, ns2, hj, rfl, HY⟩ := hrel
        clear HS
        by_cases hjl : j < n2
        · have j1 : (j : Int) < (n2 : Int) := by omega
          have j0 : (0 : Int) ≤ (j : Int) := by omega
          have hj1 : j < F2.length := by have := HN.out.2; omega
          have q2 := hA2.out wr (KpT.ofOnly HY.out.on (fun k h1 h2 => by omega)) j hj1
          obtain ⟨r, hr⟩ : ∃ r, F2[j] = r := ⟨_, rfl⟩
          rw [hr] at q2
          obtain ⟨g2, o2, ea2, z2⟩ := q2
          subst ea2
          have HK : Hid (∃ hk : i * n2 + j < T.length, T[i * n2 + j] = (p, r)) := hide (by
            have e2 := HN.out.2
            subst e2
            have hk : i * F2.length + j < T.length := by
              rw [HT.out]
              have := Nat.mul_le_mul_right F2.length (show i + 1 ≤ n1 from hlt)
              rw [Nat.add_mul, Nat.one_mul] at this
              omega
            exact ⟨hk, by rw [HAT.out i j hi1 hj1 hk, HP.out, hr]⟩)
          clear hr
          have TM := meet_v wr D b bm f bud vp2 (.slice none 0 0) (.slice none 0 0) ps2 [] ns2 0 [] p r (hide HY.out.ss) (hide (by obtain ⟨hk, e⟩ := HK.out; rw [← e]; exact hb.out _ (List.getElem_mem hk))) (hide ⟨hD.out.1, Nat.le_trans hD.out.2.2 HY.out.on.size⟩) HY.out.pl
          go_upto_region 9 with (go_at_call 58; refine TM.mono ?_; rintro e w3 ⟨num, er, rfl, HM⟩)
          clear TM z2
          by_cases he : er = 0
          · subst he
            have HM2 : Hid (∃ vp2' ps2', MtA D b bm f bud false vp2 (.slice none 0 0) (.slice none 0 0) ps2 [] ns2 0 [] (p, r) num vp2' ps2' wr w3) := hide (by
              rcases HM.out with ⟨_, q⟩ | ⟨q, _⟩
              · exact q
              · exact absurd rfl q)
            have HV : Hid (w3.ownsRow w.heap.size 3 1 u8 ns2.length (ns2.map (Value.int .i64))) := hide (by
              obtain ⟨vp3, ps3, a⟩ := HM2.out
              exact row_only HY.out.ow a.on (fun k hk e => by
                have := (HY.out.ow.lt k hk).1
                have := hD.out
                rcases e with e | e | e
                · omega
                · omega
                · exact rows_differ HY.out.ss.po HY.out.ow (by decide) e hk))
            have hln : ns2.length ≤ 16777216 := by
              have := HY.out.le
              have q1 : i * n2 ≤ 4096 * 4096 := Nat.mul_le_mul (by omega) hl2
              have q2 : i * n2 + j ≤ n1 * n2 := by
                have := Nat.mul_le_mul_right n2 (show i + 1 ≤ n1 from hlt)
                rw [Nat.add_mul, Nat.one_mul] at this
                omega
              have q3 : n1 * n2 ≤ 4096 * 4096 := Nat.mul_le_mul hl1 hl2
              omega
            have hwz : w.heap.size ≤ w3.heap.size := Nat.le_trans HY.out.on.size (by obtain ⟨vp3, ps3, a⟩ := HM2.out; exact a.on.size)
            go_wp2_with (at_builtin; refine wpList_appJ rfl _ _ rfl w.heap.size u8 ns2 rfl (own_below HV.out ((Below.refl _ _).alloc (Nat.le_refl _) _)) w3.heap.size num rfl (World.alloc_heap_new _ _) hln (by simp; omega) ?_; intro v5 w5 HO5 HB5)
            have HN5 : Hid (∃ vp3 ps3, BgI w D b bm f bud T (i * n2 + j + 1) v5 vp3 ps3 (ns2 ++ [num]) w5) := hide (by
              obtain ⟨vp3, ps3, a⟩ := HM2.out
              obtain ⟨hk, e⟩ := HK.out
              exact ⟨vp3, ps3, bgI_next HY.out hD.out hk e a ((Below.refl _ _).alloc (Nat.le_refl _) _) HO5.out HB5.out⟩)
            clear HO5 HB5 hwz hln
            obtain ⟨vp3, ps3, q⟩ := HN5.out
            exact ⟨⟨j + 1, vp3, ps3, _, hjl, by go_num, hide q⟩, by simp [intOf]; omega⟩
          · have HN5 : Hid (Only w w3 (fun k => k = b ∨ k = bm ∨ D ≤ k)) := hide (by
              rcases HM.out with ⟨q, _⟩ | ⟨_, q⟩
              · exact absurd q he
              · exact below_ro HY.out.on q)
            go_wp2_with fail
            refine bodyPost_ret (results_tmp2 rfl _ _ _) rfl ?_
            exact ⟨_, _, _, er, rfl, hide (.inl ⟨he, HN5.out⟩)⟩
        · have j1 : ¬ (j : Int) < (n2 : Int) := by omega
          obtain rfl : j = n2 := by omega
          go_wp2_with fail
          exact ⟨⟨i + 1, vp2, ps2, ns2, hlt, by go_num, hide (by rw [Nat.add_mul, Nat.one_mul]; exact HY.out)⟩, by simp [intOf]; omega⟩
    · have i1 : ¬ (i : Int) < (n1 : Int) := by omega
      obtain rfl : i = n1 := by omega
      obtain ⟨av, cv, hv⟩ := own_slice HS.out.ow
      subst hv
      go_wp2_with fail
      refine bodyPost_ret (results_tmp2 rfl _ _ _) rfl ?_
      refine ⟨_, _, _, 0, rfl, hide (.inr ⟨rfl, vp, ps, ns, ?_⟩)⟩
      have q := HS.out
      rw [← HT.out] at q
      refine ⟨q, ?_⟩
      rw [q.eq, List.drop_length]
      rfl
end Go.Proofs.YtchoopnjckcohaaGreat
