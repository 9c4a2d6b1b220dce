import Derived.Test.YtojnlpicgemlaabGreatDoorTp
import Derived.Test.YtojnlpicgemlaabGreatDoorMM
namespace Go.Proofs.YtojnlpicgemlaabGreatDoor
open Go.RowKit Go.Maps
attribute [local go_sem] Oper.semAt_some

/-! ### Reach, Coreach and Dist: what both answer -/
/-- A list that is read. -/
def LA (w : World) (v : Value) (L : List Int) : Prop := ∃ a cap, v = .slice a L.length cap ∧ RdN w a L
theorem LA.on {w w' : World} {v : Value} {L : List Int} (h : LA w v L) (d : Below w.heap.size w w') : LA w' v L := by
  obtain ⟨a, cap, e, hr⟩ := h
  exact ⟨a, cap, e, hr.on d⟩
theorem la_own {B : Nat} {w : World} {v : Value} {L : List Int} (h : OwnL B w v L) : LA w v L := by
  rcases h.2 with ⟨rfl, h0⟩ | ⟨g, cap, cur, rfl, hB, hb, hn, hcap, hsz, hxs⟩
  · have e : L = [] := List.eq_nil_of_length_eq_zero (by simpa using h0)
    subst e
    exact ⟨none, 0, rfl, fun j hj => by simp at hj⟩
  · refine ⟨some ⟨g, 0, none⟩, cap, rfl, fun j hj => ⟨g, 0, rfl, ?_⟩⟩
    rw [Nat.zero_add]
    refine cell_of hb ?_
    have h1 : (cur.toList.take (L.length * 1))[j]? = some (.int .i64 L[j]) := by rw [hxs]; simp [hj]
    rw [List.getElem?_take_of_lt (by omega)] at h1
    simpa using h1
theorem cdec (p : Prop) : @decide p (Classical.propDecidable p) = true ↔ p := iff_of_eq (@decide_eq_true_eq p (Classical.propDecidable p))
/-- The states that a way leads to. -/
noncomputable def rchL (bk : Bool) (n mv : Int) (St Fi : List Int) (Ed : List EdT) : List Int := if mayA n mv St Fi Ed = true then maskL n.toNat (fun q => @decide (∃ k, Wlk (fun q => (q : Int) ∈ if bk then Fi else St) (stepE bk Ed) k q) (Classical.propDecidable _)) else []
/-- How long the shortest way is. -/
noncomputable def dstL (n mv : Int) (St Fi : List Int) (Ed : List EdT) : List Int := if mayA n mv St Fi Ed = true then (List.range n.toNat).map (fun q => Classical.epsilon (fun x => DstQ (Wlk (fun q => (q : Int) ∈ Fi) (stepE true Ed)) n.toNat q x)) else []
def errN (n mv : Int) (St Fi : List Int) (Ed : List EdT) : Int := if mayA n mv St Fi Ed = true then 0 else 2
theorem errN_ok {n mv : Int} {St Fi : List Int} {Ed : List EdT} (h : mayA n mv St Fi Ed = true) : errN n mv St Fi Ed = 0 := if_pos h
theorem errN_bad {n mv : Int} {St Fi : List Int} {Ed : List EdT} (h : mayA n mv St Fi Ed = false) : errN n mv St Fi Ed = 2 := if_neg (by rw [h]; decide)
theorem dstQ_one {W : Nat → Nat → Prop} {n q : Nat} {x y : Int} (h : DstQ W n q x) (k : DstQ W n q y) : x = y := by
  rcases h with ⟨h1, h2⟩ | ⟨k1, h1, h2, h3, h4⟩ <;> rcases k with ⟨k1', k2⟩ | ⟨k2', l1, l2, l3, l4⟩
  · omega
  · exact absurd l3 (h2 _ l1)
  · exact absurd h3 (k2 _ h1)
  · have a1 : ¬ k1 < k2' := fun e => l4 _ e h3
    have a2 : ¬ k2' < k1 := fun e => h4 _ e l3
    omega
theorem dstQ_eps {W : Nat → Nat → Prop} {n q : Nat} {x : Int} (h : DstQ W n q x) : Classical.epsilon (fun x => DstQ W n q x) = x := dstQ_one (Classical.epsilon_spec (p := fun x => DstQ W n q x) ⟨x, h⟩) h
theorem bfs_dstQ {N : Nat} {S : Nat → Prop} {E : Nat → Nat → Prop} {len : Nat → Int} (hb : Bfs N S E [] len) (hl : ∀ q, q < N → len q < N) (hS : ∀ q, S q → q < N) (hE : ∀ p q, E p q → q < N) {q : Nat} (hq : q < N) : DstQ (Wlk S E) N q (len q) := by
  have hg := hb.ge q
  by_cases e : len q = -1
  · refine .inl ⟨e, fun k _ hw => ?_⟩
    have := (hb.done hS hE k q hw).2.1
    omega
  · refine .inr ⟨(len q).toNat, by have := hl q hq; omega, by omega, hb.sound q hq (by omega), fun j hj hw => ?_⟩
    have := (hb.done hS hE j q hw).2.2
    omega
theorem la_nil (w : World) : LA w (.slice none 0 0) [] := ⟨none, 0, rfl, fun j hj => by simp at hj⟩
theorem ArgA.hS {w : World} {N : Nat} {mv : Int} {a1 a2 a3 : Option Addr} {St Fi : List Int} {Ed : List EdT} (h : ArgA w N mv a1 a2 a3 St Fi Ed) (bk : Bool) : ∀ q : Nat, ((q : Int) ∈ if bk then Fi else St) → q < N := fun q hq => by
  cases bk
  · obtain ⟨p, hp, e⟩ := h.ins _ hq
    omega
  · obtain ⟨p, hp, e⟩ := h.inf _ hq
    omega
theorem ArgA.hE {w : World} {N : Nat} {mv : Int} {a1 a2 a3 : Option Addr} {St Fi : List Int} {Ed : List EdT} (h : ArgA w N mv a1 a2 a3 St Fi Ed) (bk : Bool) : ∀ p q, stepE bk Ed p q → q < N := fun p q hq => by
  obtain ⟨e, he, e1⟩ := hq
  obtain ⟨p', r', _, hr, e2⟩ := h.ends bk e he
  rw [e2] at e1
  have := congrArg Prod.snd e1
  simp only at this
  omega
theorem arg_of {w : World} {n mv : Int} {a1 a2 a3 : Option Addr} {St Fi : List Int} {Ed : List EdT} (hA : RdA w a1 a2 a3 St Fi Ed) (h1 : St.length ≤ 4194304) (h2 : Fi.length ≤ 4194304) (hm : mayA n mv St Fi Ed = true) : ∃ N : Nat, n = (N : Int) ∧ ArgA w N mv a1 a2 a3 St Fi Ed := by
  obtain ⟨N, rfl⟩ := Int.eq_ofNat_of_zero_le (may_parts hm).1.1
  exact ⟨N, rfl, hm, hA.s, hA.f, hA.e, h1, h2⟩
theorem preach_u (w : World) (n mv : Int) (a1 a2 a3 : Option Addr) (c1 c2 c3 : Nat) (St Fi : List Int) (Ed : List EdT) (hA : RdA w a1 a2 a3 St Fi Ed) (h1 : St.length ≤ 4194304) (h2 : Fi.length ≤ 4194304) (h3 : Ed.length ≤ 4194304) (hT : TabAt w) (h0 : 0 < w.heap.size) :
    Calls Tryz.prog 18 #[.agg #[.int .i64 n, .int .i64 mv, .slice a1 St.length c1, .slice a2 Fi.length c2, .slice a3 Ed.length c3]] w fun e w' => ∃ v, e = .returned (.tuple #[v, .int .i64 (errN n mv St Fi Ed)]) ∧ LA w' v (rchL false n mv St Fi Ed) ∧ Below w.heap.size w w' := by
  by_cases hm : mayA n mv St Fi Ed = true
  · obtain ⟨N, rfl, hG⟩ := arg_of hA h1 h2 hm
    rw [errN_ok hm]
    refine (preach_ok w N mv a1 a2 a3 c1 c2 c3 St Fi Ed hG hT h0).mono ?_
    rintro e w' ⟨v, rfl, hv, d⟩
    refine ⟨v, rfl, ?_, d⟩
    have hl : rchL false (N : Int) mv St Fi Ed = maskL N (fun q => @decide (∃ k, Wlk (fun q => (q : Int) ∈ if false then Fi else St) (stepE false Ed) k q) (Classical.propDecidable _)) := by
      unfold rchL
      rw [if_pos hm, Int.toNat_natCast]
    rw [hl]
    exact la_own (ansR_is hv (hG.hS false) (hG.hE false) (fun q _ => cdec _))
  · have hm' : mayA n mv St Fi Ed = false := by simpa using hm
    have hl : rchL false n mv St Fi Ed = [] := by
      unfold rchL
      rw [if_neg hm]
    rw [errN_bad hm', hl]
    refine (preach_bad w n mv a1 a2 a3 c1 c2 c3 St Fi Ed hA h1 h2 h3 hm').mono ?_
    rintro e w' ⟨rfl, d⟩
    exact ⟨_, rfl, la_nil _, d⟩
end Go.Proofs.YtojnlpicgemlaabGreatDoor
namespace Go.Proofs.YtojnlpicgemlaabGreatDoor
open Go.RowKit Go.Maps
attribute [local go_sem] Oper.semAt_some

/-! ### part: what lies among some states, renumbered -/
theorem own_below {W W' : World} {B n sz : Nat} {e : TypeId} {v : Value} {xs : List Value} (h : W.ownsRow B e sz v n xs) (d : Below W.heap.size W W') : W'.ownsRow B e sz v n xs := row_only h (Only.ofBelow (R := fun _ => False) d) (fun _ _ => id)
theorem owns_down {W : World} {B C : Nat} {e : TypeId} {sz : Nat} {v : Value} {n : Nat} {xs : List Value} (h : W.ownsRow B e sz v n xs) (hC : C ≤ B) : W.ownsRow C e sz v n xs :=
  ⟨h.1, h.2.imp id (fun ⟨g, cap, cur, h1, h2, h3, h4⟩ => ⟨g, cap, cur, h1, Nat.le_trans hC h2, h3, h4⟩)⟩
/-- A row of one edge, made anew. -/
def threeP (x : EdT) : MkP := fun v lo hi W => v = .slice (some ⟨lo, 0, none⟩) 1 1 ∧ lo < hi ∧ W.heap[lo]? = some (.cells #[.int .i64 x.1, .int .i64 x.2.1, .int .i64 x.2.2] 35 (0, 0))
theorem threeP_mono {x : EdT} : MonoP (threeP x) := fun _ _ _ _ _ hs d ⟨e, l, z⟩ => ⟨e, l, (d.block _ (by omega)).trans z⟩
theorem own_slice {W : World} {B n sz : Nat} {e : TypeId} {v : Value} {xs : List Value} (h : W.ownsRow B e sz v n xs) : ∃ b c, v = .slice b n c := by
  rcases h.2 with ⟨hv, hn⟩ | ⟨g, cap, cur, hv, _⟩
  · exact ⟨none, 0, by rw [hv, hn]⟩
  · exact ⟨_, cap, hv⟩
theorem three_cells {W : World} {x : EdT} {t : TypeId} {p : Nat} (z : W.heap[p]? = some (.cells #[.int .i64 x.1, .int .i64 x.2.1, .int .i64 x.2.2] t (0, 0))) : ∀ (j : Nat) (u : Value), (encE x)[j]? = some u → W.cell? ((⟨p, 0, none⟩ : Addr).add j) = some u := fun j u hu => by
  rw [Addr.add_lit]
  match j, hu with
  | 0, hu => exact cell_of z (by simpa [encE] using hu)
  | 1, hu => exact cell_of z (by simpa [encE] using hu)
  | 2, hu => exact cell_of z (by simpa [encE] using hu)
  | (j + 3), hu => simp [encE] at hu
theorem wpList_appE {ops : Array Oper} {rest : List Oper} {o : Oper} {a : Act} {Q : Exit → Act → World → Prop} {w : World} (hgd : o.guard = none) (s x : Operand)
    (ho : o.op = .call { callee := .builtin .append, args := #[s, x], argTypes := #[23, 23] }) (B : Nat) (v : Value) (X : List EdT) (hs : a.eval s = v) (hown : w.ownsRow B 35 3 v X.length (X.flatMap encE)) (p : Nat) (y : EdT) (hx : a.eval x = .slice (some ⟨p, 0, none⟩) 1 1) (hp : w.heap[p]? = some (.cells #[.int .i64 y.1, .int .i64 y.2.1, .int .i64 y.2.2] 35 (0, 0))) (hl : X.length ≤ 16777216) (w0 : World) (D : Below B w0 w) (hB : B ≤ w0.heap.size)
    (h : ∀ v' w', Hid (w'.ownsRow B 35 3 v' (X ++ [y]).length ((X ++ [y]).flatMap encE)) → Hid (Below B w0 w') → wpList Tryz.prog ops Q rest (a.put o.dst v') w') : wpList Tryz.prog ops Q (o :: rest) a w := by
  obtain ⟨i5, hi5, hz50, hz51, hz52⟩ := info_parts info59
  have hs0 := D.size
  refine wpList_append_own_at _ hgd s x 23 ho B 35 i5 _ 3 24 Tryz.underlying23 hi5 hz50 hz51 hz52 rfl (by omega) v X.length (X.flatMap encE) hs hown ⟨p, 0, none⟩ 1 1 (encE y) hx rfl (three_cells hp) (by simp [encE, Value.oneCell']) (by unfold maxLen; omega) (by omega) (by omega) ?_
  intro v2 w2 h2 hgr _ _
  have hb := hown.lt
  exact h v2 w2 (hide (by rw [List.flatMap_append, List.length_append]; simpa using h2)) (hide (D.grown hgr (by omega) (fun k hk => (hb k hk).1)))
theorem only_below1 {wz wk w4 : World} {R : Nat → Prop} (h : Only wz wk R) (d : Below wk.heap.size wk w4) : Only wz w4 R := h.andNew (Only.ofBelow (R := fun _ => False) d) (fun _ _ q => q.elim)
theorem only_below2 {wz wk w4 w5 : World} {bq : Nat} (h : Only wz wk (fun k => k = bq)) (d : Below wz.heap.size wk w4) (o : Only w4 w5 (fun k => k = bq)) : Only wz w5 (fun k => k = bq) :=
  ⟨(o.os.trans d.os).trans h.os, (o.tape.trans d.tape).trans h.tape, (o.output.trans d.output).trans h.output, Nat.le_trans h.size (Nat.le_trans d.size o.size), fun k hk hn => (o.block k (Nat.lt_of_lt_of_le hk (Nat.le_trans h.size d.size)) hn).trans ((d.block k hk).trans (h.block k hk hn))⟩
/-- The place of a number in a list, as far as it has been told. -/
def numA (L : List Nat) (k q : Nat) : Int := if q ∈ L.take k then (L.idxOf q : Int) else 0
def numT (L : List Nat) (q : Nat) : Int := numA L L.length q
theorem idx_at {L : List Nat} (hn : L.Nodup) {i : Nat} (h : i < L.length) : L.idxOf L[i] = i := by
  have h1 : L.idxOf L[i] < L.length := List.idxOf_lt_length_of_mem (List.getElem_mem h)
  have h2 : L[L.idxOf L[i]] = L[i] := List.getElem_idxOf h1
  have h3 := List.pairwise_iff_getElem.1 hn
  rcases Nat.lt_trichotomy (L.idxOf L[i]) i with e | e | e
  · exact absurd h2 (h3 _ _ h1 h e)
  · exact e
  · exact absurd h2.symm (h3 _ _ h h1 e)
theorem numA_next {L : List Nat} (hn : L.Nodup) {i : Nat} (h : i < L.length) (q : Nat) : (if q = L[i] then (i : Int) else numA L i q) = numA L (i + 1) q := by
  unfold numA
  rw [List.take_succ_eq_append_getElem h]
  by_cases e : q = L[i]
  · subst e
    rw [if_pos rfl, if_pos (List.mem_append.2 (.inr (List.mem_singleton.2 rfl))), idx_at hn h]
  · rw [if_neg e]
    by_cases e2 : q ∈ L.take i
    · rw [if_pos e2, if_pos (List.mem_append.2 (.inl e2))]
    · rw [if_neg e2, if_neg (fun h' => (List.mem_append.1 h').elim e2 (fun h'' => e (List.mem_singleton.1 h'')))]
theorem mrw_made {B : Nat} {w1 : World} {g N : Nat} {x : Int} (h : w1.ownsRow B 3 1 (.slice (some ⟨g, 0, none⟩) N N) N (madeCells (Value.int .i64 x).cells (N * 1)).toList) : Mrw w1 g 3 N (fun _ => .int .i64 x) N := by
  rw [Nat.mul_one, show (Value.int .i64 x).cells = #[.int .i64 x] from rfl] at h
  rw [toList_madeCells_one] at h
  rcases h.2 with ⟨hv, _⟩ | ⟨g', cap', cur, hv, hb, hg, h1, h2, h3, h4⟩
  · cases hv
  · cases hv
    refine ⟨cur, hg, by omega, fun j hj => ?_⟩
    rw [List.take_of_length_le (by simp; omega)] at h4
    have : cur.toList[j]? = some (.int .i64 x) := by rw [h4]; simp [hj]
    simpa using this
theorem own_gl {gl n c k : Nat} (h : (Value.slice (some ⟨gl, 0, none⟩) n c).ownBlock = some k) : k = gl := by
  cases h
  rfl
def renE (X : Nat) (num : Nat → Int) (Ed : List EdT) : List EdT := (Ed.filter fun e => hasB X e.1 && hasB X e.2.2).map fun e => (num e.1.toNat, e.2.1, num e.2.2.toNat)
theorem renE_len (X : Nat) (num : Nat → Int) (Ed : List EdT) : (renE X num Ed).length ≤ Ed.length := by
  unfold renE
  rw [List.length_map]
  exact List.length_filter_le _ _
theorem renE_take (X : Nat) (num : Nat → Int) (Ed : List EdT) {i : Nat} (h : i < Ed.length) : renE X num (Ed.take (i + 1)) = if hasB X Ed[i].1 && hasB X Ed[i].2.2 then renE X num (Ed.take i) ++ [(num Ed[i].1.toNat, Ed[i].2.1, num Ed[i].2.2.toNat)] else renE X num (Ed.take i) := by
  unfold renE
  rw [List.take_succ_eq_append_getElem h, List.filter_append, List.map_append]
  by_cases k : (hasB X Ed[i].1 && hasB X Ed[i].2.2) = true
  · rw [if_pos k, List.filter_cons_of_pos (by simpa using k)]; rfl
  · rw [if_neg k, List.filter_cons_of_neg (by simpa using k)]; simp
/-- What is held while the edges are gone through. -/
structure PrI (wz wr : World) (bq M : Nat) (mv : Int) (v1 v2 v3 : Value) (E : List EdT) : Prop where
  box : wr.heap[bq]? = some (.cells #[.int .i64 (M : Int), .int .i64 mv, v1, v2, v3] 25 (0, 0))
  row : wr.ownsRow wz.heap.size 35 3 v3 E.length (E.flatMap encE)
  only : Only wz wr (fun k => k = bq)
theorem prI_put {wz w7 w4 : World} {bq M : Nat} {mv : Int} {v1 v2 v3 v4 : Value} {E : List EdT} (hb : w7.heap[bq]? = some (.cells #[.int .i64 (M : Int), .int .i64 mv, v1, v2, v3] 25 (0, 0))) (hz : bq < wz.heap.size) (ho : Only wz w7 (fun k => k = bq)) (hr : w4.ownsRow wz.heap.size 35 3 v4 E.length (E.flatMap encE)) (hd : Below wz.heap.size w7 w4) : PrI wz (w4.setCell ⟨bq, 4, none⟩ v4) bq M mv v1 v2 v4 E := by
  have o1 := only_set w4 bq 4 v4
  exact ⟨heap_setCell_same _ _ 4 _ 25 _ ((hd.block _ hz).trans hb), row_only hr o1 (fun k hk e => by have := (hr.lt k hk).1; omega), only_below2 ho hd o1⟩
/-- Three rows lie apart. -/
def Apt3 (v1 v2 vo : Value) : Prop := (∀ k, v1.ownBlock = some k → v2.ownBlock ≠ some k) ∧ ∀ k, vo.ownBlock = some k → v1.ownBlock ≠ some k ∧ v2.ownBlock ≠ some k
/-- What part answers. -/
def PartP (w w' : World) (N X : Nat) (mv : Int) (St Fi : List Int) (Ed : List EdT) (e : Ending) : Prop :=
  ∃ v1 v2 v3 vo, e = .returned (.tuple #[.agg #[.int .i64 ((elems N X).length : Int), .int .i64 mv, v1, v2, v3], vo]) ∧ OwnL w.heap.size w' v1 (renL X (numT (elems N X)) St) ∧ OwnL w.heap.size w' v2 (renL X (numT (elems N X)) Fi) ∧ w'.ownsRow w.heap.size 35 3 v3 (renE X (numT (elems N X)) Ed).length ((renE X (numT (elems N X)) Ed).flatMap encE) ∧ OwnL w.heap.size w' vo (natL (elems N X)) ∧ Below w.heap.size w w' ∧ Apt3 v1 v2 vo
set_option maxRecDepth 100000 in
set_option maxHeartbeats 4000000 in
theorem part_any (w : World) (N : Nat) (mv : Int) (a1 a2 a3 : Option Addr) (c1 c2 c3 : Nat) (St Fi : List Int) (Ed : List EdT) (b g cap X : Nat) (hA : Hid (ArgA w N mv a1 a2 a3 St Fi Ed)) (hs : Hid (IsSet w b g cap N X)) (hT : Hid (TabAt w)) (h0 : 0 < w.heap.size) :
    Calls Tryz.prog 16 #[.agg #[.int .i64 (N : Int), .int .i64 mv, .slice a1 St.length c1, .slice a2 Fi.length c2, .slice a3 Ed.length c3], .pointer (some ⟨b, 0, none⟩)] w fun e w' => PartP w w' N X mv St Fi Ed e := by
  obtain ⟨i3, hi3, hz30, hz31, hz32⟩ := info_parts info3
  obtain ⟨n1, e1⟩ : ∃ n, St.length = n := ⟨_, rfl⟩
  obtain ⟨n2, e2⟩ : ∃ n, Fi.length = n := ⟨_, rfl⟩
  obtain ⟨n3, e3⟩ : ∃ n, Ed.length = n := ⟨_, rfl⟩
  have hN := hA.out.hN
  have h1 := hA.out.ls
  have h2 := hA.out.lf
  have h3 := hA.out.le
  rw [e1] at h1
  rw [e2] at h2
  rw [e3] at h3
  rw [e1, e2, e3]
  have HE := hide (And.intro e1 (And.intro e2 e3))
  clear e1 e2 e3
  obtain ⟨W0, hW0⟩ : ∃ W0, (w.alloc (.cells #[.int .i64 (N : Int), .int .i64 mv, .slice a1 n1 c1, .slice a2 n2 c2, .slice a3 n3 c3] 25)).alloc (.cells #[.int .i64 0, .int .i64 0, .slice none 0 0, .slice none 0 0, .slice none 0 0] 25) = W0 := ⟨_, rfl⟩
  have HB : Hid (Below w.heap.size w W0 ∧ W0.heap[w.heap.size]? = some (.cells #[.int .i64 (N : Int), .int .i64 mv, .slice a1 n1 c1, .slice a2 n2 c2, .slice a3 n3 c3] 25 (0, 0)) ∧ W0.heap[w.heap.size + 1]? = some (.cells #[.int .i64 0, .int .i64 0, .slice none 0 0, .slice none 0 0, .slice none 0 0] 25 (0, 0)) ∧ W0.heap.size = w.heap.size + 2) := hide (by
    have hb := box2 w #[.int .i64 (N : Int), .int .i64 mv, .slice a1 n1 c1, .slice a2 n2 c2, .slice a3 n3 c3] #[.int .i64 0, .int .i64 0, .slice none 0 0, .slice none 0 0, .slice none 0 0] 25
    rw [hW0] at hb
    exact hb)
  have TL := list_any b g cap N X W0 (hs.out.below HB.out.1) (hT.out.below HB.out.1 h0)
  have HL0 : Hid ((elems N X).Nodup ∧ ∀ q ∈ elems N X, q < N) := hide ⟨(elems_sorted N X).imp (fun h => by omega), fun q hq => by
    unfold elems at hq
    exact List.mem_range.1 (List.mem_filter.1 hq).1⟩
  obtain ⟨Q, hQ⟩ : ∃ Q : Ending → World → Prop, (fun e w' => PartP w w' N X mv St Fi Ed e) = Q := ⟨_, rfl⟩
  have HP : Hid (∀ (e : Ending) (w' : World), (∃ v1 v2 v3 vo, e = .returned (.tuple #[.agg #[.int .i64 ((elems N X).length : Int), .int .i64 mv, v1, v2, v3], vo]) ∧ OwnL w.heap.size w' v1 (renL X (numT (elems N X)) St) ∧ OwnL w.heap.size w' v2 (renL X (numT (elems N X)) Fi) ∧ w'.ownsRow w.heap.size 35 3 v3 (renE X (numT (elems N X)) Ed).length ((renE X (numT (elems N X)) Ed).flatMap encE) ∧ OwnL w.heap.size w' vo (natL (elems N X)) ∧ Below w.heap.size w w' ∧ Apt3 v1 v2 vo) → Q e w') := hide (fun e w' h => by rw [← hQ]; exact h)
  rw [hQ]
  clear hQ
  generalize elems N X = L at TL HL0 HP
  obtain ⟨M, hM⟩ : ∃ M, L.length = M := ⟨_, rfl⟩
  rw [hM] at TL HP
  have HML := hide hM
  have hMN : M ≤ 4194304 := by
    have := HL0.out.1.length_le_of_subset (l₂ := List.range N) (fun q hq => List.mem_range.2 (HL0.out.2 q hq))
    rw [List.length_range] at this
    omega
  clear hM
  go_enter Tryz.func16, Tryz.ntmps16
  go_upto_region 2 with (go_at_call 35; refine TL.mono ?_; rintro e w1 ⟨gl, cl, rfl, hO, d1⟩)
  have HW1 : Hid (OwnL W0.heap.size w1 (.slice (some ⟨gl, 0, none⟩) M cl) (natL L) ∧ Below W0.heap.size W0 w1 ∧ gl < w1.heap.size ∧ W0.heap.size ≤ gl) := hide ⟨by unfold OwnL; rw [natL_len, HML.out]; unfold natL; rw [List.map_map]; exact hO, d1, (hO.lt gl rfl).2, (hO.lt gl rfl).1⟩
  clear hO d1 TL hW0
  have k0 : w1.cell? ⟨w.heap.size, 0, none⟩ = some (.int .i64 (N : Int)) := cell_of (blk_on HB.out.2.1 HW1.out.2.1) rfl
  go_upto_region 3 with (at_make; refine wpList_make_full _ rfl _ _ 22 rfl w1.heap.size 3 i3 (.int .i64 0) 1 Tryz.underlying22 hi3 hz30 hz31 _ _ _ _ N rfl rfl (by go_num) (by go_num) (by rw [hz32]; omega) (by unfold maxLen; omega) (Nat.le_refl _) ?_; intro w2 ho hg)
  obtain ⟨H, hH⟩ : ∃ H, w1.heap.size = H := ⟨_, rfl⟩
  have HW2 : Hid (Mrw w2 H 3 N (fun q => .int .i64 (numA L 0 q)) N ∧ Below w1.heap.size w1 w2 ∧ w1.heap.size = H) := hide ⟨by rw [← hH]; exact (mrw_made (x := 0) ho).congr (fun c _ => by simp [numA]), (Below.refl _ _).grown hg (Nat.le_refl _) (by intro k hk; cases hk), hH⟩
  rw [hH]
  clear ho hg k0 hH
  go_wp2_with fail
  go_loopw [20] (fun iv wr => ∃ i : Nat, i ≤ M ∧ iv = .int .i64 (i : Int) ∧ Hid (Mrw wr H 3 N (fun q => .int .i64 (numA L i q)) N ∧ Only w2 wr (fun k => k = H))) (fun iv _ => M - (intOf iv).toNat)
  case atStart => exact ⟨0, Nat.zero_le _, rfl, hide ⟨HW2.out.1, Only.ofBelow (Below.refl _ _)⟩⟩
  case round =>
    obtain ⟨i, hi, rfl, HY⟩ := hrel
    by_cases hlt : i < M
    · have l0 : (i : Int) < (M : Int) := by omega
      have i0 : (0 : Int) ≤ (i : Int) := by omega
      have hil : i < L.length := by rw [HML.out]; exact hlt
      have hp := HL0.out.2 _ (List.getElem_mem hil)
      have HNx := hide (numA_next HL0.out.1 hil)
      have r1 : wr.cell? ⟨gl, i, none⟩ = some (.int .i64 (L[i] : Int)) := by
        have ho : OwnL W0.heap.size wr (.slice (some ⟨gl, 0, none⟩) M cl) (natL L) := row_only (HW1.out.1.below HW2.out.2.1) HY.out.2 (fun k hk e => by have := HW2.out.2.2; have := own_gl hk; have := HW1.out.2.2.1; omega)
        obtain ⟨ao, cp, ev, hr⟩ := la_own ho
        cases ev
        obtain ⟨g', o', eg, hc⟩ := hr i (by rw [natL_len]; exact hil)
        cases eg
        rw [Nat.zero_add] at hc
        rw [hc]
        simp [natL]
      generalize L[i] = p at hp HNx r1
      have p0 : (0 : Int) ≤ (p : Int) := by omega
      have p1 : (p : Int) < (N : Int) := by omega
      obtain ⟨u0, cu⟩ := HY.out.1.cell p hp
      have zu := HY.out.1.fz p
      have J : Hid (Mrw (wr.setCell ⟨H, p, none⟩ (.int .i64 (i : Int))) H 3 N (fun q => .int .i64 (numA L (i + 1) q)) N ∧ Only w2 (wr.setCell ⟨H, p, none⟩ (.int .i64 (i : Int))) (fun k => k = H)) := hide ⟨(HY.out.1.upd p (.int .i64 (i : Int))).congr (fun c _ => by
        rw [← HNx.out c]
        split <;> rfl), HY.out.2.trans (only_set _ _ _ _)⟩
      clear HNx
      go_wp2_with fail
      go_roundw
      case rel => exact ⟨i + 1, by omega, by go_num, J⟩
      case measure => simp [intOf]; omega
    · have l0 : ¬ (i : Int) < (M : Int) := by omega
      obtain rfl : i = M := by omega
      clear hi hlt
      have HY2 : Hid (Mrw wr H 3 N (fun q => .int .i64 (numT L q)) N ∧ Below w.heap.size w wr ∧ wr.heap[w.heap.size]? = some (.cells #[.int .i64 (N : Int), .int .i64 mv, .slice a1 n1 c1, .slice a2 n2 c2, .slice a3 n3 c3] 25 (0, 0)) ∧ wr.heap[w.heap.size + 1]? = some (.cells #[.int .i64 0, .int .i64 0, .slice none 0 0, .slice none 0 0, .slice none 0 0] 25 (0, 0)) ∧ OwnL W0.heap.size wr (.slice (some ⟨gl, 0, none⟩) i cl) (natL L) ∧ w.heap.size + 2 ≤ wr.heap.size ∧ w.heap.size + 2 ≤ H ∧ H < wr.heap.size) := hide (by
        have s0 := HB.out.2.2.2
        have s1 := HW1.out.2.1.size
        have s2 := HW2.out.2.1.size
        have s3 := HY.out.2.size
        have s4 := HW2.out.2.2
        have dd := HB.out.1.trans ((HW1.out.2.1.trans (HW2.out.2.1.mono s1)).mono HB.out.1.size)
        have b1 := blk_on (blk_on HB.out.2.1 HW1.out.2.1) HW2.out.2.1
        have b2 := blk_on (blk_on HB.out.2.2.1 HW1.out.2.1) HW2.out.2.1
        refine ⟨by unfold numT; rw [HML.out]; exact HY.out.1, dd.trans (HY.out.2.toBelow (by omega) (fun k hk => by omega)), (HY.out.2.block _ (by omega) (by omega)).trans b1, (HY.out.2.block _ (by omega) (by omega)).trans b2, row_only (HW1.out.1.below HW2.out.2.1) HY.out.2 (fun k hk e => by have := own_gl hk; have := HW1.out.2.2.1; omega), by omega, by omega, HY.out.1.lt⟩)
      clear HY HW1 HW2
      generalize numT L = num at HY2 HP
      have k1 : wr.cell? ⟨w.heap.size, 1, none⟩ = some (.int .i64 mv) := cell_of HY2.out.2.2.1 rfl
      go_upto_region 9 with fail
      obtain ⟨bq, hbq⟩ : ∃ k, wr.heap.size = k := ⟨_, rfl⟩
      rw [hbq]
      obtain ⟨wq, hwq⟩ : ∃ W, wr.alloc (.cells #[.int .i64 (i : Int), .int .i64 mv, .slice none 0 0, .slice none 0 0, .slice none 0 0] 25) = W := ⟨_, rfl⟩
      rw [hwq]
      have HQ : Hid (wq.heap[bq]? = some (.cells #[.int .i64 (i : Int), .int .i64 mv, .slice none 0 0, .slice none 0 0, .slice none 0 0] 25 (0, 0)) ∧ Below w.heap.size w wq ∧ wq.heap[w.heap.size]? = some (.cells #[.int .i64 (N : Int), .int .i64 mv, .slice a1 n1 c1, .slice a2 n2 c2, .slice a3 n3 c3] 25 (0, 0)) ∧ wq.heap[w.heap.size + 1]? = some (.cells #[.int .i64 0, .int .i64 0, .slice none 0 0, .slice none 0 0, .slice none 0 0] 25 (0, 0)) ∧ Mrw wq H 3 N (fun q => .int .i64 (num q)) N ∧ OwnL W0.heap.size wq (.slice (some ⟨gl, 0, none⟩) i cl) (natL L) ∧ bq < wq.heap.size ∧ w.heap.size + 2 ≤ H ∧ H < bq ∧ gl < bq ∧ w.heap.size + 2 ≤ gl) := hide (by
        have d : Below wr.heap.size wr wq := by rw [← hwq]; exact (Below.refl _ _).alloc (Nat.le_refl _) _
        have s0 := HY2.out.2.2.2.2.2.2.2
        have s1 := (HY2.out.2.2.2.2.1.lt gl rfl)
        have s2 := HB.out.2.2.2
        exact ⟨by rw [← hwq, ← hbq]; exact World.alloc_heap_new _ _, HY2.out.2.1.trans (d.mono HY2.out.2.1.size), blk_on HY2.out.2.2.1 d, blk_on HY2.out.2.2.2.1 d, HY2.out.1.below d HY2.out.1.lt, HY2.out.2.2.2.2.1.below d, by rw [← hwq, ← hbq]; simp, HY2.out.2.2.2.2.2.2.1, by omega, by omega, by omega⟩)
      clear hwq HY2 k1
      have SX : Hid (∀ W, Below w.heap.size w W → IsSet W b g cap N X) := hide (fun W d => hs.out.below d)
      have T1 := renum_any wq a1 c1 H N St num b g cap X (hA.out.rs.on HQ.out.2.1) HQ.out.2.2.2.2.1 (SX.out wq HQ.out.2.1) hA.out.ins (by have := HE.out.1; omega)
      rw [HE.out.1] at T1
      have k2 : wq.cell? ⟨w.heap.size, 2, none⟩ = some (.slice a1 n1 c1) := cell_of HQ.out.2.2.1 rfl
      go_upto_region 10 with (go_at_call 36; refine T1.mono ?_; rintro e w3 ⟨v1, rfl, hO1, d3⟩; obtain ⟨y1, z1, rfl⟩ := own_slice hO1; have H3 : Hid (w3.heap[bq]? = some (.cells #[.int .i64 (i : Int), .int .i64 mv, .slice none 0 0, .slice none 0 0, .slice none 0 0] 25 (0, 0)) ∧ Below w.heap.size w w3 ∧ w3.heap[w.heap.size]? = some (.cells #[.int .i64 (N : Int), .int .i64 mv, .slice a1 n1 c1, .slice a2 n2 c2, .slice a3 n3 c3] 25 (0, 0)) ∧ w3.heap[w.heap.size + 1]? = some (.cells #[.int .i64 0, .int .i64 0, .slice none 0 0, .slice none 0 0, .slice none 0 0] 25 (0, 0)) ∧ Mrw w3 H 3 N (fun q => .int .i64 (num q)) N ∧ OwnL W0.heap.size w3 (.slice (some ⟨gl, 0, none⟩) i cl) (natL L) ∧ bq < w3.heap.size ∧ OwnL wq.heap.size w3 (.slice y1 (renL X num St).length z1) (renL X num St) ∧ wq.heap.size ≤ w3.heap.size) := hide ⟨blk_on HQ.out.1 d3, HQ.out.2.1.trans (d3.mono HQ.out.2.1.size), blk_on HQ.out.2.2.1 d3, blk_on HQ.out.2.2.2.1 d3, HQ.out.2.2.2.2.1.below d3 HQ.out.2.2.2.2.1.lt, HQ.out.2.2.2.2.2.1.below d3, Nat.lt_of_lt_of_le HQ.out.2.2.2.2.2.2.1 d3.size, hO1, d3.size⟩; have o2 : w3.cell? ⟨bq, 2, none⟩ = some (.slice none 0 0) := cell_of H3.out.1 rfl; have f2 : w3.frozen? ⟨bq, 2, none⟩ = false := fz_of H3.out.1; clear hO1 d3)
      obtain ⟨w4, hw4⟩ : ∃ W, w3.setCell ⟨bq, 2, none⟩ (.slice y1 (renL X num St).length z1) = W := ⟨_, rfl⟩
      rw [hw4]
      have H4 : Hid (w4.heap[bq]? = some (.cells #[.int .i64 (i : Int), .int .i64 mv, .slice y1 (renL X num St).length z1, .slice none 0 0, .slice none 0 0] 25 (0, 0)) ∧ Below w.heap.size w w4 ∧ w4.heap[w.heap.size]? = some (.cells #[.int .i64 (N : Int), .int .i64 mv, .slice a1 n1 c1, .slice a2 n2 c2, .slice a3 n3 c3] 25 (0, 0)) ∧ w4.heap[w.heap.size + 1]? = some (.cells #[.int .i64 0, .int .i64 0, .slice none 0 0, .slice none 0 0, .slice none 0 0] 25 (0, 0)) ∧ Mrw w4 H 3 N (fun q => .int .i64 (num q)) N ∧ OwnL W0.heap.size w4 (.slice (some ⟨gl, 0, none⟩) i cl) (natL L) ∧ bq < w4.heap.size ∧ OwnL wq.heap.size w4 (.slice y1 (renL X num St).length z1) (renL X num St) ∧ wq.heap.size ≤ w4.heap.size) := hide (by
        have o : Only w3 w4 (fun k => k = bq) := by rw [← hw4]; exact only_set _ _ _ _
        have s1 := HQ.out.2.2.2.2.2.2.2
        have s2 := HQ.out.2.2.2.2.2.2.1
        exact ⟨by rw [← hw4]; exact heap_setCell_same _ _ 2 _ 25 _ H3.out.1, H3.out.2.1.trans (o.toBelow H3.out.2.1.size (fun k hk => by omega)), (o.block _ (Array.getElem?_eq_some_iff.1 H3.out.2.2.1).1 (by omega)).trans H3.out.2.2.1, (o.block _ (Array.getElem?_eq_some_iff.1 H3.out.2.2.2.1).1 (by omega)).trans H3.out.2.2.2.1, H3.out.2.2.2.2.1.only o (by omega), row_only H3.out.2.2.2.2.2.1 o (fun k hk e => by have := own_gl hk; omega), Nat.lt_of_lt_of_le H3.out.2.2.2.2.2.2.1 o.size, row_only H3.out.2.2.2.2.2.2.2.1 o (fun k hk e => by have := (H3.out.2.2.2.2.2.2.2.1.lt k hk).1; omega), Nat.le_trans H3.out.2.2.2.2.2.2.2.2 o.size⟩)
      clear hw4 H3 o2 f2 T1 k2
      have T2 := renum_any w4 a2 c2 H N Fi num b g cap X (hA.out.rf.on H4.out.2.1) H4.out.2.2.2.2.1 (SX.out w4 H4.out.2.1) hA.out.inf (by have := HE.out.2.1; omega)
      rw [HE.out.2.1] at T2
      have k3 : w4.cell? ⟨w.heap.size, 3, none⟩ = some (.slice a2 n2 c2) := cell_of H4.out.2.2.1 rfl
      go_upto_region 11 with (go_at_call 36; refine T2.mono ?_; rintro e w5 ⟨v2, rfl, hO2, d5⟩; obtain ⟨y2, z2, rfl⟩ := own_slice hO2; have H5 : Hid (w5.heap[bq]? = some (.cells #[.int .i64 (i : Int), .int .i64 mv, .slice y1 (renL X num St).length z1, .slice none 0 0, .slice none 0 0] 25 (0, 0)) ∧ Below w.heap.size w w5 ∧ w5.heap[w.heap.size]? = some (.cells #[.int .i64 (N : Int), .int .i64 mv, .slice a1 n1 c1, .slice a2 n2 c2, .slice a3 n3 c3] 25 (0, 0)) ∧ w5.heap[w.heap.size + 1]? = some (.cells #[.int .i64 0, .int .i64 0, .slice none 0 0, .slice none 0 0, .slice none 0 0] 25 (0, 0)) ∧ Mrw w5 H 3 N (fun q => .int .i64 (num q)) N ∧ OwnL W0.heap.size w5 (.slice (some ⟨gl, 0, none⟩) i cl) (natL L) ∧ bq < w5.heap.size ∧ OwnL wq.heap.size w5 (.slice y1 (renL X num St).length z1) (renL X num St) ∧ OwnL w4.heap.size w5 (.slice y2 (renL X num Fi).length z2) (renL X num Fi)) := hide ⟨blk_on H4.out.1 d5, H4.out.2.1.trans (d5.mono H4.out.2.1.size), blk_on H4.out.2.2.1 d5, blk_on H4.out.2.2.2.1 d5, H4.out.2.2.2.2.1.below d5 H4.out.2.2.2.2.1.lt, H4.out.2.2.2.2.2.1.below d5, Nat.lt_of_lt_of_le H4.out.2.2.2.2.2.2.1 d5.size, H4.out.2.2.2.2.2.2.2.1.below d5, hO2⟩; have o3 : w5.cell? ⟨bq, 3, none⟩ = some (.slice none 0 0) := cell_of H5.out.1 rfl; have f3 : w5.frozen? ⟨bq, 3, none⟩ = false := fz_of H5.out.1; clear hO2 d5)
      have HAP : Hid (∀ k, (Value.slice y1 (renL X num St).length z1).ownBlock = some k → (Value.slice y2 (renL X num Fi).length z2).ownBlock ≠ some k) := hide (fun k hk hq => by have := (H4.out.2.2.2.2.2.2.2.1.lt k hk).2; have := (H5.out.2.2.2.2.2.2.2.2.lt k hq).1; omega)
      obtain ⟨wz, hwz⟩ : ∃ W, w5.setCell ⟨bq, 3, none⟩ (.slice y2 (renL X num Fi).length z2) = W := ⟨_, rfl⟩
      rw [hwz]
      have HZ : Hid (wz.heap[bq]? = some (.cells #[.int .i64 (i : Int), .int .i64 mv, .slice y1 (renL X num St).length z1, .slice y2 (renL X num Fi).length z2, .slice none 0 0] 25 (0, 0)) ∧ Below w.heap.size w wz ∧ wz.heap[w.heap.size]? = some (.cells #[.int .i64 (N : Int), .int .i64 mv, .slice a1 n1 c1, .slice a2 n2 c2, .slice a3 n3 c3] 25 (0, 0)) ∧ wz.heap[w.heap.size + 1]? = some (.cells #[.int .i64 0, .int .i64 0, .slice none 0 0, .slice none 0 0, .slice none 0 0] 25 (0, 0)) ∧ Mrw wz H 3 N (fun q => .int .i64 (num q)) N ∧ OwnL W0.heap.size wz (.slice (some ⟨gl, 0, none⟩) i cl) (natL L) ∧ bq < wz.heap.size ∧ OwnL wq.heap.size wz (.slice y1 (renL X num St).length z1) (renL X num St) ∧ OwnL wq.heap.size wz (.slice y2 (renL X num Fi).length z2) (renL X num Fi) ∧ w.heap.size + 2 ≤ H ∧ H < bq ∧ gl < bq ∧ w.heap.size + 2 ≤ gl ∧ bq < wq.heap.size) := hide (by
        have o : Only w5 wz (fun k => k = bq) := by rw [← hwz]; exact only_set _ _ _ _
        have s1 := HQ.out.2.2.2.2.2.2.2
        have s2 := HQ.out.2.2.2.2.2.2.1
        have s3 := H4.out.2.2.2.2.2.2.2.2
        exact ⟨by rw [← hwz]; exact heap_setCell_same _ _ 3 _ 25 _ H5.out.1, H5.out.2.1.trans (o.toBelow H5.out.2.1.size (fun k hk => by omega)), (o.block _ (Array.getElem?_eq_some_iff.1 H5.out.2.2.1).1 (by omega)).trans H5.out.2.2.1, (o.block _ (Array.getElem?_eq_some_iff.1 H5.out.2.2.2.1).1 (by omega)).trans H5.out.2.2.2.1, H5.out.2.2.2.2.1.only o (by omega), row_only H5.out.2.2.2.2.2.1 o (fun k hk e => by have := own_gl hk; omega), Nat.lt_of_lt_of_le H5.out.2.2.2.2.2.2.1 o.size, row_only H5.out.2.2.2.2.2.2.2.1 o (fun k hk e => by have := (H5.out.2.2.2.2.2.2.2.1.lt k hk).1; omega), owns_down (row_only H5.out.2.2.2.2.2.2.2.2 o (fun k hk e => by have := (H5.out.2.2.2.2.2.2.2.2.lt k hk).1; omega)) s3, s1.1, s1.2.1, s1.2.2.1, s1.2.2.2, s2⟩)
      clear hwz H5 o3 f3 T2 k3 H4 HQ
      have k4 : wz.cell? ⟨w.heap.size, 4, none⟩ = some (.slice a3 n3 c3) := cell_of HZ.out.2.2.1 rfl
      go_wp2_with fail
      clear k4
      obtain ⟨wo, rfl⟩ : ∃ z, z = wr := ⟨_, rfl⟩
      go_loopw [50] (fun iv wr => ∃ j : Nat, j ≤ n3 ∧ iv = .int .i64 (j : Int) ∧ ∃ y3 z3, Hid (PrI wz wr bq i mv (.slice y1 (renL X num St).length z1) (.slice y2 (renL X num Fi).length z2) (.slice y3 (renE X num (Ed.take j)).length z3) (renE X num (Ed.take j)))) (fun iv _ => n3 - (intOf iv).toNat)
      case atStart => exact ⟨0, Nat.zero_le _, rfl, none, 0, hide ⟨HZ.out.1, World.ownsRow_nil _ _ _ _, Only.ofBelow (Below.refl _ _)⟩⟩
      case round =>
        obtain ⟨j, hj, rfl, y3, z3, HY⟩ := hrel
        have HDr : Hid (Below w.heap.size w wr) := hide (HZ.out.2.1.trans (HY.out.only.toBelow HZ.out.2.1.size (fun k hk => by have := HZ.out.2.2.2.2.2.2.2.2.2; omega)))
        by_cases hlt : j < n3
        · have l1 : (j : Int) < (n3 : Int) := by omega
          have i1 : (0 : Int) ≤ (j : Int) := by omega
          have hjl : j < Ed.length := by have := HE.out.2.2; omega
          obtain ⟨g', o, rfl, r1, r2, r3⟩ := (hA.out.re.on HDr.out) j hjl
          obtain ⟨p, r, hp, hr, ep, er⟩ := hA.out.prs _ (List.getElem_mem hjl)
          have HS := hide (renE_take X num Ed hjl)
          have hq : (renE X num (Ed.take j)).length ≤ 16777216 := Nat.le_trans (renE_len X num (Ed.take j)) (by rw [List.length_take]; omega)
          rw [ep] at r1 HS
          rw [er] at r3 HS
          generalize Ed[j].2.1 = x2 at r2 HS
          clear ep er
          generalize renE X num (Ed.take j) = R at HS HY hq
          go_upto_region 14 with fail
          obtain ⟨eb, heb⟩ : ∃ k, wr.heap.size = k := ⟨_, rfl⟩
          rw [heb]
          obtain ⟨we, hwe⟩ : ∃ W, wr.alloc (.cells #[.int .i64 (p : Int), .int .i64 x2, .int .i64 (r : Int)] 35) = W := ⟨_, rfl⟩
          rw [hwe]
          have HK : Hid (we.heap[bq]? = some (.cells #[.int .i64 (i : Int), .int .i64 mv, .slice y1 (renL X num St).length z1, .slice y2 (renL X num Fi).length z2, .slice y3 R.length z3] 25 (0, 0)) ∧ we.heap[eb]? = some (.cells #[.int .i64 (p : Int), .int .i64 x2, .int .i64 (r : Int)] 35 (0, 0)) ∧ Mrw we H 3 N (fun q => .int .i64 (num q)) N ∧ we.ownsRow wz.heap.size 35 3 (.slice y3 R.length z3) R.length (R.flatMap encE) ∧ bq < wz.heap.size ∧ Only wz we (fun k => k = bq)) := hide (by
            have d : Below wr.heap.size wr we := by rw [← hwe]; exact (Below.refl _ _).alloc (Nat.le_refl _) _
            have s1 := HZ.out.2.2.2.2.2.2.2.2.2
            refine ⟨blk_on HY.out.box d, by rw [← hwe, ← heb]; exact World.alloc_heap_new _ _, (HZ.out.2.2.2.2.1.only HY.out.only (by omega)).below d (HZ.out.2.2.2.2.1.only HY.out.only (by omega)).lt, own_below HY.out.row d, HZ.out.2.2.2.2.2.2.1, only_below1 HY.out.only d⟩)
          have HDe : Hid (Below w.heap.size w we) := hide (HZ.out.2.1.trans (HK.out.2.2.2.2.2.toBelow HZ.out.2.1.size (fun k hk => by have := HZ.out.2.2.2.2.2.2.2.2.2; omega)))
          clear HY HDr hwe r1 r2 r3 heb
          have TH := has_any b g cap N X (p : Int) we (SX.out we HDe.out)
          have k0 : we.cell? ⟨eb, 0, none⟩ = some (.int .i64 (p : Int)) := cell_of HK.out.2.1 rfl
          have kb : we.cell? ⟨eb, 2, none⟩ = some (.int .i64 (r : Int)) := cell_of HK.out.2.1 rfl
          by_cases hh : hasB X (p : Int) = true
          · rw [hh] at TH HS
            by_cases hh2 : hasB X (r : Int) = true
            · rw [hh2] at HS
              have HE : Hid (renE X num (Ed.take (j + 1)) = R ++ [(num p, x2, num r)]) := hide (by rw [HS.out]; simp)
              clear HS
              go_wp2_with fail
              refine TH.mono ?_
              rintro e w6 ⟨rfl, q6, hw6⟩
              have TH2 := has_any b g cap N X (r : Int) w6 (SX.out w6 (by rw [hw6]; exact below_drewN2 HDe.out _))
              rw [hh2] at TH2
              have kb6 : w6.cell? ⟨eb, 2, none⟩ = some (.int .i64 (r : Int)) := by rw [hw6]; exact kb
              have HW6 := hide hw6
              clear hw6
              go_wp2_with fail
              refine TH2.mono ?_
              rintro e w7 ⟨rfl, q7, hw7⟩
              have HW7 := hide hw7
              clear hw7
              go_upto_region 15 with fail
              have HK7 : Hid (w7.heap[bq]? = some (.cells #[.int .i64 (i : Int), .int .i64 mv, .slice y1 (renL X num St).length z1, .slice y2 (renL X num Fi).length z2, .slice y3 R.length z3] 25 (0, 0)) ∧ w7.heap[eb]? = some (.cells #[.int .i64 (p : Int), .int .i64 x2, .int .i64 (r : Int)] 35 (0, 0)) ∧ Mrw w7 H 3 N (fun q => .int .i64 (num q)) N ∧ w7.ownsRow wz.heap.size 35 3 (.slice y3 R.length z3) R.length (R.flatMap encE) ∧ bq < wz.heap.size ∧ Only wz w7 (fun k => k = bq)) := hide (by
                rw [HW7.out, HW6.out]
                exact ⟨HK.out.1, HK.out.2.1, HK.out.2.2.1, HK.out.2.2.2.1, HK.out.2.2.2.2.1, only_below1 HK.out.2.2.2.2.2 (below_drewN2 (below_drewN2 (Below.refl _ _) _) _)⟩)
              clear HK HW6 HW7 kb6 kb k0 TH TH2
              have HK := HK7
              clear HK7
              have hmo : MonIL 0 [vI 0 (.pointer (some ⟨bq, 4, none⟩)), vI 1 (.slice y3 R.length z3), vI 2 (.slice (some ⟨H, 0, none⟩) N N), vI 3 (.pointer (some ⟨eb, 0, none⟩)), vI 4 (.int .i64 (p : Int)), vI 5 (.pointer (some ⟨H, p, none⟩)), vI 6 (.int .i64 (num p)), vI 7 (.pointer (some ⟨eb, 1, none⟩)), vI 8 (.int .i64 x2), vI 9 (.slice (some ⟨H, 0, none⟩) N N), vI 10 (.pointer (some ⟨eb, 2, none⟩)), vI 11 (.int .i64 (r : Int)), vI 12 (.pointer (some ⟨H, r, none⟩)), vI 13 (.int .i64 (num r)), vI 14 (.agg #[.int .i64 (num p), .int .i64 x2, .int .i64 (num r)]), pI 15 (threeP (num p, x2, num r))] := ⟨vI_mono _ _, vI_mono _ _, vI_mono _ _, vI_mono _ _, vI_mono _ _, vI_mono _ _, vI_mono _ _, vI_mono _ _, vI_mono _ _, vI_mono _ _, vI_mono _ _, vI_mono _ _, vI_mono _ _, vI_mono _ _, vI_mono _ _, pI_mono threeP_mono, trivial⟩
              refine wp_region_sl [vI 0 (.pointer (some ⟨bq, 4, none⟩)), vI 1 (.slice y3 R.length z3), vI 2 (.slice (some ⟨H, 0, none⟩) N N), vI 3 (.pointer (some ⟨eb, 0, none⟩)), vI 4 (.int .i64 (p : Int)), vI 5 (.pointer (some ⟨H, p, none⟩)), vI 6 (.int .i64 (num p)), vI 7 (.pointer (some ⟨eb, 1, none⟩)), vI 8 (.int .i64 x2), vI 9 (.slice (some ⟨H, 0, none⟩) N N), vI 10 (.pointer (some ⟨eb, 2, none⟩)), vI 11 (.int .i64 (r : Int)), vI 12 (.pointer (some ⟨H, r, none⟩)), vI 13 (.int .i64 (num r)), vI 14 (.agg #[.int .i64 (num p), .int .i64 x2, .int .i64 (num r)]), pI 15 (threeP (num p, x2, num r))] (by kernel_rfl) (by kernel_rfl) (by kernel_rfl) (by kernel_rfl) hmo ⟨?o0, ?o1, ?o2, ?o3, ?o4, ?o5, ?o6, ?o7, ?o8, ?o9, ?o10, ?o11, ?o12, ?o13, ?o14, ?o15, trivial⟩ ?fin
              case o0 =>
                intro At yy W hy hb d hd K hK
                have s10 : At.tmps.getD 10 undef = .pointer (some ⟨bq, 0, none⟩) := hb 10 rfl
                have s10' := s10
                rw [Array.getD_eq_getD_getElem?] at s10'
                clear hd hy hb
                go_simp
                exact hK.out _ W (stp_of hmo d (Below.refl _ _)) (if_pos rfl)
              case o1 =>
                intro At yy W hy hb d hd K hK
                have e0 : yy 0 = .pointer (some ⟨bq, 4, none⟩) := by obtain ⟨_, _, _, _, e⟩ := hd ⟨0, .data⟩ (by simp) rfl rfl; exact e
                have s64 := (hy 0 _ 64 rfl rfl).trans e0
                have s64' := s64
                rw [Array.getD_eq_getD_getElem?] at s64'
                clear hd hy hb
                have qq : W.cell? ⟨bq, 4, none⟩ = some (.slice y3 R.length z3) := cell_of (blk_on HK.out.1 d) rfl
                go_simp
                exact hK.out _ W (stp_of hmo d (Below.refl _ _)) (if_pos rfl)
              case o2 =>
                intro At yy W hy hb d hd K hK
                have s7 : At.tmps.getD 7 undef = .slice (some ⟨H, 0, none⟩) N N := hb 7 rfl
                have s7' := s7
                rw [Array.getD_eq_getD_getElem?] at s7'
                clear hd hy hb
                go_simp
                exact hK.out _ W (stp_of hmo d (Below.refl _ _)) (if_pos rfl)
              case o3 =>
                intro At yy W hy hb d hd K hK
                have s12 : At.tmps.getD 12 undef = .pointer (some ⟨eb, 0, none⟩) := hb 12 rfl
                have s12' := s12
                rw [Array.getD_eq_getD_getElem?] at s12'
                clear hd hy hb
                go_simp
                exact hK.out _ W (stp_of hmo d (Below.refl _ _)) (if_pos rfl)
              case o4 =>
                intro At yy W hy hb d hd K hK
                have e3 : yy 3 = .pointer (some ⟨eb, 0, none⟩) := by obtain ⟨_, _, _, _, e⟩ := hd ⟨3, .data⟩ (by simp) rfl rfl; exact e
                have s67 := (hy 3 _ 67 rfl rfl).trans e3
                have s67' := s67
                rw [Array.getD_eq_getD_getElem?] at s67'
                clear hd hy hb
                have qq : W.cell? ⟨eb, 0, none⟩ = some (.int .i64 (p : Int)) := cell_of (blk_on HK.out.2.1 d) rfl
                go_simp
                exact hK.out _ W (stp_of hmo d (Below.refl _ _)) (if_pos rfl)
              case o5 =>
                intro At yy W hy hb d hd K hK
                have e2 : yy 2 = .slice (some ⟨H, 0, none⟩) N N := by obtain ⟨_, _, _, _, e⟩ := hd ⟨2, .data⟩ (by simp) rfl rfl; exact e
                have e4 : yy 4 = .int .i64 (p : Int) := by obtain ⟨_, _, _, _, e⟩ := hd ⟨4, .data⟩ (by simp) rfl rfl; exact e
                have p0 : (0 : Int) ≤ (p : Int) := by omega
                have p1 : (p : Int) < (N : Int) := by omega
                have s66 := (hy 2 _ 66 rfl rfl).trans e2
                have s66' := s66
                rw [Array.getD_eq_getD_getElem?] at s66'
                have s68 := (hy 4 _ 68 rfl rfl).trans e4
                have s68' := s68
                rw [Array.getD_eq_getD_getElem?] at s68'
                clear hd hy hb
                go_simp
                exact hK.out _ W (stp_of hmo d (Below.refl _ _)) (if_pos rfl)
              case o6 =>
                intro At yy W hy hb d hd K hK
                have e5 : yy 5 = .pointer (some ⟨H, p, none⟩) := by obtain ⟨_, _, _, _, e⟩ := hd ⟨5, .data⟩ (by simp) rfl rfl; exact e
                have s69 := (hy 5 _ 69 rfl rfl).trans e5
                have s69' := s69
                rw [Array.getD_eq_getD_getElem?] at s69'
                clear hd hy hb
                have qq : W.cell? ⟨H, p, none⟩ = some (.int .i64 (num p)) := (HK.out.2.2.1.below d HK.out.2.2.1.lt).at p hp
                go_simp
                exact hK.out _ W (stp_of hmo d (Below.refl _ _)) (if_pos rfl)
              case o7 =>
                intro At yy W hy hb d hd K hK
                have s12 : At.tmps.getD 12 undef = .pointer (some ⟨eb, 0, none⟩) := hb 12 rfl
                have s12' := s12
                rw [Array.getD_eq_getD_getElem?] at s12'
                clear hd hy hb
                go_simp
                exact hK.out _ W (stp_of hmo d (Below.refl _ _)) (if_pos rfl)
              case o8 =>
                intro At yy W hy hb d hd K hK
                have e7 : yy 7 = .pointer (some ⟨eb, 1, none⟩) := by obtain ⟨_, _, _, _, e⟩ := hd ⟨7, .data⟩ (by simp) rfl rfl; exact e
                have s71 := (hy 7 _ 71 rfl rfl).trans e7
                have s71' := s71
                rw [Array.getD_eq_getD_getElem?] at s71'
                clear hd hy hb
                have qq : W.cell? ⟨eb, 1, none⟩ = some (.int .i64 x2) := cell_of (blk_on HK.out.2.1 d) rfl
                go_simp
                exact hK.out _ W (stp_of hmo d (Below.refl _ _)) (if_pos rfl)
              case o9 =>
                intro At yy W hy hb d hd K hK
                have s7 : At.tmps.getD 7 undef = .slice (some ⟨H, 0, none⟩) N N := hb 7 rfl
                have s7' := s7
                rw [Array.getD_eq_getD_getElem?] at s7'
                clear hd hy hb
                go_simp
                exact hK.out _ W (stp_of hmo d (Below.refl _ _)) (if_pos rfl)
              case o10 =>
                intro At yy W hy hb d hd K hK
                have s12 : At.tmps.getD 12 undef = .pointer (some ⟨eb, 0, none⟩) := hb 12 rfl
                have s12' := s12
                rw [Array.getD_eq_getD_getElem?] at s12'
                clear hd hy hb
                go_simp
                exact hK.out _ W (stp_of hmo d (Below.refl _ _)) (if_pos rfl)
              case o11 =>
                intro At yy W hy hb d hd K hK
                have e10 : yy 10 = .pointer (some ⟨eb, 2, none⟩) := by obtain ⟨_, _, _, _, e⟩ := hd ⟨10, .data⟩ (by simp) rfl rfl; exact e
                have s74 := (hy 10 _ 74 rfl rfl).trans e10
                have s74' := s74
                rw [Array.getD_eq_getD_getElem?] at s74'
                clear hd hy hb
                have qq : W.cell? ⟨eb, 2, none⟩ = some (.int .i64 (r : Int)) := cell_of (blk_on HK.out.2.1 d) rfl
                go_simp
                exact hK.out _ W (stp_of hmo d (Below.refl _ _)) (if_pos rfl)
              case o12 =>
                intro At yy W hy hb d hd K hK
                have e9 : yy 9 = .slice (some ⟨H, 0, none⟩) N N := by obtain ⟨_, _, _, _, e⟩ := hd ⟨9, .data⟩ (by simp) rfl rfl; exact e
                have e11 : yy 11 = .int .i64 (r : Int) := by obtain ⟨_, _, _, _, e⟩ := hd ⟨11, .data⟩ (by simp) rfl rfl; exact e
                have p0 : (0 : Int) ≤ (r : Int) := by omega
                have p1 : (r : Int) < (N : Int) := by omega
                have s73 := (hy 9 _ 73 rfl rfl).trans e9
                have s73' := s73
                rw [Array.getD_eq_getD_getElem?] at s73'
                have s75 := (hy 11 _ 75 rfl rfl).trans e11
                have s75' := s75
                rw [Array.getD_eq_getD_getElem?] at s75'
                clear hd hy hb
                go_simp
                exact hK.out _ W (stp_of hmo d (Below.refl _ _)) (if_pos rfl)
              case o13 =>
                intro At yy W hy hb d hd K hK
                have e12 : yy 12 = .pointer (some ⟨H, r, none⟩) := by obtain ⟨_, _, _, _, e⟩ := hd ⟨12, .data⟩ (by simp) rfl rfl; exact e
                have s76 := (hy 12 _ 76 rfl rfl).trans e12
                have s76' := s76
                rw [Array.getD_eq_getD_getElem?] at s76'
                clear hd hy hb
                have qq : W.cell? ⟨H, r, none⟩ = some (.int .i64 (num r)) := (HK.out.2.2.1.below d HK.out.2.2.1.lt).at r hr
                go_simp
                exact hK.out _ W (stp_of hmo d (Below.refl _ _)) (if_pos rfl)
              case o14 =>
                intro At yy W hy hb d hd K hK
                have e6 : yy 6 = .int .i64 (num p) := by obtain ⟨_, _, _, _, e⟩ := hd ⟨6, .data⟩ (by simp) rfl rfl; exact e
                have e8 : yy 8 = .int .i64 x2 := by obtain ⟨_, _, _, _, e⟩ := hd ⟨8, .data⟩ (by simp) rfl rfl; exact e
                have e13 : yy 13 = .int .i64 (num r) := by obtain ⟨_, _, _, _, e⟩ := hd ⟨13, .data⟩ (by simp) rfl rfl; exact e
                have s70 := (hy 6 _ 70 rfl rfl).trans e6
                have s70' := s70
                rw [Array.getD_eq_getD_getElem?] at s70'
                have s72 := (hy 8 _ 72 rfl rfl).trans e8
                have s72' := s72
                rw [Array.getD_eq_getD_getElem?] at s72'
                have s77 := (hy 13 _ 77 rfl rfl).trans e13
                have s77' := s77
                rw [Array.getD_eq_getD_getElem?] at s77'
                clear hd hy hb
                go_simp
                exact hK.out _ W (stp_of hmo d (Below.refl _ _)) (if_pos rfl)
              case o15 =>
                intro At yy W hy hb d hd K hK
                have e14 : yy 14 = .agg #[.int .i64 (num p), .int .i64 x2, .int .i64 (num r)] := by obtain ⟨_, _, _, _, e⟩ := hd ⟨14, .data⟩ (by simp) rfl rfl; exact e
                have s78 := (hy 14 _ 78 rfl rfl).trans e14
                have s78' := s78
                rw [Array.getD_eq_getD_getElem?] at s78'
                clear hd hy hb
                go_simp
                exact hK.out _ _ (stp_of hmo d ((Below.refl _ _).alloc (Nat.le_refl _) _)) ⟨if_pos rfl, by simp, World.alloc_heap_new _ _⟩
              case fin =>
                intro yy lo hi W hM
                show wpList _ _ _ [_, _, _] _ _
                have e0 : yy 0 = .pointer (some ⟨bq, 4, none⟩) := hM.fact 0 (by simp) rfl (notR_all 0 rfl)
                have e1 : yy 1 = .slice y3 R.length z3 := hM.fact 1 (by simp) rfl (notR_all 1 rfl)
                have e2 : yy 2 = .slice (some ⟨H, 0, none⟩) N N := hM.fact 2 (by simp) rfl (notR_all 2 rfl)
                have e3 : yy 3 = .pointer (some ⟨eb, 0, none⟩) := hM.fact 3 (by simp) rfl (notR_all 3 rfl)
                have e4 : yy 4 = .int .i64 (p : Int) := hM.fact 4 (by simp) rfl (notR_all 4 rfl)
                have e5 : yy 5 = .pointer (some ⟨H, p, none⟩) := hM.fact 5 (by simp) rfl (notR_all 5 rfl)
                have e6 : yy 6 = .int .i64 (num p) := hM.fact 6 (by simp) rfl (notR_all 6 rfl)
                have e7 : yy 7 = .pointer (some ⟨eb, 1, none⟩) := hM.fact 7 (by simp) rfl (notR_all 7 rfl)
                have e8 : yy 8 = .int .i64 x2 := hM.fact 8 (by simp) rfl (notR_all 8 rfl)
                have e9 : yy 9 = .slice (some ⟨H, 0, none⟩) N N := hM.fact 9 (by simp) rfl (notR_all 9 rfl)
                have e10 : yy 10 = .pointer (some ⟨eb, 2, none⟩) := hM.fact 10 (by simp) rfl (notR_all 10 rfl)
                have e11 : yy 11 = .int .i64 (r : Int) := hM.fact 11 (by simp) rfl (notR_all 11 rfl)
                have e12 : yy 12 = .pointer (some ⟨H, r, none⟩) := hM.fact 12 (by simp) rfl (notR_all 12 rfl)
                have e13 : yy 13 = .int .i64 (num r) := hM.fact 13 (by simp) rfl (notR_all 13 rfl)
                have e14 : yy 14 = .agg #[.int .i64 (num p), .int .i64 x2, .int .i64 (num r)] := hM.fact 14 (by simp) rfl (notR_all 14 rfl)
                have DW := hide hM.d
                have OW := hide (own_below HK.out.2.2.2.1 hM.d)
                have BW := hide (blk_on HK.out.1 hM.d)
                obtain ⟨e15, l15, z15⟩ := hM.fact 15 (by simp) rfl (notR_all 15 rfl)
                have HN := hide z15
                simp only [fills, Act.put, List.take, List.length, List.setIfInBounds_toArray, List.set_cons_zero, List.set_cons_succ, e0, e1, e2, e3, e4, e5, e6, e7, e8, e9, e10, e11, e12, e13, e14, e15]
                clear hM hmo e0 e1 e2 e3 e4 e5 e6 e7 e8 e9 e10 e11 e12 e13 e14 e15 z15 l15
                generalize lo 15 = pn at HN
                have zb := HK.out.2.2.2.2.1
                go_wp2_with (at_builtin; refine wpList_appE rfl _ _ rfl wz.heap.size (.slice y3 R.length z3) R rfl OW.out pn (num p, x2, num r) rfl HN.out hq w7 (DW.out.mono HK.out.2.2.2.2.2.size) HK.out.2.2.2.2.2.size ?_; intro v4 w4 HO4 HD4; obtain ⟨y4, z4, hv4⟩ := own_slice HO4.out; rw [List.length_append, List.length_singleton] at hv4; subst hv4; have k4 : w4.cell? ⟨bq, 4, none⟩ = some (.slice y3 R.length z3) := cell_of ((HD4.out.block _ zb).trans HK.out.1) rfl; have f4 : w4.frozen? ⟨bq, 4, none⟩ = false := fz_of ((HD4.out.block _ zb).trans HK.out.1))
                have J : Hid (PrI wz (w4.setCell ⟨bq, 4, none⟩ (.slice y4 (R.length + 1) z4)) bq i mv (.slice y1 (renL X num St).length z1) (.slice y2 (renL X num Fi).length z2) (.slice y4 (R.length + 1) z4) (R ++ [(num p, x2, num r)])) := hide (prI_put HK.out.1 zb HK.out.2.2.2.2.2 HO4.out HD4.out)
                clear HO4 HD4 k4 f4 zb
                go_roundw
                case rel => exact ⟨j + 1, by omega, by go_num, y4, z4, by rw [HE.out, List.length_append, List.length_singleton]; exact J⟩
                case measure => simp [intOf]; omega
            · have hf : hasB X (r : Int) = false := by simpa using hh2
              rw [hf] at HS
              have HE : Hid (renE X num (Ed.take (j + 1)) = R) := hide (by rw [HS.out]; simp)
              clear HS
              go_wp2_with fail
              refine TH.mono ?_
              rintro e w6 ⟨rfl, q6, hw6⟩
              have TH2 := has_any b g cap N X (r : Int) w6 (SX.out w6 (by rw [hw6]; exact below_drewN2 HDe.out _))
              rw [hf] at TH2
              have kb6 : w6.cell? ⟨eb, 2, none⟩ = some (.int .i64 (r : Int)) := by rw [hw6]; exact kb
              have HW6 := hide hw6
              clear hw6
              go_wp2_with fail
              refine TH2.mono ?_
              rintro e w7 ⟨rfl, q7, hw7⟩
              have HW7 := hide hw7
              clear hw7
              go_wp2_with fail
              have J : Hid (PrI wz w7 bq i mv (.slice y1 (renL X num St).length z1) (.slice y2 (renL X num Fi).length z2) (.slice y3 (renE X num (Ed.take (j + 1))).length z3) (renE X num (Ed.take (j + 1)))) := hide (by
                rw [HE.out, HW7.out, HW6.out]
                exact ⟨HK.out.1, HK.out.2.2.2.1, only_below1 HK.out.2.2.2.2.2 (below_drewN2 (below_drewN2 (Below.refl _ _) _) _)⟩)
              go_roundw
              case rel => exact ⟨j + 1, by omega, by go_num, y3, z3, J⟩
              case measure => simp [intOf]; omega
          · have hf : hasB X (p : Int) = false := by simpa using hh
            rw [hf] at TH HS
            have HE : Hid (renE X num (Ed.take (j + 1)) = R) := hide (by rw [HS.out]; simp)
            clear HS
            go_wp2_with fail
            refine TH.mono ?_
            rintro e w6 ⟨rfl, q6, hw6⟩
            have HW6 := hide hw6
            clear hw6
            go_wp2_with fail
            have J : Hid (PrI wz w6 bq i mv (.slice y1 (renL X num St).length z1) (.slice y2 (renL X num Fi).length z2) (.slice y3 (renE X num (Ed.take (j + 1))).length z3) (renE X num (Ed.take (j + 1)))) := hide (by
              rw [HE.out, HW6.out]
              exact ⟨HK.out.1, HK.out.2.2.2.1, only_below1 HK.out.2.2.2.2.2 (below_drewN2 (Below.refl _ _) _)⟩)
            go_roundw
            case rel => exact ⟨j + 1, by omega, by go_num, y3, z3, J⟩
            case measure => simp [intOf]; omega
        · have l1 : ¬ (j : Int) < (n3 : Int) := by omega
          have et : Ed.take j = Ed := List.take_of_length_le (by have := HE.out.2.2; omega)
          rw [et] at HY
          clear et
          have s1 := HZ.out.2.2.2.2.2.2.2.2.2
          have F3 : wr.heap[w.heap.size + 1]? = some (.cells #[.int .i64 0, .int .i64 0, .slice none 0 0, .slice none 0 0, .slice none 0 0] 25 (0, 0)) := (HY.out.only.block _ (Array.getElem?_eq_some_iff.1 HZ.out.2.2.2.1).1 (by omega)).trans HZ.out.2.2.2.1
          have F4 := HY.out.box
          have q0 : wr.cell? ⟨bq, 0, none⟩ = some (.int .i64 (i : Int)) := cell_of F4 rfl
          have q1 : wr.cell? ⟨bq, 1, none⟩ = some (.int .i64 mv) := cell_of F4 rfl
          have q2 : wr.cell? ⟨bq, 2, none⟩ = some (.slice y1 (renL X num St).length z1) := cell_of F4 rfl
          have q3 : wr.cell? ⟨bq, 3, none⟩ = some (.slice y2 (renL X num Fi).length z2) := cell_of F4 rfl
          have q4 : wr.cell? ⟨bq, 4, none⟩ = some (.slice y3 (renE X num Ed).length z3) := cell_of F4 rfl
          have zc0 : wr.cell? ⟨w.heap.size + 1, 0, none⟩ = some (.int .i64 0) := cell_of F3 rfl
          have f0 : wr.frozen? ⟨w.heap.size + 1, 0, none⟩ = false := fz_of F3
          have zc1 : wr.cell? ⟨w.heap.size + 1, 1, none⟩ = some (.int .i64 0) := cell_of F3 rfl
          have f1 : wr.frozen? ⟨w.heap.size + 1, 1, none⟩ = false := fz_of F3
          have zc2 : wr.cell? ⟨w.heap.size + 1, 2, none⟩ = some (.slice none 0 0) := cell_of F3 rfl
          have f2 : wr.frozen? ⟨w.heap.size + 1, 2, none⟩ = false := fz_of F3
          have zc3 : wr.cell? ⟨w.heap.size + 1, 3, none⟩ = some (.slice none 0 0) := cell_of F3 rfl
          have f3 : wr.frozen? ⟨w.heap.size + 1, 3, none⟩ = false := fz_of F3
          have zc4 : wr.cell? ⟨w.heap.size + 1, 4, none⟩ = some (.slice none 0 0) := cell_of F3 rfl
          have f4 : wr.frozen? ⟨w.heap.size + 1, 4, none⟩ = false := fz_of F3
          have O6 := hide (And.intro (set5 wr (w.heap.size + 1) _ _ _ _ _ (.int .i64 (i : Int)) (.int .i64 mv) (.slice y1 (renL X num St).length z1) (.slice y2 (renL X num Fi).length z2) (.slice y3 (renE X num Ed).length z3) 25 F3) (only5 wr (w.heap.size + 1) (.int .i64 (i : Int)) (.int .i64 mv) (.slice y1 (renL X num St).length z1) (.slice y2 (renL X num Fi).length z2) (.slice y3 (renE X num Ed).length z3)))
          have HF := hide s1
          clear F3 F4 s1
          go_wp2_with fail
          refine bodyPost_ret (results_c1 (p := 4) (q := 5) (ty := 25) rfl _ _ (w.heap.size + 1) 25 _ (0, 0) _ _ rfl rfl O6.out.1 Tryz.underlying25 rfl (by kernel_rfl)) rfl ?_
          have s1 := HF.out
          have oo := O6.out.2
          have o1 := row_only HZ.out.2.2.2.2.2.2.2.1 HY.out.only (fun k hk e => by have := (HZ.out.2.2.2.2.2.2.2.1.lt k hk).1; omega)
          have o2 := row_only HZ.out.2.2.2.2.2.2.2.2.1 HY.out.only (fun k hk e => by have := (HZ.out.2.2.2.2.2.2.2.2.1.lt k hk).1; omega)
          have o3 := row_only HZ.out.2.2.2.2.2.1 HY.out.only (fun k hk e => by have := own_gl hk; omega)
          have s2 := HZ.out.2.1.size
          have s3 := HB.out.2.2.2
          have dd : Below w.heap.size w wr := HZ.out.2.1.trans (HY.out.only.toBelow HZ.out.2.1.size (fun k hk => by omega))
          have s4 := HZ.out.2.2.2.2.2.2.1
          have hr := HY.out.row
          refine HP.out _ _ ⟨_, _, _, _, rfl, owns_down (row_only o1 oo (fun k hk e => by have := (o1.lt k hk).1; omega)) (by omega), owns_down (row_only o2 oo (fun k hk e => by have := (o2.lt k hk).1; omega)) (by omega), owns_down (row_only hr oo (fun k hk e => by have := (hr.lt k hk).1; omega)) (by omega), owns_down (row_only o3 oo (fun k hk e => by have := own_gl hk; omega)) (by omega), dd.trans (oo.toBelow dd.size (fun k hk => by omega)), HAP.out, fun k hk => ⟨fun hq => by have := own_gl hk; have := (o1.lt k hq).1; omega, fun hq => by have := own_gl hk; have := (o2.lt k hq).1; omega⟩⟩
end Go.Proofs.YtojnlpicgemlaabGreatDoor
