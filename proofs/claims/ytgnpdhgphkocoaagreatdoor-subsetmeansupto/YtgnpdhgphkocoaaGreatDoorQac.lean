import Derived.Test.YtgnpdhgphkocoaaGreatDoorQab
import Derived.RangeFuncNested
import Derived.RangeFuncBound
import Derived.RangeFuncCalls
import Derived.RangeFuncLeaves
import Derived.RangeFuncBox
import Derived.Shelf.Abstract
import Derived.Shelf.RegionOpen
import Derived.OwnWalkIn
import Derived.TacticsInMore
import Derived.LoopNIn
import Derived.LoopIn
import Derived.Laws.EntriesVeiled
import Derived.Maps.AppendAt
namespace Go.Proofs.YtgnpdhgphkocoaaGreatDoor
open Go.RowKit Go.Maps Go.Shelf Go.Sort
attribute [local go_sem] Oper.semAt_some
/-! ### Edges in order, each once -/
theorem info59 : (Tryz.prog.info? 62).map (fun i => (i.zero, i.size, i.bytes)) = some (some (.agg #[.int .i64 0, .int .i64 0, .int .i64 0]), 3, 24) := by kernel_rfl
theorem run_copyE (w : World) (ty : TypeId) (g m dCap : Nat) (ao : Option Addr) (sCap : Nat) (L : List EdT) (hL : m = L.length) (cur : Array Value) (hg : w.heap[g]? = some (.cells cur 62 (0, 0))) (hcs : cur.size = m * 3) (hr : RdE w ao L) :
    (Builtin.copy_ #[23, 23] ty #[.slice (some ⟨g, 0, none⟩) m dCap, .slice ao m sCap]).run Tryz.prog w = .ok (goInt m) (w.setRow g (L.flatMap encE).toArray) := by
  obtain ⟨i5, hi5, _, hz51, _⟩ := info_parts info59
  have hm : Nat.min m m = m := Nat.min_self m
  have hfl : (L.flatMap encE).length = m * 3 := by rw [encE_flat, hL]
  have hst := run_storeCells_at Tryz.prog g 0 62 (L.flatMap encE) 0 cur w hg (by rw [hfl]; omega) (encE_one L)
  rw [hfl, Nat.zero_add, Nat.zero_add, List.take_zero, List.nil_append, List.drop_eq_nil_of_le (by simp [hcs]), List.append_nil] at hst
  by_cases h0 : L = []
  · subst h0
    obtain rfl : m = 0 := hL
    have hl : ∀ (x : Addr), (loadCells x 0).run Tryz.prog w = .ok #[] w := fun x => by simpa using run_loadCells_list (P := Tryz.prog) w x [] (by simp)
    obtain rfl : cur = #[] := Array.eq_empty_of_size_eq_zero (by omega)
    rw [show w.setRow g (([] : List EdT).flatMap encE).toArray = w from setRow_self w g #[] 62 (0, 0) hg]
    cases ao <;> simp [Builtin.copy_, run_underlying Tryz.underlying23, Builtin.lenOf, Builtin.firstCells, sizeOf, typeInfo, hi5, storeCells, hl]
  · obtain ⟨a, o, rfl, _⟩ := hr 0 (List.length_pos_iff.2 h0)
    have hl := run_loadCells_list (P := Tryz.prog) w ⟨a, o, none⟩ (L.flatMap encE) (fun j v hv => by
      have ea : Addr.add ⟨a, o, none⟩ j = ⟨a, o + j, none⟩ := by
        unfold Addr.add
        by_cases q : j = 0
        · subst q; simp
        · simp [q]
      rw [ea]
      exact edges_at hr j v hv)
    rw [hfl] at hl
    simp [Builtin.copy_, run_underlying Tryz.underlying23, Builtin.lenOf, Builtin.firstCells, sizeOf, typeInfo, hi5, hz51, hl, hst]
theorem wpList_copyE {w : World} {ops : Array Oper} {rest : List Oper} {o : Oper} {a : Act} {Q : Exit → Act → World → Prop} (hgd : o.guard = none) (d s : Operand)
    (ho : o.op = .call { callee := .builtin .copy, args := #[d, s], argTypes := #[23, 23] }) (g m dCap : Nat) (ao : Option Addr) (sCap : Nat) (L : List EdT) (hd : a.eval d = .slice (some ⟨g, 0, none⟩) m dCap) (hs : a.eval s = .slice ao m sCap) (hL : m = L.length)
    (cur : Array Value) (hg : w.heap[g]? = some (.cells cur 62 (0, 0))) (hcs : cur.size = m * 3) (hr : RdE w ao L) (B : Nat) (w0 : World) (hb : Below B w0 w) (hBg : B ≤ g)
    (h : ∀ w', Hid (w'.heap[g]? = some (.cells (L.flatMap encE).toArray 62 (0, 0)) ∧ Below B w0 w') → wpList Tryz.prog ops Q rest (a.put o.dst (goInt m)) w') : wpList Tryz.prog ops Q (o :: rest) a w := by
  refine wpList_plain hgd fun K hK => ?_
  have hrun := run_copyE w o.type g m dCap ao sCap L hL cur hg hcs hr
  unfold Oper.wp
  simp [execOp, ho, resolve, invoke, builtin, hd, hs, hrun, Result.andThen]
  exact hK _ _ (h _ (hide ⟨setRow_heap w g _ _ 62 _ hg, below_setRow hb hBg _⟩))
/-- A list's edges in order, each once. -/
def riseE (L : List EdT) : List EdT := Lib.compact (sortE L)
theorem row_ofRd {w : World} {B g cap : Nat} {f : Nat → Value} {K : List EdT} (hM : Mrw w g 62 (cap * 3) f (cap * 3)) (hr : RdE w (some ⟨g, 0, none⟩) K) (hk : K.length ≤ cap) (hc : cap ≤ maxLen) (hB : B ≤ g) : w.ownsRow B 62 3 (.slice (some ⟨g, 0, none⟩) K.length cap) K.length (K.flatMap encE) := by
  obtain ⟨cur, hg, hz, _⟩ := hM
  refine ⟨encE_flat K, .inr ⟨g, cap, cur, rfl, hB, hg, hk, hc, hz, ?_⟩⟩
  have hfl := encE_flat K
  have hle : K.length * 3 ≤ cap * 3 := Nat.mul_le_mul_right _ hk
  apply List.ext_getElem?
  intro j
  by_cases hj : j < K.length * 3
  · rw [List.getElem?_take_of_lt hj, List.getElem?_eq_getElem (by omega : j < (K.flatMap encE).length)]
    have c := edges_at hr j _ (List.getElem?_eq_getElem (by omega : j < (K.flatMap encE).length))
    rw [Nat.zero_add] at c
    have hjc : j < cur.size := by omega
    have e := cell_of hg (Array.getElem?_eq_getElem hjc)
    rw [e] at c
    rw [Array.getElem?_toList, Array.getElem?_eq_getElem hjc, Option.some.inj c]
  · rw [List.getElem?_take_eq_none (by omega), List.getElem?_eq_none (by omega)]
theorem compactE_own (w : World) (B g cap n : Nat) (L : List EdT) (hn : n = L.length) (hv : w.ownsRow B 62 3 (.slice (some ⟨g, 0, none⟩) n cap) L.length (L.flatMap encE)) (hl : n ≤ 4194304) :
    Calls Tryz.prog 132 #[.slice (some ⟨g, 0, none⟩) n cap] w fun e w' => e = .returned (.slice (some ⟨g, 0, none⟩) (Lib.compact L).length cap) ∧ w'.ownsRow B 62 3 (.slice (some ⟨g, 0, none⟩) (Lib.compact L).length cap) (Lib.compact L).length ((Lib.compact L).flatMap encE) ∧ Only w w' (fun k => k = g) := by
  subst hn
  have hmax : cap ≤ maxLen ∧ B ≤ g := by
    rcases hv.2 with ⟨hv, _⟩ | ⟨g', cap', cur, hv, hb, hg, h1, h2, h3, h4⟩
    · cases hv
    · cases hv; exact ⟨h2, hb⟩
  rcases row_block hv rfl with ⟨hq, _⟩ | ⟨g', cap', f, hq, hc, _, hM, hF⟩
  · cases hq
  · cases hq
    refine (compactA w g cap L.length L.toArray (hide (by simp)) f (hide hM) (hide hF) hc hl).mono ?_
    rintro e w' ⟨rfl, hr, ho, f', hM'⟩
    have e0 : Lib.compactUpTo L.toArray L.length = Lib.compact L := by simp [Lib.compact]
    rw [e0] at hr ⊢
    exact ⟨rfl, row_ofRd hM' hr (Nat.le_trans (compact_len L) hc) hmax.1 hmax.2, ho⟩
set_option maxRecDepth 100000 in
set_option maxHeartbeats 1000000 in
theorem orderedE_any (w : World) (ao : Option Addr) (c : Nat) (L : List EdT) (hA : Hid (RdE w ao L)) (hl : L.length ≤ 4194304) :
    Calls Tryz.prog 124 #[.slice ao L.length c, .func (.func 125) #[] #[]] w fun e w' => ∃ g' c', e = .returned (.slice (some ⟨g', 0, none⟩) (riseE L).length c') ∧ w'.ownsRow w.heap.size 62 3 (.slice (some ⟨g', 0, none⟩) (riseE L).length c') (riseE L).length ((riseE L).flatMap encE) ∧ Below w.heap.size w w' := by
  obtain ⟨i5, hi5, hz50, hz51, hz52⟩ := info_parts info59
  obtain ⟨m, hm⟩ : ∃ m, m = L.length := ⟨_, rfl⟩
  have HL := hide hm
  rw [← hm]
  rw [← hm] at hl
  clear hm
  go_enter Tryz.func124, Tryz.ntmps124
  go_wp2_with (at_make; refine wpList_make_full _ rfl _ _ 23 rfl w.heap.size 62 i5 (.agg #[.int .i64 0, .int .i64 0, .int .i64 0]) 3 Tryz.underlying23 hi5 hz50 hz51 _ _ _ _ m rfl rfl (by go_num) (by go_num) (by rw [hz52]; omega) (by unfold maxLen; omega) (Nat.le_refl _) ?_)
  intro w1 ho hg
  have D1 : Below w.heap.size w w1 := (Below.refl _ _).grown hg (Nat.le_refl _) (by intro k hk; cases hk)
  have hxy : ∃ cur, w1.heap[w.heap.size]? = some (.cells cur 62 (0, 0)) ∧ cur.size = m * 3 := by
    rcases ho.2 with ⟨hv, _⟩ | ⟨g', cap', cur, hv, hb, hg, h1, h2, h3, h4⟩
    · cases hv
    · cases hv
      exact ⟨cur, hg, h3⟩
  obtain ⟨cur, hcur, hcl⟩ := hxy
  have HC := hide (And.intro hcur (And.intro hcl D1))
  clear ho hg D1 hcur hcl
  go_wp2_with (refine wpList_copyE rfl (.tmp 9) (.tmp 10) rfl w.heap.size m m ao c L rfl rfl HL.out cur HC.out.1 HC.out.2.1 (hA.out.on HC.out.2.2) w.heap.size w HC.out.2.2 (Nat.le_refl _) ?_)
  intro w2 HG2
  have hr2 : w2.ownsRow w.heap.size 62 3 (.slice (some ⟨w.heap.size, 0, none⟩) m m) L.length (L.flatMap encE) := by
    have hfl := encE_flat L
    rw [← HL.out] at hfl ⊢
    exact ⟨hfl, .inr ⟨_, m, _, rfl, Nat.le_refl _, HG2.out.1, Nat.le_refl _, by unfold maxLen; omega, by simpa using hfl, List.take_of_length_le (by simpa using Nat.le_of_eq hfl)⟩⟩
  have HR := hide (And.intro hr2 HG2.out.2)
  clear hr2 HG2 HC
  have hl2 : L.length ≤ 4194304 := by rw [← HL.out]; exact hl
  go_wp2_with (go_at_call 131; refine (sortE_any _ w.heap.size _ L (by exact HR.out.1) (by rw [← HL.out]; exact hl)).mono ?_; rintro e w3 ⟨rfl, hr3, hg3⟩)
  have HS := hide (And.intro hr3 (HR.out.2.trans (hg3.toBelow HR.out.2.size (fun k hk => by cases hk; exact Nat.le_refl _))))
  clear hr3 hg3
  refine (compactE_own w3 w.heap.size w.heap.size m m (sortE L) (by rw [sortE_len]; exact HL.out) (by rw [sortE_len]; exact HS.out.1) hl).mono ?_
  rintro e w4 ⟨rfl, hr4, ho4⟩
  have HT := hide (And.intro hr4 (HS.out.2.trans (ho4.toBelow HS.out.2.size (fun k hk => Nat.le_of_eq hk.symm))))
  clear hr4 ho4
  go_wp2_with fail
  go_ret
  exact ⟨_, _, rfl, HT.out⟩
set_option maxRecDepth 100000 in
theorem states_any (w : World) (ao : Option Addr) (c : Nat) (L : List Int) (hA : Hid (RdN w ao L)) (hl : L.length ≤ 4194304) :
    Calls Tryz.prog 112 #[.slice ao L.length c] w fun e w' => ∃ g' c', e = .returned (.slice (some ⟨g', 0, none⟩) (riseL L).length c') ∧ w'.ownsRow w.heap.size 3 1 (.slice (some ⟨g', 0, none⟩) (riseL L).length c') (riseL L).length ((riseL L).map (Value.int .i64)) ∧ Below w.heap.size w w' := by
  have T := orderedI_any w ao c L hA hl
  go_enter Tryz.func112, Tryz.ntmps112
  go_wp2_with (go_at_call 122; refine T.mono ?_; rintro e w1 ⟨g', c', rfl, hr, d⟩)
  go_ret
  exact ⟨_, _, rfl, hr, d⟩
set_option maxRecDepth 100000 in
theorem edges_any (w : World) (ao : Option Addr) (c : Nat) (L : List EdT) (hA : Hid (RdE w ao L)) (hl : L.length ≤ 4194304) :
    Calls Tryz.prog 113 #[.slice ao L.length c] w fun e w' => ∃ g' c', e = .returned (.slice (some ⟨g', 0, none⟩) (riseE L).length c') ∧ w'.ownsRow w.heap.size 62 3 (.slice (some ⟨g', 0, none⟩) (riseE L).length c') (riseE L).length ((riseE L).flatMap encE) ∧ Below w.heap.size w w' := by
  have T := orderedE_any w ao c L hA hl
  go_enter Tryz.func113, Tryz.ntmps113
  go_wp2_with (go_at_call 124; refine T.mono ?_; rintro e w1 ⟨g', c', rfl, hr, d⟩)
  go_ret
  exact ⟨_, _, rfl, hr, d⟩
/-! ### An automaton in order -/
theorem own_on {w w' : World} {B C g cap n : Nat} {e : TypeId} {sz : Nat} {xs : List Value} (h : w.ownsRow B e sz (.slice (some ⟨g, 0, none⟩) n cap) n xs) (d : Below C w w') (hC : g < C) : w'.ownsRow B e sz (.slice (some ⟨g, 0, none⟩) n cap) n xs := by
  refine ⟨h.1, ?_⟩
  rcases h.2 with ⟨hv, _⟩ | ⟨g', cap', cur, hv, hb, hg, rest⟩
  · cases hv
  · cases hv
    exact .inr ⟨g, cap, cur, rfl, hb, (d.block _ hC).trans hg, rest⟩
theorem own_at {w : World} {B g cap n : Nat} {e : TypeId} {sz : Nat} {xs : List Value} (h : w.ownsRow B e sz (.slice (some ⟨g, 0, none⟩) n cap) n xs) : B ≤ g ∧ g < w.heap.size := by
  rcases h.2 with ⟨hv, _⟩ | ⟨g', cap', cur, hv, hb, hg, rest⟩
  · cases hv
  · cases hv
    exact ⟨hb, (Array.getElem?_eq_some_iff.1 hg).1⟩
theorem own_only {w w' : World} {B q g cap n : Nat} {e : TypeId} {sz : Nat} {xs : List Value} (h : w.ownsRow B e sz (.slice (some ⟨g, 0, none⟩) n cap) n xs) (ho : Only w w' (fun k => k = q)) (hq : g ≠ q) : w'.ownsRow B e sz (.slice (some ⟨g, 0, none⟩) n cap) n xs :=
  row_only h ho fun k hk => by cases hk; exact hq
theorem set5 (w : World) (b : Nat) (v0 v1 v2 v3 v4 u0 u1 u2 u3 u4 : Value) (t : TypeId) (h : w.heap[b]? = some (.cells #[v0, v1, v2, v3, v4] t (0, 0))) :
    (((((w.setCell ⟨b, 0, none⟩ u0).setCell ⟨b, 1, none⟩ u1).setCell ⟨b, 2, none⟩ u2).setCell ⟨b, 3, none⟩ u3).setCell ⟨b, 4, none⟩ u4).heap[b]? = some (.cells #[u0, u1, u2, u3, u4] t (0, 0)) :=
  heap_setCell_same _ _ 4 _ t _ (heap_setCell_same _ _ 3 _ t _ (heap_setCell_same _ _ 2 _ t _ (heap_setCell_same _ _ 1 _ t _ (heap_setCell_same _ _ 0 _ t _ h))))
theorem only5 (w : World) (b : Nat) (u0 u1 u2 u3 u4 : Value) : Only w (((((w.setCell ⟨b, 0, none⟩ u0).setCell ⟨b, 1, none⟩ u1).setCell ⟨b, 2, none⟩ u2).setCell ⟨b, 3, none⟩ u3).setCell ⟨b, 4, none⟩ u4) (fun k => k = b) :=
  ((((only_set w _ 0 _).trans (only_set _ _ 1 _)).trans (only_set _ _ 2 _)).trans (only_set _ _ 3 _)).trans (only_set _ _ 4 _)
/-- An automaton whose lists lie in rows of their own, in order, each entry once. -/
structure Own (B : Nat) (w : World) (g1 k1 g2 k2 g3 k3 : Nat) (S F : List Int) (E : List EdT) : Prop where
  s : w.ownsRow B 3 1 (.slice (some ⟨g1, 0, none⟩) S.length k1) S.length (S.map (Value.int .i64))
  f : w.ownsRow B 3 1 (.slice (some ⟨g2, 0, none⟩) F.length k2) F.length (F.map (Value.int .i64))
  e : w.ownsRow B 62 3 (.slice (some ⟨g3, 0, none⟩) E.length k3) E.length (E.flatMap encE)
  n12 : g1 ≠ g2
  n13 : g1 ≠ g3
  n23 : g2 ≠ g3
set_option maxRecDepth 100000 in
set_option maxHeartbeats 4000000 in
theorem inOrder_any (w : World) (n m : Int) (a1 a2 a3 : Option Addr) (c1 c2 c3 : Nat) (St Fi : List Int) (Ed : List EdT) (hA : Hid (RdA w a1 a2 a3 St Fi Ed)) (h1 : St.length ≤ 4194304) (h2 : Fi.length ≤ 4194304) (h3 : Ed.length ≤ 4194304) :
    Calls Tryz.prog 89 #[.agg #[.int .i64 n, .int .i64 m, .slice a1 St.length c1, .slice a2 Fi.length c2, .slice a3 Ed.length c3]] w fun e w' => ∃ g1 k1 g2 k2 g3 k3, e = .returned (.agg #[.int .i64 n, .int .i64 m, .slice (some ⟨g1, 0, none⟩) (riseL St).length k1, .slice (some ⟨g2, 0, none⟩) (riseL Fi).length k2, .slice (some ⟨g3, 0, none⟩) (riseE Ed).length k3]) ∧ Own w.heap.size w' g1 k1 g2 k2 g3 k3 (riseL St) (riseL Fi) (riseE Ed) ∧ Below w.heap.size w w' := by
  obtain ⟨W0, hW0⟩ : ∃ W0, (w.alloc (.cells #[.int .i64 n, .int .i64 m, .slice a1 St.length c1, .slice a2 Fi.length c2, .slice a3 Ed.length c3] 25)).alloc (.cells #[.int .i64 0, .int .i64 0, .slice none 0 0, .slice none 0 0, .slice none 0 0] 25) = W0 := ⟨_, rfl⟩
  have d0 : Below w.heap.size w W0 := by rw [← hW0]; exact ((Below.refl _ _).alloc (Nat.le_refl _) _).alloc (by simp) _
  have b0 : W0.heap[w.heap.size]? = some (.cells #[.int .i64 n, .int .i64 m, .slice a1 St.length c1, .slice a2 Fi.length c2, .slice a3 Ed.length c3] 25 (0, 0)) := by rw [← hW0]; exact (Below.heap_alloc _ _ _ (by simp)).trans (World.alloc_heap_new _ _)
  have b1 : W0.heap[w.heap.size + 1]? = some (.cells #[.int .i64 0, .int .i64 0, .slice none 0 0, .slice none 0 0, .slice none 0 0] 25 (0, 0)) := by
    rw [← hW0]
    have := World.alloc_heap_new (w.alloc (.cells #[.int .i64 n, .int .i64 m, .slice a1 St.length c1, .slice a2 Fi.length c2, .slice a3 Ed.length c3] 25)) (.cells #[.int .i64 0, .int .i64 0, .slice none 0 0, .slice none 0 0, .slice none 0 0] 25)
    simpa using this
  have z0 : W0.heap.size = w.heap.size + 2 := by rw [← hW0]; simp
  have HA := hide (hA.out.on d0)
  have HD := hide (And.intro d0 (And.intro b0 (And.intro b1 z0)))
  have CK := hide (fun (W2 : World) (d : Below W0.heap.size W0 W2) => show W2.cell? ⟨w.heap.size, 0, none⟩ = some (.int .i64 n) ∧ W2.cell? ⟨w.heap.size, 1, none⟩ = some (.int .i64 m) ∧ W2.cell? ⟨w.heap.size, 2, none⟩ = some (.slice a1 St.length c1) ∧ W2.cell? ⟨w.heap.size, 3, none⟩ = some (.slice a2 Fi.length c2) ∧ W2.cell? ⟨w.heap.size, 4, none⟩ = some (.slice a3 Ed.length c3) from by
    have e := blk_on HD.out.2.1 d
    exact ⟨cell_of e rfl, cell_of e rfl, cell_of e rfl, cell_of e rfl, cell_of e rfl⟩)
  have FK := hide (fun (W2 : World) (d : Below W0.heap.size W0 W2) => show W2.heap[w.heap.size + 1]? = some (.cells #[.int .i64 0, .int .i64 0, .slice none 0 0, .slice none 0 0, .slice none 0 0] 25 (0, 0)) from blk_on HD.out.2.2.1 d)
  have T1 := hide (fun (W2 : World) (d : Below W0.heap.size W0 W2) => states_any W2 a1 c1 St (hide (HA.out.s.on d)) h1)
  have T2 := hide (fun (W2 : World) (d : Below W0.heap.size W0 W2) => states_any W2 a2 c2 Fi (hide (HA.out.f.on d)) h2)
  have T3 := hide (fun (W2 : World) (d : Below W0.heap.size W0 W2) => edges_any W2 a3 c3 Ed (hide (HA.out.e.on d)) h3)
  generalize riseL St = S1 at T1 ⊢
  generalize riseL Fi = F1 at T2 ⊢
  generalize riseE Ed = E1 at T3 ⊢
  have S0 := CK.out W0 (Below.refl _ _)
  clear d0 b0 b1 z0
  go_enter Tryz.func89, Tryz.ntmps89
  go_upto_region 1 with fail
  go_region_held3 (fun W2 => W2.cell? ⟨w.heap.size, 0, none⟩ = some (.int .i64 n) ∧ W2.cell? ⟨w.heap.size, 1, none⟩ = some (.int .i64 m) ∧ W2.cell? ⟨w.heap.size, 2, none⟩ = some (.slice a1 St.length c1) ∧ W2.cell? ⟨w.heap.size, 3, none⟩ = some (.slice a2 Fi.length c2) ∧ W2.cell? ⟨w.heap.size, 4, none⟩ = some (.slice a3 Ed.length c3))
    (first | go_keep | assumption)
    ((first
      | (go_at_call_of 112 a1; refine (T1.out _ (by exact (Below.refl _ W0).drew)).mono ?_; rintro e wa ⟨g1, k1, rfl, hr1, da⟩; have da2 : Below W0.heap.size W0 wa := ⟨da.os, da.tape, da.output, da.size, da.block⟩; have S2 := CK.out wa da2; have H1 := hide (And.intro hr1 da2); clear hr1 da da2)
      | (go_at_call_of 112 a2; refine (T2.out wa H1.out.2).mono ?_; rintro e wb ⟨g2, k2, rfl, hr2, db⟩; have db2 : Below W0.heap.size W0 wb := H1.out.2.trans (db.mono H1.out.2.size); have S3 := CK.out wb db2; have H2 := hide (And.intro hr2 (And.intro db db2)); clear hr2 db db2)
      | (go_at_call_of 113 a3; refine (T3.out wb H2.out.2.2).mono ?_; rintro e wc ⟨g3, k3, rfl, hr3, dc⟩; have dc2 : Below W0.heap.size W0 wc := H2.out.2.2.trans (dc.mono H2.out.2.2.size); have S4 := CK.out wc dc2; have F3 := FK.out wc dc2; have o0 : wc.cell? ⟨w.heap.size + 1, 0, none⟩ = some (.int .i64 0) := cell_of F3 rfl; have f0 : wc.frozen? ⟨w.heap.size + 1, 0, none⟩ = false := fz_of F3; have o1 : wc.cell? ⟨w.heap.size + 1, 1, none⟩ = some (.int .i64 0) := cell_of F3 rfl; have f1 : wc.frozen? ⟨w.heap.size + 1, 1, none⟩ = false := fz_of F3; have o2 : wc.cell? ⟨w.heap.size + 1, 2, none⟩ = some (.slice none 0 0) := cell_of F3 rfl; have f2 : wc.frozen? ⟨w.heap.size + 1, 2, none⟩ = false := fz_of F3; have o3 : wc.cell? ⟨w.heap.size + 1, 3, none⟩ = some (.slice none 0 0) := cell_of F3 rfl; have f3 : wc.frozen? ⟨w.heap.size + 1, 3, none⟩ = false := fz_of F3; have o4 : wc.cell? ⟨w.heap.size + 1, 4, none⟩ = some (.slice none 0 0) := cell_of F3 rfl; have f4 : wc.frozen? ⟨w.heap.size + 1, 4, none⟩ = false := fz_of F3; have H3 := hide (And.intro hr3 (And.intro dc dc2)); clear hr3 dc dc2)))
  obtain ⟨W6, hW6⟩ : ∃ W6, (((((wc.setCell ⟨w.heap.size + 1, 0, none⟩ (.int .i64 n)).setCell ⟨w.heap.size + 1, 1, none⟩ (.int .i64 m)).setCell ⟨w.heap.size + 1, 2, none⟩ (.slice (some ⟨g1, 0, none⟩) S1.length k1)).setCell ⟨w.heap.size + 1, 3, none⟩ (.slice (some ⟨g2, 0, none⟩) F1.length k2)).setCell ⟨w.heap.size + 1, 4, none⟩ (.slice (some ⟨g3, 0, none⟩) E1.length k3)) = W6 := ⟨_, rfl⟩
  rw [hW6]
  have e6 : W6.heap[w.heap.size + 1]? = some (.cells #[.int .i64 n, .int .i64 m, .slice (some ⟨g1, 0, none⟩) S1.length k1, .slice (some ⟨g2, 0, none⟩) F1.length k2, .slice (some ⟨g3, 0, none⟩) E1.length k3] 25 (0, 0)) := by
    rw [← hW6]
    exact set5 _ _ _ _ _ _ _ _ _ _ _ _ 25 F3
  have O6 : Only wc W6 (fun k => k = w.heap.size + 1) := by
    rw [← hW6]
    exact only5 _ _ _ _ _ _ _
  have HZ := hide (And.intro e6 O6)
  clear o0 o1 o2 o3 o4 f0 f1 f2 f3 f4 F3 S2 S3 S4 hW6 e6 O6 T1 T2 T3
  go_wp2_with fail
  refine bodyPost_ret (results_cell_row (p := 2) (ty := 25) rfl _ _ (w.heap.size + 1) 25 _ (0, 0) _ rfl HZ.out.1 Tryz.underlying25 rfl (by kernel_rfl)) rfl ?_
  have O6 := HZ.out.2
  have z0 := HD.out.2.2.2
  have q1 := own_at H1.out.1
  have q2 := own_at H2.out.1
  have q3 := own_at H3.out.1
  have y1 := H1.out.2.size
  have y2 := H2.out.2.1.size
  have y3 := H3.out.2.1.size
  have zz : W0.drew.heap.size = W0.heap.size := rfl
  refine ⟨g1, k1, g2, k2, g3, k3, rfl, ⟨?_, ?_, ?_, by omega, by omega, by omega⟩, ?_⟩
  · exact own_only (own_on (own_on (ownsRow_base H1.out.1 (by omega)) H2.out.2.1 q1.2) H3.out.2.1 (by omega)) O6 (by omega)
  · exact own_only (own_on (ownsRow_base H2.out.1 (by omega)) H3.out.2.1 q2.2) O6 (by omega)
  · exact own_only (ownsRow_base H3.out.1 (by omega)) O6 (by omega)
  · exact (HD.out.1.trans (H3.out.2.2.mono (by omega))).trans (O6.toBelow (by omega) (fun k hk => by omega))
/-! ### What is asked of a word; Normal -/
def wordErr (n m : Int) (St Fi : List Int) (Ed : List EdT) (Wd : List Int) : Int := if mayA n m St Fi Ed then if Wd.all (inB m) then 0 else 7 else 2
theorem results_c1 {P : Program} {fn : Func} {p q : Tmp} {ty : TypeId} (h : fn.results = #[.cell p ty, .tmp q]) (tmps : Array Value) (w : World) (g : Nat) (t : TypeId) (cs : Array Value) (fr : Nat × Nat) (d : TypeDesc) (x : Value)
    (hp : tmps.getD p undef = .pointer (some ⟨g, 0, none⟩)) (hq : tmps.getD q undef = x) (hg : w.heap[g]? = some (.cells cs t fr))
    (hu : P.underlying ty = some d) (hd : (match d with | .struct _ | .array _ _ => true | _ => false) = true) (hi : (P.info? ty).map (·.size) = some cs.size) :
    (results fn tmps).run P w = .ok (.tuple #[.agg cs, x]) w := by
  have hp' : tmps[p]?.getD undef = .pointer (some ⟨g, 0, none⟩) := by simpa using hp
  have hq' : tmps[q]?.getD undef = x := by simpa using hq
  simp [results, h, hp', hq', asAddr, run_loadVar_row w g t ty cs fr d hg hu hd hi]
/-- What lies in the box of a function that takes an automaton and answers one. -/
theorem box2 (w : World) (A Z : Array Value) (t : TypeId) : Below w.heap.size w ((w.alloc (.cells A t)).alloc (.cells Z t)) ∧ ((w.alloc (.cells A t)).alloc (.cells Z t)).heap[w.heap.size]? = some (.cells A t (0, 0)) ∧ ((w.alloc (.cells A t)).alloc (.cells Z t)).heap[w.heap.size + 1]? = some (.cells Z t (0, 0)) ∧ ((w.alloc (.cells A t)).alloc (.cells Z t)).heap.size = w.heap.size + 2 := by
  refine ⟨((Below.refl _ _).alloc (Nat.le_refl _) _).alloc (by simp) _, (Below.heap_alloc _ _ _ (by simp)).trans (World.alloc_heap_new _ _), ?_, by simp⟩
  have := World.alloc_heap_new (w.alloc (.cells A t)) (.cells Z t)
  simpa using this
set_option maxRecDepth 100000 in
set_option maxHeartbeats 1000000 in
theorem normal_bad (w : World) (n m : Int) (a1 a2 a3 : Option Addr) (c1 c2 c3 : Nat) (St Fi : List Int) (Ed : List EdT) (hA : Hid (RdA w a1 a2 a3 St Fi Ed)) (h1 : St.length ≤ 4194304) (h2 : Fi.length ≤ 4194304) (h3 : Ed.length ≤ 4194304) (em : mayA n m St Fi Ed = false) :
    Calls Tryz.prog 45 #[.agg #[.int .i64 n, .int .i64 m, .slice a1 St.length c1, .slice a2 Fi.length c2, .slice a3 Ed.length c3]] w fun e w' => e = .returned (.tuple #[.agg #[.int .i64 0, .int .i64 0, .slice none 0 0, .slice none 0 0, .slice none 0 0], .int .i64 2]) ∧ Below w.heap.size w w' := by
  obtain ⟨W0, hW0⟩ : ∃ W0, (w.alloc (.cells #[.int .i64 n, .int .i64 m, .slice a1 St.length c1, .slice a2 Fi.length c2, .slice a3 Ed.length c3] 25)).alloc (.cells #[.int .i64 0, .int .i64 0, .slice none 0 0, .slice none 0 0, .slice none 0 0] 25) = W0 := ⟨_, rfl⟩
  have HD := hide (box2 w #[.int .i64 n, .int .i64 m, .slice a1 St.length c1, .slice a2 Fi.length c2, .slice a3 Ed.length c3] #[.int .i64 0, .int .i64 0, .slice none 0 0, .slice none 0 0, .slice none 0 0] 25)
  rw [hW0] at HD
  have B0 := HD.out.2.1
  have T1 := valid_any W0 n m a1 a2 a3 c1 c2 c3 St Fi Ed (hide (hA.out.on HD.out.1)) h1 h2 h3
  have k0 : W0.cell? ⟨w.heap.size, 0, none⟩ = some (.int .i64 n) := cell_of B0 rfl
  have k1 : W0.cell? ⟨w.heap.size, 1, none⟩ = some (.int .i64 m) := cell_of B0 rfl
  have k2 : W0.cell? ⟨w.heap.size, 2, none⟩ = some (.slice a1 St.length c1) := cell_of B0 rfl
  have k3 : W0.cell? ⟨w.heap.size, 3, none⟩ = some (.slice a2 Fi.length c2) := cell_of B0 rfl
  have k4 : W0.cell? ⟨w.heap.size, 4, none⟩ = some (.slice a3 Ed.length c3) := cell_of B0 rfl
  clear B0
  rw [em] at T1
  have T1 : Calls Tryz.prog 88 #[.agg #[.int .i64 n, .int .i64 m, .slice a1 St.length c1, .slice a2 Fi.length c2, .slice a3 Ed.length c3]] W0 fun e w' => e = .returned (.int .i64 2) ∧ Below W0.heap.size W0 w' := T1
  go_enter Tryz.func45, Tryz.ntmps45
  go_upto_region 3 with (go_at_call 88; refine T1.mono ?_; rintro e w1 ⟨rfl, d1⟩)
  have F3 := blk_on HD.out.2.2.1 d1
  have o0 : w1.cell? ⟨w.heap.size + 1, 0, none⟩ = some (.int .i64 0) := cell_of F3 rfl
  have f0 : w1.frozen? ⟨w.heap.size + 1, 0, none⟩ = false := fz_of F3
  have o1 : w1.cell? ⟨w.heap.size + 1, 1, none⟩ = some (.int .i64 0) := cell_of F3 rfl
  have f1 : w1.frozen? ⟨w.heap.size + 1, 1, none⟩ = false := fz_of F3
  have o2 : w1.cell? ⟨w.heap.size + 1, 2, none⟩ = some (.slice none 0 0) := cell_of F3 rfl
  have f2 : w1.frozen? ⟨w.heap.size + 1, 2, none⟩ = false := fz_of F3
  have o3 : w1.cell? ⟨w.heap.size + 1, 3, none⟩ = some (.slice none 0 0) := cell_of F3 rfl
  have f3 : w1.frozen? ⟨w.heap.size + 1, 3, none⟩ = false := fz_of F3
  have o4 : w1.cell? ⟨w.heap.size + 1, 4, none⟩ = some (.slice none 0 0) := cell_of F3 rfl
  have f4 : w1.frozen? ⟨w.heap.size + 1, 4, none⟩ = false := fz_of F3
  have O6 := hide (And.intro (set5 w1 (w.heap.size + 1) _ _ _ _ _ (.int .i64 0) (.int .i64 0) (.slice none 0 0) (.slice none 0 0) (.slice none 0 0) 25 F3) (only5 w1 (w.heap.size + 1) (.int .i64 0) (.int .i64 0) (.slice none 0 0) (.slice none 0 0) (.slice none 0 0)))
  clear F3
  go_wp2_with fail
  refine bodyPost_ret (results_c1 (p := 2) (q := 3) (ty := 25) rfl _ _ (w.heap.size + 1) 25 _ (0, 0) _ _ rfl rfl O6.out.1 Tryz.underlying25 rfl (by kernel_rfl)) rfl ?_
  have z0 := HD.out.2.2.2
  have z1 := d1.size
  exact ⟨rfl, (HD.out.1.trans (d1.mono (by omega))).trans (O6.out.2.toBelow (by omega) (fun k hk => by omega))⟩
set_option maxRecDepth 100000 in
set_option maxHeartbeats 1000000 in
theorem normal_ok (w : World) (n m : Int) (a1 a2 a3 : Option Addr) (c1 c2 c3 : Nat) (St Fi : List Int) (Ed : List EdT) (hA : Hid (RdA w a1 a2 a3 St Fi Ed)) (h1 : St.length ≤ 4194304) (h2 : Fi.length ≤ 4194304) (h3 : Ed.length ≤ 4194304) (em : mayA n m St Fi Ed = true) :
    Calls Tryz.prog 45 #[.agg #[.int .i64 n, .int .i64 m, .slice a1 St.length c1, .slice a2 Fi.length c2, .slice a3 Ed.length c3]] w fun e w' => ∃ g1 k1 g2 k2 g3 k3, e = .returned (.tuple #[.agg #[.int .i64 n, .int .i64 m, .slice (some ⟨g1, 0, none⟩) (riseL St).length k1, .slice (some ⟨g2, 0, none⟩) (riseL Fi).length k2, .slice (some ⟨g3, 0, none⟩) (riseE Ed).length k3], .int .i64 0]) ∧ Own w.heap.size w' g1 k1 g2 k2 g3 k3 (riseL St) (riseL Fi) (riseE Ed) ∧ Below w.heap.size w w' := by
  obtain ⟨W0, hW0⟩ : ∃ W0, (w.alloc (.cells #[.int .i64 n, .int .i64 m, .slice a1 St.length c1, .slice a2 Fi.length c2, .slice a3 Ed.length c3] 25)).alloc (.cells #[.int .i64 0, .int .i64 0, .slice none 0 0, .slice none 0 0, .slice none 0 0] 25) = W0 := ⟨_, rfl⟩
  have HD := hide (box2 w #[.int .i64 n, .int .i64 m, .slice a1 St.length c1, .slice a2 Fi.length c2, .slice a3 Ed.length c3] #[.int .i64 0, .int .i64 0, .slice none 0 0, .slice none 0 0, .slice none 0 0] 25)
  rw [hW0] at HD
  have B0 := HD.out.2.1
  have T1 := valid_any W0 n m a1 a2 a3 c1 c2 c3 St Fi Ed (hide (hA.out.on HD.out.1)) h1 h2 h3
  have k0 : W0.cell? ⟨w.heap.size, 0, none⟩ = some (.int .i64 n) := cell_of B0 rfl
  have k1 : W0.cell? ⟨w.heap.size, 1, none⟩ = some (.int .i64 m) := cell_of B0 rfl
  have k2 : W0.cell? ⟨w.heap.size, 2, none⟩ = some (.slice a1 St.length c1) := cell_of B0 rfl
  have k3 : W0.cell? ⟨w.heap.size, 3, none⟩ = some (.slice a2 Fi.length c2) := cell_of B0 rfl
  have k4 : W0.cell? ⟨w.heap.size, 4, none⟩ = some (.slice a3 Ed.length c3) := cell_of B0 rfl
  clear B0
  rw [em] at T1
  have T1 : Calls Tryz.prog 88 #[.agg #[.int .i64 n, .int .i64 m, .slice a1 St.length c1, .slice a2 Fi.length c2, .slice a3 Ed.length c3]] W0 fun e w' => e = .returned (.int .i64 0) ∧ Below W0.heap.size W0 w' := T1
  have T2 := hide (fun (w1 : World) (d1 : Below W0.heap.size W0 w1) => inOrder_any w1 n m a1 a2 a3 c1 c2 c3 St Fi Ed (hide ((hA.out.on HD.out.1).on d1)) h1 h2 h3)
  generalize riseL St = S1 at T2 ⊢
  generalize riseL Fi = F1 at T2 ⊢
  generalize riseE Ed = E1 at T2 ⊢
  go_enter Tryz.func45, Tryz.ntmps45
  go_upto_region 4 with (go_at_call 88; refine T1.mono ?_; rintro e w1 ⟨rfl, d1⟩)
  have B1 := blk_on HD.out.2.1 d1
  have H1 := hide (And.intro d1 (blk_on HD.out.2.2.1 d1))
  have y0 : w1.cell? ⟨w.heap.size, 0, none⟩ = some (.int .i64 n) := cell_of B1 rfl
  have y1 : w1.cell? ⟨w.heap.size, 1, none⟩ = some (.int .i64 m) := cell_of B1 rfl
  have y2 : w1.cell? ⟨w.heap.size, 2, none⟩ = some (.slice a1 St.length c1) := cell_of B1 rfl
  have y3 : w1.cell? ⟨w.heap.size, 3, none⟩ = some (.slice a2 Fi.length c2) := cell_of B1 rfl
  have y4 : w1.cell? ⟨w.heap.size, 4, none⟩ = some (.slice a3 Ed.length c3) := cell_of B1 rfl
  clear k0 k1 k2 k3 k4 B1 d1 T1 hA
  go_wp2_with (go_at_call 89; refine (T2.out w1 H1.out.1).mono ?_; rintro e w2 ⟨g1, k1, g2, k2, g3, k3, rfl, hO, d2⟩; have F3 := blk_on H1.out.2 d2; have o0 : w2.cell? ⟨w.heap.size + 1, 0, none⟩ = some (.int .i64 0) := cell_of F3 rfl; have f0 : w2.frozen? ⟨w.heap.size + 1, 0, none⟩ = false := fz_of F3; have o1 : w2.cell? ⟨w.heap.size + 1, 1, none⟩ = some (.int .i64 0) := cell_of F3 rfl; have f1 : w2.frozen? ⟨w.heap.size + 1, 1, none⟩ = false := fz_of F3; have o2 : w2.cell? ⟨w.heap.size + 1, 2, none⟩ = some (.slice none 0 0) := cell_of F3 rfl; have f2 : w2.frozen? ⟨w.heap.size + 1, 2, none⟩ = false := fz_of F3; have o3 : w2.cell? ⟨w.heap.size + 1, 3, none⟩ = some (.slice none 0 0) := cell_of F3 rfl; have f3 : w2.frozen? ⟨w.heap.size + 1, 3, none⟩ = false := fz_of F3; have o4 : w2.cell? ⟨w.heap.size + 1, 4, none⟩ = some (.slice none 0 0) := cell_of F3 rfl; have f4 : w2.frozen? ⟨w.heap.size + 1, 4, none⟩ = false := fz_of F3; have H2 := hide (And.intro hO (And.intro d2 F3)); clear hO d2 F3)
  have O6 := hide (And.intro (set5 w2 (w.heap.size + 1) _ _ _ _ _ (.int .i64 n) (.int .i64 m) (.slice (some ⟨g1, 0, none⟩) S1.length k1) (.slice (some ⟨g2, 0, none⟩) F1.length k2) (.slice (some ⟨g3, 0, none⟩) E1.length k3) 25 H2.out.2.2) (only5 w2 (w.heap.size + 1) (.int .i64 n) (.int .i64 m) (.slice (some ⟨g1, 0, none⟩) S1.length k1) (.slice (some ⟨g2, 0, none⟩) F1.length k2) (.slice (some ⟨g3, 0, none⟩) E1.length k3)))
  refine bodyPost_ret (results_c1 (p := 2) (q := 3) (ty := 25) rfl _ _ (w.heap.size + 1) 25 _ (0, 0) _ _ rfl rfl O6.out.1 Tryz.underlying25 rfl (by kernel_rfl)) rfl ?_
  have z0 := HD.out.2.2.2
  have z1 := H1.out.1.size
  have z2 := H2.out.2.1.size
  obtain ⟨o1, o2, o3, n1, n2, n3⟩ := H2.out.1
  have q1 := own_at o1
  have q2 := own_at o2
  have q3 := own_at o3
  refine ⟨g1, k1, g2, k2, g3, k3, rfl, ⟨own_only (ownsRow_base (base := w1.heap.size) o1 (by omega)) O6.out.2 (by omega), own_only (ownsRow_base (base := w1.heap.size) o2 (by omega)) O6.out.2 (by omega), own_only (ownsRow_base (base := w1.heap.size) o3 (by omega)) O6.out.2 (by omega), n1, n2, n3⟩, ?_⟩
  exact ((HD.out.1.trans (H1.out.1.mono (by omega))).trans (H2.out.2.1.mono (by omega))).trans (O6.out.2.toBelow (by omega) (fun k hk => by omega))
/-! ### A set's numbers, one by one -/
/-- What a round keeps for the walk over a set: the table, and every block of words from B on. -/
structure KpU (B : Nat) (W W' : World) : Prop where
  size : W.heap.size ≤ W'.heap.size
  tab : W'.heap[0]? = W.heap[0]?
  words : ∀ (b : Nat) (cs : Array Value) (fr : Nat × Nat), B ≤ b → W.heap[b]? = some (.cells cs 126 fr) → W'.heap[b]? = some (.cells cs 126 fr)
theorem KpU.refl (B : Nat) (W : World) : KpU B W W := ⟨Nat.le_refl _, rfl, fun _ _ _ _ h => h⟩
theorem KpU.trans {B : Nat} {W1 W2 W3 : World} (h : KpU B W1 W2) (k : KpU B W2 W3) : KpU B W1 W3 :=
  ⟨Nat.le_trans h.size k.size, k.tab.trans h.tab, fun b cs fr hb hc => k.words b cs fr hb (h.words b cs fr hb hc)⟩
end Go.Proofs.YtgnpdhgphkocoaaGreatDoor
namespace Go.Proofs.YtgnpdhgphkocoaaGreatDoor
open Go.RowKit Go.Maps
/-! ### Edges in order, each once -/
def SsE (l : List EdT) : Prop := l.Pairwise fun a b => ltE a b = true
theorem cp_mem {α : Type} [Inhabited α] [DecidableEq α] {zs : List α} {x : α} (h : x ∈ Lib.compact zs) : x ∈ zs := by
  unfold Lib.compact Lib.compactUpTo at h
  obtain ⟨j, hj, rfl⟩ := List.mem_map.1 h
  have hj' := List.mem_range.1 (List.mem_filter.1 hj).1
  rw [getElem!_pos _ j (by simpa using hj')]
  simp
theorem cp_has {α : Type} [Inhabited α] [DecidableEq α] {zs : List α} : ∀ (j : Nat) (h : j < zs.length), zs[j] ∈ Lib.compact zs
  | 0, h => by
    unfold Lib.compact Lib.compactUpTo
    refine List.mem_map.2 ⟨0, List.mem_filter.2 ⟨List.mem_range.2 h, by simp [Lib.keeps]⟩, ?_⟩
    simp [h]
  | j + 1, h => by
    by_cases e : zs[j + 1] = zs[j]
    · rw [e]; exact cp_has j (by omega)
    · unfold Lib.compact Lib.compactUpTo
      refine List.mem_map.2 ⟨j + 1, List.mem_filter.2 ⟨List.mem_range.2 h, ?_⟩, ?_⟩
      · unfold Lib.keeps
        rw [decide_eq_true_eq]
        right
        rw [getElem!_pos _ (j + 1) (by simpa using h), getElem!_pos _ (j + 1 - 1) (by simp; omega)]
        simpa using e
      · simp [h]
theorem riseE_iff (L : List EdT) (x : EdT) : x ∈ riseE L ↔ x ∈ L := by
  constructor
  · intro h
    have := cp_mem h
    unfold sortE at this
    exact List.mem_mergeSort.1 this
  · intro h
    have h' : x ∈ sortE L := by unfold sortE; exact List.mem_mergeSort.2 h
    obtain ⟨j, hj, rfl⟩ := List.getElem_of_mem h'
    exact cp_has j hj
theorem riseE_len (L : List EdT) : (riseE L).length ≤ L.length := Nat.le_trans (compact_len _) (Nat.le_of_eq (sortE_len L))
theorem riseL_iff (L : List Int) (x : Int) : x ∈ riseL L ↔ x ∈ L := by
  constructor
  · intro h
    have := cp_mem h
    unfold sortI at this
    exact List.mem_mergeSort.1 this
  · intro h
    have h' : x ∈ sortI L := by unfold sortI; exact List.mem_mergeSort.2 h
    obtain ⟨j, hj, rfl⟩ := List.getElem_of_mem h'
    exact cp_has j hj
theorem riseL_len (L : List Int) : (riseL L).length ≤ L.length := Nat.le_trans (compact_len _) (Nat.le_of_eq (sortI_len L))
/-! ### The edges from a state by a symbol -/
def fromL (Es : List EdT) (p : Nat) (y : Int) : List EdT := Es.filter fun e => decide (e.1 = (p : Int) ∧ e.2.1 = y)
theorem fromL_iff {Es : List EdT} {p : Nat} {y : Int} {x : EdT} : x ∈ fromL Es p y ↔ x ∈ Es ∧ x.1 = (p : Int) ∧ x.2.1 = y := by
  unfold fromL
  rw [List.mem_filter, decide_eq_true_eq]
open Go.Shelf
/-! ### Images and the other way round -/
def itl (l : List Nat) : List Int := l.map fun (i : Nat) => (i : Int)
theorem mem_itl {l : List Nat} {x : Int} : x ∈ itl l ↔ ∃ i ∈ l, (i : Int) = x := by simp [itl]
theorem setI_test (n : Nat) (q : Nat) (L : List Int) : (setI n L).testBit q = true ↔ ∃ i ∈ L, (0 ≤ i ∧ i < (n : Int)) ∧ i.toNat = q := by
  have key : ∀ (L : List Int) (X : Nat), (L.foldl (fun X i => if 0 ≤ i ∧ i < (n : Int) then X ||| 2 ^ i.toNat else X) X).testBit q = true ↔ X.testBit q = true ∨ ∃ i ∈ L, (0 ≤ i ∧ i < (n : Int)) ∧ i.toNat = q := by
    intro L
    induction L with
    | nil => intro X; simp
    | cons a L ih =>
      intro X
      rw [List.foldl_cons, ih]
      simp only [List.mem_cons, exists_eq_or_imp]
      by_cases h : 0 ≤ a ∧ a < (n : Int)
      · rw [if_pos h, Nat.testBit_or, Bool.or_eq_true, Nat.testBit_two_pow, decide_eq_true_eq]
        simp only [h, true_and, and_self]
        exact or_assoc
      · rw [if_neg h]
        simp only [h, false_and, false_or]
  unfold setI
  rw [key]
  simp
theorem bit_lt {N X q : Nat} (hX : X < 2 ^ N) (h : X.testBit q = true) : q < N := Nat.lt_of_not_le fun hle => by
  have := Nat.testBit_lt_two_pow (Nat.lt_of_lt_of_le hX (Nat.pow_le_pow_right (by omega) hle))
  rw [this] at h; cases h
theorem setI_elems {N X : Nat} (hX : X < 2 ^ N) : setI N (itl (elems N X)) = X := by
  apply Nat.eq_of_testBit_eq
  intro q
  rw [Bool.eq_iff_iff, setI_test]
  constructor
  · rintro ⟨i, hi, _, rfl⟩
    obtain ⟨j, hj, rfl⟩ := mem_itl.1 hi
    exact (mem_elems.1 hj).2
  · intro h
    have := bit_lt hX h
    exact ⟨(q : Int), mem_itl.2 ⟨q, mem_elems.2 ⟨this, h⟩, rfl⟩, ⟨by omega, by omega⟩, by omega⟩
theorem hasB_setI {N : Nat} {Q : List Int} {y : Int} : hasB (setI N Q) y = true ↔ y ∈ Q ∧ 0 ≤ y ∧ y < (N : Int) := by
  unfold hasB
  rw [Bool.and_eq_true, decide_eq_true_eq, setI_test]
  constructor
  · rintro ⟨h0, i, hi, h1, h2⟩
    have : i = y := by omega
    subst this
    exact ⟨hi, h1⟩
  · rintro ⟨h1, h2⟩
    exact ⟨h2.1, y, h1, h2, rfl⟩
/-- A state's image meets a set just if the set's image the other way round has the state. -/
theorem img_dual {N : Nat} {Ed : List EdT} (hi : ∀ x ∈ Ed, (0 ≤ x.1 ∧ x.1 < (N : Int)) ∧ 0 ≤ x.2.2 ∧ x.2.2 < (N : Int)) (back : Bool) (Q : List Int) (y : Int) (s : Nat) (hs : s < N) :
    ((itl (elems N (imgF back (setI N [(s : Int)]) y Ed))).any fun x => decide (x ∈ Q)) = decide ((s : Int) ∈ itl (elems N (imgF (!back) (setI N Q) y Ed))) := by
  rw [Bool.eq_iff_iff, List.any_eq_true, decide_eq_true_eq]
  constructor
  · rintro ⟨x, hx, hq⟩
    rw [decide_eq_true_eq] at hq
    obtain ⟨j, hj, rfl⟩ := mem_itl.1 hx
    obtain ⟨e, he, h1, h2, h3⟩ := (imgF_test _ _ _ _ _).1 (mem_elems.1 hj).2
    rw [hasB_setI] at h2
    have hr := hi e he
    have h2a : (ends back e).1 = (s : Int) := by simpa using h2.1
    refine mem_itl.2 ⟨s, mem_elems.2 ⟨hs, (imgF_test _ _ _ _ _).2 ⟨e, he, h1, hasB_setI.2 ?_, ?_⟩⟩, rfl⟩
    · cases back
      · have e1 : (ends false e).2 = e.2.2 := rfl
        have e2 : (ends (!false) e).1 = e.2.2 := rfl
        rw [e1] at h3
        rw [e2]
        have : ((j : Nat) : Int) = e.2.2 := by omega
        rw [← this]
        exact ⟨hq, by omega, by omega⟩
      · have e1 : (ends true e).2 = e.1 := rfl
        have e2 : (ends (!true) e).1 = e.1 := rfl
        rw [e1] at h3
        rw [e2]
        have : ((j : Nat) : Int) = e.1 := by omega
        rw [← this]
        exact ⟨hq, by omega, by omega⟩
    · cases back
      · have e2 : (ends (!false) e).2 = e.1 := rfl
        have e3 : (ends false e).1 = e.1 := rfl
        rw [e3] at h2a
        rw [e2, h2a]; rfl
      · have e2 : (ends (!true) e).2 = e.2.2 := rfl
        have e3 : (ends true e).1 = e.2.2 := rfl
        rw [e3] at h2a
        rw [e2, h2a]; rfl
  · intro h
    obtain ⟨t, ht, hts⟩ := mem_itl.1 h
    have : t = s := by omega
    subst this
    obtain ⟨e, he, h1, h2, h3⟩ := (imgF_test _ _ _ _ _).1 (mem_elems.1 ht).2
    rw [hasB_setI] at h2
    have hr := hi e he
    cases back
    · have e1 : (ends (!false) e).1 = e.2.2 := rfl
      have e2 : (ends (!false) e).2 = e.1 := rfl
      rw [e1] at h2
      rw [e2] at h3
      refine ⟨e.2.2, mem_itl.2 ⟨e.2.2.toNat, mem_elems.2 ⟨by omega, (imgF_test _ _ _ _ _).2 ⟨e, he, h1, hasB_setI.2 ⟨?_, ?_⟩, rfl⟩⟩, by omega⟩, by simpa using h2.1⟩
      · have e3 : (ends false e).1 = e.1 := rfl
        rw [e3]
        simp
        omega
      · have e3 : (ends false e).1 = e.1 := rfl
        rw [e3]; omega
    · have e1 : (ends (!true) e).1 = e.1 := rfl
      have e2 : (ends (!true) e).2 = e.2.2 := rfl
      rw [e1] at h2
      rw [e2] at h3
      refine ⟨e.1, mem_itl.2 ⟨e.1.toNat, mem_elems.2 ⟨by omega, (imgF_test _ _ _ _ _).2 ⟨e, he, h1, hasB_setI.2 ⟨?_, ?_⟩, rfl⟩⟩, by omega⟩, by simpa using h2.1⟩
      · have e3 : (ends true e).1 = e.2.2 := rfl
        rw [e3]
        simp
        omega
      · have e3 : (ends true e).1 = e.2.2 := rfl
        rw [e3]; omega
/-! ### Two phases, and the last operation of the first makes a block: it may come up ahead of some that read -/
section
variable {P : Program} {md : Region.Mode} {ops : Array Oper} {C0 C1 : World → Prop} {al : Nat}
end
structure TB where
  d : Nat
  q : Bool
  deriving Inhabited
end Go.Proofs.YtgnpdhgphkocoaaGreatDoor
namespace Go.Proofs.YtgnpdhgphkocoaaGreatDoor
open Go.RowKit Go.Maps
attribute [local go_sem] Oper.semAt_some
/-! ### The queue in a search's box -/
/-- The cells of a search. -/
def sF (al it : Value) (f c : Nat) (ln : Value) : Nat → Value := fun k => match k with | 0 => al | 1 => it | 2 => .int .i64 f | 3 => .int .i64 c | _ => ln
/-- What waits in the queue of the search in block b: m places, the first one f. -/
structure RingAt (w : World) (b : Nat) (al ln : Value) (m f : Nat) (ao : Option Addr) (T : List Int) : Prop where
  box : Mrw w b 138 5 (sF al (.slice ao m m) f T.length ln) 5
  le : T.length ≤ m
  nil : m = 0 → ao = none ∧ f = 0
  some : 0 < m → f < m ∧ ∃ (g : Nat) (F : Nat → Int), ao = some ⟨g, 0, none⟩ ∧ Mrw w g 3 m (fun c => .int .i64 (F c)) m ∧ ∀ k, k < T.length → F ((f + k) % m) = T.getD k 0
theorem RingAt.drew {w : World} {b m f : Nat} {al ln : Value} {ao : Option Addr} {T : List Int} (h : RingAt w b al ln m f ao T) : RingAt w.drew b al ln m f ao T := ⟨h.1, h.2, h.3, h.4⟩
theorem RingAt.drewN {w : World} {b m f : Nat} {al ln : Value} {ao : Option Addr} {T : List Int} (h : RingAt w b al ln m f ao T) (q : Nat) : RingAt (w.drewN q) b al ln m f ao T := ⟨h.1, h.2, h.3, h.4⟩
/-! ### A state that is met -/
/-- Nothing below B is changed, and no block but of numbers and of searches. -/
structure SFr (B : Nat) (w w' : World) : Prop where
  os : w'.os = w.os
  tape : w'.tape = w.tape
  output : w'.output = w.output
  size : w.heap.size ≤ w'.heap.size
  block : ∀ k, k < w.heap.size → (k < B ∨ ∃ cs t fr, w.heap[k]? = some (.cells cs t fr) ∧ t ≠ 3 ∧ t ≠ 138) → w'.heap[k]? = w.heap[k]?
theorem SFr.refl (B : Nat) (w : World) : SFr B w w := ⟨rfl, rfl, rfl, Nat.le_refl _, fun _ _ _ => rfl⟩
theorem SFr.trans {B : Nat} {a b c : World} (h : SFr B a b) (k : SFr B b c) : SFr B a c :=
  ⟨k.os.trans h.os, k.tape.trans h.tape, k.output.trans h.output, Nat.le_trans h.size k.size, fun i hi hh => by
    have e := h.block i hi hh
    rw [← e]
    exact k.block i (Nat.lt_of_lt_of_le hi h.size) (by rw [e]; exact hh)⟩
theorem SFr.ofOnly {B : Nat} {w w' : World} {R : Nat → Prop} (h : Only w w' R) (hR : ∀ k, R k → B ≤ k ∧ ∃ cs t fr, w.heap[k]? = some (.cells cs t fr) ∧ (t = 3 ∨ t = 138)) : SFr B w w' :=
  ⟨h.os, h.tape, h.output, h.size, fun k hk hh => h.block k hk fun hr => by
    obtain ⟨h1, cs, t, fr, h2, h3⟩ := hR k hr
    rcases hh with hh | ⟨cs', t', fr', h4, h5, h6⟩
    · omega
    · rw [h2] at h4
      cases h4
      rcases h3 with h3 | h3
      · exact h5 h3
      · exact h6 h3⟩
theorem SFr.toBelow {B : Nat} {w w' : World} (h : SFr B w w') (hB : B ≤ w.heap.size) : Below B w w' := ⟨h.os, h.tape, h.output, h.size, fun k hk => h.block k (by omega) (.inl hk)⟩
theorem SFr.ofBelow {B : Nat} {w w' : World} (h : Below w.heap.size w w') : SFr B w w' := ⟨h.os, h.tape, h.output, h.size, fun k hk _ => h.block k hk⟩
theorem SFr.mrw {B : Nat} {w w' : World} (h : SFr B w w') {g t N k : Nat} {f : Nat → Value} (hM : Mrw w g t N f k) (h1 : t ≠ 3) (h2 : t ≠ 138) : Mrw w' g t N f k := by
  have hl := hM.lt
  obtain ⟨cur, e, r⟩ := hM
  exact ⟨cur, (h.block g hl (.inr ⟨_, _, _, e, h1, h2⟩)).trans e, r⟩
/-- A search: what waits, and the lengths that are known. -/
structure SrAt (B : Nat) (w : World) (b : Nat) (al : Value) (gl N m f : Nat) (ao : Option Addr) (T : List Int) (len : Nat → Int) : Prop where
  ring : RingAt w b al (.slice (some ⟨gl, 0, none⟩) N N) m f ao T
  row : Mrw w gl 3 N (fun c => .int .i64 (len c)) N
  ne : ao ≠ some ⟨gl, 0, none⟩
  lb : B ≤ b
  lg : B ≤ gl
  la : ∀ g, ao = some ⟨g, 0, none⟩ → B ≤ g
theorem SrAt.drewN {B : Nat} {w : World} {b : Nat} {al : Value} {gl N m f : Nat} {ao : Option Addr} {T : List Int} {len : Nat → Int} (h : SrAt B w b al gl N m f ao T len) (q : Nat) : SrAt B (w.drewN q) b al gl N m f ao T len := ⟨h.1.drewN q, h.2, h.3, h.4, h.5, h.6⟩
theorem ring_only {w w' : World} {b : Nat} {al ln : Value} {m f : Nat} {ao : Option Addr} {T : List Int} {R : Nat → Prop} (h : RingAt w b al ln m f ao T) (o : Only w w' R) (hb : ¬ R b) (ha : ∀ g, ao = some ⟨g, 0, none⟩ → ¬ R g) : RingAt w' b al ln m f ao T :=
  ⟨h.box.only o hb, h.le, h.nil, fun hm => by
    obtain ⟨h1, g, F, e, hM, hF⟩ := h.some hm
    exact ⟨h1, g, F, e, hM.only o (ha g e), hF⟩⟩
theorem mrw_typed {w : World} {g t N k : Nat} {f : Nat → Value} (h : Mrw w g t N f k) : ∃ cs fr, w.heap[g]? = some (.cells cs t fr) := by
  obtain ⟨cur, e, _⟩ := h
  exact ⟨cur, _, e⟩
theorem SrAt.fr {B : Nat} {w w' : World} {b : Nat} {al : Value} {gl N m f : Nat} {ao : Option Addr} {T : List Int} {len : Nat → Int} (h : SrAt B w b al gl N m f ao T len)
    (o : Only w w' (fun k => k = b ∨ k = gl ∨ ao = some ⟨k, 0, none⟩)) : SFr B w w' := by
  refine SFr.ofOnly o fun k hk => ?_
  rcases hk with rfl | rfl | e
  · obtain ⟨cs, fr, e⟩ := mrw_typed h.ring.box
    exact ⟨h.lb, cs, 138, fr, e, .inr rfl⟩
  · obtain ⟨cs, fr, e⟩ := mrw_typed h.row
    exact ⟨h.lg, cs, 3, fr, e, .inl rfl⟩
  · by_cases hm : 0 < m
    · obtain ⟨_, g, F, e', hM, _⟩ := h.ring.some hm
      rw [e] at e'
      cases e'
      obtain ⟨cs, fr, e2⟩ := mrw_typed hM
      exact ⟨h.la k e, cs, 3, fr, e2, .inl rfl⟩
    · obtain ⟨rfl, _⟩ := h.ring.nil (by omega)
      cases e
end Go.Proofs.YtgnpdhgphkocoaaGreatDoor
namespace Go.Proofs.YtgnpdhgphkocoaaGreatDoor
/-! ### Breadth first -/
/-- Some start leads to q by k steps. -/
def Wlk (S : Nat → Prop) (E : Nat → Nat → Prop) : Nat → Nat → Prop
  | 0, q => S q
  | k + 1, q => ∃ p, Wlk S E k p ∧ E p q
/-- What is known while states wait. -/
structure Bfs (N : Nat) (S : Nat → Prop) (E : Nat → Nat → Prop) (T : List Nat) (len : Nat → Int) : Prop where
  mem : ∀ q ∈ T, q < N ∧ 0 ≤ len q
  nd : T.Nodup
  ge : ∀ q, -1 ≤ len q
  sound : ∀ q, q < N → 0 ≤ len q → Wlk S E (len q).toNat q
  start : ∀ q, S q → len q = 0
  mono : T.Pairwise (fun x y => len x ≤ len y)
  near : ∀ x ∈ T, ∀ q, q < N → len q ≤ len x + 1
  closed : ∀ q r, q < N → E q r → 0 ≤ len q → q ∉ T → 0 ≤ len r ∧ len r ≤ len q + 1
/-- The starts are met. -/
theorem Bfs.first {N : Nat} {S : Nat → Prop} {E : Nat → Nat → Prop} {T : List Nat} {len : Nat → Int} (hT : T.Nodup) (hS : ∀ q, S q ↔ q ∈ T) (hN : ∀ q, S q → q < N) (hl : ∀ q, len q = if q ∈ T then 0 else -1) : Bfs N S E T len := by
  have h0 : ∀ q, q ∈ T → len q = 0 := fun q hq => by rw [hl, if_pos hq]
  have h1 : ∀ q, q ∉ T → len q = -1 := fun q hq => by rw [hl, if_neg hq]
  have hle : ∀ q, len q = 0 ∨ len q = -1 := fun q => by
    by_cases e : q ∈ T
    · exact .inl (h0 q e)
    · exact .inr (h1 q e)
  refine ⟨fun q hq => ⟨hN q ((hS q).2 hq), by rw [h0 q hq]; omega⟩, hT, fun q => by rcases hle q with e | e <;> omega, fun q _ h => ?_, fun q hs => h0 q ((hS q).1 hs), ?_, fun x hx q _ => ?_, fun q r _ _ h hn => ?_⟩
  · by_cases e : q ∈ T
    · rw [h0 q e]; exact (hS q).2 e
    · rw [h1 q e] at h; omega
  · exact List.pairwise_of_forall_mem_list fun a ha b hb => by rw [h0 a ha, h0 b hb]; omega
  · rw [h0 x hx]; rcases hle q with e | e <;> omega
  · rw [h1 q hn] at h; omega
end Go.Proofs.YtgnpdhgphkocoaaGreatDoor
namespace Go.Proofs.YtgnpdhgphkocoaaGreatDoor
open Go.RowKit Go.Maps
attribute [local go_sem] Oper.semAt_some
/-! ### The search itself -/
/-- The edges by their near ends. -/
def GrAt (w : World) (H N : Nat) (row : Nat → List EdT) : Prop :=
  ∃ F, Mrw w H 23 N F N ∧ ∀ q, q < N → ∃ ao c, F q = .slice ao (row q).length c ∧ RdE w ao (row q) ∧ ∀ g o, ao = some ⟨g, o, none⟩ → ∃ cs fr, w.heap[g]? = some (.cells cs 62 fr)
theorem cell_same {w w' : World} {g : Nat} (h : w'.heap[g]? = w.heap[g]?) (o : Nat) : w'.cell? ⟨g, o, none⟩ = w.cell? ⟨g, o, none⟩ := by
  simp [World.cell?, h]
theorem GrAt.fr {B : Nat} {w w' : World} {H N : Nat} {row : Nat → List EdT} (h : GrAt w H N row) (d : SFr B w w') : GrAt w' H N row := by
  obtain ⟨F, hM, hF⟩ := h
  refine ⟨F, d.mrw hM (by decide) (by decide), fun q hq => ?_⟩
  obtain ⟨ao, c, e, hr, ht⟩ := hF q hq
  have hk : ∀ g o, ao = some ⟨g, o, none⟩ → w'.heap[g]? = w.heap[g]? := fun g o e => by
    obtain ⟨cs, fr, e2⟩ := ht g o e
    exact d.block g (Array.getElem?_eq_some_iff.1 e2).1 (.inr ⟨_, _, _, e2, by decide, by decide⟩)
  refine ⟨ao, c, e, fun j hj => ?_, fun g o e => ?_⟩
  · obtain ⟨g, o, e, r1, r2, r3⟩ := hr j hj
    have := hk g o e
    exact ⟨g, o, e, by rw [cell_same this]; exact r1, by rw [cell_same this]; exact r2, by rw [cell_same this]; exact r3⟩
  · rw [hk g o e]; exact ht g o e
theorem SrAt.below {B : Nat} {w w' : World} {b : Nat} {al : Value} {gl N m f : Nat} {ao : Option Addr} {T : List Int} {len : Nat → Int} (h : SrAt B w b al gl N m f ao T len) (d : Below w.heap.size w w') : SrAt B w' b al gl N m f ao T len :=
  ⟨ring_only h.ring (Only.ofBelow (R := fun _ => False) d) id (fun _ _ => id), h.row.only (Only.ofBelow (R := fun _ => False) d) id, h.ne, h.lb, h.lg, h.la⟩
/-! ### The edges by their near ends -/
theorem rdE_own {W : World} {B b cap : Nat} {X : List EdT} (h : W.ownsRow B 62 3 (.slice (some ⟨b, 0, none⟩) X.length cap) X.length (X.flatMap encE)) : RdE W (some ⟨b, 0, none⟩) X := fun j hj => by
  have := rdE_cells h j hj
  exact ⟨b, 0, rfl, by simpa using this⟩
theorem own_rdE {W : World} {B c : Nat} {b : Option Addr} {X : List EdT} (h : W.ownsRow B 62 3 (.slice b X.length c) X.length (X.flatMap encE)) : RdE W b X := by
  rcases h.2 with ⟨hv, hn⟩ | ⟨g, cap, cur, hv, _⟩
  · intro j hj; omega
  · cases hv
    exact rdE_own h
structure GrI (B : Nat) (w : World) (H N : Nat) (row : Nat → List EdT) (F : Nat → Value) : Prop where
  tab : Mrw w H 23 N F N
  own : ∀ q, q < N → w.ownsRow B 62 3 (F q) (row q).length ((row q).flatMap encE)
  apart : ∀ q q' g, q < N → q' < N → (F q).ownBlock = some g → (F q').ownBlock = some g → q = q'
theorem GrI.below {B : Nat} {w w' : World} {H N : Nat} {row : Nat → List EdT} {F : Nat → Value} (h : GrI B w H N row F) (d : Below w.heap.size w w') : GrI B w' H N row F :=
  ⟨h.tab.below d h.tab.lt, fun q hq => row_only (h.own q hq) (Only.ofBelow (R := fun _ => False) d) (fun _ _ => id), h.apart⟩
theorem GrI.at {B : Nat} {w : World} {H N : Nat} {row : Nat → List EdT} {F : Nat → Value} (h : GrI B w H N row F) : GrAt w H N row := by
  refine ⟨F, h.tab, fun q hq => ?_⟩
  have o := h.own q hq
  rcases o.2 with ⟨hv, h0⟩ | ⟨g, cap, cur, hv, hb, hg, _⟩
  · refine ⟨none, 0, by rw [hv, h0], fun j hj => by omega, fun g o e => by cases e⟩
  · rw [hv] at o
    exact ⟨_, cap, hv, own_rdE o, fun g' o' e => by cases e; exact ⟨_, _, hg⟩⟩
/-! ### The lengths of the shortest ways -/
/-- While the lengths are laid out. -/
structure LenA (w wr : World) (b gl N fn i : Nat) (bx : Obj) : Prop where
  row : Mrw wr gl 3 N (fun _ => .int .i64 (-1)) i
  box : Mrw wr b 138 5 (sF (.func (.func fn) #[] #[]) (.slice none 0 0) 0 0 (.slice (some ⟨gl, 0, none⟩) N N)) 5
  arg : wr.heap[w.heap.size]? = some bx
  low : Below w.heap.size w wr
  lg : w.heap.size < gl
  lb : gl < b
theorem LenA.put {w wr : World} {b gl N fn i : Nat} {bx : Obj} (h : LenA w wr b gl N fn i bx) (hi : i < N) : LenA w (wr.setCell ⟨gl, i, none⟩ (.int .i64 (-1))) b gl N fn (i + 1) bx :=
  have o := only_set wr gl i (.int .i64 (-1))
  ⟨h.row.put hi _ rfl, h.box.only o (fun e => by have := h.lb; omega), (o.block _ (Array.getElem?_eq_some_iff.1 h.arg).1 (fun e => by have := h.lg; omega)).trans h.arg, h.low.trans (o.toBelow h.low.size (fun k hk => by have := h.lg; omega)), h.lg, h.lb⟩
/-! ### The states that are met -/
/-- An automaton that may be, and that can be read. -/
structure ArgA (w : World) (N : Nat) (mv : Int) (a1 a2 a3 : Option Addr) (St Fi : List Int) (Ed : List EdT) : Prop where
  may : mayA (N : Int) mv St Fi Ed = true
  rs : RdN w a1 St
  rf : RdN w a2 Fi
  re : RdE w a3 Ed
  ls : St.length ≤ 4194304
  lf : Fi.length ≤ 4194304
theorem ArgA.hN {w : World} {N : Nat} {mv : Int} {a1 a2 a3 : Option Addr} {St Fi : List Int} {Ed : List EdT} (h : ArgA w N mv a1 a2 a3 St Fi Ed) : N ≤ 4096 := by have := (may_parts h.may).1; omega
theorem ArgA.le {w : World} {N : Nat} {mv : Int} {a1 a2 a3 : Option Addr} {St Fi : List Int} {Ed : List EdT} (h : ArgA w N mv a1 a2 a3 St Fi Ed) : Ed.length ≤ 65536 := (may_parts h.may).2.2.1
theorem ArgA.ends {w : World} {N : Nat} {mv : Int} {a1 a2 a3 : Option Addr} {St Fi : List Int} {Ed : List EdT} (h : ArgA w N mv a1 a2 a3 St Fi Ed) (bk : Bool) : ∀ e ∈ Ed, ∃ p r : Nat, p < N ∧ r < N ∧ YtgnpdhgphkocoaaGreatDoor.ends bk e = ((p : Int), (r : Int)) := fun e he => by
  obtain ⟨h1, _, h2⟩ := (may_parts h.may).2.2.2.2.2 e he
  cases bk
  · exact ⟨e.1.toNat, e.2.2.toNat, by omega, by omega, Prod.ext (show e.1 = _ by omega) (show e.2.2 = _ by omega)⟩
  · exact ⟨e.2.2.toNat, e.1.toNat, by omega, by omega, Prod.ext (show e.2.2 = _ by omega) (show e.1 = _ by omega)⟩
theorem all_in {N : Nat} {L : List Int} (h : L.all (inB (N : Int)) = true) : ∀ x ∈ L, ∃ q : Nat, q < N ∧ x = (q : Int) := fun x hx => by
  have := List.all_eq_true.1 h x hx
  unfold inB at this
  simp at this
  exact ⟨x.toNat, by omega, by omega⟩
theorem ArgA.ins {w : World} {N : Nat} {mv : Int} {a1 a2 a3 : Option Addr} {St Fi : List Int} {Ed : List EdT} (h : ArgA w N mv a1 a2 a3 St Fi Ed) : ∀ x ∈ St, ∃ q : Nat, q < N ∧ x = (q : Int) := all_in (may_parts h.may).2.2.2.1
theorem ArgA.inf {w : World} {N : Nat} {mv : Int} {a1 a2 a3 : Option Addr} {St Fi : List Int} {Ed : List EdT} (h : ArgA w N mv a1 a2 a3 St Fi Ed) : ∀ x ∈ Fi, ∃ q : Nat, q < N ∧ x = (q : Int) := all_in (may_parts h.may).2.2.2.2.1
/-! ### Reach, Coreach, Dist -/
theorem ArgA.on {w w' : World} {N : Nat} {mv : Int} {a1 a2 a3 : Option Addr} {St Fi : List Int} {Ed : List EdT} (h : ArgA w N mv a1 a2 a3 St Fi Ed) (d : Below w.heap.size w w') : ArgA w' N mv a1 a2 a3 St Fi Ed := ⟨h.may, h.rs.on d, h.rf.on d, h.re.on d, h.ls, h.lf⟩
/-! ### The least length; states renumbered -/
/-- A list of its own. -/
def OwnL (B : Nat) (w : World) (v : Value) (L : List Int) : Prop := w.ownsRow B 3 1 v L.length (L.map (Value.int .i64))
theorem OwnL.below {B : Nat} {w w' : World} {v : Value} {L : List Int} (h : OwnL B w v L) (d : Below w.heap.size w w') : OwnL B w' v L := row_only h (Only.ofBelow (R := fun _ => False) d) (fun _ _ => id)
/-! ### The document's masks -/
/-- A mask of N truths in new memory. -/
def MaskG (B : Nat) (w : World) (g N : Nat) (M : Nat → Bool) : Prop := B ≤ g ∧ Mrw w g 4 N (fun q => .bool (M q)) N
theorem MaskG.below {B : Nat} {w w' : World} {g N : Nat} {M : Nat → Bool} (h : MaskG B w g N M) (d : Below w.heap.size w w') : MaskG B w' g N M := ⟨h.1, h.2.below d h.2.lt⟩
theorem MaskG.set {B : Nat} {w : World} {g N : Nat} {M : Nat → Bool} (h : MaskG B w g N M) (p : Nat) : MaskG B (w.setCell ⟨g, p, none⟩ (.bool true)) g N (fun q => decide (q = p) || M q) := by
  refine ⟨h.1, (h.2.upd p _).congr fun c _ => ?_⟩
  by_cases e : c = p
  · simp [e]
  · simp [e]
theorem MaskG.congr {B : Nat} {w : World} {g N : Nat} {M M' : Nat → Bool} (h : MaskG B w g N M) (e : ∀ q, q < N → M q = M' q) : MaskG B w g N M' := ⟨h.1, h.2.congr fun c hc => by rw [e c hc]⟩
/-! ### The document's Dist -/
/-- What is known of the shortest ways when all shorter than n were looked at. -/
def DstQ (W : Nat → Nat → Prop) (n q : Nat) (x : Int) : Prop := (x = -1 ∧ ∀ k, k < n → ¬ W k q) ∨ ∃ k : Nat, k < n ∧ x = (k : Int) ∧ W k q ∧ ∀ j, j < k → ¬ W j q
theorem DstQ.next {W : Nat → Nat → Prop} {n q : Nat} {x : Int} (h : DstQ W n q x) (hw : W n q → 0 ≤ x) : DstQ W (n + 1) q x := by
  rcases h with ⟨h1, h2⟩ | ⟨k, h1, h2, h3, h4⟩
  · refine .inl ⟨h1, fun k hk hW => ?_⟩
    by_cases e : k = n
    · subst e; have := hw hW; omega
    · exact h2 k (by omega) hW
  · exact .inr ⟨k, by omega, h2, h3, h4⟩
theorem DstQ.put {W : Nat → Nat → Prop} {n q : Nat} {x : Int} (h : DstQ W n q x) (hx : x < 0) (hw : W n q) : DstQ W (n + 1) q (n : Int) := by
  rcases h with ⟨h1, h2⟩ | ⟨k, h1, h2, h3, h4⟩
  · exact .inr ⟨n, by omega, rfl, hw, h2⟩
  · omega
/-! ### What both seats name alike -/
/-! ### Numbers, laid anew -/
def padN (l : List Int) (j : Nat) : Value := if h : j < l.length then .int .i64 l[j] else .int .i64 (-9077)
/-! ### An automaton, laid anew -/
def edPad (E : List EdT) (j : Nat) : Value := if h : j / 3 < E.length then (if j % 3 = 0 then .int .i64 E[j / 3].1 else if j % 3 = 1 then .int .i64 E[j / 3].2.1 else .int .i64 E[j / 3].2.2) else (if j % 3 = 0 then .int .i64 (-9077) else .int .i64 0)
/-- A twin of an automaton. -/
structure TwA (W : World) (b1 b2 b3 : Nat) (St Fi : List Int) (Ed : List EdT) : Prop where
  s : Mrw W b1 3 (St.length + 64) (padN St) (St.length + 64)
  f : Mrw W b2 3 (Fi.length + 64) (padN Fi) (Fi.length + 64)
  e : Mrw W b3 62 ((Ed.length + 64) * 3) (edPad Ed) ((Ed.length + 64) * 3)
  ne : b1 ≠ b2
theorem TwA.on {W W' : World} {b1 b2 b3 : Nat} {St Fi : List Int} {Ed : List EdT} (h : TwA W b1 b2 b3 St Fi Ed) (d : Below W.heap.size W W') : TwA W' b1 b2 b3 St Fi Ed := ⟨h.s.below d h.s.lt, h.f.below d h.f.lt, h.e.below d h.e.lt, h.ne⟩
/-! ### An automaton that is written over -/
/-! ### Reach, Coreach and Dist: what both answer -/
/-- A list that is read. -/
def LA (w : World) (v : Value) (L : List Int) : Prop := ∃ a cap, v = .slice a L.length cap ∧ RdN w a L
theorem LA.on {w w' : World} {v : Value} {L : List Int} (h : LA w v L) (d : Below w.heap.size w w') : LA w' v L := by
  obtain ⟨a, cap, e, hr⟩ := h
  exact ⟨a, cap, e, hr.on d⟩
theorem ArgA.hS {w : World} {N : Nat} {mv : Int} {a1 a2 a3 : Option Addr} {St Fi : List Int} {Ed : List EdT} (h : ArgA w N mv a1 a2 a3 St Fi Ed) (bk : Bool) : ∀ q : Nat, ((q : Int) ∈ if bk then Fi else St) → q < N := fun q hq => by
  cases bk
  · obtain ⟨p, hp, e⟩ := h.ins _ hq
    omega
  · obtain ⟨p, hp, e⟩ := h.inf _ hq
    omega
/-! ### part: what lies among some states, renumbered -/
theorem own_below {W W' : World} {B n sz : Nat} {e : TypeId} {v : Value} {xs : List Value} (h : W.ownsRow B e sz v n xs) (d : Below W.heap.size W W') : W'.ownsRow B e sz v n xs := row_only h (Only.ofBelow (R := fun _ => False) d) (fun _ _ => id)
theorem owns_down {W : World} {B C : Nat} {e : TypeId} {sz : Nat} {v : Value} {n : Nat} {xs : List Value} (h : W.ownsRow B e sz v n xs) (hC : C ≤ B) : W.ownsRow C e sz v n xs :=
  ⟨h.1, h.2.imp id (fun ⟨g, cap, cur, h1, h2, h3, h4⟩ => ⟨g, cap, cur, h1, Nat.le_trans hC h2, h3, h4⟩)⟩
theorem own_slice {W : World} {B n sz : Nat} {e : TypeId} {v : Value} {xs : List Value} (h : W.ownsRow B e sz v n xs) : ∃ b c, v = .slice b n c := by
  rcases h.2 with ⟨hv, hn⟩ | ⟨g, cap, cur, hv, _⟩
  · exact ⟨none, 0, by rw [hv, hn]⟩
  · exact ⟨_, cap, hv⟩
/-- What is held while the edges are gone through. -/
structure PrI (wz wr : World) (bq M : Nat) (mv : Int) (v1 v2 v3 : Value) (E : List EdT) : Prop where
  box : wr.heap[bq]? = some (.cells #[.int .i64 (M : Int), .int .i64 mv, v1, v2, v3] 25 (0, 0))
  row : wr.ownsRow wz.heap.size 62 3 v3 E.length (E.flatMap encE)
  only : Only wz wr (fun k => k = bq)
/-- How many edges start below a number. -/
def lessC (L : List EdT) (c : Nat) : Nat := (L.filter fun e => decide (e.1 < (c : Int))).length
open Go.Shelf
/-! ### A walk's step: what it holds -/
/-- The edges of a walk: in order, each once, with where each state's begin. -/
structure Wk (w : World) (N g3 k3 gf : Nat) (Es : List EdT) : Prop where
  e : RdE w (some ⟨g3, 0, none⟩) Es
  k : Es.length ≤ k3
  f : Mrw w gf 3 (N + 1) (fun c => .int .i64 (lessC Es c : Nat)) (N + 1)
  s : SsE Es
  i : ∀ x ∈ Es, (0 ≤ x.1 ∧ x.1 < (N : Int)) ∧ 0 ≤ x.2.2 ∧ x.2.2 < (N : Int)
  l : Es.length ≤ 4194304
  n : N ≤ 4096
theorem Wk.on {w w' : World} {N g3 k3 gf : Nat} {Es : List EdT} (h : Wk w N g3 k3 gf Es) (d : Below w.heap.size w w') : Wk w' N g3 k3 gf Es :=
  ⟨h.e.on d, h.k, h.f.below d h.f.lt, h.s, h.i, h.l, h.n⟩
theorem Wk.lt {w : World} {N g3 k3 gf : Nat} {Es : List EdT} (h : Wk w N g3 k3 gf Es) {x : EdT} (hx : x ∈ Es) : g3 < w.heap.size := by
  obtain ⟨j, hj, rfl⟩ := List.getElem_of_mem hx
  obtain ⟨g, o, he, q, _⟩ := h.e j hj
  cases he
  exact World.block_lt_of_cell? w _ q
theorem KpU.ofBelow {B : Nat} {W W' : World} (h0 : 0 < W.heap.size) (d : Below W.heap.size W W') : KpU B W W' :=
  ⟨d.size, d.block 0 h0, fun b _ _ _ hc => (d.block b (Array.getElem?_eq_some_iff.1 hc).1).trans hc⟩
theorem KpU.ofOnly {B g : Nat} {W W' : World} (h0 : 0 < W.heap.size) (o : Only W W' (fun k => k = g)) (hg : g < B) (hg0 : g ≠ 0) : KpU B W W' :=
  ⟨o.size, o.block 0 h0 (fun e => hg0 e.symm), fun b _ _ hb hc => (o.block b (Array.getElem?_eq_some_iff.1 hc).1 (fun e => by omega)).trans hc⟩
theorem KpU.put {B : Nat} (W : World) (l : Nat) (r r' : Loop) (hl : 0 < l) (h : W.heap[l]? = some (.loop r)) : KpU B W (W.putObj l (.loop r')) := by
  refine ⟨by simp [World.putObj], World.putObj_heap_other (by omega), fun b cs fr _ hc => ?_⟩
  refine (World.putObj_heap_other fun e => ?_).trans hc
  rw [e] at hc
  rw [h] at hc
  cases hc
/-- What step holds while it goes through a set. -/
structure StI (w : World) (A : Array Value) (sym : Int) (c7 b2 g2 k2 N R : Nat) (W : World) : Prop where
  wb : W.heap[w.heap.size]? = some (.cells A 124 (0, 0))
  sb : W.heap[w.heap.size + 1]? = some (.cells #[.int .i64 sym] 3 (0, 0))
  cb : W.heap[c7]? = some (.cells #[.pointer (some ⟨b2, 0, none⟩)] 78 (0, 0))
  st : IsSet W b2 g2 k2 N R
  be : Below w.heap.size w W
theorem StI.on {w : World} {A : Array Value} {sym : Int} {c7 b2 g2 k2 N R : Nat} {W W' : World} (h : StI w A sym c7 b2 g2 k2 N R W) (d : Below W.heap.size W W') : StI w A sym c7 b2 g2 k2 N R W' :=
  ⟨blk_on h.wb d, blk_on h.sb d, blk_on h.cb d, h.st.below d, h.be.trans (d.mono h.be.size)⟩
theorem StI.put {w : World} {A : Array Value} {sym : Int} {c7 b2 g2 k2 N R l : Nat} {W : World} {r r' : Loop} (h : StI w A sym c7 b2 g2 k2 N R W) (hl : W.heap[l]? = some (.loop r)) (h1 : w.heap.size + 1 < l) : StI w A sym c7 b2 g2 k2 N R (W.putObj l (.loop r')) := by
  have ne : ∀ k (o : Obj), W.heap[k]? = some o → o ≠ Obj.loop r → (W.putObj l (.loop r')).heap[k]? = W.heap[k]? := fun k o hk ho => World.putObj_heap_other fun e => by
    rw [e, hl] at hk
    exact ho (by simpa using hk.symm)
  refine ⟨(ne _ _ h.wb (by simp)).trans h.wb, (ne _ _ h.sb (by simp)).trans h.sb, (ne _ _ h.cb (by simp)).trans h.cb, h.st.keep (ne _ _ h.st.blk (by simp)) ?_, ?_⟩
  · rcases h.st.own.2 with ⟨hv, _⟩ | ⟨g', cap', cur, hv, _, hg, _⟩
    · cases hv
    · cases hv
      exact ne _ _ hg (by simp)
  · exact ⟨h.be.os, h.be.tape, h.be.output, by have := h.be.size; simpa [World.putObj] using this, fun j hj => (World.putObj_heap_other (by omega)).trans (h.be.block j hj)⟩
theorem StI.only {w : World} {A : Array Value} {sym : Int} {c7 b2 g2 k2 N R R' : Nat} {W W' : World} (h : StI w A sym c7 b2 g2 k2 N R W) (o : Only W W' (fun k => k = g2)) (hs : IsSet W' b2 g2 k2 N R') (h1 : w.heap.size + 1 < g2) (h7 : c7 ≠ g2) : StI w A sym c7 b2 g2 k2 N R' W' :=
  ⟨(o.block _ (Array.getElem?_eq_some_iff.1 h.wb).1 (fun e => by omega)).trans h.wb, (o.block _ (Array.getElem?_eq_some_iff.1 h.sb).1 (fun e => by omega)).trans h.sb, (o.block _ (Array.getElem?_eq_some_iff.1 h.cb).1 h7).trans h.cb, hs,
    h.be.trans (o.toBelow h.be.size (fun k hk => by omega))⟩
theorem only_drew {w w' : World} {R : Nat → Prop} (h : Only w w' R) : Only w w'.drew R := ⟨h.os, h.tape, h.output, h.size, h.block⟩
set_option maxRecDepth 100000 in
set_option maxHeartbeats 1000000 in
theorem add_only (b g cap n X j : Nat) (w : World) (hs : IsSet w b g cap n X) (hbg : b ≠ g) (hj : j < n) :
    Calls Tryz.prog 93 #[.pointer (some ⟨b, 0, none⟩), .int .i64 j] w fun e w' => e = .returned (.int .i64 0) ∧ IsSet w' b g cap n (X ||| 2 ^ j) ∧ Only w w' (fun k => k = g) := by
  have h0 := hs.c0
  have h1 := hs.c1
  have hn := hs.hn
  have hix : j / 64 < nw n := by unfold nw; omega
  have hw := hs.word (j / 64) hix
  have hfz : w.frozen? ⟨g, j / 64, none⟩ = false := hs.own.frozenAt _
  have HS := hide hs
  obtain ⟨q, hq⟩ : ∃ q, j / 64 = q := ⟨_, rfl⟩
  have hi2 : IntKind.i64.wrap ((j : Int) / 64) = (q : Int) := by rw [IntKind.wrap_i64]; omega
  rw [hq] at hix hw hfz
  have hi0 : (0 : Int) ≤ (q : Int) := by omega
  have hi1 : (q : Int) < (nw n : Int) := by omega
  have HQ := hide hq
  clear hs hq
  go_enter Tryz.func93, Tryz.ntmps93
  go_wp2_with (go_at_call 115; refine (inRange_yes b j n _ h0 (by omega)).mono ?_; rintro e w' ⟨rfl, hw⟩; obtain rfl := hw.symm; clear hw)
  go_region_with (go_at_call 116; refine (bit_any j _ (by omega) (by omega)).mono ?_; rintro e w' ⟨rfl, rfl⟩)
  all_goals go_wp2
  all_goals go_ret
  all_goals
    refine ⟨rfl, IsSet.drew (HS.out.store hbg hix (or_lt n X j HS.out.hX hj) (fun i _ hne => or_other X j i (by rw [HQ.out]; exact hne)) ?_), ?_⟩
    · rw [← HQ.out]
      have hm : (((j : Int) % 64).toNat) = j % 64 := by omega
      have := or_bit X j
      first
        | exact this
        | (simp only [hm]; exact this)
        | (simp only [hm]; simpa using this)
    · exact only_drew (only_set w g q _)
/-! ### Where a word leads -/
/-- The states that a word leads to, as a number. -/
def wordF (Ed : List EdT) (X : Nat) (Wd : List Int) : Nat := Wd.foldl (fun X y => imgF false X y Ed) X
theorem may_in {N : Nat} {m : Int} {St Fi : List Int} {Ed : List EdT} (em : mayA N m St Fi Ed = true) : ∀ x ∈ Ed, (0 ≤ x.1 ∧ x.1 < (N : Int)) ∧ 0 ≤ x.2.2 ∧ x.2.2 < (N : Int) := fun x hx => by
  have := (may_parts em).2.2.2.2.2 x hx
  exact ⟨this.1, this.2.2⟩
/-! ### After and Accepts -/
theorem wordErr_zero {n m : Int} {St Fi : List Int} {Ed : List EdT} {Wd : List Int} (h : wordErr n m St Fi Ed Wd = 0) : mayA n m St Fi Ed = true ∧ Wd.all (inB m) = true := by
  unfold wordErr at h
  split at h
  · rename_i h1
    split at h
    · rename_i h2; exact ⟨h1, h2⟩
    · cases h
  · cases h
/-! ### The rests of a word: what is held -/
/-- The states from which the rest of a word, from a place on, leads to one of a set. -/
def restF (Ed : List EdT) (F0 : Nat) (Wd : List Int) (j : Nat) : Nat := (Wd.drop j).foldr (fun y X => imgF true X y Ed) F0
/-- A cell of a row that points to a set. -/
def PtrAt (w : World) (g i N X : Nat) : Prop := ∃ b g' k, w.cell? ⟨g, i, none⟩ = some (.pointer (some ⟨b, 0, none⟩)) ∧ IsSet w b g' k N X ∧ b ≠ g'
theorem PtrAt.on {w w' : World} {g i N X : Nat} (h : PtrAt w g i N X) (d : Below w.heap.size w w') : PtrAt w' g i N X := by
  obtain ⟨b, g', k, h1, h2, h3⟩ := h
  exact ⟨b, g', k, (d.cell (p := ⟨g, i, none⟩) (World.block_lt_of_cell? w _ h1)).trans h1, h2.below d, h3⟩
theorem set_types {w : World} {b g k N X : Nat} (h : IsSet w b g k N X) : (∃ cs fr, w.heap[b]? = some (.cells cs 123 fr)) ∧ ∃ cs fr, w.heap[g]? = some (.cells cs 126 fr) := by
  refine ⟨⟨_, _, h.blk⟩, ?_⟩
  rcases h.own.2 with ⟨hv, _⟩ | ⟨g', cap', cur, hv, _, hg, _⟩
  · cases hv
  · cases hv; exact ⟨_, _, hg⟩
/-- A set stays where only blocks of other kinds are turned. -/
theorem set_other {w w' : World} {b g k N X : Nat} {R : Nat → Prop} (h : IsSet w b g k N X) (o : Only w w' R) (hR : ∀ q, R q → ∀ cs t fr, w.heap[q]? = some (.cells cs t fr) → t ≠ 123 ∧ t ≠ 126) : IsSet w' b g k N X := by
  obtain ⟨⟨c1, f1, e1⟩, c2, f2, e2⟩ := set_types h
  refine h.keep (o.block b h.blt fun q => ?_) (o.block g h.glt fun q => ?_)
  · exact (hR b q _ _ _ e1).1 rfl
  · exact (hR g q _ _ _ e2).2 rfl
theorem PtrAt.other {w w' : World} {g i N X : Nat} {R : Nat → Prop} (h : PtrAt w g i N X) (o : Only w w' R) (hR : ∀ q, R q → ∀ cs t fr, w.heap[q]? = some (.cells cs t fr) → t ≠ 123 ∧ t ≠ 126) (hc : w'.cell? ⟨g, i, none⟩ = w.cell? ⟨g, i, none⟩) : PtrAt w' g i N X := by
  obtain ⟨b, g', k, h1, h2, h3⟩ := h
  exact ⟨b, g', k, hc.trans h1, set_other h2 o hR, h3⟩
theorem cell_only {w w' : World} {R : Nat → Prop} (o : Only w w' R) {g i : Nat} (hg : g < w.heap.size) (hR : ¬ R g) : w'.cell? ⟨g, i, none⟩ = w.cell? ⟨g, i, none⟩ := World.cell?_of_block (a := ⟨g, i, none⟩) (o.block g hg hR)
/-- What is fixed of a word's rests. -/
structure Rp where
  N : Nat
  m : Int
  a1 : Option Addr
  a2 : Option Addr
  l1 : Nat
  l2 : Nat
  c1 : Nat
  c2 : Nat
  g3 : Nat
  k3 : Nat
  gf : Nat
  Es : List EdT
  aw : Option Addr
  cw : Nat
  Wd : List Int
  wd : Nat
  gl : Nat
  nb : Nat
/-- The cells of the rests. -/
def rsC (R : Rp) (blk : Int) (sv : Value) : Array Value := #[.int .i64 (R.N : Int), .int .i64 R.m, .slice R.a1 R.l1 R.c1, .slice R.a2 R.l2 R.c2, .slice (some ⟨R.g3, 0, none⟩) R.Es.length R.k3, .slice (some ⟨R.gf, 0, none⟩) (R.N + 1) (R.N + 1), .slice R.aw R.Wd.length R.cw, .int .i64 (R.wd : Int), .slice (some ⟨R.gl, 0, none⟩) R.nb R.nb, .int .i64 blk, sv]
structure RpOk (w0 : World) (R : Rp) (F : Nat → Nat) : Prop where
  wk : Wk w0 R.N R.g3 R.k3 R.gf R.Es
  rd : RdN w0 R.aw R.Wd
  tb : TabAt w0 ∧ 0 < w0.heap.size
  st : ∀ j (h : j < R.Wd.length), F j = imgF false (F (j + 1)) R.Wd[j] R.Es
  wl : R.Wd.length ≤ 4194304
  w1 : 1 ≤ R.wd
  w2 : R.wd ≤ 4096
/-- The last place of a block. -/
def endB (R : Rp) (k : Nat) : Nat := min (k * R.wd + R.wd - 1) R.Wd.length
/-- The rests as they lie at a time. -/
structure RsB (w0 : World) (R : Rp) (rb : Nat) (blk : Int) (sv : Value) (w : World) : Prop where
  bx : w.heap[rb]? = some (.cells (rsC R blk sv) 108 (0, 0))
  le : w0.heap.size ≤ rb
  be : Below w0.heap.size w0 w
  lr : ∃ cur, w.heap[R.gl]? = some (.cells cur 78 (0, 0)) ∧ cur.size = R.nb
theorem RsB.on {w0 w w' : World} {R : Rp} {rb : Nat} {blk : Int} {sv : Value} (h : RsB w0 R rb blk sv w) (d : Below w.heap.size w w') : RsB w0 R rb blk sv w' := by
  obtain ⟨cur, h1, h2⟩ := h.lr
  exact ⟨blk_on h.bx d, h.le, h.be.trans (d.mono h.be.size), cur, blk_on h1 d, h2⟩
theorem RsB.ne {w0 w : World} {R : Rp} {rb : Nat} {blk : Int} {sv : Value} (h : RsB w0 R rb blk sv w) : R.gl ≠ rb := fun e => by
  obtain ⟨cur, h1, _⟩ := h.lr
  rw [e, h.bx] at h1
  cases h1
theorem RsB.glt {w0 w : World} {R : Rp} {rb : Nat} {blk : Int} {sv : Value} (h : RsB w0 R rb blk sv w) : R.gl < w.heap.size := by
  obtain ⟨cur, h1, _⟩ := h.lr
  exact (Array.getElem?_eq_some_iff.1 h1).1
theorem RsB.put {w0 w w' : World} {R : Rp} {rb : Nat} {blk blk' : Int} {sv sv' : Value} (h : RsB w0 R rb blk sv w) (o : Only w w' (fun q => q = rb)) (e : w'.heap[rb]? = some (.cells (rsC R blk' sv') 108 (0, 0))) : RsB w0 R rb blk' sv' w' := by
  obtain ⟨cur, h1, h2⟩ := h.lr
  exact ⟨e, h.le, h.be.trans (o.toBelow h.be.size (fun q hq => by rw [hq]; exact h.le)), cur, (o.block _ h.glt h.ne).trans h1, h2⟩
/-- What load holds in its loop: the sets of the places above i are in the row, that of i is at hand. -/
structure LdI (w0 w : World) (R : Rp) (F : Nat → Nat) (rb gs k bg en : Nat) (i b g c : Nat) (wr : World) : Prop where
  rs : RsB w0 R rb (k : Int) (.slice (some ⟨gs, 0, none⟩) (en - bg + 1) (en - bg + 1)) wr
  row : ∃ cur, wr.heap[gs]? = some (.cells cur 78 (0, 0)) ∧ cur.size = en - bg + 1
  set : IsSet wr b g c R.N (F i) ∧ b ≠ g
  ptr : ∀ j, i < j → j ≤ en → PtrAt wr gs (j - bg) R.N (F j)
  on : Only w wr (fun q => q = rb)
  gw : w0.heap.size ≤ gs
/-- The set at hand laid into the row. -/
theorem LdI.store {w0 w : World} {R : Rp} {F : Nat → Nat} {rb gs k bg en i b g c : Nat} {wr : World} (h : LdI w0 w R F rb gs k bg en i b g c wr) (h1 : bg ≤ i) (h2 : i ≤ en) (hg : w.heap.size ≤ gs) (hl : R.gl ≠ gs) {W' : World} (hW : wr.setCell ⟨gs, i - bg, none⟩ (.pointer (some ⟨b, 0, none⟩)) = W') :
    RsB w0 R rb (k : Int) (.slice (some ⟨gs, 0, none⟩) (en - bg + 1) (en - bg + 1)) W' ∧ (∃ cur, W'.heap[gs]? = some (.cells cur 78 (0, 0)) ∧ cur.size = en - bg + 1) ∧ (IsSet W' b g c R.N (F i) ∧ b ≠ g) ∧ (∀ j, i ≤ j → j ≤ en → PtrAt W' gs (j - bg) R.N (F j)) ∧ Only w W' (fun q => q = rb) := by
  obtain ⟨cur, e1, e2⟩ := h.row
  have o : Only wr W' (fun q => q = gs) := by rw [← hW]; exact only_set _ _ _ _
  have hne : rb ≠ gs := fun q => by rw [← q, h.rs.bx] at e1; cases e1
  have hgl := (Array.getElem?_eq_some_iff.1 e1).1
  have hrl := (Array.getElem?_eq_some_iff.1 h.rs.bx).1
  have kd : ∀ q, q = gs → ∀ cs t fr, wr.heap[q]? = some (.cells cs t fr) → t ≠ 123 ∧ t ≠ 126 := fun q hq cs t fr he => by
    subst hq
    rw [e1] at he
    cases he
    decide
  have e3 : W'.heap[gs]? = some (.cells (cur.setIfInBounds (i - bg) (.pointer (some ⟨b, 0, none⟩))) 78 (0, 0)) := by rw [← hW]; exact heap_setCell_same _ _ _ _ 78 _ e1
  have hs : IsSet W' b g c R.N (F i) := set_other h.set.1 o kd
  have hab := (h.rs.be.size)
  obtain ⟨lc, l1, l2⟩ := h.rs.lr
  refine ⟨⟨(o.block _ hrl hne).trans h.rs.bx, h.rs.le, ?_, lc, (o.block _ h.rs.glt hl).trans l1, l2⟩, ⟨_, e3, by simpa using e2⟩, ⟨hs, h.set.2⟩, ?_, h.on.andNew o (fun q hq e => absurd hq (by omega))⟩
  · refine ⟨o.os.trans h.rs.be.os, o.tape.trans h.rs.be.tape, o.output.trans h.rs.be.output, Nat.le_trans h.rs.be.size o.size, fun q hq => (o.block q (by omega) (fun e => ?_)).trans (h.rs.be.block q hq)⟩
    subst e
    rw [(h.rs.be.block _ hq)] at e1
    have h5 := h.on
    exact absurd hq (by have := h.gw; omega)
  · intro j hj1 hj2
    by_cases e : j = i
    · subst e
      exact ⟨b, g, c, cell_of e3 (by rw [Array.getElem?_setIfInBounds_self_of_lt (by omega)]), hs, h.set.2⟩
    · refine (h.ptr j (by omega) hj2).other o kd ?_
      have q1 : W'.cell? ⟨gs, j - bg, none⟩ = some cur[j - bg] := cell_of e3 (by rw [Array.getElem?_setIfInBounds_ne (by omega), Array.getElem?_eq_getElem (by omega)])
      have q2 : wr.cell? ⟨gs, j - bg, none⟩ = some cur[j - bg] := cell_of e1 (Array.getElem?_eq_getElem (by omega))
      rw [q1, q2]
/-! ### The set of one place -/
/-- The rests with the sets of one block at hand. -/
structure RsA (w0 : World) (R : Rp) (F : Nat → Nat) (rb blk gs : Nat) (w : World) : Prop where
  rs : RsB w0 R rb (blk : Int) (.slice (some ⟨gs, 0, none⟩) (endB R blk - blk * R.wd + 1) (endB R blk - blk * R.wd + 1)) w
  bk : blk < R.nb
  pt : ∀ j, blk * R.wd ≤ j → j ≤ endB R blk → PtrAt w gs (j - blk * R.wd) R.N (F j)
  la : ∀ k, k < R.nb → PtrAt w R.gl k R.N (F (endB R k))
  gr : ∃ cur, w.heap[gs]? = some (.cells cur 78 (0, 0))
theorem RsA.on {w0 w w' : World} {R : Rp} {F : Nat → Nat} {rb blk gs : Nat} (h : RsA w0 R F rb blk gs w) (d : Below w.heap.size w w') : RsA w0 R F rb blk gs w' :=
  ⟨h.rs.on d, h.bk, fun j h1 h2 => (h.pt j h1 h2).on d, fun k hk => (h.la k hk).on d, by obtain ⟨cur, h1⟩ := h.gr; exact ⟨cur, blk_on h1 d⟩⟩
/-! ### The rests of a word, made -/
/-- What newRests holds while it makes the blocks' last sets. -/
structure NrI (w0 : World) (R : Rp) (F : Nat → Nat) (rb kk b g c : Nat) (wr : World) : Prop where
  rs : ∃ blk sv, RsB w0 R rb blk sv wr
  set : 0 < kk → IsSet wr b g c R.N (F (endB R (kk - 1))) ∧ b ≠ g
  ptr : ∀ k, kk ≤ k → k < R.nb → PtrAt wr R.gl k R.N (F (endB R k))
  fin : kk = 0 → ∃ gs, RsA w0 R F rb 0 gs wr
end Go.Proofs.YtgnpdhgphkocoaaGreatDoor
namespace Go.Proofs.YtgnpdhgphkocoaaGreatDoor
open Go.RowKit Go.Maps Go.Shelf
/-! ### The least path, as states place by place -/
/-- Where the first edge into a set stands. -/
def frstE (X : Nat) (L : List EdT) : Nat := L.findIdx fun e => hasB X e.2.2
def nxtP (Es : List EdT) (X p : Nat) (y : Int) : Nat := ((fromL Es p y).getD (frstE X (fromL Es p y)) (0, 0, 0)).2.2.toNat
def stP (Es : List EdT) (F : Nat → Nat) (Wd : List Int) (p0 : Nat) : Nat → Nat
  | 0 => p0
  | i + 1 => nxtP Es (F (i + 1)) (stP Es F Wd p0 i) (Wd.getD i 0)
theorem frst_in {X : Nat} {L : List EdT} (h : ∃ e ∈ L, hasB X e.2.2 = true) : ∃ hk : frstE X L < L.length, hasB X L[frstE X L].2.2 = true ∧ ∀ t (h : t < L.length), t < frstE X L → hasB X L[t].2.2 = false := by
  have hk : frstE X L < L.length := List.findIdx_lt_length_of_exists (by obtain ⟨e, he, hv⟩ := h; exact ⟨e, he, hv⟩)
  refine ⟨hk, List.findIdx_getElem (p := fun e : EdT => hasB X e.2.2) (w := hk), fun t ht hlt => ?_⟩
  have := List.not_of_lt_findIdx (p := fun e : EdT => hasB X e.2.2) hlt
  simpa using this
theorem hasB_nat {X : Nat} {i : Int} (h : hasB X i = true) : 0 ≤ i ∧ X.testBit i.toNat = true := by
  unfold hasB at h
  simpa using h
/-- A place's set and the next one's hang together. -/
def Links (Es : List EdT) (F : Nat → Nat) (Wd : List Int) : Prop := ∀ j (_ : j < Wd.length) p, (F j).testBit p = true → ∃ e ∈ Es, e.1 = (p : Int) ∧ e.2.1 = Wd[j] ∧ hasB (F (j + 1)) e.2.2 = true
theorem Links.step {Es : List EdT} {F : Nat → Nat} {Wd : List Int} (h : Links Es F Wd) {p0 i : Nat} (hi : i < Wd.length) (hp : (F i).testBit (stP Es F Wd p0 i) = true) :
    ∃ hk : frstE (F (i + 1)) (fromL Es (stP Es F Wd p0 i) Wd[i]) < (fromL Es (stP Es F Wd p0 i) Wd[i]).length, hasB (F (i + 1)) (fromL Es (stP Es F Wd p0 i) Wd[i])[frstE (F (i + 1)) (fromL Es (stP Es F Wd p0 i) Wd[i])].2.2 = true ∧ (∀ t (h : t < (fromL Es (stP Es F Wd p0 i) Wd[i]).length), t < frstE (F (i + 1)) (fromL Es (stP Es F Wd p0 i) Wd[i]) → hasB (F (i + 1)) (fromL Es (stP Es F Wd p0 i) Wd[i])[t].2.2 = false) ∧ (fromL Es (stP Es F Wd p0 i) Wd[i])[frstE (F (i + 1)) (fromL Es (stP Es F Wd p0 i) Wd[i])].2.2 = ((stP Es F Wd p0 (i + 1) : Nat) : Int) ∧ (F (i + 1)).testBit (stP Es F Wd p0 (i + 1)) = true := by
  obtain ⟨e, he, h1, h2, h3⟩ := h i hi _ hp
  obtain ⟨hk, q1, q2⟩ := frst_in (X := F (i + 1)) (L := fromL Es (stP Es F Wd p0 i) Wd[i]) ⟨e, fromL_iff.2 ⟨he, h1, h2⟩, h3⟩
  have q3 := hasB_nat q1
  have e1 : Wd.getD i 0 = Wd[i] := by simp [List.getD, hi]
  have q4 : stP Es F Wd p0 (i + 1) = ((fromL Es (stP Es F Wd p0 i) Wd[i])[frstE (F (i + 1)) (fromL Es (stP Es F Wd p0 i) Wd[i])]).2.2.toNat := by
    show nxtP Es (F (i + 1)) (stP Es F Wd p0 i) (Wd.getD i 0) = _
    rw [e1]
    unfold nxtP
    rw [List.getD_eq_getElem?_getD, List.getElem?_eq_getElem hk]
    rfl
  refine ⟨hk, q1, q2, ?_, ?_⟩
  · rw [q4]; omega
  · rw [q4]; exact q3.2
theorem Links.all {Es : List EdT} {F : Nat → Nat} {Wd : List Int} (h : Links Es F Wd) {p0 : Nat} (h0 : (F 0).testBit p0 = true) : ∀ i, i ≤ Wd.length → (F i).testBit (stP Es F Wd p0 i) = true
  | 0, _ => h0
  | i + 1, hi => by
    have := h.step (p0 := p0) (i := i) (by omega) (Links.all h h0 i (by omega))
    obtain ⟨_, _, _, _, q⟩ := this
    exact q
theorem Wk.only {w w' : World} {N g3 k3 gf : Nat} {Es : List EdT} {R : Nat → Prop} (h : Wk w N g3 k3 gf Es) (o : Only w w' R) (h3 : ¬ R g3) (hf : ¬ R gf) : Wk w' N g3 k3 gf Es :=
  ⟨rdE_only h.e o (fun g o' e => by cases e; exact h3), h.k, h.f.only o hf, h.s, h.i, h.l, h.n⟩
/-- The rests stay where only a row of numbers is turned. -/
theorem RsA.row {w0 w w' : World} {R : Rp} {F : Nat → Nat} {rb blk gs pr : Nat} (h : RsA w0 R F rb blk gs w) (o : Only w w' (fun q => q = pr)) {cs : Array Value} {fr : Nat × Nat} (hp : w.heap[pr]? = some (.cells cs 3 fr)) (h0 : w0.heap.size ≤ pr) : RsA w0 R F rb blk gs w' := by
  have kd : ∀ q, q = pr → ∀ cs t fr, w.heap[q]? = some (.cells cs t fr) → t ≠ 123 ∧ t ≠ 126 := fun q hq cs t fr he => by
    subst hq
    rw [hp] at he
    cases he
    decide
  obtain ⟨lc, l1, l2⟩ := h.rs.lr
  obtain ⟨gc, hg⟩ := h.gr
  have n1 : rb ≠ pr := fun e => by rw [← e, h.rs.bx] at hp; cases hp
  have n2 : R.gl ≠ pr := fun e => by rw [← e, l1] at hp; cases hp
  have n3 : gs ≠ pr := fun e => by rw [← e, hg] at hp; cases hp
  have z1 := (Array.getElem?_eq_some_iff.1 h.rs.bx).1
  have z3 := (Array.getElem?_eq_some_iff.1 hg).1
  exact ⟨⟨(o.block _ z1 n1).trans h.rs.bx, h.rs.le, h.rs.be.trans (o.toBelow h.rs.be.size (fun q hq => by rw [hq]; exact h0)), lc, (o.block _ h.rs.glt n2).trans l1, l2⟩, h.bk, fun j h1 h2 => (h.pt j h1 h2).other o kd (cell_only o z3 n3), fun k hk => (h.la k hk).other o kd (cell_only o h.rs.glt n2), gc, (o.block _ z3 n3).trans hg⟩
end Go.Proofs.YtgnpdhgphkocoaaGreatDoor
namespace Go.Proofs.YtgnpdhgphkocoaaGreatDoor
open Go.RowKit Go.Maps Go.Shelf
attribute [local go_sem] Oper.semAt_some
/-! ### The least path -/
/-- What leastPath holds in its loop. -/
structure LpI (w w0 : World) (R : Rp) (F : Nat → Nat) (N rb wb f3 j3 ff : Nat) (Es : List EdT) (bc : Array Value) (B : Nat) (P : List Nat) (pg pc : Nat) (wr : World) : Prop where
  ra : ∃ blk gs, RsA w0 R F rb blk gs wr
  wk : Wk wr N f3 j3 ff Es
  bx : wr.heap[wb]? = some (.cells bc 124 (0, 0))
  rw : wr.ownsRow B 3 1 (.slice (some ⟨pg, 0, none⟩) P.length pc) P.length (intV P)
  be : Below w.heap.size w wr
theorem LpI.on {w w0 : World} {R : Rp} {F : Nat → Nat} {N rb wb f3 j3 ff : Nat} {Es : List EdT} {bc : Array Value} {B : Nat} {P : List Nat} {pg pc : Nat} {W W' : World} (h : LpI w w0 R F N rb wb f3 j3 ff Es bc B P pg pc W) (d : Below W.heap.size W W') : LpI w w0 R F N rb wb f3 j3 ff Es bc B P pg pc W' := by
  obtain ⟨blk, gs, hr⟩ := h.ra
  exact ⟨⟨blk, gs, hr.on d⟩, h.wk.on d, blk_on h.bx d, own_on h.rw d (own_at h.rw).2, h.be.trans (d.mono h.be.size)⟩
theorem LpI.at {w w0 : World} {R : Rp} {F : Nat → Nat} {N rb wb f3 j3 ff : Nat} {Es : List EdT} {bc : Array Value} {B : Nat} {P : List Nat} {pg pc : Nat} {W W' : World} (h : LpI w w0 R F N rb wb f3 j3 ff Es bc B P pg pc W) (hB : rb ≠ f3 ∧ rb ≠ ff ∧ rb ≠ wb ∧ rb < B ∧ w.heap.size ≤ rb) (o : Only W W' (fun q => q = rb)) (hr : ∃ blk gs, RsA w0 R F rb blk gs W') : LpI w w0 R F N rb wb f3 j3 ff Es bc B P pg pc W' := by
  have hp := (own_at h.rw).1
  exact ⟨hr, h.wk.only o (fun e => hB.1 e.symm) (fun e => hB.2.1 e.symm), (o.block _ (Array.getElem?_eq_some_iff.1 h.bx).1 (fun e => hB.2.2.1 e.symm)).trans h.bx, own_only h.rw o (by omega), h.be.trans (o.toBelow h.be.size (fun q hq => by omega))⟩
/-! ### The law's own lists -/
/-- The marks behind a list. -/
def mrk (k : Nat) : List Int := (List.range k).map fun (i : Nat) => -1000 - (i : Int)
/-- A list with its marks, in a row of its own. -/
structure Mk (B : Nat) (w : World) (g c : Nat) (L : List Int) : Prop where
  le : L.length + 70 ≤ c
  rw : w.ownsRow B 3 1 (.slice (some ⟨g, 0, none⟩) (L.length + 70) c) (L.length + 70) ((L ++ mrk 70).map (Value.int .i64))
theorem rdN_own {W : World} {B g c n : Nat} {X L : List Int} (h : W.ownsRow B 3 1 (.slice (some ⟨g, 0, none⟩) n c) n (X.map (Value.int .i64))) (hp : L <+: X) : RdN W (some ⟨g, 0, none⟩) L := fun j hj => by
  obtain ⟨t, rfl⟩ := hp
  refine ⟨g, 0, rfl, ?_⟩
  have := h.cells (g := g) rfl j (.int .i64 L[j]) (by rw [List.getElem?_map, List.getElem?_append_left hj, List.getElem?_eq_getElem hj]; rfl)
  rw [Addr.add_lit] at this
  simpa using this
theorem Mk.rd {B : Nat} {w : World} {g c : Nat} {L : List Int} (h : Mk B w g c L) : RdN w (some ⟨g, 0, none⟩) L := rdN_own h.rw (List.prefix_append _ _)
theorem Mk.on {B C : Nat} {w w' : World} {g c : Nat} {L : List Int} (h : Mk B w g c L) (d : Below C w w') (hg : g < C) : Mk B w' g c L := ⟨h.le, own_on h.rw d hg⟩
/-! ### The law's own automata -/
def mrkE (k : Nat) : List EdT := (List.range k).map fun (i : Nat) => (-1000 - (i : Int), 0, 0)
/-- Edges with their marks, in a row of their own. -/
structure MkE (B : Nat) (w : World) (g c : Nat) (L : List EdT) : Prop where
  le : L.length + 70 ≤ c
  rw : w.ownsRow B 62 3 (.slice (some ⟨g, 0, none⟩) (L.length + 70) c) (L.length + 70) ((L ++ mrkE 70).flatMap encE)
theorem MkE.on {B C : Nat} {w w' : World} {g c : Nat} {L : List EdT} (h : MkE B w g c L) (d : Below C w w') (hg : g < C) : MkE B w' g c L := ⟨h.le, own_on h.rw d hg⟩
theorem MkE.rd {B : Nat} {w : World} {g c : Nat} {L : List EdT} (h : MkE B w g c L) : RdE w (some ⟨g, 0, none⟩) L := fun j hj => by
  have hl : (L ++ mrkE 70).length = L.length + 70 := by simp [mrkE]
  have hr := h.rw
  rw [← hl] at hr
  have q := rdE_cells hr j (by rw [hl]; omega)
  have e : (L ++ mrkE 70)[j]'(by rw [hl]; omega) = L[j] := List.getElem_append_left hj
  rw [e] at q
  exact ⟨g, 0, rfl, by simpa using q⟩
/-- An automaton whose lists are its own, marks behind them. -/
structure TwN (B : Nat) (w : World) (g1 k1 g2 k2 g3 k3 : Nat) (St Fi : List Int) (Ed : List EdT) : Prop where
  s : Mk B w g1 k1 St
  f : Mk B w g2 k2 Fi
  e : MkE B w g3 k3 Ed
  n12 : g1 ≠ g2
  n13 : g1 ≠ g3
  n23 : g2 ≠ g3
theorem TwN.rd {B : Nat} {w : World} {g1 k1 g2 k2 g3 k3 : Nat} {St Fi : List Int} {Ed : List EdT} (h : TwN B w g1 k1 g2 k2 g3 k3 St Fi Ed) : RdA w (some ⟨g1, 0, none⟩) (some ⟨g2, 0, none⟩) (some ⟨g3, 0, none⟩) St Fi Ed := ⟨h.s.rd, h.f.rd, h.e.rd⟩
theorem Mk.lt {B : Nat} {w : World} {g c : Nat} {L : List Int} (h : Mk B w g c L) : B ≤ g ∧ g < w.heap.size := own_at h.rw
theorem MkE.lt {B : Nat} {w : World} {g c : Nat} {L : List EdT} (h : MkE B w g c L) : B ≤ g ∧ g < w.heap.size := own_at h.rw
theorem TwN.on {B : Nat} {w w' : World} {g1 k1 g2 k2 g3 k3 : Nat} {St Fi : List Int} {Ed : List EdT} (h : TwN B w g1 k1 g2 k2 g3 k3 St Fi Ed) (d : Below w.heap.size w w') : TwN B w' g1 k1 g2 k2 g3 k3 St Fi Ed := ⟨h.s.on d h.s.lt.2, h.f.on d h.f.lt.2, h.e.on d h.e.lt.2, h.n12, h.n13, h.n23⟩
theorem Mk.only {B q : Nat} {w w' : World} {g c : Nat} {L : List Int} (h : Mk B w g c L) (o : Only w w' (fun k => k = q)) (hq : g ≠ q) : Mk B w' g c L := ⟨h.le, own_only h.rw o hq⟩
theorem MkE.only {B q : Nat} {w w' : World} {g c : Nat} {L : List EdT} (h : MkE B w g c L) (o : Only w w' (fun k => k = q)) (hq : g ≠ q) : MkE B w' g c L := ⟨h.le, own_only h.rw o hq⟩
/-! ### The law's and the document's questions about lists -/
set_option maxRecDepth 100000 in
set_option maxHeartbeats 1000000 in
theorem in60 (w : World) (ao : Option Addr) (L : List Int) (c : Nat) (x : Int) (hr : Hid (RdN w ao L)) (hl : L.length ≤ 4194304) :
    Calls Tryz.prog 101 #[.slice ao L.length c, .int .i64 x] w fun e w' => e = .returned (.bool (decide (x ∈ L))) ∧ w' = w := by
  go_enter Tryz.func101, Tryz.ntmps101
  go_wp2
  go_loopw [5] (fun iv wr => ∃ i : Nat, i ≤ L.length ∧ iv = .int .i64 i ∧ Hid (∀ t (h : t < L.length), t < i → L[t] ≠ x) ∧ wr = w) (fun iv _ => L.length - (intOf iv).toNat)
  case atStart => exact ⟨0, Nat.zero_le _, rfl, hide (fun t _ h => absurd h (Nat.not_lt_zero t)), rfl⟩
  case round =>
    obtain ⟨i, hi, rfl, HY, hw⟩ := hrel
    obtain rfl := hw.symm
    clear hw
    by_cases hlt : i < L.length
    · have l0 : (i : Int) < (L.length : Int) := by omega
      have l1 : (0 : Int) ≤ (i : Int) := by omega
      obtain ⟨g, o, rfl, q⟩ := hr.out i hlt
      by_cases he : L[i] = x
      · have hm : x ∈ L := he ▸ List.getElem_mem hlt
        rw [he] at q
        have hd : Hid (decide (x ∈ L) = true) := hide (by simpa using hm)
        clear he hm
        go_wp2
        refine bodyPost_ret (results_tmp rfl _ _ _) rfl ?_
        exact ⟨by rw [hd.out]; rfl, rfl⟩
      · have HN : Hid (∀ t (h : t < L.length), t < i + 1 → L[t] ≠ x) := hide (fun t ht h2 => by
          rcases Nat.lt_or_ge t i with h3 | h3
          · exact HY.out t ht h3
          · obtain rfl : t = i := by omega
            exact he)
        have hb : (L[i] == x) = false := by simpa using he
        generalize L[i] = y at q he hb
        go_wp2
        go_roundw
        case rel => exact ⟨i + 1, by omega, by go_num, HN, by simp⟩
        case measure => simp [intOf]; omega
    · have l0 : ¬ (i : Int) < (L.length : Int) := by omega
      have hd : Hid (decide (x ∈ L) = false) := hide (by
        rw [decide_eq_false_iff_not]
        intro hm
        obtain ⟨t, ht, e⟩ := List.getElem_of_mem hm
        exact HY.out t ht (by omega) e)
      go_wp2
      refine bodyPost_ret (results_tmp rfl _ _ _) rfl ?_
      exact ⟨by rw [hd.out]; rfl, rfl⟩
set_option maxRecDepth 100000 in
set_option maxHeartbeats 1000000 in
theorem meets18 (w : World) (ao bo : Option Addr) (A B : List Int) (c d : Nat) (hA : Hid (RdN w ao A)) (hB : Hid (RdN w bo B)) (hl : A.length ≤ 4194304) (hk : B.length ≤ 4194304) :
    Calls Tryz.prog 58 #[.slice ao A.length c, .slice bo B.length d] w fun e w' => e = .returned (.bool (A.any fun x => decide (x ∈ B))) ∧ w' = w := by
  go_enter Tryz.func58, Tryz.ntmps58
  go_wp2
  go_loopw [5] (fun iv wr => ∃ i : Nat, i ≤ A.length ∧ iv = .int .i64 i ∧ Hid (∀ t (h : t < A.length), t < i → A[t] ∉ B) ∧ wr = w) (fun iv _ => A.length - (intOf iv).toNat)
  case atStart => exact ⟨0, Nat.zero_le _, rfl, hide (fun t _ h => absurd h (Nat.not_lt_zero t)), rfl⟩
  case round =>
    obtain ⟨i, hi, rfl, HY, hw⟩ := hrel
    obtain rfl := hw.symm
    clear hw
    by_cases hlt : i < A.length
    · have l0 : (i : Int) < (A.length : Int) := by omega
      have l1 : (0 : Int) ≤ (i : Int) := by omega
      obtain ⟨g, o, rfl, q⟩ := hA.out i hlt
      have T := in60 w bo B d A[i] hB hk
      by_cases he : A[i] ∈ B
      · have hd : Hid ((A.any fun x => decide (x ∈ B)) = true) := hide (List.any_eq_true.2 ⟨A[i], List.getElem_mem hlt, by simpa using he⟩)
        rw [show decide (A[i] ∈ B) = true by simpa using he] at T
        generalize A[i] = y at q T
        clear he
        go_wp2_with (go_at_call 101; refine T.mono ?_; rintro e w2 ⟨rfl, hw2⟩; obtain rfl := hw2.symm)
        refine bodyPost_ret (results_tmp rfl _ _ _) rfl ?_
        exact ⟨by rw [hd.out]; rfl, rfl⟩
      · have HN : Hid (∀ t (h : t < A.length), t < i + 1 → A[t] ∉ B) := hide (fun t ht h2 => by
          rcases Nat.lt_or_ge t i with h3 | h3
          · exact HY.out t ht h3
          · obtain rfl : t = i := by omega
            exact he)
        rw [show decide (A[i] ∈ B) = false by simpa using he] at T
        generalize A[i] = y at q T
        clear he
        go_wp2_with (go_at_call 101; refine T.mono ?_; rintro e w2 ⟨rfl, hw2⟩; obtain rfl := hw2.symm)
        go_roundw
        case rel => exact ⟨i + 1, by omega, by go_num, HN, by simp⟩
        case measure => simp [intOf]; omega
    · have l0 : ¬ (i : Int) < (A.length : Int) := by omega
      have hd : Hid ((A.any fun x => decide (x ∈ B)) = false) := hide (by
        rw [List.any_eq_false]
        intro x hx
        obtain ⟨t, ht, e⟩ := List.getElem_of_mem hx
        have := HY.out t ht (by omega)
        rw [e] at this
        simpa using this)
      go_wp2
      refine bodyPost_ret (results_tmp rfl _ _ _) rfl ?_
      exact ⟨by rw [hd.out]; rfl, rfl⟩
set_option maxRecDepth 100000 in
set_option maxHeartbeats 1000000 in
theorem sameInts_any (w : World) (ao bo : Option Addr) (A B : List Int) (c d : Nat) (hA : Hid (RdN w ao A)) (hB : Hid (RdN w bo B)) (hl : A.length ≤ 4194304) (hk : B.length ≤ 4194304) :
    Calls Tryz.prog 10 #[.slice ao A.length c, .slice bo B.length d] w fun e w' => e = .returned (.bool (decide (A = B))) ∧ Below w.heap.size w w' := by
  go_enter Tryz.func10, Tryz.ntmps10
  by_cases hlen : A.length = B.length
  · have hl2 : ((A.length : Int) != (B.length : Int)) = false := by simp [hlen]
    go_wp2
    go_loopw [5] (fun iv wr => ∃ i : Nat, i ≤ A.length ∧ iv = .int .i64 i ∧ Hid (∀ t (h : t < A.length), t < i → A[t] = B[t]'(by omega)) ∧ Hid (Below w.heap.size w wr)) (fun iv _ => A.length - (intOf iv).toNat)
    case atStart => exact ⟨0, Nat.zero_le _, rfl, hide (fun t _ h => absurd h (Nat.not_lt_zero t)), hide (Below.refl _ _)⟩
    case round =>
      obtain ⟨i, hi, rfl, HY, HW⟩ := hrel
      by_cases hlt : i < A.length
      · have l0 : (i : Int) < (A.length : Int) := by omega
        have l1 : (0 : Int) ≤ (i : Int) := by omega
        have hltB : i < B.length := by omega
        have l2 : (i : Int) < (B.length : Int) := by omega
        obtain ⟨g, o, hao, q⟩ := (hA.out.on HW.out) i hlt
        obtain ⟨g', o', hbo, q'⟩ := (hB.out.on HW.out) i hltB
        subst hao hbo
        by_cases he : A[i] = B[i]
        · have HN : Hid (∀ t (h : t < A.length), t < i + 1 → A[t] = B[t]'(by omega)) := hide (fun t ht h2 => by
            rcases Nat.lt_or_ge t i with h3 | h3
            · exact HY.out t ht h3
            · obtain rfl : t = i := by omega
              exact he)
          rw [← he] at q'
          generalize A[i] = x at q q' he
          have hb : (x != x) = false := by simp
          clear he
          go_wp2
          refine wp_region_phase 8 #[true, true, true, true, true, true, true, true, false] (by kernel_rfl) (by kernel_rfl) ?_
          simp only [List.take_succ_cons, List.take_zero, List.drop_succ_cons, List.drop_zero]
          repeat (go_big_quiet_step (fail))
          refine wpQuiet_nil ?_
          intro wz hzz
          obtain ⟨nq, rfl⟩ := hzz
          go_wp2_with fail
          go_roundw
          case rel => exact ⟨i + 1, by omega, by go_num, HN, hide (below_drewN2 HW.out nq)⟩
          case measure => simp [intOf]; omega
        · have hd : Hid (decide (A = B) = false) := hide (by
            rw [decide_eq_false_iff_not]
            intro e
            subst e
            exact he rfl)
          have hb : (A[i] != B[i]) = true := by simpa using he
          generalize A[i] = x at q he hb
          generalize B[i] = y at q' he hb
          go_wp2
          refine wp_region_phase 8 #[true, true, true, true, true, true, true, true, false] (by kernel_rfl) (by kernel_rfl) ?_
          simp only [List.take_succ_cons, List.take_zero, List.drop_succ_cons, List.drop_zero]
          repeat (go_big_quiet_step (fail))
          refine wpQuiet_nil ?_
          intro wz hzz
          obtain ⟨nq, rfl⟩ := hzz
          go_wp2_with fail
          refine bodyPost_ret (results_tmp rfl _ _ _) rfl ?_
          exact ⟨by rw [hd.out]; rfl, below_drewN2 HW.out nq⟩
      · have l0 : ¬ (i : Int) < (A.length : Int) := by omega
        have hd : Hid (decide (A = B) = true) := hide (by
          rw [decide_eq_true_eq]
          exact List.ext_getElem hlen fun t h1 h2 => HY.out t h1 (by omega))
        go_wp2
        refine bodyPost_ret (results_tmp rfl _ _ _) rfl ?_
        exact ⟨by rw [hd.out]; rfl, HW.out⟩
  · have hl2 : ((A.length : Int) != (B.length : Int)) = true := by simp; omega
    have hd : Hid (decide (A = B) = false) := hide (by
      rw [decide_eq_false_iff_not]
      intro e
      exact hlen (by rw [e]))
    go_wp2
    refine bodyPost_ret (results_tmp rfl _ _ _) rfl ?_
    exact ⟨by rw [hd.out]; rfl, Below.refl _ _⟩
theorem alloc_below (w : World) (o : Obj) : Below w.heap.size w (w.alloc o) := (Below.refl _ _).alloc (Nat.le_refl _) _
end Go.Proofs.YtgnpdhgphkocoaaGreatDoor
namespace Go.Proofs.YtgnpdhgphkocoaaGreatDoor
open Go.RowKit Go.Maps Go.Shelf
/-! ### Paths -/
theorem edge_img {Ed : List EdT} {X : Nat} {p q y : Int} (h : (p, y, q) ∈ Ed) (hq : hasB X q = true) : (imgF true X y Ed).testBit p.toNat = true :=
  (imgF_test true X y Ed p.toNat).2 ⟨_, h, rfl, by simpa [ends] using hq, by simp [ends]⟩
theorem edge_post {Ed : List EdT} {X : Nat} {p q y : Int} (h : (p, y, q) ∈ Ed) (hp : hasB X p = true) : (imgF false X y Ed).testBit q.toNat = true :=
  (imgF_test false X y Ed q.toNat).2 ⟨_, h, rfl, by simpa [ends] using hp, by simp [ends]⟩
theorem hasB_of {X : Nat} {i : Int} (h0 : 0 ≤ i) (h : X.testBit i.toNat = true) : hasB X i = true := by unfold hasB; simp [h0, h]
/-- A word leads from a state to another. -/
def Rch (Ed : List EdT) : List Int → Int → Int → Prop
  | [], p, q => p = q
  | y :: W, p, q => ∃ r, (p, y, r) ∈ Ed ∧ Rch Ed W r q
theorem wordF_rch {N : Nat} {Ed : List EdT} (hi : ∀ x ∈ Ed, (0 ≤ x.1 ∧ x.1 < (N : Int)) ∧ 0 ≤ x.2.2 ∧ x.2.2 < (N : Int)) : ∀ (Wd : List Int) (X : Nat) (q : Int), hasB (wordF Ed X Wd) q = true ↔ ∃ p, hasB X p = true ∧ Rch Ed Wd p q
  | [], X, q => ⟨fun h => ⟨q, h, rfl⟩, fun ⟨p, h, e⟩ => by cases e; exact h⟩
  | y :: W, X, q => by
    show hasB (wordF Ed (imgF false X y Ed) W) q = true ↔ _
    rw [wordF_rch hi W]
    constructor
    · rintro ⟨r, hr, hR⟩
      obtain ⟨h0, h1⟩ := hasB_nat hr
      obtain ⟨e, he, e1, e2, e3⟩ := (imgF_test false X y Ed _).1 h1
      obtain ⟨x0, x1, x2⟩ := e
      simp [ends] at e1 e2 e3
      have hb := hi _ he
      simp only at hb
      refine ⟨x0, e2, r, ?_, hR⟩
      rw [← e1, show r = x2 by omega]
      exact he
    · rintro ⟨p, hp, r, he, hR⟩
      have hb := hi _ he
      exact ⟨r, hasB_of hb.2.1 (edge_post he hp), hR⟩
theorem restF_rch {N : Nat} {Ed : List EdT} (hi : ∀ x ∈ Ed, (0 ≤ x.1 ∧ x.1 < (N : Int)) ∧ 0 ≤ x.2.2 ∧ x.2.2 < (N : Int)) (F0 : Nat) : ∀ (Wd : List Int) (p : Int), hasB (restF Ed F0 Wd 0) p = true ↔ ∃ q, hasB F0 q = true ∧ Rch Ed Wd p q
  | [], p => ⟨fun h => ⟨p, h, rfl⟩, fun ⟨q, h, e⟩ => by cases e; exact h⟩
  | y :: W, p => by
    have e0 : restF Ed F0 (y :: W) 0 = imgF true (restF Ed F0 W 0) y Ed := rfl
    rw [e0]
    constructor
    · intro hp
      obtain ⟨h0, h1⟩ := hasB_nat hp
      obtain ⟨e, he, e1, e2, e3⟩ := (imgF_test true _ y Ed _).1 h1
      obtain ⟨x0, x1, x2⟩ := e
      simp [ends] at e1 e2 e3
      have hb := hi _ he
      simp only at hb
      obtain ⟨q, hq, hR⟩ := (restF_rch hi F0 W x2).1 e2
      refine ⟨q, hq, x2, ?_, hR⟩
      rw [← e1, show p = x0 by omega]
      exact he
    · rintro ⟨q, hq, r, he, hR⟩
      have hb := hi _ he
      exact hasB_of hb.1.1 (edge_img he ((restF_rch hi F0 W r).2 ⟨q, hq, hR⟩))
theorem and_zero_iff (A B : Nat) : A &&& B = 0 ↔ ¬ ∃ p : Int, hasB A p = true ∧ hasB B p = true := by
  constructor
  · rintro h ⟨p, h1, h2⟩
    have q : (A &&& B).testBit p.toNat = true := by rw [Nat.testBit_and, (hasB_nat h1).2, (hasB_nat h2).2]; rfl
    rw [h] at q
    simp at q
  · intro h
    refine Nat.eq_of_testBit_eq fun i => ?_
    rw [Nat.zero_testBit, Nat.testBit_and]
    cases ha : A.testBit i
    · rfl
    · cases hb : B.testBit i
      · rfl
      · exact absurd ⟨(i : Int), hasB_of (by omega) (by simpa using ha), hasB_of (by omega) (by simpa using hb)⟩ h
/-- A word is taken just if a start is one from which it can be read. -/
theorem taken_iff {N : Nat} {Ed : List EdT} (hi : ∀ x ∈ Ed, (0 ≤ x.1 ∧ x.1 < (N : Int)) ∧ 0 ≤ x.2.2 ∧ x.2.2 < (N : Int)) (X Y : Nat) (Wd : List Int) : wordF Ed X Wd &&& Y = 0 ↔ X &&& restF Ed Y Wd 0 = 0 := by
  rw [and_zero_iff, and_zero_iff]
  refine not_congr ⟨?_, ?_⟩
  · rintro ⟨q, h1, h2⟩
    obtain ⟨p, hp, hR⟩ := (wordF_rch hi Wd X q).1 h1
    exact ⟨p, hp, (restF_rch hi Y Wd p).2 ⟨q, h2, hR⟩⟩
  · rintro ⟨p, h1, h2⟩
    obtain ⟨q, hq, hR⟩ := (restF_rch hi Y Wd p).1 h2
    exact ⟨q, (wordF_rch hi Wd X q).2 ⟨p, h1, hR⟩, hq⟩
/-! ### Numbers in order, each once -/
theorem cpL_ss {zs : List Int} (hs : zs.Pairwise (· ≤ ·)) : (Lib.compact zs).Pairwise (· < ·) := by
  have key : ∀ m, m ≤ zs.length → (Lib.compactUpTo zs.toArray m).Pairwise (· < ·) ∧ (∀ x ∈ Lib.compactUpTo zs.toArray m, ∃ j, j < m ∧ ∃ h : j < zs.length, x = zs[j]) := by
    intro m
    induction m with
    | zero => intro _; exact ⟨by simp [Lib.compactUpTo], fun x hx => by simp [Lib.compactUpTo] at hx⟩
    | succ m ih =>
      intro hm
      obtain ⟨k1, k2⟩ := ih (by omega)
      rw [Lib.compactUpTo_succ]
      by_cases hk : Lib.keeps zs.toArray m = true
      · rw [if_pos hk]
        have hm' : m < zs.length := by omega
        have em : zs.toArray[m]! = zs[m] := by simp [hm']
        refine ⟨?_, fun x hx => ?_⟩
        · rw [List.pairwise_append]
          refine ⟨k1, by simp, fun x hx y hy => ?_⟩
          rw [List.mem_singleton.1 hy, em]
          obtain ⟨j, hj, hjl, rfl⟩ := k2 x hx
          unfold Lib.keeps at hk
          rw [decide_eq_true_eq] at hk
          have hm0 : m ≠ 0 := by omega
          have hk2 := hk.resolve_left hm0
          have e1 : zs.toArray[m - 1]! = zs[m - 1] := by simp [show m - 1 < zs.length by omega]
          rw [em, e1] at hk2
          have l1 : zs[m - 1] ≤ zs[m] := (List.pairwise_iff_getElem.1 hs) (m - 1) m (by omega) hm' (by omega)
          rcases Nat.lt_or_ge j (m - 1) with q | q
          · have l2 : zs[j] ≤ zs[m - 1] := (List.pairwise_iff_getElem.1 hs) j (m - 1) hjl (by omega) q
            omega
          · have : j = m - 1 := by omega
            subst this; omega
        · rcases List.mem_append.1 hx with hx | hx
          · obtain ⟨j, hj, q⟩ := k2 x hx
            exact ⟨j, by omega, q⟩
          · rw [List.mem_singleton.1 hx]; exact ⟨m, by omega, hm', em⟩
      · rw [if_neg hk, List.append_nil]
        exact ⟨k1, fun x hx => by obtain ⟨j, hj, q⟩ := k2 x hx; exact ⟨j, by omega, q⟩⟩
  exact (key zs.length (Nat.le_refl _)).1
theorem sortI_up (L : List Int) : (sortI L).Pairwise (· ≤ ·) := by
  have hp : (sortI L).Pairwise fun a b => decide (a ≤ b) = true := List.pairwise_mergeSort (le := fun x y : Int => decide (x ≤ y)) (fun a b c h1 h2 => by
    simp only [decide_eq_true_eq] at *
    omega) (fun a b => by
    simp only [Bool.or_eq_true, decide_eq_true_eq]
    omega) L
  exact hp.imp fun q => by simpa using q
theorem riseL_ss (L : List Int) : (riseL L).Pairwise (· < ·) := cpL_ss (sortI_up L)
theorem ssL_eq : ∀ (A B : List Int), A.Pairwise (· < ·) → B.Pairwise (· < ·) → (∀ x, x ∈ A ↔ x ∈ B) → A = B
  | [], [], _, _, _ => rfl
  | [], b :: B, _, _, h => absurd ((h b).2 (by simp)) (by simp)
  | a :: A, [], _, _, h => absurd ((h a).1 (by simp)) (by simp)
  | a :: A, b :: B, hA, hB, h => by
    rw [List.pairwise_cons] at hA hB
    have e : a = b := by
      rcases List.mem_cons.1 ((h a).1 (by simp)) with q | q
      · exact q
      · rcases List.mem_cons.1 ((h b).2 (by simp)) with r | r
        · exact r.symm
        · have := hB.1 a q; have := hA.1 b r; omega
    subst e
    congr 1
    refine ssL_eq A B hA.2 hB.2 fun x => ⟨fun q => ?_, fun q => ?_⟩
    · rcases List.mem_cons.1 ((h x).1 (by simp [q])) with r | r
      · subst r; have := hA.1 x q; omega
      · exact r
    · rcases List.mem_cons.1 ((h x).2 (by simp [q])) with r | r
      · subst r; have := hB.1 x q; omega
      · exact r
/-! ### Which words are taken -/
theorem may_of {n m : Int} {St Fi : List Int} {Ed : List EdT} (h1 : 0 ≤ n ∧ n ≤ 4096) (h2 : 0 ≤ m ∧ m ≤ 128) (h3 : Ed.length ≤ 65536) (h4 : ∀ x ∈ St, 0 ≤ x ∧ x < n) (h5 : ∀ x ∈ Fi, 0 ≤ x ∧ x < n) (h6 : ∀ e ∈ Ed, (0 ≤ e.1 ∧ e.1 < n) ∧ (0 ≤ e.2.1 ∧ e.2.1 < m) ∧ 0 ≤ e.2.2 ∧ e.2.2 < n) : mayA n m St Fi Ed = true := by
  unfold mayA
  simp only [Bool.and_eq_true, List.all_eq_true, decide_eq_true_eq]
  refine ⟨⟨⟨⟨⟨inB_iff.2 (by omega), inB_iff.2 (by omega)⟩, h3⟩, fun x hx => inB_iff.2 (h4 x hx)⟩, fun x hx => inB_iff.2 (h5 x hx)⟩, fun e he => ?_⟩
  obtain ⟨q1, q2, q3⟩ := h6 e he
  unfold edOk
  rw [inB_iff.2 q1, inB_iff.2 q2, inB_iff.2 q3]
  rfl
theorem may_st {n m : Int} {St Fi : List Int} {Ed : List EdT} (h : mayA n m St Fi Ed = true) : (∀ x ∈ St, 0 ≤ x ∧ x < n) ∧ (∀ x ∈ Fi, 0 ≤ x ∧ x < n) := by
  obtain ⟨_, _, _, h4, h5, _⟩ := may_parts h
  exact ⟨fun x hx => inB_iff.1 (List.all_eq_true.1 h4 x hx), fun x hx => inB_iff.1 (List.all_eq_true.1 h5 x hx)⟩
/-- A word leads from a start to an end. -/
def Tak (St Fi : List Int) (Ed : List EdT) (Wd : List Int) : Prop := ∃ p, p ∈ St ∧ ∃ q, q ∈ Fi ∧ Rch Ed Wd p q
open Classical in
/-- Is a word taken? -/
noncomputable def tkB (n m : Int) (St Fi : List Int) (Ed : List EdT) (Wd : List Int) : Bool := decide (wordErr n m St Fi Ed Wd = 0 ∧ Tak St Fi Ed Wd)
theorem wordErr_iff {n m : Int} {St Fi : List Int} {Ed : List EdT} {Wd : List Int} : wordErr n m St Fi Ed Wd = 0 ↔ mayA n m St Fi Ed = true ∧ Wd.all (inB m) = true :=
  ⟨wordErr_zero, fun ⟨h1, h2⟩ => by unfold wordErr; rw [if_pos h1, if_pos h2]⟩
open Classical in
theorem tkB_iff {n m : Int} {St Fi : List Int} {Ed : List EdT} {Wd : List Int} : tkB n m St Fi Ed Wd = true ↔ mayA n m St Fi Ed = true ∧ Wd.all (inB m) = true ∧ Tak St Fi Ed Wd := by
  refine Iff.trans (decide_eq_true_iff (p := wordErr n m St Fi Ed Wd = 0 ∧ Tak St Fi Ed Wd)) ?_
  rw [wordErr_iff, and_assoc]
theorem tkB_bad {n m : Int} {St Fi : List Int} {Ed : List EdT} {Wd : List Int} (h : wordErr n m St Fi Ed Wd ≠ 0) : tkB n m St Fi Ed Wd = false := by
  cases q : tkB n m St Fi Ed Wd
  · rfl
  · exact absurd (wordErr_iff.2 ⟨(tkB_iff.1 q).1, (tkB_iff.1 q).2.1⟩) h
theorem tkB_ok {N : Nat} {m : Int} {St Fi : List Int} {Ed : List EdT} {Wd : List Int} (h : wordErr N m St Fi Ed Wd = 0) : (!decide (wordF Ed (setI N St) Wd &&& setI N Fi = 0)) = tkB N m St Fi Ed Wd := by
  rw [Bool.eq_iff_iff, tkB_iff]
  have hm := wordErr_iff.1 h
  have hin := may_in hm.1
  have hs := may_st hm.1
  rw [Bool.not_eq_true', decide_eq_false_iff_not, and_zero_iff, Classical.not_not]
  constructor
  · rintro ⟨q, h1, h2⟩
    obtain ⟨p, hp, hR⟩ := (wordF_rch hin Wd _ q).1 h1
    exact ⟨hm.1, hm.2, p, (hasB_setI.1 hp).1, q, (hasB_setI.1 h2).1, hR⟩
  · rintro ⟨_, _, p, hp, q, hq, hR⟩
    exact ⟨q, (wordF_rch hin Wd _ q).2 ⟨p, hasB_setI.2 ⟨hp, hs.1 p hp⟩, hR⟩, hasB_setI.2 ⟨hq, hs.2 q hq⟩⟩
theorem rch_same {E E' : List EdT} (h : ∀ e, e ∈ E ↔ e ∈ E') : ∀ (W : List Int) (p q : Int), Rch E W p q ↔ Rch E' W p q
  | [], _, _ => Iff.rfl
  | y :: W, p, q => by
    constructor
    · rintro ⟨r, h1, h2⟩; exact ⟨r, (h _).1 h1, (rch_same h W r q).1 h2⟩
    · rintro ⟨r, h1, h2⟩; exact ⟨r, (h _).2 h1, (rch_same h W r q).2 h2⟩
/-- In order, each once: the same words. -/
theorem may_rise {n m : Int} {St Fi : List Int} {Ed : List EdT} (h : mayA n m St Fi Ed = true) : mayA n m (riseL St) (riseL Fi) (riseE Ed) = true := by
  obtain ⟨h1, h2, h3, _, _, h6⟩ := may_parts h
  obtain ⟨h4, h5⟩ := may_st h
  exact may_of h1 h2 (Nat.le_trans (riseE_len Ed) h3) (fun x hx => h4 x ((riseL_iff St x).1 hx)) (fun x hx => h5 x ((riseL_iff Fi x).1 hx)) (fun e he => h6 e ((riseE_iff Ed e).1 he))
theorem tk_normal {n m : Int} {St Fi : List Int} {Ed : List EdT} (h : mayA n m St Fi Ed = true) (Wd : List Int) : tkB n m (riseL St) (riseL Fi) (riseE Ed) Wd = tkB n m St Fi Ed Wd := by
  rw [Bool.eq_iff_iff, tkB_iff, tkB_iff]
  refine and_congr (by rw [h, may_rise h]) (and_congr Iff.rfl ?_)
  constructor
  · rintro ⟨p, hp, q, hq, hR⟩
    exact ⟨p, (riseL_iff _ _).1 hp, q, (riseL_iff _ _).1 hq, (rch_same (riseE_iff Ed) Wd p q).1 hR⟩
  · rintro ⟨p, hp, q, hq, hR⟩
    exact ⟨p, (riseL_iff _ _).2 hp, q, (riseL_iff _ _).2 hq, (rch_same (riseE_iff Ed) Wd p q).2 hR⟩
def shE (k : Int) (e : EdT) : EdT := (e.1 + k, e.2.1, e.2.2 + k)
end Go.Proofs.YtgnpdhgphkocoaaGreatDoor
namespace Go.Proofs.YtgnpdhgphkocoaaGreatDoor
open Go.RowKit Go.Maps Go.Shelf
attribute [local go_sem] Oper.semAt_some
/-! ### Reverse -/
/-! ### The law's takes and turned -/
theorem rd_own {W : World} {B n : Nat} {v : Value} {X : List Int} (h : W.ownsRow B 3 1 v n (X.map (Value.int .i64))) : ∃ ao c, v = .slice ao X.length c ∧ RdN W ao X := by
  have hn : n = X.length := by have := h.1; simpa using this.symm
  subst hn
  rcases h.2 with ⟨hv, h0⟩ | ⟨g, cap, cur, hv, _⟩
  · exact ⟨none, 0, by rw [hv, h0], fun j hj => by omega⟩
  · subst hv
    exact ⟨some ⟨g, 0, none⟩, cap, rfl, rdN_own h (List.prefix_refl X)⟩
/-! ### Lists written over where they lie -/
/-- The first i entries turned, the others as they were. -/
def mixG {α : Type} (f : α → α) (L : List α) (i : Nat) : List α := (L.take i).map f ++ L.drop i
theorem Only.cellK {w w' : World} {R : Nat → Prop} (h : Only w w' R) {b : Nat} {o : Obj} (hb : w.heap[b]? = some o) (hn : ¬ R b) : w'.heap[b]? = some o := (h.block b (Array.getElem?_eq_some_iff.1 hb).1 hn).trans hb
/-- What beside holds while it writes over the second automaton's lists. -/
structure BeI (W0 : World) (B : Nat) (na : Int) (h1 c1 h2 c2 h3 c3 : Nat) (S F : List Int) (E : List EdT) (i j l : Nat) (W : World) : Prop where
  o : Only W0 W (fun k => k = h1 ∨ k = h2 ∨ k = h3)
  s : W.ownsRow B 3 1 (.slice (some ⟨h1, 0, none⟩) S.length c1) S.length ((mixG (· + na) S i).map (Value.int .i64))
  f : W.ownsRow B 3 1 (.slice (some ⟨h2, 0, none⟩) F.length c2) F.length ((mixG (· + na) F j).map (Value.int .i64))
  e : W.ownsRow B 62 3 (.slice (some ⟨h3, 0, none⟩) E.length c3) E.length ((mixG (shE na) E l).flatMap encE)
  n12 : h1 ≠ h2
  n13 : h1 ≠ h3
  n23 : h2 ≠ h3
section
variable {W0 W : World} {B : Nat} {na : Int} {h1 c1 h2 c2 h3 c3 : Nat} {S F : List Int} {E : List EdT} {i j l : Nat}
theorem BeI.alloc (h : BeI W0 B na h1 c1 h2 c2 h3 c3 S F E i j l W) (o : Obj) : BeI W0 B na h1 c1 h2 c2 h3 c3 S F E i j l (W.alloc o) :=
  ⟨h.o.trans (Only.ofBelow ((Below.refl _ _).alloc (Nat.le_refl _) _)), h.s.alloc o, h.f.alloc o, h.e.alloc o, h.n12, h.n13, h.n23⟩
end
theorem grown_blk {W W' : World} {b q : Nat} {o : Obj} (h : W.heap[b]? = some o) (hg : W.grownBy W' (some q)) (hne : b ≠ q) : W'.heap[b]? = some o :=
  (hg.block b (Array.getElem?_eq_some_iff.1 h).1 (by simp; exact hne)).trans h
/-- What beside holds behind its loops. -/
structure BeF (w : World) (B : Nat) (W : World) (v0 v1 v2 v3 v4 : Value) (bb : Array Value) : Prop where
  a : W.heap[w.heap.size]? = some (.cells #[v0, v1, v2, v3, v4] 25 (0, 0))
  b : W.heap[w.heap.size + 1]? = some (.cells bb 25 (0, 0))
  z : W.heap[w.heap.size + 1 + 1]? = some (.cells #[.int .i64 0, .int .i64 0, .slice none 0 0, .slice none 0 0, .slice none 0 0] 25 (0, 0))
  d : Below B w W
  le : w.heap.size + 3 ≤ W.heap.size
section
variable {w W W' : World} {B : Nat} {v0 v1 v2 v3 v4 : Value} {bb : Array Value}
theorem BeF.only (h : BeF w B W v0 v1 v2 v3 v4 bb) (i : Nat) (u : Value) (hB : B ≤ w.heap.size) : (W.setCell ⟨w.heap.size, i, none⟩ u).heap[w.heap.size + 1]? = some (.cells bb 25 (0, 0)) ∧ (W.setCell ⟨w.heap.size, i, none⟩ u).heap[w.heap.size + 1 + 1]? = some (.cells #[.int .i64 0, .int .i64 0, .slice none 0 0, .slice none 0 0, .slice none 0 0] 25 (0, 0)) ∧ Below B w (W.setCell ⟨w.heap.size, i, none⟩ u) ∧ w.heap.size + 3 ≤ (W.setCell ⟨w.heap.size, i, none⟩ u).heap.size := by
  have o := only_set W w.heap.size i u
  exact ⟨o.cellK h.b (by omega), o.cellK h.z (by omega), h.d.trans (o.toBelow (Nat.le_trans hB h.d.size) (fun k hk => by omega)), Nat.le_trans h.le o.size⟩
theorem BeF.grown (h : BeF w B W v0 v1 v2 v3 v4 bb) {q : Nat} (hg : W.grownBy W' (some q)) (hq : B ≤ q ∧ q < w.heap.size) : BeF w B W' v0 v1 v2 v3 v4 bb :=
  ⟨grown_blk h.a hg (by omega), grown_blk h.b hg (by omega), grown_blk h.z hg (by omega), h.d.grown hg (Nat.le_trans (Nat.le_trans hq.1 (Nat.le_of_lt hq.2)) h.d.size) (fun k hk => by cases hk; exact hq.1), Nat.le_trans h.le hg.size⟩
end
end Go.Proofs.YtgnpdhgphkocoaaGreatDoor
namespace Go.Proofs.YtgnpdhgphkocoaaGreatDoor
open Go.RowKit Go.Maps Go.Shelf
/-! ### Two automata in order, two boxes for them -/
structure Pre (W0 F : World) (p q : Nat) (g1 k1 g2 k2 g3 k3 h1 c1 h2 c2 h3 c3 : Nat) (S T : List Int) (E : List EdT) (S' T' : List Int) (E' : List EdT) : Prop where
  zp : F.heap[p]? = some (.cells #[.int .i64 0, .int .i64 0, .slice none 0 0, .slice none 0 0, .slice none 0 0] 25 (0, 0))
  zq : F.heap[q]? = some (.cells #[.int .i64 0, .int .i64 0, .slice none 0 0, .slice none 0 0, .slice none 0 0] 25 (0, 0))
  ne : p ≠ q
  o1 : Own W0.heap.size F g1 k1 g2 k2 g3 k3 S T E
  o2 : Own W0.heap.size F h1 c1 h2 c2 h3 c3 S' T' E'
  lt : ∃ C, g1 < C ∧ g2 < C ∧ g3 < C ∧ C ≤ h1 ∧ C ≤ h2 ∧ C ≤ h3
  np : (g1 ≠ p ∧ g2 ≠ p ∧ g3 ≠ p) ∧ h1 ≠ p ∧ h2 ≠ p ∧ h3 ≠ p
  nq : (g1 ≠ q ∧ g2 ≠ q ∧ g3 ≠ q) ∧ h1 ≠ q ∧ h2 ≠ q ∧ h3 ≠ q
  d : Below W0.heap.size W0 F
  lp : W0.heap.size ≤ p ∧ W0.heap.size ≤ q
theorem Own.on {B C : Nat} {w w' : World} {g1 k1 g2 k2 g3 k3 : Nat} {S F : List Int} {E : List EdT} (h : Own C w g1 k1 g2 k2 g3 k3 S F E) (hB : B ≤ C) (d : Below w.heap.size w w') : Own B w' g1 k1 g2 k2 g3 k3 S F E :=
  ⟨owns_down (own_on h.s d (own_at h.s).2) hB, owns_down (own_on h.f d (own_at h.f).2) hB, owns_down (own_on h.e d (own_at h.e).2) hB, h.n12, h.n13, h.n23⟩
theorem Own.only {B q : Nat} {w w' : World} {g1 k1 g2 k2 g3 k3 : Nat} {S F : List Int} {E : List EdT} (h : Own B w g1 k1 g2 k2 g3 k3 S F E) (o : Only w w' (fun k => k = q)) (hq : g1 ≠ q ∧ g2 ≠ q ∧ g3 ≠ q) : Own B w' g1 k1 g2 k2 g3 k3 S F E :=
  ⟨own_only h.s o hq.1, own_only h.f o hq.2.1, own_only h.e o hq.2.2, h.n12, h.n13, h.n23⟩
theorem Own.rd {B : Nat} {w : World} {g1 k1 g2 k2 g3 k3 : Nat} {S F : List Int} {E : List EdT} (h : Own B w g1 k1 g2 k2 g3 k3 S F E) : RdA w (some ⟨g1, 0, none⟩) (some ⟨g2, 0, none⟩) (some ⟨g3, 0, none⟩) S F E := ⟨rdN_own h.s (List.prefix_refl _), rdN_own h.f (List.prefix_refl _), rdE_own h.e⟩
section
variable {W0 W Wc wa Wd wb F : World} {p q g1 k1 g2 k2 g3 k3 h1 c1 h2 c2 h3 c3 : Nat} {S T : List Int} {E : List EdT} {S' T' : List Int} {E' : List EdT}
/-- Both lie in their boxes. -/
structure Lai (W0 W : World) (p q : Nat) (n m n' m' : Int) (g1 k1 g2 k2 g3 k3 h1 c1 h2 c2 h3 c3 : Nat) (S T : List Int) (E : List EdT) (S' T' : List Int) (E' : List EdT) : Prop where
  bp : W.heap[p]? = some (.cells #[.int .i64 n, .int .i64 m, .slice (some ⟨g1, 0, none⟩) S.length k1, .slice (some ⟨g2, 0, none⟩) T.length k2, .slice (some ⟨g3, 0, none⟩) E.length k3] 25 (0, 0))
  bq : W.heap[q]? = some (.cells #[.int .i64 n', .int .i64 m', .slice (some ⟨h1, 0, none⟩) S'.length c1, .slice (some ⟨h2, 0, none⟩) T'.length c2, .slice (some ⟨h3, 0, none⟩) E'.length c3] 25 (0, 0))
  o1 : Own W0.heap.size W g1 k1 g2 k2 g3 k3 S T E
  o2 : Own W0.heap.size W h1 c1 h2 c2 h3 c3 S' T' E'
  lt : ∃ C, g1 < C ∧ g2 < C ∧ g3 < C ∧ C ≤ h1 ∧ C ≤ h2 ∧ C ≤ h3
  d : Below W0.heap.size W0 W
  lp : W0.heap.size ≤ p ∧ W0.heap.size ≤ q
end
/-! ### What a drawn region's calls and boxes make -/
theorem row_box {W : World} {B g c n p : Nat} {e t : TypeId} {sz : Nat} {xs : List Value} {cs : Array Value} {fr : Nat × Nat} (h : W.ownsRow B e sz (.slice (some ⟨g, 0, none⟩) n c) n xs) (z : W.heap[p]? = some (.cells cs t fr)) (ne : e ≠ t) : g ≠ p := by
  rcases h.2 with ⟨hv, _⟩ | ⟨g', cap', cur, hv, hb, hg, rest⟩
  · cases hv
  · cases hv
    intro e
    subst e
    rw [z] at hg
    injection hg with hg
    injection hg with _ h2 _
    exact ne h2.symm
theorem Own.box {B : Nat} {W : World} {g1 k1 g2 k2 g3 k3 p : Nat} {S T : List Int} {E : List EdT} {cs : Array Value} (o : Own B W g1 k1 g2 k2 g3 k3 S T E) (z : W.heap[p]? = some (.cells cs 25 (0, 0))) : g1 ≠ p ∧ g2 ≠ p ∧ g3 ≠ p := ⟨row_box o.s z (by decide), row_box o.f z (by decide), row_box o.e z (by decide)⟩
end Go.Proofs.YtgnpdhgphkocoaaGreatDoor
