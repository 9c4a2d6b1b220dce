import Derived.Test.YtojnlpicgemlaabGreatDoorSh
import Derived.Test.YtojnlpicgemlaabGreatDoorCf
import Derived.Laws.CopyOwn
import Derived.Sort.OwnSortedInts
namespace Go.Proofs.YtojnlpicgemlaabGreatDoor
open Go.RowKit Go.Maps Go.Shelf Go.Sort
attribute [local go_sem] Oper.semAt_some

/-! ### Numbers in order, each once -/
theorem row_cut {w : World} {B g cap n : Nat} {e : TypeId} {sz : Nat} {xs : List Value} (h : w.ownsRow B e sz (.slice (some ⟨g, 0, none⟩) n cap) n xs) (m : Nat) (hm : m ≤ n) : w.ownsRow B e sz (.slice (some ⟨g, 0, none⟩) m cap) m (xs.take (m * sz)) := by
  have hle : m * sz ≤ n * sz := Nat.mul_le_mul_right _ hm
  refine ⟨by rw [List.length_take, h.1]; omega, ?_⟩
  rcases h.2 with ⟨hv, _⟩ | ⟨g', cap', cur, hv, hb, hg, h1, h2, h3, h4⟩
  · cases hv
  · cases hv
    exact .inr ⟨g, cap, cur, rfl, hb, hg, by omega, h2, h3, by rw [← h4, List.take_take, Nat.min_eq_left hle]⟩
/-- A list of numbers in order. -/
def sortI (L : List Int) : List Int := L.mergeSort fun x y => decide (x ≤ y)
/-- A list's numbers, rising, each once. -/
def riseL (L : List Int) : List Int := Lib.compact (sortI L)
theorem sortI_len (L : List Int) : (sortI L).length = L.length := List.length_mergeSort _
theorem compact_len {α : Type} [DecidableEq α] [Inhabited α] (zs : List α) : (Lib.compact zs).length ≤ zs.length := by
  unfold Lib.compact Lib.compactUpTo
  rw [List.length_map]
  exact Nat.le_trans (List.length_filter_le _ _) (by simp)
theorem ltI_is : (fun x y : Int => !(ltOf Lib.compareInt) y x) = fun x y => decide (x ≤ y) := by
  funext x y
  unfold ltOf
  rcases cmp_pos y x with ⟨h, e⟩ | ⟨h, e⟩ | ⟨h, e⟩ <;> rw [e] <;> simp <;> omega
theorem ltI_iff (x y : Int) : ltOf Lib.compareInt x y = true ↔ x < y := by
  unfold ltOf
  rcases cmp_pos x y with ⟨h, e⟩ | ⟨h, e⟩ | ⟨h, e⟩ <;> rw [e] <;> simp <;> omega
theorem ltI_not (x y : Int) : ltOf Lib.compareInt x y = false ↔ ¬ x < y := by rw [← ltI_iff, Bool.not_eq_true]
theorem swoI : SWO (ltOf Lib.compareInt) where
  irrefl x := by rw [ltI_not]; omega
  trans x y z h1 h2 := by rw [ltI_iff] at *; omega
  ntrans x y z h1 h2 := by rw [ltI_not] at *; omega
theorem row_partsI {w : World} {B g cap n : Nat} {L : List Int} (hn : n = L.length) (hv : w.ownsRow B 3 1 (.slice (some ⟨g, 0, none⟩) n cap) n (L.map (Value.int .i64))) : ∃ cur, B ≤ g ∧ w.heap[g]? = some (.cells cur 3 (0, 0)) ∧ L.length ≤ cap ∧ cap ≤ maxLen ∧ cur.size = cap * 1 ∧ cur.toList.take L.length = L.map (Value.int .i64) := by
  subst hn
  rcases hv.2 with ⟨hv, _⟩ | ⟨g', cap', cur, hv, hb, hg, h1, h2, h3, h4⟩
  · cases hv
  · cases hv
    exact ⟨cur, hb, hg, h1, h2, h3, by rw [← h4, Nat.mul_one]⟩
theorem sortI_any (W : World) (B g cap n : Nat) (L : List Int) (hn : n = L.length) (hv : W.ownsRow B 3 1 (.slice (some ⟨g, 0, none⟩) n cap) n (L.map (Value.int .i64))) (hl : n ≤ 4194304) :
    Calls Tryz.prog 76 #[.slice (some ⟨g, 0, none⟩) n cap, .func (.func 67) #[] #[]] W fun e w' => e = .returned (.tuple #[]) ∧ w'.ownsRow B 3 1 (.slice (some ⟨g, 0, none⟩) n cap) n ((sortI L).map (Value.int .i64)) ∧ W.grownBy w' (some g) := by
  obtain ⟨cur, hB, hb, h1, h2, h3, h4⟩ := row_partsI hn hv
  subst hn
  have hg : g < W.heap.size := (Array.getElem?_eq_some_iff.1 hb).1
  have eg : ∀ args w, (callFunc 67 args).run Tryz.prog w = .ok (.enter 67 args) w := enters_of Tryz.func67 (by kernel_rfl) rfl
  have H := Tryz.slices_SortFunc_total (Value.int .i64) (fun _ => rfl) Lib.compareInt swoI 67 #[] g 0 cap L.toArray W eg
    (fun m os dk _ x y => (cmpi_any x y _).mono fun _ _ ⟨he, hw⟩ => ⟨he, 0, #[], by rw [hw]; simp [grow, World.drewN]⟩) (holds_of_blockI hb h4) hg (by simp; omega) (fun x y a b => by rw [ltI_not] at a b; omega)
  have e1 : L.toArray.size = L.length := by simp
  rw [e1, ltI_is] at H
  refine Calls.mono H ?_
  rintro e w' ⟨rfl, k, os, rfl⟩
  exact ⟨rfl, ownsRow_sortedI (ts := sortI L) (ss := L) (sortI_len L) hB hb h1 h2 h3, grownBy_sortedI _⟩
theorem compactI_any (W : World) (B g cap n : Nat) (L : List Int) (hn : n = L.length) (hv : W.ownsRow B 3 1 (.slice (some ⟨g, 0, none⟩) n cap) n (L.map (Value.int .i64))) (hl : n ≤ 4194304) :
    Calls Tryz.prog 77 #[.slice (some ⟨g, 0, none⟩) n cap] W fun e w' => e = .returned (.slice (some ⟨g, 0, none⟩) (Lib.compact L).length cap) ∧ w'.ownsRow B 3 1 (.slice (some ⟨g, 0, none⟩) (Lib.compact L).length cap) (Lib.compact L).length ((Lib.compact L).map (Value.int .i64)) ∧ W.grownBy w' (some g) := by
  obtain ⟨cur, hB, hb, h1, h2, h3, h4⟩ := row_partsI hn hv
  subst hn
  refine (Tryz.slices_Compact_int g 0 cap L W (holds_of_blockI hb h4) (by omega) h1).mono ?_
  rintro e w' ⟨rfl, q, hw⟩
  have hc := compact_len L
  have hlen : (Lib.compact L ++ List.replicate (L.length - (Lib.compact L).length) 0).length = L.length := by
    rw [List.length_append, List.length_replicate]; omega
  have g0 : ∀ W : World, grow W #[] = W := fun W => by simp [grow]
  rw [← g0 (putRow _ _ _ _ _)] at hw
  have hrow := ownsRow_sortedI (n := q) (os := #[]) hlen hB hb h1 h2 h3
  rw [← hw] at hrow
  have hr := row_cut hrow _ hc
  rw [Nat.mul_one, List.map_append, List.take_left' (by simp)] at hr
  exact ⟨rfl, hr, by rw [hw]; exact grownBy_sortedI _⟩
set_option maxRecDepth 100000 in
set_option maxHeartbeats 1000000 in
theorem orderedI_any (w : World) (ao : Option Addr) (c : Nat) (L : List Int) (hA : Hid (RdN w ao L)) (hl : L.length ≤ 4194304) :
    Calls Tryz.prog 66 #[.slice ao L.length c, .func (.func 67) #[] #[]] w fun e w' => ∃ g' c', e = .returned (.slice (some ⟨g', 0, none⟩) (riseL L).length c') ∧ w'.ownsRow w.heap.size 3 1 (.slice (some ⟨g', 0, none⟩) (riseL L).length c') (riseL L).length ((riseL L).map (Value.int .i64)) ∧ Below w.heap.size w w' := by
  obtain ⟨i9, hi9, hz90, hz91, hz92⟩ := info_parts info3
  obtain ⟨m, hm⟩ : ∃ m, m = L.length := ⟨_, rfl⟩
  have HL := hide hm
  rw [← hm]
  rw [← hm] at hl
  clear hm
  go_enter Tryz.func66, Tryz.ntmps66
  go_wp2_with (at_make; refine wpList_make_full _ rfl _ _ 22 rfl w.heap.size 3 i9 (.int .i64 0) 1 Tryz.underlying22 hi9 hz90 hz91 _ _ _ _ m rfl rfl (by go_num) (by go_num) (by rw [hz92]; omega) (by unfold maxLen; omega) (Nat.le_refl _) ?_)
  intro w1 ho hg
  have D1 : Below w.heap.size w w1 := (Below.refl _ _).grown hg (Nat.le_refl _) (by intro k hk; cases hk)
  have hxy : ∃ cur : List Value, w1.heap[w.heap.size]? = some (.cells cur.toArray 3 (0, 0)) ∧ cur.length = m := by
    rcases ho.2 with ⟨hv, _⟩ | ⟨g', cap', cur, hv, hb, hg, h1, h2, h3, h4⟩
    · cases hv
    · cases hv
      exact ⟨cur.toList, by simpa using hg, by simpa using h3⟩
  obtain ⟨cur, hcur, hcl⟩ := hxy
  obtain ⟨X, hX⟩ : ∃ X, X = L.map (Value.int .i64) := ⟨_, rfl⟩
  have hXl : X.length = m := by rw [hX, List.length_map, HL.out]
  have HX := hide (And.intro hX hXl)
  have HC := hide (And.intro hcur (And.intro hcl D1))
  clear ho hg D1 hcur hcl hX hXl
  go_wp2_with (refine wpList_copy_splice rfl (.tmp 9) (.tmp 10) 22 22 rfl 3 Tryz.underlying22 (by rw [hi9]; simp [hz91]) _ _ _ _ _ _ rfl rfl w.heap.size 0 cur 3 HC.out.1 X (by rw [HX.out.2]; exact (Nat.min_self m).symm) ?_ (by rw [HX.out.2, HC.out.2.1]; omega) ?_ w.heap.size w HC.out.2.2 (Nat.le_refl _) ?_)
  · intro hp
    have h0 : 0 < L.length := by rw [← HL.out, ← HX.out.2]; exact hp
    obtain ⟨g, o, rfl, _⟩ := hA.out 0 h0
    refine ⟨_, rfl, fun j v hv => ?_⟩
    rw [HX.out.1, List.getElem?_map] at hv
    obtain ⟨x, hx, rfl⟩ := Option.map_eq_some_iff.1 hv
    obtain ⟨hj, rfl⟩ := List.getElem?_eq_some_iff.1 hx
    obtain ⟨g', o', e, c0⟩ := (hA.out.on HC.out.2.2) j hj
    cases e
    have ea : Addr.add ⟨g, o, none⟩ j = ⟨g, o + j, none⟩ := by
      unfold Addr.add
      by_cases q : j = 0
      · subst q; simp
      · simp [q]
    rw [ea]
    exact c0
  · intro v hv
    rw [HX.out.1] at hv
    obtain ⟨x, _, rfl⟩ := List.mem_map.1 hv
    rfl
  intro w2 HG2 d2
  have hr2 : w2.ownsRow w.heap.size 3 1 (.slice (some ⟨w.heap.size, 0, none⟩) m m) m (L.map (Value.int .i64)) := by
    have e : splice cur 0 X = L.map (Value.int .i64) := by
      unfold splice
      rw [List.take_zero, List.drop_eq_nil_of_le (by rw [HX.out.2, HC.out.2.1]; omega), List.nil_append, List.append_nil, HX.out.1]
    have hg := HG2.out
    rw [e] at hg
    exact ⟨by rw [List.length_map, ← HL.out]; omega, .inr ⟨_, m, _, rfl, Nat.le_refl _, hg, Nat.le_refl _, by unfold maxLen; omega, by simp [← HL.out], List.take_of_length_le (by simp [← HL.out])⟩⟩
  have HR := hide (And.intro hr2 d2)
  clear hr2 d2 HG2 HC
  go_wp2_with (go_at_call 76; refine (sortI_any _ w.heap.size w.heap.size m m L HL.out (by exact HR.out.1) hl).mono ?_; rintro e w3 ⟨rfl, hr3, hg3⟩)
  have HS := hide (And.intro hr3 (HR.out.2.grown hg3 HR.out.2.size (fun k hk => by cases hk; exact Nat.le_refl _)))
  clear hr3 hg3
  go_wp2_with (go_at_call 77; refine (compactI_any _ w.heap.size w.heap.size m m (sortI L) (by rw [sortI_len]; exact HL.out) (by exact HS.out.1) hl).mono ?_; rintro e w4 ⟨rfl, hr4, hg4⟩)
  go_ret
  exact ⟨_, _, rfl, hr4, HS.out.2.grown hg4 HS.out.2.size (fun k hk => by cases hk; exact Nat.le_refl _)⟩
end Go.Proofs.YtojnlpicgemlaabGreatDoor
namespace Go.Proofs.YtojnlpicgemlaabGreatDoor
open Go.RowKit Go.Maps Go.Shelf Go.Sort
attribute [local go_sem] Oper.semAt_some

/-! ### Edges in order, each once -/
theorem info59 : (Tryz.prog.info? 35).map (fun i => (i.zero, i.size, i.bytes)) = some (some (.agg #[.int .i64 0, .int .i64 0, .int .i64 0]), 3, 24) := by kernel_rfl
theorem run_copyE (w : World) (ty : TypeId) (g m dCap : Nat) (ao : Option Addr) (sCap : Nat) (L : List EdT) (hL : m = L.length) (cur : Array Value) (hg : w.heap[g]? = some (.cells cur 35 (0, 0))) (hcs : cur.size = m * 3) (hr : RdE w ao L) :
    (Builtin.copy_ #[23, 23] ty #[.slice (some ⟨g, 0, none⟩) m dCap, .slice ao m sCap]).run Tryz.prog w = .ok (goInt m) (w.setRow g (L.flatMap encE).toArray) := by
  obtain ⟨i5, hi5, _, hz51, _⟩ := info_parts info59
  have hm : Nat.min m m = m := Nat.min_self m
  have hfl : (L.flatMap encE).length = m * 3 := by rw [encE_flat, hL]
  have hst := run_storeCells_at Tryz.prog g 0 35 (L.flatMap encE) 0 cur w hg (by rw [hfl]; omega) (encE_one L)
  rw [hfl, Nat.zero_add, Nat.zero_add, List.take_zero, List.nil_append, List.drop_eq_nil_of_le (by simp [hcs]), List.append_nil] at hst
  by_cases h0 : L = []
  · subst h0
    obtain rfl : m = 0 := hL
    have hl : ∀ (x : Addr), (loadCells x 0).run Tryz.prog w = .ok #[] w := fun x => by simpa using run_loadCells_list (P := Tryz.prog) w x [] (by simp)
    obtain rfl : cur = #[] := Array.eq_empty_of_size_eq_zero (by omega)
    rw [show w.setRow g (([] : List EdT).flatMap encE).toArray = w from setRow_self w g #[] 35 (0, 0) hg]
    cases ao <;> simp [Builtin.copy_, run_underlying Tryz.underlying23, Builtin.lenOf, Builtin.firstCells, sizeOf, typeInfo, hi5, storeCells, hl]
  · obtain ⟨a, o, rfl, _⟩ := hr 0 (List.length_pos_iff.2 h0)
    have hl := run_loadCells_list (P := Tryz.prog) w ⟨a, o, none⟩ (L.flatMap encE) (fun j v hv => by
      have ea : Addr.add ⟨a, o, none⟩ j = ⟨a, o + j, none⟩ := by
        unfold Addr.add
        by_cases q : j = 0
        · subst q; simp
        · simp [q]
      rw [ea]
      exact edges_at hr j v hv)
    rw [hfl] at hl
    simp [Builtin.copy_, run_underlying Tryz.underlying23, Builtin.lenOf, Builtin.firstCells, sizeOf, typeInfo, hi5, hz51, hl, hst]
theorem wpList_copyE {w : World} {ops : Array Oper} {rest : List Oper} {o : Oper} {a : Act} {Q : Exit → Act → World → Prop} (hgd : o.guard = none) (d s : Operand)
    (ho : o.op = .call { callee := .builtin .copy, args := #[d, s], argTypes := #[23, 23] }) (g m dCap : Nat) (ao : Option Addr) (sCap : Nat) (L : List EdT) (hd : a.eval d = .slice (some ⟨g, 0, none⟩) m dCap) (hs : a.eval s = .slice ao m sCap) (hL : m = L.length)
    (cur : Array Value) (hg : w.heap[g]? = some (.cells cur 35 (0, 0))) (hcs : cur.size = m * 3) (hr : RdE w ao L) (B : Nat) (w0 : World) (hb : Below B w0 w) (hBg : B ≤ g)
    (h : ∀ w', Hid (w'.heap[g]? = some (.cells (L.flatMap encE).toArray 35 (0, 0)) ∧ Below B w0 w') → wpList Tryz.prog ops Q rest (a.put o.dst (goInt m)) w') : wpList Tryz.prog ops Q (o :: rest) a w := by
  refine wpList_plain hgd fun K hK => ?_
  have hrun := run_copyE w o.type g m dCap ao sCap L hL cur hg hcs hr
  unfold Oper.wp
  simp [execOp, ho, resolve, invoke, builtin, hd, hs, hrun, Result.andThen]
  exact hK _ _ (h _ (hide ⟨setRow_heap w g _ _ 35 _ hg, below_setRow hb hBg _⟩))
/-- A list's edges in order, each once. -/
def riseE (L : List EdT) : List EdT := Lib.compact (sortE L)
theorem row_ofRd {w : World} {B g cap : Nat} {f : Nat → Value} {K : List EdT} (hM : Mrw w g 35 (cap * 3) f (cap * 3)) (hr : RdE w (some ⟨g, 0, none⟩) K) (hk : K.length ≤ cap) (hc : cap ≤ maxLen) (hB : B ≤ g) : w.ownsRow B 35 3 (.slice (some ⟨g, 0, none⟩) K.length cap) K.length (K.flatMap encE) := by
  obtain ⟨cur, hg, hz, _⟩ := hM
  refine ⟨encE_flat K, .inr ⟨g, cap, cur, rfl, hB, hg, hk, hc, hz, ?_⟩⟩
  have hfl := encE_flat K
  have hle : K.length * 3 ≤ cap * 3 := Nat.mul_le_mul_right _ hk
  apply List.ext_getElem?
  intro j
  by_cases hj : j < K.length * 3
  · rw [List.getElem?_take_of_lt hj, List.getElem?_eq_getElem (by omega : j < (K.flatMap encE).length)]
    have c := edges_at hr j _ (List.getElem?_eq_getElem (by omega : j < (K.flatMap encE).length))
    rw [Nat.zero_add] at c
    have hjc : j < cur.size := by omega
    have e := cell_of hg (Array.getElem?_eq_getElem hjc)
    rw [e] at c
    rw [Array.getElem?_toList, Array.getElem?_eq_getElem hjc, Option.some.inj c]
  · rw [List.getElem?_take_eq_none (by omega), List.getElem?_eq_none (by omega)]
theorem compactE_own (w : World) (B g cap n : Nat) (L : List EdT) (hn : n = L.length) (hv : w.ownsRow B 35 3 (.slice (some ⟨g, 0, none⟩) n cap) L.length (L.flatMap encE)) (hl : n ≤ 4194304) :
    Calls Tryz.prog 80 #[.slice (some ⟨g, 0, none⟩) n cap] w fun e w' => e = .returned (.slice (some ⟨g, 0, none⟩) (Lib.compact L).length cap) ∧ w'.ownsRow B 35 3 (.slice (some ⟨g, 0, none⟩) (Lib.compact L).length cap) (Lib.compact L).length ((Lib.compact L).flatMap encE) ∧ Only w w' (fun k => k = g) := by
  subst hn
  have hmax : cap ≤ maxLen ∧ B ≤ g := by
    rcases hv.2 with ⟨hv, _⟩ | ⟨g', cap', cur, hv, hb, hg, h1, h2, h3, h4⟩
    · cases hv
    · cases hv; exact ⟨h2, hb⟩
  rcases row_block hv rfl with ⟨hq, _⟩ | ⟨g', cap', f, hq, hc, _, hM, hF⟩
  · cases hq
  · cases hq
    refine (compactA w g cap L.length L.toArray (hide (by simp)) f (hide hM) (hide hF) hc hl).mono ?_
    rintro e w' ⟨rfl, hr, ho, f', hM'⟩
    have e0 : Lib.compactUpTo L.toArray L.length = Lib.compact L := by simp [Lib.compact]
    rw [e0] at hr ⊢
    exact ⟨rfl, row_ofRd hM' hr (Nat.le_trans (compact_len L) hc) hmax.1 hmax.2, ho⟩
set_option maxRecDepth 100000 in
set_option maxHeartbeats 1000000 in
theorem orderedE_any (w : World) (ao : Option Addr) (c : Nat) (L : List EdT) (hA : Hid (RdE w ao L)) (hl : L.length ≤ 4194304) :
    Calls Tryz.prog 68 #[.slice ao L.length c, .func (.func 69) #[] #[]] w fun e w' => ∃ g' c', e = .returned (.slice (some ⟨g', 0, none⟩) (riseE L).length c') ∧ w'.ownsRow w.heap.size 35 3 (.slice (some ⟨g', 0, none⟩) (riseE L).length c') (riseE L).length ((riseE L).flatMap encE) ∧ Below w.heap.size w w' := by
  obtain ⟨i5, hi5, hz50, hz51, hz52⟩ := info_parts info59
  obtain ⟨m, hm⟩ : ∃ m, m = L.length := ⟨_, rfl⟩
  have HL := hide hm
  rw [← hm]
  rw [← hm] at hl
  clear hm
  go_enter Tryz.func68, Tryz.ntmps68
  go_wp2_with (at_make; refine wpList_make_full _ rfl _ _ 23 rfl w.heap.size 35 i5 (.agg #[.int .i64 0, .int .i64 0, .int .i64 0]) 3 Tryz.underlying23 hi5 hz50 hz51 _ _ _ _ m rfl rfl (by go_num) (by go_num) (by rw [hz52]; omega) (by unfold maxLen; omega) (Nat.le_refl _) ?_)
  intro w1 ho hg
  have D1 : Below w.heap.size w w1 := (Below.refl _ _).grown hg (Nat.le_refl _) (by intro k hk; cases hk)
  have hxy : ∃ cur, w1.heap[w.heap.size]? = some (.cells cur 35 (0, 0)) ∧ cur.size = m * 3 := by
    rcases ho.2 with ⟨hv, _⟩ | ⟨g', cap', cur, hv, hb, hg, h1, h2, h3, h4⟩
    · cases hv
    · cases hv
      exact ⟨cur, hg, h3⟩
  obtain ⟨cur, hcur, hcl⟩ := hxy
  have HC := hide (And.intro hcur (And.intro hcl D1))
  clear ho hg D1 hcur hcl
  go_wp2_with (refine wpList_copyE rfl (.tmp 9) (.tmp 10) rfl w.heap.size m m ao c L rfl rfl HL.out cur HC.out.1 HC.out.2.1 (hA.out.on HC.out.2.2) w.heap.size w HC.out.2.2 (Nat.le_refl _) ?_)
  intro w2 HG2
  have hr2 : w2.ownsRow w.heap.size 35 3 (.slice (some ⟨w.heap.size, 0, none⟩) m m) L.length (L.flatMap encE) := by
    have hfl := encE_flat L
    rw [← HL.out] at hfl ⊢
    exact ⟨hfl, .inr ⟨_, m, _, rfl, Nat.le_refl _, HG2.out.1, Nat.le_refl _, by unfold maxLen; omega, by simpa using hfl, List.take_of_length_le (by simpa using Nat.le_of_eq hfl)⟩⟩
  have HR := hide (And.intro hr2 HG2.out.2)
  clear hr2 HG2 HC
  have hl2 : L.length ≤ 4194304 := by rw [← HL.out]; exact hl
  go_wp2_with (go_at_call 79; refine (sortE_any _ w.heap.size _ L (by exact HR.out.1) (by rw [← HL.out]; exact hl)).mono ?_; rintro e w3 ⟨rfl, hr3, hg3⟩)
  have HS := hide (And.intro hr3 (HR.out.2.trans (hg3.toBelow HR.out.2.size (fun k hk => by cases hk; exact Nat.le_refl _))))
  clear hr3 hg3
  refine (compactE_own w3 w.heap.size w.heap.size m m (sortE L) (by rw [sortE_len]; exact HL.out) (by rw [sortE_len]; exact HS.out.1) hl).mono ?_
  rintro e w4 ⟨rfl, hr4, ho4⟩
  have HT := hide (And.intro hr4 (HS.out.2.trans (ho4.toBelow HS.out.2.size (fun k hk => Nat.le_of_eq hk.symm))))
  clear hr4 ho4
  go_wp2_with fail
  go_ret
  exact ⟨_, _, rfl, HT.out⟩
set_option maxRecDepth 100000 in
theorem states_any (w : World) (ao : Option Addr) (c : Nat) (L : List Int) (hA : Hid (RdN w ao L)) (hl : L.length ≤ 4194304) :
    Calls Tryz.prog 49 #[.slice ao L.length c] w fun e w' => ∃ g' c', e = .returned (.slice (some ⟨g', 0, none⟩) (riseL L).length c') ∧ w'.ownsRow w.heap.size 3 1 (.slice (some ⟨g', 0, none⟩) (riseL L).length c') (riseL L).length ((riseL L).map (Value.int .i64)) ∧ Below w.heap.size w w' := by
  have T := orderedI_any w ao c L hA hl
  go_enter Tryz.func49, Tryz.ntmps49
  go_wp2_with (go_at_call 66; refine T.mono ?_; rintro e w1 ⟨g', c', rfl, hr, d⟩)
  go_ret
  exact ⟨_, _, rfl, hr, d⟩
set_option maxRecDepth 100000 in
theorem edges_any (w : World) (ao : Option Addr) (c : Nat) (L : List EdT) (hA : Hid (RdE w ao L)) (hl : L.length ≤ 4194304) :
    Calls Tryz.prog 50 #[.slice ao L.length c] w fun e w' => ∃ g' c', e = .returned (.slice (some ⟨g', 0, none⟩) (riseE L).length c') ∧ w'.ownsRow w.heap.size 35 3 (.slice (some ⟨g', 0, none⟩) (riseE L).length c') (riseE L).length ((riseE L).flatMap encE) ∧ Below w.heap.size w w' := by
  have T := orderedE_any w ao c L hA hl
  go_enter Tryz.func50, Tryz.ntmps50
  go_wp2_with (go_at_call 68; refine T.mono ?_; rintro e w1 ⟨g', c', rfl, hr, d⟩)
  go_ret
  exact ⟨_, _, rfl, hr, d⟩
end Go.Proofs.YtojnlpicgemlaabGreatDoor
