import Derived.Test.YtmagchclmmphaabGreatDoorAT
namespace Go.Proofs.YtmagchclmmphaabGreatDoor
open Go.RowKit Go.Maps
attribute [local go_sem] Oper.semAt_some

/-! ### Rows of edges -/
theorem flatE_len (X : List EdT) : (X.flatMap encE).length = X.length * 3 := by
  induction X with
  | nil => rfl
  | cons x X ih => rw [List.flatMap_cons, List.length_append, ih, encE_len, List.length_cons]; omega
theorem flatE_at (X : List EdT) (t : Nat) (h : t / 3 < X.length) : (X.flatMap encE)[t]? = (encE X[t / 3])[t % 3]? := by
  have := flat_get encE 3 encE_len X (t / 3) (t % 3) h (by omega)
  rwa [show t / 3 * 3 + t % 3 = t by omega] at this
theorem flatE_none (X : List EdT) (t : Nat) (h : ¬ t / 3 < X.length) : (X.flatMap encE)[t]? = none := List.getElem?_eq_none (by rw [flatE_len]; omega)
/-- An edge is written into a row. -/
theorem rowE_set {W : World} {B b n cap : Nat} {X : List EdT} (h : W.ownsRow B 64 3 (.slice (some ⟨b, 0, none⟩) n cap) X.length (X.flatMap encE)) (j : Nat) (x : EdT) (hj : j < X.length) :
    (((W.setCell ⟨b, j * 3, none⟩ (.int .i64 x.1)).setCell ⟨b, j * 3 + 1, none⟩ (.int .i64 x.2.1)).setCell ⟨b, j * 3 + 2, none⟩ (.int .i64 x.2.2)).ownsRow B 64 3 (.slice (some ⟨b, 0, none⟩) n cap) (X.set j x).length ((X.set j x).flatMap encE) := by
  refine ⟨by rw [flatE_len], ?_⟩
  rcases h.2 with ⟨z, _⟩ | ⟨g, cap', cur, e, hb, hg, hn, hc, hs, ht⟩
  · cases z
  · cases e
    refine .inr ⟨b, cap, _, by rw [List.length_set], hb, heap_setCell_same _ _ _ _ 64 _ (heap_setCell_same _ _ _ _ 64 _ (heap_setCell_same _ _ _ _ 64 _ hg)), by rw [List.length_set]; exact hn, hc, by simpa using hs, ?_⟩
    rw [List.length_set]
    apply List.ext_getElem?
    intro t
    have hcz : X.length * 3 ≤ cur.size := by rw [hs]; exact Nat.mul_le_mul_right 3 hn
    by_cases hq : t / 3 < X.length
    · have htl : t < X.length * 3 := by omega
      rw [List.getElem?_take_of_lt htl, flatE_at _ t (by rw [List.length_set]; exact hq), List.getElem_set, Array.getElem?_toList]
      simp only [Array.getElem?_setIfInBounds, Array.size_setIfInBounds]
      by_cases hjq : j = t / 3
      · rw [if_pos hjq]
        have : t = j * 3 ∨ t = j * 3 + 1 ∨ t = j * 3 + 2 := by omega
        rcases this with rfl | rfl | rfl
        · rw [if_neg (by omega), if_neg (by omega), if_pos rfl, if_pos (by omega), show j * 3 % 3 = 0 by omega]; rfl
        · rw [if_neg (by omega), if_pos rfl, if_pos (by omega), show (j * 3 + 1) % 3 = 1 by omega]; rfl
        · rw [if_pos rfl, if_pos (by omega), show (j * 3 + 2) % 3 = 2 by omega]; rfl
      · rw [if_neg hjq, if_neg (by omega), if_neg (by omega), if_neg (by omega), ← flatE_at X t hq, ← ht, List.getElem?_take_of_lt htl, Array.getElem?_toList]
    · rw [flatE_none _ t (by rw [List.length_set]; exact hq), List.getElem?_take_eq_none (by omega)]
/-- Edges as they lie. -/
def RdE (W : World) (ao : Option Addr) (L : List EdT) : Prop := ∀ (j : Nat) (h : j < L.length), ∃ g o, ao = some ⟨g, o, none⟩ ∧ W.cell? ⟨g, o + j * 3, none⟩ = some (.int .i64 L[j].1) ∧ W.cell? ⟨g, o + j * 3 + 1, none⟩ = some (.int .i64 L[j].2.1) ∧ W.cell? ⟨g, o + j * 3 + 2, none⟩ = some (.int .i64 L[j].2.2)
theorem RdE.on {W W' : World} {ao : Option Addr} {L : List EdT} (h : RdE W ao L) (d : Below W.heap.size W W') : RdE W' ao L := fun j hj => by
  obtain ⟨g, o, e, c, c1, c2⟩ := h j hj
  exact ⟨g, o, e, (d.cell (p := ⟨g, o + j * 3, none⟩) (World.block_lt_of_cell? W _ c)).trans c, (d.cell (p := ⟨g, o + j * 3 + 1, none⟩) (World.block_lt_of_cell? W _ c1)).trans c1, (d.cell (p := ⟨g, o + j * 3 + 2, none⟩) (World.block_lt_of_cell? W _ c2)).trans c2⟩
theorem rdE_cells {W : World} {B b cap : Nat} {X : List EdT} (h : W.ownsRow B 64 3 (.slice (some ⟨b, 0, none⟩) X.length cap) X.length (X.flatMap encE)) (j : Nat) (hj : j < X.length) : W.cell? ⟨b, j * 3, none⟩ = some (.int .i64 X[j].1) ∧ W.cell? ⟨b, j * 3 + 1, none⟩ = some (.int .i64 X[j].2.1) ∧ W.cell? ⟨b, j * 3 + 2, none⟩ = some (.int .i64 X[j].2.2) := by
  have hn : ∀ r, r < 3 → W.cell? ⟨b, j * 3 + r, none⟩ = (encE X[j])[r]? := fun r hr => by
    have c := h.cellAt (j * 3 + r) (show j * 3 + r < X.length * 3 by omega)
    rw [c, flat_get encE 3 encE_len X j r hj hr]
  exact ⟨hn 0 (by omega), hn 1 (by omega), hn 2 (by omega)⟩
theorem rdE_of {W : World} {B : Nat} {v : Value} {X : List EdT} (h : W.ownsRow B 64 3 v X.length (X.flatMap encE)) : ∃ ao cap, v = .slice ao X.length cap ∧ RdE W ao X := by
  obtain ⟨ao, cap, rfl⟩ := rowForm h
  refine ⟨ao, cap, rfl, fun j hj => ?_⟩
  rcases h.2 with ⟨z, h0⟩ | ⟨g, cap', cur, e, _⟩
  · omega
  · cases e
    obtain ⟨q0, q1, q2⟩ := rdE_cells h j hj
    exact ⟨g, 0, rfl, by rwa [Nat.zero_add], by rwa [Nat.zero_add], by rwa [Nat.zero_add]⟩
set_option maxRecDepth 100000 in
set_option maxHeartbeats 1000000 in
/-- Which of two edges is less. -/
theorem less_any (x y : EdT) (w : World) : Calls Tryz.prog 84 #[.agg #[.int .i64 x.1, .int .i64 x.2.1, .int .i64 x.2.2], .agg #[.int .i64 y.1, .int .i64 y.2.1, .int .i64 y.2.2]] w fun e w' => e = .returned (.bool (ltE x y)) ∧ Below w.heap.size w w' := by
  have HB := hide (show Below w.heap.size w ((w.alloc (.cells #[.int .i64 x.1, .int .i64 x.2.1, .int .i64 x.2.2] 64)).alloc (.cells #[.int .i64 y.1, .int .i64 y.2.1, .int .i64 y.2.2] 64)) from ((Below.refl _ _).alloc (Nat.le_refl _) _).alloc (by simp) _)
  obtain ⟨x0, x1, x2⟩ := x
  obtain ⟨y0, y1, y2⟩ := y
  have HL : Hid (ltE (x0, x1, x2) (y0, y1, y2) = decide (x0 < y0 ∨ (x0 = y0 ∧ (x1 < y1 ∨ (x1 = y1 ∧ x2 < y2))))) := hide rfl
  simp only at HB ⊢
  by_cases h0 : x0 = y0
  · by_cases h1 : x1 = y1
    · have HE : Hid (ltE (x0, x1, x2) (y0, y1, y2) = decide (x2 < y2)) := hide (by rw [HL.out, decide_eq_decide]; omega)
      subst h0 h1
      go_enter Tryz.func84, Tryz.ntmps84
      go_wp2
      go_ret
      exact ⟨by rw [HE.out]; rfl, HB.out⟩
    · have HE : Hid (ltE (x0, x1, x2) (y0, y1, y2) = decide (x1 < y1)) := hide (by rw [HL.out, decide_eq_decide]; omega)
      subst h0
      go_enter Tryz.func84, Tryz.ntmps84
      go_wp2
      go_ret
      exact ⟨by rw [HE.out]; rfl, HB.out⟩
  · have HE : Hid (ltE (x0, x1, x2) (y0, y1, y2) = decide (x0 < y0)) := hide (by rw [HL.out, decide_eq_decide]; omega)
    go_enter Tryz.func84, Tryz.ntmps84
    go_wp2
    go_ret
    exact ⟨by rw [HE.out]; rfl, HB.out⟩
end Go.Proofs.YtmagchclmmphaabGreatDoor
namespace Go.Proofs.YtmagchclmmphaabGreatDoor
open Go.RowKit Go.Maps
attribute [local go_sem] Oper.semAt_some

/-! ### Edges in order, each once, as the document lays them -/
def SsE (l : List EdT) : Prop := l.Pairwise fun a b => ltE a b = true
theorem ltE_tr {a b c : EdT} (h : ltE a b = true) (k : ltE b c = true) : ltE a c = true := swoE.trans a b c h k
/-- What is known of the place at which an edge belongs. -/
structure AtK (out : List EdT) (x : EdT) (k : Nat) : Prop where
  le : k ≤ out.length
  up : ∀ j (h : j < out.length), k ≤ j → ltE x out[j] = true
/-- Is the edge ahead of the place yet greater? -/
def goK (out : List EdT) (x : EdT) (k : Nat) : Bool := decide (0 < k) && ltE x (out[k - 1]?.getD (0, 0, 0))
def eqK (out : List EdT) (x : EdT) (k : Nat) : Bool := decide (0 < k) && decide (out[k - 1]?.getD (0, 0, 0) = x)
theorem AtK.next {out : List EdT} {x : EdT} {k : Nat} (h : AtK out x k) (hg : goK out x k = true) : AtK out x (k - 1) := by
  unfold goK at hg
  simp only [Bool.and_eq_true, decide_eq_true_eq] at hg
  have hl := h.le
  refine ⟨by omega, fun j hj hk => ?_⟩
  by_cases e : j = k - 1
  · subst e
    have := hg.2
    rwa [List.getElem?_eq_getElem hj] at this
  · exact h.up j hj (by omega)
theorem AtK.there {out : List EdT} {x : EdT} {k : Nat} (h : AtK out x k) (he : eqK out x k = true) : x ∈ out := by
  unfold eqK at he
  simp only [Bool.and_eq_true, decide_eq_true_eq] at he
  have hl := h.le
  have hj : k - 1 < out.length := by omega
  rw [List.getElem?_eq_getElem hj] at he
  rw [← he.2]
  exact List.getElem_mem hj
theorem AtK.put {out : List EdT} {x : EdT} {k : Nat} (h : AtK out x k) (hs : SsE out) (hg : goK out x k = false) (he : eqK out x k = false) : SsE (out.take k ++ x :: out.drop k) := by
  have hlow : ∀ a ∈ out.take k, ltE a x = true := by
    intro a ha
    obtain ⟨i, hi, rfl⟩ := List.mem_iff_getElem.1 ha
    have hi2 := hi
    rw [List.length_take] at hi2
    have hle := h.le
    rw [List.getElem_take]
    have hk : 0 < k := by omega
    have hj : k - 1 < out.length := by omega
    unfold goK at hg
    unfold eqK at he
    rw [List.getElem?_eq_getElem hj, decide_eq_true hk] at hg he
    simp only [Option.getD_some, Bool.true_and, decide_eq_false_iff_not] at hg he
    have hl : ltE out[k - 1] x = true := by
      cases hc : ltE out[k - 1] x with
      | true => rfl
      | false => exact absurd (totE _ _ hc hg) he
    by_cases e : i = k - 1
    · subst e; exact hl
    · exact ltE_tr (List.pairwise_iff_getElem.1 hs i (k - 1) (by omega) hj (by omega)) hl
  have hup : ∀ a ∈ out.drop k, ltE x a = true := by
    intro a ha
    obtain ⟨i, hi, rfl⟩ := List.mem_iff_getElem.1 ha
    have hi2 := hi
    rw [List.length_drop] at hi2
    rw [List.getElem_drop]
    exact h.up (k + i) (by omega) (by omega)
  unfold SsE
  rw [List.pairwise_append, List.pairwise_cons]
  refine ⟨List.Pairwise.sublist (List.take_sublist _ _) hs, ⟨hup, List.Pairwise.sublist (List.drop_sublist _ _) hs⟩, fun a ha b hb => ?_⟩
  rcases List.mem_cons.1 hb with rfl | hb
  · exact hlow a ha
  · exact ltE_tr (hlow a ha) (hup b hb)
theorem put_mem {out : List EdT} {x y : EdT} {k : Nat} : y ∈ out.take k ++ x :: out.drop k ↔ y ∈ out ∨ y = x := by
  conv => rhs; rw [← List.take_append_drop k out]
  simp only [List.mem_append, List.mem_cons]
  constructor
  · rintro (h | h | h)
    · exact .inl (.inl h)
    · exact .inr h
    · exact .inl (.inr h)
  · rintro ((h | h) | h)
    · exact .inl h
    · exact .inr (.inr h)
    · exact .inr (.inl h)
/-- While the room is made. -/
def shE (out : List EdT) (x : EdT) (j : Nat) : List EdT := (out ++ [x]).take (j + 1) ++ out.drop j
theorem shE_len (out : List EdT) (x : EdT) (j : Nat) (h : j ≤ out.length) : (shE out x j).length = out.length + 1 := by
  unfold shE
  rw [List.length_append, List.length_take, List.length_append, List.length_drop, List.length_singleton]
  omega
theorem shE_start (out : List EdT) (x : EdT) : shE out x out.length = out ++ [x] := by
  unfold shE
  rw [List.take_of_length_le (by simp), List.drop_length, List.append_nil]
theorem shE_at (out : List EdT) (x : EdT) (j : Nat) (h0 : 0 < j) (h : j ≤ out.length) : (shE out x j)[j - 1]? = out[j - 1]? := by
  unfold shE
  rw [List.getElem?_append_left (by rw [List.length_take, List.length_append, List.length_singleton]; omega), List.getElem?_take_of_lt (by omega), List.getElem?_append_left (by omega)]
theorem shE_next (out : List EdT) (x : EdT) (j : Nat) (h0 : 0 < j) (h : j ≤ out.length) : (shE out x j).set j (out[j - 1]'(by omega)) = shE out x (j - 1) := by
  apply List.ext_getElem?
  intro t
  have hl := shE_len out x j h
  rw [List.getElem?_set]
  unfold shE at hl ⊢
  by_cases e : j = t
  · subst e
    rw [if_pos rfl, if_pos (by omega), List.getElem?_append_right (by rw [List.length_take, List.length_append, List.length_singleton]; omega), List.length_take, List.length_append, List.length_singleton, List.getElem?_drop]
    rw [List.getElem?_eq_getElem (by omega)]
    congr 2
    omega
  · rw [if_neg e]
    by_cases ht : t < j
    · rw [List.getElem?_append_left (by rw [List.length_take, List.length_append, List.length_singleton]; omega), List.getElem?_append_left (by rw [List.length_take, List.length_append, List.length_singleton]; omega), List.getElem?_take_of_lt (by omega), List.getElem?_take_of_lt (by omega)]
    · rw [List.getElem?_append_right (by rw [List.length_take, List.length_append, List.length_singleton]; omega), List.getElem?_append_right (by rw [List.length_take, List.length_append, List.length_singleton]; omega), List.length_take, List.length_take, List.length_append, List.length_singleton, List.getElem?_drop, List.getElem?_drop]
      congr 1
      omega
theorem shE_end (out : List EdT) (x : EdT) (k : Nat) (h : k ≤ out.length) : (shE out x k).set k x = out.take k ++ x :: out.drop k := by
  apply List.ext_getElem?
  intro t
  have hl := shE_len out x k h
  rw [List.getElem?_set]
  unfold shE at hl ⊢
  by_cases e : k = t
  · subst e
    rw [if_pos rfl, if_pos (by omega), List.getElem?_append_right (by rw [List.length_take]; omega), List.length_take, show k - min k out.length = 0 by omega]
    rfl
  · rw [if_neg e]
    by_cases ht : t < k
    · rw [List.getElem?_append_left (by rw [List.length_take, List.length_append, List.length_singleton]; omega), List.getElem?_append_left (by rw [List.length_take]; omega), List.getElem?_take_of_lt (by omega), List.getElem?_take_of_lt ht, List.getElem?_append_left (by omega)]
    · rw [List.getElem?_append_right (by rw [List.length_take, List.length_append, List.length_singleton]; omega), List.getElem?_append_right (by rw [List.length_take]; omega), List.length_take, List.length_take, List.length_append, List.length_singleton, show min k out.length = k by omega, show min (k + 1) (out.length + 1) = k + 1 by omega]
      obtain ⟨q, rfl⟩ : ∃ q, t = k + 1 + q := ⟨t - (k + 1), by omega⟩
      rw [show k + 1 + q - (k + 1) = q by omega, show k + 1 + q - k = q + 1 by omega, List.getElem?_cons_succ]
end Go.Proofs.YtmagchclmmphaabGreatDoor
namespace Go.Proofs.YtmagchclmmphaabGreatDoor
open Go.RowKit Go.Maps
attribute [local go_sem] Oper.semAt_some

theorem below_undrewN {B : Nat} {w w' : World} {n : Nat} (d : Below B (w.drewN n) w') : Below B w w' := ⟨d.os, d.tape, d.output, d.size, d.block⟩
theorem below_drewN2 {B : Nat} {w w' : World} (d : Below B w w') (n : Nat) : Below B w (w'.drewN n) := ⟨d.os, d.tape, d.output, d.size, d.block⟩
theorem app_E {W : World} {B : Nat} {v : Value} {O : List EdT} (h : W.ownsRow B 64 3 v O.length (O.flatMap encE)) (hB : B ≤ W.heap.size) (x : EdT) {ops : Array Oper} {rest : List Oper} {o : Oper} {a : Act} {Q : Exit → Act → World → Prop} (hgd : o.guard = none) (s y : Operand)
    (ho : o.op = .call { callee := .builtin .append, args := #[s, y], argTypes := #[23, 23] }) (hs : a.eval s = v) (hy : a.eval y = .slice (some ⟨W.heap.size, 0, none⟩) 1 1) (hl : O.length ≤ 8388608)
    (hK : ∀ b5 c5 w3, w3.ownsRow B 64 3 (.slice (some ⟨b5, 0, none⟩) (O.length + 1) c5) (O.length + 1) ((O ++ [x]).flatMap encE) → Below B W w3 → wpList Tryz.prog ops Q rest (a.put o.dst (.slice (some ⟨b5, 0, none⟩) (O.length + 1) c5)) w3) :
    wpList Tryz.prog ops Q (o :: rest) a (W.alloc (.cells #[.int .i64 x.1, .int .i64 x.2.1, .int .i64 x.2.2] 64)) := by
  obtain ⟨i3, hi3, hz30, hz31, hz32⟩ := info_parts infoE
  refine wpList_append_own_at _ hgd s y _ ho B 64 i3 _ 3 24 Tryz.underlying23 hi3 hz30 hz31 hz32 rfl (by omega) v O.length (O.flatMap encE) hs (owns_below h ((Below.refl _ W).alloc (Nat.le_refl _) _)) ⟨W.heap.size, 0, none⟩ 1 1 (encE x) hy rfl (cnewE W x) (fun u hu => by simp only [encE, List.mem_cons, List.not_mem_nil, or_false] at hu; rcases hu with rfl | rfl | rfl <;> rfl) (by unfold maxLen; omega) (by omega) (by simp; omega) ?_
  intro v' w3 how hgr hnil hloc
  have hG := grw_append hgr hloc
  have hBw : Below B W w3 := hG.1.toBelow hB fun k q => (h.lt k q).1
  rcases how.2 with ⟨_, h0⟩ | ⟨b5, c5, cur, rfl, _⟩
  · omega
  · exact hK b5 c5 w3 (by rw [List.flatMap_append, List.flatMap_singleton]; exact how) hBw
theorem only3 (W : World) (b i j k : Nat) (x y z : Value) : Only W (((W.setCell ⟨b, i, none⟩ x).setCell ⟨b, j, none⟩ y).setCell ⟨b, k, none⟩ z) (fun q => q = b) := ((only_set W b i x).trans (only_set _ b j y)).trans (only_set _ b k z)
/-- What is handed back. -/
def EdP (w w' : World) (L : List EdT) (v : Value) : Prop := ∃ O, w'.ownsRow w.heap.size 64 3 v O.length (O.flatMap encE) ∧ SsE O ∧ (∀ y, y ∈ O ↔ y ∈ L) ∧ O.length ≤ L.length ∧ Below w.heap.size w w'
theorem mem_next {L O : List EdT} {i : Nat} {x : EdT} (hx : L[i]? = some x) (h : ∀ y, y ∈ O ↔ y ∈ L.take i) (y : EdT) : y ∈ O ∨ y = x ↔ y ∈ L.take (i + 1) := by
  rw [List.take_add_one, hx, List.mem_append, h y]
  simp
set_option maxRecDepth 100000 in
set_option maxHeartbeats 4000000 in
/-- Edges in order, each once. -/
theorem redges_any (w : World) (ao : Option Addr) (cap : Nat) (L : List EdT) (hA : Hid (RdE w ao L)) (hl : L.length ≤ 4194304) :
    Calls Tryz.prog 49 #[.slice ao L.length cap] w fun e w' => ∃ v, e = .returned v ∧ EdP w w' L v := by
  obtain ⟨i6, hi6, hz60, hz61, hz62⟩ := info_parts infoE
  go_enter Tryz.func49, Tryz.ntmps49
  go_wp2_with fail
  go_loopw [3, 4] (fun v i wr => ∃ (k : Nat) (O : List EdT), k ≤ L.length ∧ i = .int .i64 k ∧ O.length ≤ k ∧ Hid (wr.ownsRow w.heap.size 64 3 v O.length (O.flatMap encE) ∧ SsE O ∧ (∀ y, y ∈ O ↔ y ∈ L.take k) ∧ Below w.heap.size w wr)) (fun _ i _ => L.length - (intOf i).toNat)
  case atStart => exact ⟨0, [], Nat.zero_le _, rfl, Nat.le_refl _, hide ⟨⟨rfl, .inl ⟨rfl, rfl⟩⟩, List.Pairwise.nil, fun y => by simp, Below.refl _ _⟩⟩
  case round =>
    obtain ⟨i, O, hk, rfl, hOl, HH⟩ := hrel
    obtain ⟨wo, rfl⟩ : ∃ z, z = wr := ⟨_, rfl⟩
    obtain ⟨a3, c3, rfl⟩ := rowForm HH.out.1
    by_cases hlt : i < L.length
    · have i2 : (i : Int) < (L.length : Int) := by omega
      have i3 : (0 : Int) ≤ (i : Int) := by omega
      have HX : Hid (∃ h : i < L.length, True) := hide ⟨hlt, trivial⟩
      obtain ⟨x, hx⟩ : ∃ x, L[i] = x := ⟨_, rfl⟩
      have HLx : Hid (L[i]? = some x) := hide (by rw [List.getElem?_eq_getElem hlt, hx])
      have HRd : Hid (∀ W, Below w.heap.size w W → ∃ g o, ao = some ⟨g, o, none⟩ ∧ W.cell? ⟨g, o + i * 3, none⟩ = some (.int .i64 x.1) ∧ W.cell? ⟨g, o + i * 3 + 1, none⟩ = some (.int .i64 x.2.1) ∧ W.cell? ⟨g, o + i * 3 + 2, none⟩ = some (.int .i64 x.2.2)) := hide (fun W d => by
        have := (hA.out.on d) i hlt
        rwa [hx] at this)
      obtain ⟨bL, oL, rfl, _⟩ := HRd.out wo HH.out.2.2.2
      clear hx
      have HRow : Hid (∀ W, Below wo.heap.size wo W → ∀ m (h : m < O.length), ∃ b, a3 = some ⟨b, 0, none⟩ ∧ W.cell? ⟨b, m * 3, none⟩ = some (.int .i64 O[m].1) ∧ W.cell? ⟨b, m * 3 + 1, none⟩ = some (.int .i64 O[m].2.1) ∧ W.cell? ⟨b, m * 3 + 2, none⟩ = some (.int .i64 O[m].2.2)) := hide (fun W d m hm => by
        have ho := owns_below HH.out.1 d
        rcases HH.out.1.2 with ⟨z, h0⟩ | ⟨b, cap', cur, e, _⟩
        · omega
        · cases e
          exact ⟨b, rfl, rdE_cells ho m hm⟩)
      go_upto_region 6 with fail
      go_loopw [5] (fun kv wi => ∃ k : Nat, kv = .int .i64 k ∧ k ≤ O.length ∧ Hid (AtK O x k ∧ Below wo.heap.size wo wi)) (fun kv _ => (intOf kv).toNat)
      case atStart => exact ⟨O.length, rfl, Nat.le_refl _, hide ⟨⟨Nat.le_refl _, fun j h1 h2 => by omega⟩, Below.refl _ _⟩⟩
      case round =>
        obtain ⟨k, rfl, hki, HK⟩ := hrel
        obtain ⟨wi, rfl⟩ : ∃ z, z = wr := ⟨_, rfl⟩
        obtain ⟨_, _, e0, q0, q1, q2⟩ := HRd.out wi (HH.out.2.2.2.trans (HK.out.2.mono HH.out.2.2.2.size))
        cases e0
        go_upto_region 6 with fail
        go_cut [28] from 15 to 28 (fun b wx => b = .bool (goK O x k) ∧ Hid (Below wo.heap.size wo wx))
        case first =>
          by_cases h0 : 0 < k
          · obtain ⟨m, rfl⟩ : ∃ m, k = m + 1 := ⟨k - 1, by omega⟩
            have hm : m < O.length := by omega
            obtain ⟨b, rfl, r0, r1, r2⟩ := HRow.out wi HK.out.2 m hm
            obtain ⟨y, hy⟩ : ∃ y, O[m] = y := ⟨_, rfl⟩
            rw [hy] at r0 r1 r2
            have HG : Hid (goK O x (m + 1) = ltE x y) := hide (by unfold goK; rw [decide_eq_true h0, Nat.add_sub_cancel, List.getElem?_eq_getElem hm, hy]; rfl)
            have j1 : (m : Int) < (O.length : Int) := by omega
            have j2 : (0 : Int) ≤ (m : Int) := by omega
            have j3 : (0 : Int) < (m : Int) + 1 := by omega
            clear hy h0
            refine wp_region_phase 12 #[true, true, true, true, true, true, true, true, true, true, true, true, false, false] (by kernel_rfl) (by kernel_rfl) ?_
            simp only [List.take_succ_cons, List.take_zero, List.drop_succ_cons, List.drop_zero]
            repeat (go_big_quiet_step (fail))
            refine wpQuiet_nil ?_
            intro wz hz
            obtain ⟨nq, rfl⟩ := hz
            have T84 := less_any x y (wi.drewN nq)
            go_wp2_with (go_at_call 84; refine T84.mono ?_; rintro e wb ⟨rfl, db⟩)
            go_meet
            exact ⟨by rw [HG.out], hide (HK.out.2.trans ((below_undrewN db).mono HK.out.2.size))⟩
          · obtain rfl : k = 0 := by omega
            have HG : Hid (goK O x 0 = false) := hide rfl
            refine wp_region_phase 12 #[true, true, true, true, true, true, true, true, true, true, true, true, false, false] (by kernel_rfl) (by kernel_rfl) ?_
            simp only [List.take_succ_cons, List.take_zero, List.drop_succ_cons, List.drop_zero]
            repeat (go_big_quiet_step (fail))
            refine wpQuiet_nil ?_
            intro wz hz
            obtain ⟨nq, rfl⟩ := hz
            go_wp2_with fail
            go_meet
            exact ⟨by rw [HG.out], hide (below_drewN2 HK.out.2 nq)⟩
        case rest =>
          obtain ⟨rfl, HB⟩ := hcut
          rename World => wx
          by_cases hg : goK O x k = true
          · rw [hg]
            have h0 : 0 < k := by unfold goK at hg; simp only [Bool.and_eq_true, decide_eq_true_eq] at hg; exact hg.1
            have HN := hide (HK.out.1.next hg)
            obtain ⟨m, rfl⟩ : ∃ m, k = m + 1 := ⟨k - 1, by omega⟩
            rw [Nat.add_sub_cancel] at HN
            clear hg h0 q0 q1 q2
            go_wp2_with fail
            exact ⟨⟨m, by go_num, by omega, hide ⟨HN.out, HB.out⟩⟩, by simp [intOf] <;> omega⟩
          · have hg' : goK O x k = false := by simpa using hg
            rw [hg']
            have HG := hide hg'
            clear hg hg' q0 q1 q2
            go_upto_region 8 with fail
            obtain ⟨_, _, e0, q0, q1, q2⟩ := HRd.out wx (HH.out.2.2.2.trans (HB.out.mono HH.out.2.2.2.size))
            cases e0
            go_cut [44] from 31 to 44 (fun b wy => b = .bool (eqK O x k) ∧ Hid (Below wo.heap.size wo wy))
            case first =>
              by_cases h0 : 0 < k
              · obtain ⟨m, rfl⟩ : ∃ m, k = m + 1 := ⟨k - 1, by omega⟩
                have hm : m < O.length := by omega
                obtain ⟨b, rfl, r0, r1, r2⟩ := HRow.out wx HB.out m hm
                obtain ⟨y, hy⟩ : ∃ y, O[m] = y := ⟨_, rfl⟩
                rw [hy] at r0 r1 r2
                have HE : Hid (eqK O x (m + 1) = decide (y = x)) := hide (by unfold eqK; rw [decide_eq_true h0, Nat.add_sub_cancel, List.getElem?_eq_getElem hm, hy]; rfl)
                have j1 : (m : Int) < (O.length : Int) := by omega
                have j2 : (0 : Int) ≤ (m : Int) := by omega
                have j3 : (0 : Int) < (m : Int) + 1 := by omega
                clear hy h0
                obtain ⟨x0, x1, x2⟩ := x
                obtain ⟨y0, y1, y2⟩ := y
                simp only at q0 q1 q2 r0 r1 r2
                by_cases g0 : y0 = x0
                · by_cases g1 : y1 = x1
                  · by_cases g2 : y2 = x2
                    · subst g0 g1 g2
                      refine wp_region_phase 13 #[true, true, true, true, true, true, true, true, true, true, true, true, true, false] (by kernel_rfl) (by kernel_rfl) ?_
                      simp only [List.take_succ_cons, List.take_zero, List.drop_succ_cons, List.drop_zero]
                      repeat (go_big_quiet_step (fail))
                      refine wpQuiet_nil ?_
                      intro wz hz
                      obtain ⟨nq, rfl⟩ := hz
                      go_wp2_with fail
                      go_meet
                      exact ⟨by rw [HE.out]; simp, hide (below_drewN2 HB.out nq)⟩
                    · subst g0 g1
                      refine wp_region_phase 13 #[true, true, true, true, true, true, true, true, true, true, true, true, true, false] (by kernel_rfl) (by kernel_rfl) ?_
                      simp only [List.take_succ_cons, List.take_zero, List.drop_succ_cons, List.drop_zero]
                      repeat (go_big_quiet_step (fail))
                      refine wpQuiet_nil ?_
                      intro wz hz
                      obtain ⟨nq, rfl⟩ := hz
                      go_wp2_with fail
                      go_meet
                      exact ⟨by rw [HE.out]; simp [g2], hide (below_drewN2 HB.out nq)⟩
                  · subst g0
                    refine wp_region_phase 13 #[true, true, true, true, true, true, true, true, true, true, true, true, true, false] (by kernel_rfl) (by kernel_rfl) ?_
                    simp only [List.take_succ_cons, List.take_zero, List.drop_succ_cons, List.drop_zero]
                    repeat (go_big_quiet_step (fail))
                    refine wpQuiet_nil ?_
                    intro wz hz
                    obtain ⟨nq, rfl⟩ := hz
                    go_wp2_with fail
                    go_meet
                    exact ⟨by rw [HE.out]; simp [g1], hide (below_drewN2 HB.out nq)⟩
                · skip
                  refine wp_region_phase 13 #[true, true, true, true, true, true, true, true, true, true, true, true, true, false] (by kernel_rfl) (by kernel_rfl) ?_
                  simp only [List.take_succ_cons, List.take_zero, List.drop_succ_cons, List.drop_zero]
                  repeat (go_big_quiet_step (fail))
                  refine wpQuiet_nil ?_
                  intro wz hz
                  obtain ⟨nq, rfl⟩ := hz
                  go_wp2_with fail
                  go_meet
                  exact ⟨by rw [HE.out]; simp [g0], hide (below_drewN2 HB.out nq)⟩
              · obtain rfl : k = 0 := by omega
                have HE : Hid (eqK O x 0 = false) := hide rfl
                refine wp_region_phase 13 #[true, true, true, true, true, true, true, true, true, true, true, true, true, false] (by kernel_rfl) (by kernel_rfl) ?_
                simp only [List.take_succ_cons, List.take_zero, List.drop_succ_cons, List.drop_zero]
                repeat (go_big_quiet_step (fail))
                refine wpQuiet_nil ?_
                intro wz hz
                obtain ⟨nq, rfl⟩ := hz
                go_wp2_with fail
                go_meet
                exact ⟨by rw [HE.out], hide (below_drewN2 HB.out nq)⟩
            case rest =>
              obtain ⟨rfl, HC⟩ := hcut
              rename World => wy
              clear q0 q1 q2
              by_cases he : eqK O x k = true
              · rw [he]
                have HM := hide (HK.out.1.there he)
                clear he
                go_wp2_with fail
                exact ⟨⟨i + 1, O, by omega, by go_num, by omega, hide ⟨owns_below HH.out.1 HC.out, HH.out.2.1, fun y => by rw [← mem_next HLx.out HH.out.2.2.1 y]; exact ⟨.inl, fun z => z.elim id fun e => e ▸ HM.out⟩, HH.out.2.2.2.trans (HC.out.mono HH.out.2.2.2.size)⟩⟩, by simp [intOf]; omega⟩
              · have he' : eqK O x k = false := by simpa using he
                rw [he']
                have HP := hide (HK.out.1.put HH.out.2.1 HG.out he')
                clear he he'
                obtain ⟨_, _, e0, q0, q1, q2⟩ := HRd.out wy (HH.out.2.2.2.trans (HC.out.mono HH.out.2.2.2.size))
                cases e0
                have HOy := hide (owns_below HH.out.1 HC.out)
                have HBy : Hid (w.heap.size ≤ wy.heap.size) := hide (Nat.le_trans HH.out.2.2.2.size HC.out.size)
                go_upto_region 10 with (at_builtin; refine app_E HOy.out HBy.out x rfl _ _ rfl rfl rfl (by omega) ?_; intro b5 c5 w3 ho3 d3)
                have HO3 := hide ho3
                have D3 := hide ((HH.out.2.2.2.trans (HC.out.mono HH.out.2.2.2.size)).trans d3)
                clear ho3 d3 q0 q1 q2
                go_wp2_with fail
                go_loopw [6] (fun jv wj => ∃ j : Nat, jv = .int .i64 j ∧ k ≤ j ∧ j ≤ O.length ∧ Hid (wj.ownsRow w.heap.size 64 3 (.slice (some ⟨b5, 0, none⟩) (O.length + 1) c5) (O.length + 1) ((shE O x j).flatMap encE) ∧ Below w.heap.size w wj)) (fun jv _ => (intOf jv).toNat)
                case atStart => exact ⟨O.length, by go_num, hki, Nat.le_refl _, hide ⟨by rw [shE_start]; exact HO3.out, D3.out⟩⟩
                case round =>
                  obtain ⟨j, rfl, hkj, hjO, HJ⟩ := hrel
                  have hsl := shE_len O x j hjO
                  obtain ⟨cur, hbk⟩ : ∃ cur, wr.heap[b5]? = some (.cells cur 64 (0, 0)) := by
                    rcases HJ.out.1.2 with ⟨z, _⟩ | ⟨g, cp, cur, e, _, hg, _⟩
                    · cases z
                    · cases e; exact ⟨cur, hg⟩
                  have hb5 : w.heap.size ≤ b5 := (HJ.out.1.lt b5 rfl).1
                  have HRw := hide HJ.out.1
                  rw [← hsl] at HRw
                  by_cases hjk : k < j
                  · obtain ⟨m, rfl⟩ : ∃ m, j = m + 1 := ⟨j - 1, by omega⟩
                    have hm : m < O.length := by omega
                    have hat : (shE O x (m + 1))[m]'(by omega) = O[m] := by
                      have := shE_at O x (m + 1) (by omega) hjO
                      rw [Nat.add_sub_cancel, List.getElem?_eq_getElem (by omega), List.getElem?_eq_getElem hm] at this
                      exact Option.some.inj this
                    obtain ⟨r0, r1, r2⟩ := rdE_cells HRw.out m (by omega)
                    obtain ⟨s0, s1, s2⟩ := rdE_cells HRw.out (m + 1) (by omega)
                    have HNX := hide (rowE_set HRw.out (m + 1) O[m] (by omega))
                    have HSN : Hid ((shE O x (m + 1)).set (m + 1) O[m] = shE O x m) := hide (by
                      have := shE_next O x (m + 1) (by omega) hjO
                      simpa using this)
                    rw [hat] at r0 r1 r2
                    obtain ⟨y, hy⟩ : ∃ y, O[m] = y := ⟨_, rfl⟩
                    rw [hy] at r0 r1 r2 HNX HSN
                    have f0 : wr.frozen? ⟨b5, (m + 1) * 3, none⟩ = false := fz_of hbk
                    have f1 : wr.frozen? ⟨b5, (m + 1) * 3 + 1, none⟩ = false := fz_of hbk
                    have f2 : wr.frozen? ⟨b5, (m + 1) * 3 + 2, none⟩ = false := fz_of hbk
                    have j1 : (m : Int) < (O.length : Int) + 1 := by omega
                    have j2 : (0 : Int) ≤ (m : Int) := by omega
                    have j3 : (m : Int) + 1 < (O.length : Int) + 1 := by omega
                    have j4 : (0 : Int) ≤ (m : Int) + 1 := by omega
                    have j5 : (k : Int) < (m : Int) + 1 := by omega
                    clear hy hat hbk
                    go_wp2_with fail
                    refine ⟨⟨m, rfl, by omega, by omega, hide ⟨?_, HJ.out.2.trans ((only3 wr b5 _ _ _ _ _ _).toBelow HJ.out.2.size fun q z => by rw [z]; exact hb5)⟩⟩, by simp [intOf] <;> omega⟩
                    have := HNX.out
                    rw [HSN.out, hsl, shE_len O x m (by omega)] at this
                    exact this
                  · obtain rfl : j = k := by omega
                    have hkl : j < (shE O x j).length := by omega
                    obtain ⟨s0, s1, s2⟩ := rdE_cells HRw.out j hkl
                    have HNX := hide (rowE_set HRw.out j x hkl)
                    obtain ⟨_, _, e0, q0, q1, q2⟩ := HRd.out wr HJ.out.2
                    cases e0
                    have HSN := hide (shE_end O x j hjO)
                    have f0 : wr.frozen? ⟨b5, j * 3, none⟩ = false := fz_of hbk
                    have f1 : wr.frozen? ⟨b5, j * 3 + 1, none⟩ = false := fz_of hbk
                    have f2 : wr.frozen? ⟨b5, j * 3 + 2, none⟩ = false := fz_of hbk
                    have j1 : (j : Int) < (O.length : Int) + 1 := by omega
                    have j2 : (0 : Int) ≤ (j : Int) := by omega
                    have j5 : ¬ (j : Int) < (j : Int) := by omega
                    clear hbk
                    go_wp2_with fail
                    refine ⟨⟨i + 1, O.take j ++ x :: O.drop j, by omega, by go_num, ?_, hide ⟨?_, HP.out, fun y => ?_, HJ.out.2.trans ((only3 wr b5 _ _ _ _ _ _).toBelow HJ.out.2.size fun q z => by rw [z]; exact hb5)⟩⟩, by simp [intOf]; omega⟩
                    · rw [List.length_append, List.length_cons, List.length_take, List.length_drop]; omega
                    · have := HNX.out
                      rw [HSN.out, hsl] at this
                      exact this
                    · rw [put_mem, mem_next HLx.out HH.out.2.2.1 y]
    · have i2 : ¬ (i : Int) < (L.length : Int) := by omega
      obtain rfl : i = L.length := by omega
      go_wp2_with fail
      go_ret
      refine ⟨_, rfl, O, HH.out.1, HH.out.2.1, fun y => ?_, hOl, HH.out.2.2.2⟩
      have := HH.out.2.2.1 y
      rwa [List.take_length] at this
end Go.Proofs.YtmagchclmmphaabGreatDoor
