import Derived.Test.YtojnlpicgemlaaaGreatDoorTx
namespace Go.Proofs.YtojnlpicgemlaaaGreatDoor
open Go.RowKit Go.Maps Go.Shelf
attribute [local go_sem] Oper.semAt_some
theorem rowForm {W : World} {B e sz n : Nat} {v : Value} {xs : List Value} (h : W.ownsRow B e sz v n xs) : ∃ ao cap, v = .slice ao n cap := by
  rcases h.2 with ⟨rfl, h0⟩ | ⟨b, cap, cur, rfl, _⟩
  · subst h0; exact ⟨none, 0, rfl⟩
  · exact ⟨_, cap, rfl⟩
theorem owns_below {w w' : World} {base e size : Nat} {v : Value} {n : Nat} {xs : List Value} (h : w.ownsRow base e size v n xs) (hb : Below w.heap.size w w') : w'.ownsRow base e size v n xs :=
  ⟨h.1, h.2.imp id (fun ⟨g, cap, cur, h1, h2, h3, h4⟩ => ⟨g, cap, cur, h1, h2, (hb.block g (Array.getElem?_eq_some_iff.1 h3).1).trans h3, h4⟩)⟩
theorem cnewE (W : World) (x : EdT) : ∀ j u, (encE x)[j]? = some u → (W.alloc (.cells #[.int .i64 x.1, .int .i64 x.2.1, .int .i64 x.2.2] 42)).cell? ((⟨W.heap.size, 0, none⟩ : Addr).add j) = some u := by
  intro j u hu
  rw [Addr.add_lit, Nat.zero_add]
  refine cell_of (World.alloc_heap_new W _) ?_
  match j, hu with
  | 0, hj => exact hj
  | 1, hj => exact hj
  | 2, hj => exact hj

theorem cnewI (W : World) (x : Int) : ∀ j u, [Value.int .i64 x][j]? = some u → (W.alloc (.cells #[.int .i64 x] 3)).cell? ((⟨W.heap.size, 0, none⟩ : Addr).add j) = some u := by
  intro j u hu
  rw [Addr.add_lit, Nat.zero_add]
  refine cell_of (World.alloc_heap_new W _) ?_
  match j, hu with
  | 0, hj => exact hj
theorem Only.grown {w w' : World} {r : Option Nat} {R : Nat → Prop} (h : w.grownBy w' r) (hr : ∀ k, r = some k → R k) : Only w w' R :=
  ⟨h.os, h.tape, h.output, h.size, fun k hk hn => h.block k hk (fun e => hn (hr k e.symm))⟩
def Grw (w w' : World) (v v' : Value) : Prop := Only w w' (fun k => v.ownBlock = some k) ∧ ∀ k, v'.ownBlock = some k → v.ownBlock = some k ∨ w.heap.size ≤ k
/-- An append of one item to a row of one's own. -/
theorem grw_append {W w2 : World} {v v' : Value} {b : Obj} (hgr : (W.alloc b).grownBy w2 v.ownBlock) (hloc : v'.ownBlock = v.ownBlock ∨ v'.ownBlock = some (W.alloc b).heap.size) : Grw W w2 v v' := by
  refine ⟨(Only.ofBelow ((Below.refl _ W).alloc (Nat.le_refl _) _)).andNew (Only.grown hgr (fun k hk => hk)) (fun k _ hk => hk), fun k q => ?_⟩
  rcases hloc with z | z
  · left; rw [← z]; exact q
  · right; rw [q] at z; cases z; simp
theorem own_wide {W : World} {B C e sz n : Nat} {v : Value} {xs : List Value} (h : W.ownsRow B e sz v n xs) (hc : C ≤ B) : W.ownsRow C e sz v n xs := by
  refine ⟨h.1, ?_⟩
  rcases h.2 with z | ⟨b, cap, cur, rfl, hb, hg, rest⟩
  · exact .inl z
  · exact .inr ⟨b, cap, cur, rfl, by omega, hg, rest⟩
theorem sortI_up (L : List Int) : (sortI L).Pairwise (· ≤ ·) := by
  have hp : (sortI L).Pairwise fun a b => decide (a ≤ b) = true := List.pairwise_mergeSort (le := fun x y : Int => decide (x ≤ y)) (fun a b c h1 h2 => by
    simp only [decide_eq_true_eq] at *
    omega) (fun a b => by
    simp only [Bool.or_eq_true, decide_eq_true_eq]
    omega) L
  exact hp.imp fun q => by simpa using q
theorem cpL_ss {zs : List Int} (hs : zs.Pairwise (· ≤ ·)) : (Lib.compact zs).Pairwise (· < ·) := by
  have key : ∀ m, m ≤ zs.length → (Lib.compactUpTo zs.toArray m).Pairwise (· < ·) ∧ (∀ x ∈ Lib.compactUpTo zs.toArray m, ∃ j, j < m ∧ ∃ h : j < zs.length, x = zs[j]) := by
    intro m
    induction m with
    | zero => intro _; exact ⟨by simp [Lib.compactUpTo], fun x hx => by simp [Lib.compactUpTo] at hx⟩
    | succ m ih =>
      intro hm
      obtain ⟨k1, k2⟩ := ih (by omega)
      rw [Lib.compactUpTo_succ]
      by_cases hk : Lib.keeps zs.toArray m = true
      · rw [if_pos hk]
        have hm' : m < zs.length := by omega
        have em : zs.toArray[m]! = zs[m] := by simp [hm']
        refine ⟨?_, fun x hx => ?_⟩
        · rw [List.pairwise_append]
          refine ⟨k1, by simp, fun x hx y hy => ?_⟩
          rw [List.mem_singleton.1 hy, em]
          obtain ⟨j, hj, hjl, rfl⟩ := k2 x hx
          unfold Lib.keeps at hk
          rw [decide_eq_true_eq] at hk
          have hm0 : m ≠ 0 := by omega
          have hk2 := hk.resolve_left hm0
          have e1 : zs.toArray[m - 1]! = zs[m - 1] := by simp [show m - 1 < zs.length by omega]
          rw [em, e1] at hk2
          have l1 : zs[m - 1] ≤ zs[m] := (List.pairwise_iff_getElem.1 hs) (m - 1) m (by omega) hm' (by omega)
          rcases Nat.lt_or_ge j (m - 1) with q | q
          · have l2 : zs[j] ≤ zs[m - 1] := (List.pairwise_iff_getElem.1 hs) j (m - 1) hjl (by omega) q
            omega
          · have : j = m - 1 := by omega
            subst this; omega
        · rcases List.mem_append.1 hx with hx | hx
          · obtain ⟨j, hj, q⟩ := k2 x hx
            exact ⟨j, by omega, q⟩
          · rw [List.mem_singleton.1 hx]; exact ⟨m, by omega, hm', em⟩
      · rw [if_neg hk, List.append_nil]
        exact ⟨k1, fun x hx => by obtain ⟨j, hj, q⟩ := k2 x hx; exact ⟨j, by omega, q⟩⟩
  exact (key zs.length (Nat.le_refl _)).1
theorem riseL_ss (L : List Int) : (riseL L).Pairwise (· < ·) := cpL_ss (sortI_up L)
theorem riseL_lt (L : List Int) : (riseL L).Pairwise (· < ·) := riseL_ss L
/-! ### Rows of edges -/
theorem flatE_len (X : List EdT) : (X.flatMap encE).length = X.length * 3 := by
  induction X with
  | nil => rfl
  | cons x X ih => rw [List.flatMap_cons, List.length_append, ih, encE_len, List.length_cons]; omega
theorem flatE_at (X : List EdT) (t : Nat) (h : t / 3 < X.length) : (X.flatMap encE)[t]? = (encE X[t / 3])[t % 3]? := by
  have := flat_get encE 3 encE_len X (t / 3) (t % 3) h (by omega)
  rwa [show t / 3 * 3 + t % 3 = t by omega] at this
theorem flatE_none (X : List EdT) (t : Nat) (h : ¬ t / 3 < X.length) : (X.flatMap encE)[t]? = none := List.getElem?_eq_none (by rw [flatE_len]; omega)
/-- An edge is written into a row. -/
theorem rowE_set {W : World} {B b n cap : Nat} {X : List EdT} (h : W.ownsRow B 42 3 (.slice (some ⟨b, 0, none⟩) n cap) X.length (X.flatMap encE)) (j : Nat) (x : EdT) (hj : j < X.length) :
    (((W.setCell ⟨b, j * 3, none⟩ (.int .i64 x.1)).setCell ⟨b, j * 3 + 1, none⟩ (.int .i64 x.2.1)).setCell ⟨b, j * 3 + 2, none⟩ (.int .i64 x.2.2)).ownsRow B 42 3 (.slice (some ⟨b, 0, none⟩) n cap) (X.set j x).length ((X.set j x).flatMap encE) := by
  refine ⟨by rw [flatE_len], ?_⟩
  rcases h.2 with ⟨z, _⟩ | ⟨g, cap', cur, e, hb, hg, hn, hc, hs, ht⟩
  · cases z
  · cases e
    refine .inr ⟨b, cap, _, by rw [List.length_set], hb, heap_setCell_same _ _ _ _ 42 _ (heap_setCell_same _ _ _ _ 42 _ (heap_setCell_same _ _ _ _ 42 _ hg)), by rw [List.length_set]; exact hn, hc, by simpa using hs, ?_⟩
    rw [List.length_set]
    apply List.ext_getElem?
    intro t
    have hcz : X.length * 3 ≤ cur.size := by rw [hs]; exact Nat.mul_le_mul_right 3 hn
    by_cases hq : t / 3 < X.length
    · have htl : t < X.length * 3 := by omega
      rw [List.getElem?_take_of_lt htl, flatE_at _ t (by rw [List.length_set]; exact hq), List.getElem_set, Array.getElem?_toList]
      simp only [Array.getElem?_setIfInBounds, Array.size_setIfInBounds]
      by_cases hjq : j = t / 3
      · rw [if_pos hjq]
        have : t = j * 3 ∨ t = j * 3 + 1 ∨ t = j * 3 + 2 := by omega
        rcases this with rfl | rfl | rfl
        · rw [if_neg (by omega), if_neg (by omega), if_pos rfl, if_pos (by omega), show j * 3 % 3 = 0 by omega]; rfl
        · rw [if_neg (by omega), if_pos rfl, if_pos (by omega), show (j * 3 + 1) % 3 = 1 by omega]; rfl
        · rw [if_pos rfl, if_pos (by omega), show (j * 3 + 2) % 3 = 2 by omega]; rfl
      · rw [if_neg hjq, if_neg (by omega), if_neg (by omega), if_neg (by omega), ← flatE_at X t hq, ← ht, List.getElem?_take_of_lt htl, Array.getElem?_toList]
    · rw [flatE_none _ t (by rw [List.length_set]; exact hq), List.getElem?_take_eq_none (by omega)]
set_option maxRecDepth 100000 in
set_option maxHeartbeats 1000000 in
/-- Which of two edges is less. -/
theorem less_any (x y : EdT) (w : World) : Calls Tryz.prog 57 #[.agg #[.int .i64 x.1, .int .i64 x.2.1, .int .i64 x.2.2], .agg #[.int .i64 y.1, .int .i64 y.2.1, .int .i64 y.2.2]] w fun e w' => e = .returned (.bool (ltE x y)) ∧ Below w.heap.size w w' := by
  have HB := hide (show Below w.heap.size w ((w.alloc (.cells #[.int .i64 x.1, .int .i64 x.2.1, .int .i64 x.2.2] 42)).alloc (.cells #[.int .i64 y.1, .int .i64 y.2.1, .int .i64 y.2.2] 42)) from ((Below.refl _ _).alloc (Nat.le_refl _) _).alloc (by simp) _)
  obtain ⟨x0, x1, x2⟩ := x
  obtain ⟨y0, y1, y2⟩ := y
  have HL : Hid (ltE (x0, x1, x2) (y0, y1, y2) = decide (x0 < y0 ∨ (x0 = y0 ∧ (x1 < y1 ∨ (x1 = y1 ∧ x2 < y2))))) := hide rfl
  simp only at HB ⊢
  by_cases h0 : x0 = y0
  · by_cases h1 : x1 = y1
    · have HE : Hid (ltE (x0, x1, x2) (y0, y1, y2) = decide (x2 < y2)) := hide (by rw [HL.out, decide_eq_decide]; omega)
      subst h0 h1
      go_enter Tryz.func57, Tryz.ntmps57
      go_wp2
      go_ret
      exact ⟨by rw [HE.out]; rfl, HB.out⟩
    · have HE : Hid (ltE (x0, x1, x2) (y0, y1, y2) = decide (x1 < y1)) := hide (by rw [HL.out, decide_eq_decide]; omega)
      subst h0
      go_enter Tryz.func57, Tryz.ntmps57
      go_wp2
      go_ret
      exact ⟨by rw [HE.out]; rfl, HB.out⟩
  · have HE : Hid (ltE (x0, x1, x2) (y0, y1, y2) = decide (x0 < y0)) := hide (by rw [HL.out, decide_eq_decide]; omega)
    go_enter Tryz.func57, Tryz.ntmps57
    go_wp2
    go_ret
    exact ⟨by rw [HE.out]; rfl, HB.out⟩

/-! ### Edges in order, each once, as the document lays them -/
theorem ltE_tr {a b c : EdT} (h : ltE a b = true) (k : ltE b c = true) : ltE a c = true := swoE.trans a b c h k
/-- What is known of the place at which an edge belongs. -/
structure AtK (out : List EdT) (x : EdT) (k : Nat) : Prop where
  le : k ≤ out.length
  up : ∀ j (h : j < out.length), k ≤ j → ltE x out[j] = true
/-- Is the edge ahead of the place yet greater? -/
def goK (out : List EdT) (x : EdT) (k : Nat) : Bool := decide (0 < k) && ltE x (out[k - 1]?.getD (0, 0, 0))
def eqK (out : List EdT) (x : EdT) (k : Nat) : Bool := decide (0 < k) && decide (out[k - 1]?.getD (0, 0, 0) = x)
theorem AtK.next {out : List EdT} {x : EdT} {k : Nat} (h : AtK out x k) (hg : goK out x k = true) : AtK out x (k - 1) := by
  unfold goK at hg
  simp only [Bool.and_eq_true, decide_eq_true_eq] at hg
  have hl := h.le
  refine ⟨by omega, fun j hj hk => ?_⟩
  by_cases e : j = k - 1
  · subst e
    have := hg.2
    rwa [List.getElem?_eq_getElem hj] at this
  · exact h.up j hj (by omega)
theorem AtK.there {out : List EdT} {x : EdT} {k : Nat} (h : AtK out x k) (he : eqK out x k = true) : x ∈ out := by
  unfold eqK at he
  simp only [Bool.and_eq_true, decide_eq_true_eq] at he
  have hl := h.le
  have hj : k - 1 < out.length := by omega
  rw [List.getElem?_eq_getElem hj] at he
  rw [← he.2]
  exact List.getElem_mem hj
theorem AtK.put {out : List EdT} {x : EdT} {k : Nat} (h : AtK out x k) (hs : SsE out) (hg : goK out x k = false) (he : eqK out x k = false) : SsE (out.take k ++ x :: out.drop k) := by
  have hlow : ∀ a ∈ out.take k, ltE a x = true := by
    intro a ha
    obtain ⟨i, hi, rfl⟩ := List.mem_iff_getElem.1 ha
    have hi2 := hi
    rw [List.length_take] at hi2
    have hle := h.le
    rw [List.getElem_take]
    have hk : 0 < k := by omega
    have hj : k - 1 < out.length := by omega
    unfold goK at hg
    unfold eqK at he
    rw [List.getElem?_eq_getElem hj, decide_eq_true hk] at hg he
    simp only [Option.getD_some, Bool.true_and, decide_eq_false_iff_not] at hg he
    have hl : ltE out[k - 1] x = true := by
      cases hc : ltE out[k - 1] x with
      | true => rfl
      | false => exact absurd (totE _ _ hc hg) he
    by_cases e : i = k - 1
    · subst e; exact hl
    · exact ltE_tr (List.pairwise_iff_getElem.1 hs i (k - 1) (by omega) hj (by omega)) hl
  have hup : ∀ a ∈ out.drop k, ltE x a = true := by
    intro a ha
    obtain ⟨i, hi, rfl⟩ := List.mem_iff_getElem.1 ha
    have hi2 := hi
    rw [List.length_drop] at hi2
    rw [List.getElem_drop]
    exact h.up (k + i) (by omega) (by omega)
  unfold SsE
  rw [List.pairwise_append, List.pairwise_cons]
  refine ⟨List.Pairwise.sublist (List.take_sublist _ _) hs, ⟨hup, List.Pairwise.sublist (List.drop_sublist _ _) hs⟩, fun a ha b hb => ?_⟩
  rcases List.mem_cons.1 hb with rfl | hb
  · exact hlow a ha
  · exact ltE_tr (hlow a ha) (hup b hb)
theorem put_mem {out : List EdT} {x y : EdT} {k : Nat} : y ∈ out.take k ++ x :: out.drop k ↔ y ∈ out ∨ y = x := by
  conv => rhs; rw [← List.take_append_drop k out]
  simp only [List.mem_append, List.mem_cons]
  constructor
  · rintro (h | h | h)
    · exact .inl (.inl h)
    · exact .inr h
    · exact .inl (.inr h)
  · rintro ((h | h) | h)
    · exact .inl h
    · exact .inr (.inr h)
    · exact .inr (.inl h)
/-- While the room is made. -/
def shE (out : List EdT) (x : EdT) (j : Nat) : List EdT := (out ++ [x]).take (j + 1) ++ out.drop j
theorem shE_len (out : List EdT) (x : EdT) (j : Nat) (h : j ≤ out.length) : (shE out x j).length = out.length + 1 := by
  unfold shE
  rw [List.length_append, List.length_take, List.length_append, List.length_drop, List.length_singleton]
  omega
theorem shE_start (out : List EdT) (x : EdT) : shE out x out.length = out ++ [x] := by
  unfold shE
  rw [List.take_of_length_le (by simp), List.drop_length, List.append_nil]
theorem shE_at (out : List EdT) (x : EdT) (j : Nat) (h0 : 0 < j) (h : j ≤ out.length) : (shE out x j)[j - 1]? = out[j - 1]? := by
  unfold shE
  rw [List.getElem?_append_left (by rw [List.length_take, List.length_append, List.length_singleton]; omega), List.getElem?_take_of_lt (by omega), List.getElem?_append_left (by omega)]
theorem shE_next (out : List EdT) (x : EdT) (j : Nat) (h0 : 0 < j) (h : j ≤ out.length) : (shE out x j).set j (out[j - 1]'(by omega)) = shE out x (j - 1) := by
  apply List.ext_getElem?
  intro t
  have hl := shE_len out x j h
  rw [List.getElem?_set]
  unfold shE at hl ⊢
  by_cases e : j = t
  · subst e
    rw [if_pos rfl, if_pos (by omega), List.getElem?_append_right (by rw [List.length_take, List.length_append, List.length_singleton]; omega), List.length_take, List.length_append, List.length_singleton, List.getElem?_drop]
    rw [List.getElem?_eq_getElem (by omega)]
    congr 2
    omega
  · rw [if_neg e]
    by_cases ht : t < j
    · rw [List.getElem?_append_left (by rw [List.length_take, List.length_append, List.length_singleton]; omega), List.getElem?_append_left (by rw [List.length_take, List.length_append, List.length_singleton]; omega), List.getElem?_take_of_lt (by omega), List.getElem?_take_of_lt (by omega)]
    · rw [List.getElem?_append_right (by rw [List.length_take, List.length_append, List.length_singleton]; omega), List.getElem?_append_right (by rw [List.length_take, List.length_append, List.length_singleton]; omega), List.length_take, List.length_take, List.length_append, List.length_singleton, List.getElem?_drop, List.getElem?_drop]
      congr 1
      omega
theorem shE_end (out : List EdT) (x : EdT) (k : Nat) (h : k ≤ out.length) : (shE out x k).set k x = out.take k ++ x :: out.drop k := by
  apply List.ext_getElem?
  intro t
  have hl := shE_len out x k h
  rw [List.getElem?_set]
  unfold shE at hl ⊢
  by_cases e : k = t
  · subst e
    rw [if_pos rfl, if_pos (by omega), List.getElem?_append_right (by rw [List.length_take]; omega), List.length_take, show k - min k out.length = 0 by omega]
    rfl
  · rw [if_neg e]
    by_cases ht : t < k
    · rw [List.getElem?_append_left (by rw [List.length_take, List.length_append, List.length_singleton]; omega), List.getElem?_append_left (by rw [List.length_take]; omega), List.getElem?_take_of_lt (by omega), List.getElem?_take_of_lt ht, List.getElem?_append_left (by omega)]
    · rw [List.getElem?_append_right (by rw [List.length_take, List.length_append, List.length_singleton]; omega), List.getElem?_append_right (by rw [List.length_take]; omega), List.length_take, List.length_take, List.length_append, List.length_singleton, show min k out.length = k by omega, show min (k + 1) (out.length + 1) = k + 1 by omega]
      obtain ⟨q, rfl⟩ : ∃ q, t = k + 1 + q := ⟨t - (k + 1), by omega⟩
      rw [show k + 1 + q - (k + 1) = q by omega, show k + 1 + q - k = q + 1 by omega, List.getElem?_cons_succ]

theorem below_undrewN {B : Nat} {w w' : World} {n : Nat} (d : Below B (w.drewN n) w') : Below B w w' := ⟨d.os, d.tape, d.output, d.size, d.block⟩
theorem app_E {W : World} {B : Nat} {v : Value} {O : List EdT} (h : W.ownsRow B 42 3 v O.length (O.flatMap encE)) (hB : B ≤ W.heap.size) (x : EdT) {ops : Array Oper} {rest : List Oper} {o : Oper} {a : Act} {Q : Exit → Act → World → Prop} (hgd : o.guard = none) (s y : Operand)
    (ho : o.op = .call { callee := .builtin .append, args := #[s, y], argTypes := #[23, 23] }) (hs : a.eval s = v) (hy : a.eval y = .slice (some ⟨W.heap.size, 0, none⟩) 1 1) (hl : O.length ≤ 8388608)
    (hK : ∀ b5 c5 w3, w3.ownsRow B 42 3 (.slice (some ⟨b5, 0, none⟩) (O.length + 1) c5) (O.length + 1) ((O ++ [x]).flatMap encE) → Below B W w3 → wpList Tryz.prog ops Q rest (a.put o.dst (.slice (some ⟨b5, 0, none⟩) (O.length + 1) c5)) w3) :
    wpList Tryz.prog ops Q (o :: rest) a (W.alloc (.cells #[.int .i64 x.1, .int .i64 x.2.1, .int .i64 x.2.2] 42)) := by
  obtain ⟨i3, hi3, hz30, hz31, hz32⟩ := info_parts info59
  refine wpList_append_own_at _ hgd s y _ ho B 42 i3 _ 3 24 Tryz.underlying23 hi3 hz30 hz31 hz32 rfl (by omega) v O.length (O.flatMap encE) hs (owns_below h ((Below.refl _ W).alloc (Nat.le_refl _) _)) ⟨W.heap.size, 0, none⟩ 1 1 (encE x) hy rfl (cnewE W x) (fun u hu => by simp only [encE, List.mem_cons, List.not_mem_nil, or_false] at hu; rcases hu with rfl | rfl | rfl <;> rfl) (by unfold maxLen; omega) (by omega) (by simp; omega) ?_
  intro v' w3 how hgr hnil hloc
  have hG := grw_append hgr hloc
  have hBw : Below B W w3 := hG.1.toBelow hB fun k q => (h.lt k q).1
  rcases how.2 with ⟨_, h0⟩ | ⟨b5, c5, cur, rfl, _⟩
  · omega
  · exact hK b5 c5 w3 (by rw [List.flatMap_append, List.flatMap_singleton]; exact how) hBw
/-- What is handed back. -/
def EdP (w w' : World) (L : List EdT) (v : Value) : Prop := ∃ O, w'.ownsRow w.heap.size 42 3 v O.length (O.flatMap encE) ∧ SsE O ∧ (∀ y, y ∈ O ↔ y ∈ L) ∧ O.length ≤ L.length ∧ Below w.heap.size w w'
theorem mem_next {L O : List EdT} {i : Nat} {x : EdT} (hx : L[i]? = some x) (h : ∀ y, y ∈ O ↔ y ∈ L.take i) (y : EdT) : y ∈ O ∨ y = x ↔ y ∈ L.take (i + 1) := by
  rw [List.take_add_one, hx, List.mem_append, h y]
  simp
set_option maxRecDepth 100000 in
set_option maxHeartbeats 4000000 in
/-- Edges in order, each once. -/
theorem redges_any (w : World) (ao : Option Addr) (cap : Nat) (L : List EdT) (hA : Hid (RdE w ao L)) (hl : L.length ≤ 4194304) :
    Calls Tryz.prog 34 #[.slice ao L.length cap] w fun e w' => ∃ v, e = .returned v ∧ EdP w w' L v := by
  obtain ⟨i6, hi6, hz60, hz61, hz62⟩ := info_parts info59
  go_enter Tryz.func34, Tryz.ntmps34
  go_wp2_with fail
  go_loopw [3, 4] (fun v i wr => ∃ (k : Nat) (O : List EdT), k ≤ L.length ∧ i = .int .i64 k ∧ O.length ≤ k ∧ Hid (wr.ownsRow w.heap.size 42 3 v O.length (O.flatMap encE) ∧ SsE O ∧ (∀ y, y ∈ O ↔ y ∈ L.take k) ∧ Below w.heap.size w wr)) (fun _ i _ => L.length - (intOf i).toNat)
  case atStart => exact ⟨0, [], Nat.zero_le _, rfl, Nat.le_refl _, hide ⟨⟨rfl, .inl ⟨rfl, rfl⟩⟩, List.Pairwise.nil, fun y => by simp, Below.refl _ _⟩⟩
  case round =>
    obtain ⟨i, O, hk, rfl, hOl, HH⟩ := hrel
    obtain ⟨wo, rfl⟩ : ∃ z, z = wr := ⟨_, rfl⟩
    obtain ⟨a3, c3, rfl⟩ := rowForm HH.out.1
    by_cases hlt : i < L.length
    · have i2 : (i : Int) < (L.length : Int) := by omega
      have i3 : (0 : Int) ≤ (i : Int) := by omega
      have HX : Hid (∃ h : i < L.length, True) := hide ⟨hlt, trivial⟩
      obtain ⟨x, hx⟩ : ∃ x, L[i] = x := ⟨_, rfl⟩
      have HLx : Hid (L[i]? = some x) := hide (by rw [List.getElem?_eq_getElem hlt, hx])
      have HRd : Hid (∀ W, Below w.heap.size w W → ∃ g o, ao = some ⟨g, o, none⟩ ∧ W.cell? ⟨g, o + i * 3, none⟩ = some (.int .i64 x.1) ∧ W.cell? ⟨g, o + i * 3 + 1, none⟩ = some (.int .i64 x.2.1) ∧ W.cell? ⟨g, o + i * 3 + 2, none⟩ = some (.int .i64 x.2.2)) := hide (fun W d => by
        have := (hA.out.on d) i hlt
        rwa [hx] at this)
      obtain ⟨bL, oL, rfl, _⟩ := HRd.out wo HH.out.2.2.2
      clear hx
      have HRow : Hid (∀ W, Below wo.heap.size wo W → ∀ m (h : m < O.length), ∃ b, a3 = some ⟨b, 0, none⟩ ∧ W.cell? ⟨b, m * 3, none⟩ = some (.int .i64 O[m].1) ∧ W.cell? ⟨b, m * 3 + 1, none⟩ = some (.int .i64 O[m].2.1) ∧ W.cell? ⟨b, m * 3 + 2, none⟩ = some (.int .i64 O[m].2.2)) := hide (fun W d m hm => by
        have ho := owns_below HH.out.1 d
        rcases HH.out.1.2 with ⟨z, h0⟩ | ⟨b, cap', cur, e, _⟩
        · omega
        · cases e
          exact ⟨b, rfl, rdE_cells ho m hm⟩)
      go_upto_region 6 with fail
      go_loopw [5] (fun kv wi => ∃ k : Nat, kv = .int .i64 k ∧ k ≤ O.length ∧ Hid (AtK O x k ∧ Below wo.heap.size wo wi)) (fun kv _ => (intOf kv).toNat)
      case atStart => exact ⟨O.length, rfl, Nat.le_refl _, hide ⟨⟨Nat.le_refl _, fun j h1 h2 => by omega⟩, Below.refl _ _⟩⟩
      case round =>
        obtain ⟨k, rfl, hki, HK⟩ := hrel
        obtain ⟨wi, rfl⟩ : ∃ z, z = wr := ⟨_, rfl⟩
        obtain ⟨_, _, e0, q0, q1, q2⟩ := HRd.out wi (HH.out.2.2.2.trans (HK.out.2.mono HH.out.2.2.2.size))
        cases e0
        go_upto_region 6 with fail
        go_cut [28] from 15 to 28 (fun b wx => b = .bool (goK O x k) ∧ Hid (Below wo.heap.size wo wx))
        case first =>
          by_cases h0 : 0 < k
          · obtain ⟨m, rfl⟩ : ∃ m, k = m + 1 := ⟨k - 1, by omega⟩
            have hm : m < O.length := by omega
            obtain ⟨b, rfl, r0, r1, r2⟩ := HRow.out wi HK.out.2 m hm
            obtain ⟨y, hy⟩ : ∃ y, O[m] = y := ⟨_, rfl⟩
            rw [hy] at r0 r1 r2
            have HG : Hid (goK O x (m + 1) = ltE x y) := hide (by unfold goK; rw [decide_eq_true h0, Nat.add_sub_cancel, List.getElem?_eq_getElem hm, hy]; rfl)
            have j1 : (m : Int) < (O.length : Int) := by omega
            have j2 : (0 : Int) ≤ (m : Int) := by omega
            have j3 : (0 : Int) < (m : Int) + 1 := by omega
            clear hy h0
            refine wp_region_phase 12 #[true, true, true, true, true, true, true, true, true, true, true, true, false, false] (by kernel_rfl) (by kernel_rfl) ?_
            simp only [List.take_succ_cons, List.take_zero, List.drop_succ_cons, List.drop_zero]
            repeat (go_big_quiet_step (fail))
            refine wpQuiet_nil ?_
            intro wz hz
            obtain ⟨nq, rfl⟩ := hz
            have T84 := less_any x y (wi.drewN nq)
            go_wp2_with (go_at_call 57; refine T84.mono ?_; rintro e wb ⟨rfl, db⟩)
            go_meet
            exact ⟨by rw [HG.out], hide (HK.out.2.trans ((below_undrewN db).mono HK.out.2.size))⟩
          · obtain rfl : k = 0 := by omega
            have HG : Hid (goK O x 0 = false) := hide rfl
            refine wp_region_phase 12 #[true, true, true, true, true, true, true, true, true, true, true, true, false, false] (by kernel_rfl) (by kernel_rfl) ?_
            simp only [List.take_succ_cons, List.take_zero, List.drop_succ_cons, List.drop_zero]
            repeat (go_big_quiet_step (fail))
            refine wpQuiet_nil ?_
            intro wz hz
            obtain ⟨nq, rfl⟩ := hz
            go_wp2_with fail
            go_meet
            exact ⟨by rw [HG.out], hide (below_drewN2 HK.out.2 nq)⟩
        case rest =>
          obtain ⟨rfl, HB⟩ := hcut
          rename World => wx
          by_cases hg : goK O x k = true
          · rw [hg]
            have h0 : 0 < k := by unfold goK at hg; simp only [Bool.and_eq_true, decide_eq_true_eq] at hg; exact hg.1
            have HN := hide (HK.out.1.next hg)
            obtain ⟨m, rfl⟩ : ∃ m, k = m + 1 := ⟨k - 1, by omega⟩
            rw [Nat.add_sub_cancel] at HN
            clear hg h0 q0 q1 q2
            go_wp2_with fail
            exact ⟨⟨m, by go_num, by omega, hide ⟨HN.out, HB.out⟩⟩, by simp [intOf] <;> omega⟩
          · have hg' : goK O x k = false := by simpa using hg
            rw [hg']
            have HG := hide hg'
            clear hg hg' q0 q1 q2
            go_upto_region 8 with fail
            obtain ⟨_, _, e0, q0, q1, q2⟩ := HRd.out wx (HH.out.2.2.2.trans (HB.out.mono HH.out.2.2.2.size))
            cases e0
            go_cut [44] from 31 to 44 (fun b wy => b = .bool (eqK O x k) ∧ Hid (Below wo.heap.size wo wy))
            case first =>
              by_cases h0 : 0 < k
              · obtain ⟨m, rfl⟩ : ∃ m, k = m + 1 := ⟨k - 1, by omega⟩
                have hm : m < O.length := by omega
                obtain ⟨b, rfl, r0, r1, r2⟩ := HRow.out wx HB.out m hm
                obtain ⟨y, hy⟩ : ∃ y, O[m] = y := ⟨_, rfl⟩
                rw [hy] at r0 r1 r2
                have HE : Hid (eqK O x (m + 1) = decide (y = x)) := hide (by unfold eqK; rw [decide_eq_true h0, Nat.add_sub_cancel, List.getElem?_eq_getElem hm, hy]; rfl)
                have j1 : (m : Int) < (O.length : Int) := by omega
                have j2 : (0 : Int) ≤ (m : Int) := by omega
                have j3 : (0 : Int) < (m : Int) + 1 := by omega
                clear hy h0
                obtain ⟨x0, x1, x2⟩ := x
                obtain ⟨y0, y1, y2⟩ := y
                simp only at q0 q1 q2 r0 r1 r2
                by_cases g0 : y0 = x0
                · by_cases g1 : y1 = x1
                  · by_cases g2 : y2 = x2
                    · subst g0 g1 g2
                      refine wp_region_phase 13 #[true, true, true, true, true, true, true, true, true, true, true, true, true, false] (by kernel_rfl) (by kernel_rfl) ?_
                      simp only [List.take_succ_cons, List.take_zero, List.drop_succ_cons, List.drop_zero]
                      repeat (go_big_quiet_step (fail))
                      refine wpQuiet_nil ?_
                      intro wz hz
                      obtain ⟨nq, rfl⟩ := hz
                      go_wp2_with fail
                      go_meet
                      exact ⟨by rw [HE.out]; simp, hide (below_drewN2 HB.out nq)⟩
                    · subst g0 g1
                      refine wp_region_phase 13 #[true, true, true, true, true, true, true, true, true, true, true, true, true, false] (by kernel_rfl) (by kernel_rfl) ?_
                      simp only [List.take_succ_cons, List.take_zero, List.drop_succ_cons, List.drop_zero]
                      repeat (go_big_quiet_step (fail))
                      refine wpQuiet_nil ?_
                      intro wz hz
                      obtain ⟨nq, rfl⟩ := hz
                      go_wp2_with fail
                      go_meet
                      exact ⟨by rw [HE.out]; simp [g2], hide (below_drewN2 HB.out nq)⟩
                  · subst g0
                    refine wp_region_phase 13 #[true, true, true, true, true, true, true, true, true, true, true, true, true, false] (by kernel_rfl) (by kernel_rfl) ?_
                    simp only [List.take_succ_cons, List.take_zero, List.drop_succ_cons, List.drop_zero]
                    repeat (go_big_quiet_step (fail))
                    refine wpQuiet_nil ?_
                    intro wz hz
                    obtain ⟨nq, rfl⟩ := hz
                    go_wp2_with fail
                    go_meet
                    exact ⟨by rw [HE.out]; simp [g1], hide (below_drewN2 HB.out nq)⟩
                · skip
                  refine wp_region_phase 13 #[true, true, true, true, true, true, true, true, true, true, true, true, true, false] (by kernel_rfl) (by kernel_rfl) ?_
                  simp only [List.take_succ_cons, List.take_zero, List.drop_succ_cons, List.drop_zero]
                  repeat (go_big_quiet_step (fail))
                  refine wpQuiet_nil ?_
                  intro wz hz
                  obtain ⟨nq, rfl⟩ := hz
                  go_wp2_with fail
                  go_meet
                  exact ⟨by rw [HE.out]; simp [g0], hide (below_drewN2 HB.out nq)⟩
              · obtain rfl : k = 0 := by omega
                have HE : Hid (eqK O x 0 = false) := hide rfl
                refine wp_region_phase 13 #[true, true, true, true, true, true, true, true, true, true, true, true, true, false] (by kernel_rfl) (by kernel_rfl) ?_
                simp only [List.take_succ_cons, List.take_zero, List.drop_succ_cons, List.drop_zero]
                repeat (go_big_quiet_step (fail))
                refine wpQuiet_nil ?_
                intro wz hz
                obtain ⟨nq, rfl⟩ := hz
                go_wp2_with fail
                go_meet
                exact ⟨by rw [HE.out], hide (below_drewN2 HB.out nq)⟩
            case rest =>
              obtain ⟨rfl, HC⟩ := hcut
              rename World => wy
              clear q0 q1 q2
              by_cases he : eqK O x k = true
              · rw [he]
                have HM := hide (HK.out.1.there he)
                clear he
                go_wp2_with fail
                exact ⟨⟨i + 1, O, by omega, by go_num, by omega, hide ⟨owns_below HH.out.1 HC.out, HH.out.2.1, fun y => by rw [← mem_next HLx.out HH.out.2.2.1 y]; exact ⟨.inl, fun z => z.elim id fun e => e ▸ HM.out⟩, HH.out.2.2.2.trans (HC.out.mono HH.out.2.2.2.size)⟩⟩, by simp [intOf]; omega⟩
              · have he' : eqK O x k = false := by simpa using he
                rw [he']
                have HP := hide (HK.out.1.put HH.out.2.1 HG.out he')
                clear he he'
                obtain ⟨_, _, e0, q0, q1, q2⟩ := HRd.out wy (HH.out.2.2.2.trans (HC.out.mono HH.out.2.2.2.size))
                cases e0
                have HOy := hide (owns_below HH.out.1 HC.out)
                have HBy : Hid (w.heap.size ≤ wy.heap.size) := hide (Nat.le_trans HH.out.2.2.2.size HC.out.size)
                go_upto_region 10 with (at_builtin; refine app_E HOy.out HBy.out x rfl _ _ rfl rfl rfl (by omega) ?_; intro b5 c5 w3 ho3 d3)
                have HO3 := hide ho3
                have D3 := hide ((HH.out.2.2.2.trans (HC.out.mono HH.out.2.2.2.size)).trans d3)
                clear ho3 d3 q0 q1 q2
                go_wp2_with fail
                go_loopw [6] (fun jv wj => ∃ j : Nat, jv = .int .i64 j ∧ k ≤ j ∧ j ≤ O.length ∧ Hid (wj.ownsRow w.heap.size 42 3 (.slice (some ⟨b5, 0, none⟩) (O.length + 1) c5) (O.length + 1) ((shE O x j).flatMap encE) ∧ Below w.heap.size w wj)) (fun jv _ => (intOf jv).toNat)
                case atStart => exact ⟨O.length, by go_num, hki, Nat.le_refl _, hide ⟨by rw [shE_start]; exact HO3.out, D3.out⟩⟩
                case round =>
                  obtain ⟨j, rfl, hkj, hjO, HJ⟩ := hrel
                  have hsl := shE_len O x j hjO
                  obtain ⟨cur, hbk⟩ : ∃ cur, wr.heap[b5]? = some (.cells cur 42 (0, 0)) := by
                    rcases HJ.out.1.2 with ⟨z, _⟩ | ⟨g, cp, cur, e, _, hg, _⟩
                    · cases z
                    · cases e; exact ⟨cur, hg⟩
                  have hb5 : w.heap.size ≤ b5 := (HJ.out.1.lt b5 rfl).1
                  have HRw := hide HJ.out.1
                  rw [← hsl] at HRw
                  by_cases hjk : k < j
                  · obtain ⟨m, rfl⟩ : ∃ m, j = m + 1 := ⟨j - 1, by omega⟩
                    have hm : m < O.length := by omega
                    have hat : (shE O x (m + 1))[m]'(by omega) = O[m] := by
                      have := shE_at O x (m + 1) (by omega) hjO
                      rw [Nat.add_sub_cancel, List.getElem?_eq_getElem (by omega), List.getElem?_eq_getElem hm] at this
                      exact Option.some.inj this
                    obtain ⟨r0, r1, r2⟩ := rdE_cells HRw.out m (by omega)
                    obtain ⟨s0, s1, s2⟩ := rdE_cells HRw.out (m + 1) (by omega)
                    have HNX := hide (rowE_set HRw.out (m + 1) O[m] (by omega))
                    have HSN : Hid ((shE O x (m + 1)).set (m + 1) O[m] = shE O x m) := hide (by
                      have := shE_next O x (m + 1) (by omega) hjO
                      simpa using this)
                    rw [hat] at r0 r1 r2
                    obtain ⟨y, hy⟩ : ∃ y, O[m] = y := ⟨_, rfl⟩
                    rw [hy] at r0 r1 r2 HNX HSN
                    have f0 : wr.frozen? ⟨b5, (m + 1) * 3, none⟩ = false := fz_of hbk
                    have f1 : wr.frozen? ⟨b5, (m + 1) * 3 + 1, none⟩ = false := fz_of hbk
                    have f2 : wr.frozen? ⟨b5, (m + 1) * 3 + 2, none⟩ = false := fz_of hbk
                    have j1 : (m : Int) < (O.length : Int) + 1 := by omega
                    have j2 : (0 : Int) ≤ (m : Int) := by omega
                    have j3 : (m : Int) + 1 < (O.length : Int) + 1 := by omega
                    have j4 : (0 : Int) ≤ (m : Int) + 1 := by omega
                    have j5 : (k : Int) < (m : Int) + 1 := by omega
                    clear hy hat hbk
                    go_wp2_with fail
                    refine ⟨⟨m, rfl, by omega, by omega, hide ⟨?_, HJ.out.2.trans ((only3 wr b5 _ _ _ _ _ _).toBelow HJ.out.2.size fun q z => by rw [z]; exact hb5)⟩⟩, by simp [intOf] <;> omega⟩
                    have := HNX.out
                    rw [HSN.out, hsl, shE_len O x m (by omega)] at this
                    exact this
                  · obtain rfl : j = k := by omega
                    have hkl : j < (shE O x j).length := by omega
                    obtain ⟨s0, s1, s2⟩ := rdE_cells HRw.out j hkl
                    have HNX := hide (rowE_set HRw.out j x hkl)
                    obtain ⟨_, _, e0, q0, q1, q2⟩ := HRd.out wr HJ.out.2
                    cases e0
                    have HSN := hide (shE_end O x j hjO)
                    have f0 : wr.frozen? ⟨b5, j * 3, none⟩ = false := fz_of hbk
                    have f1 : wr.frozen? ⟨b5, j * 3 + 1, none⟩ = false := fz_of hbk
                    have f2 : wr.frozen? ⟨b5, j * 3 + 2, none⟩ = false := fz_of hbk
                    have j1 : (j : Int) < (O.length : Int) + 1 := by omega
                    have j2 : (0 : Int) ≤ (j : Int) := by omega
                    have j5 : ¬ (j : Int) < (j : Int) := by omega
                    clear hbk
                    go_wp2_with fail
                    refine ⟨⟨i + 1, O.take j ++ x :: O.drop j, by omega, by go_num, ?_, hide ⟨?_, HP.out, fun y => ?_, HJ.out.2.trans ((only3 wr b5 _ _ _ _ _ _).toBelow HJ.out.2.size fun q z => by rw [z]; exact hb5)⟩⟩, by simp [intOf]; omega⟩
                    · rw [List.length_append, List.length_cons, List.length_take, List.length_drop]; omega
                    · have := HNX.out
                      rw [HSN.out, hsl] at this
                      exact this
                    · rw [put_mem, mem_next HLx.out HH.out.2.2.1 y]
    · have i2 : ¬ (i : Int) < (L.length : Int) := by omega
      obtain rfl : i = L.length := by omega
      go_wp2_with fail
      go_ret
      refine ⟨_, rfl, O, HH.out.1, HH.out.2.1, fun y => ?_, hOl, HH.out.2.2.2⟩
      have := HH.out.2.2.1 y
      rwa [List.take_length] at this

/-! ### Numbers below a bound, rising, as the document lays them -/
theorem up_eqI : ∀ (A B : List Int), A.Pairwise (· < ·) → B.Pairwise (· < ·) → (∀ x, x ∈ A ↔ x ∈ B) → A = B
  | [], [], _, _, _ => rfl
  | [], b :: B, _, _, h => absurd ((h b).2 (by simp)) (by simp)
  | a :: A, [], _, _, h => absurd ((h a).1 (by simp)) (by simp)
  | a :: A, b :: B, hA, hB, h => by
    rw [List.pairwise_cons] at hA hB
    have e : a = b := by
      rcases List.mem_cons.1 ((h a).1 (by simp)) with q | q
      · exact q
      · rcases List.mem_cons.1 ((h b).2 (by simp)) with r | r
        · exact r.symm
        · have := hB.1 a q; have := hA.1 b r; omega
    subst e
    congr 1
    refine up_eqI A B hA.2 hB.2 fun x => ⟨fun q => ?_, fun q => ?_⟩
    · rcases List.mem_cons.1 ((h x).1 (by simp [q])) with r | r
      · have := hA.1 x q; omega
      · exact r
    · rcases List.mem_cons.1 ((h x).2 (by simp [q])) with r | r
      · have := hB.1 x q; omega
      · exact r
def upF (n : Nat) (zs : List Int) : List Int := ((List.range n).filter fun (i : Nat) => decide ((i : Int) ∈ zs)).map fun (i : Nat) => (i : Int)
theorem up_next (n : Nat) (zs : List Int) : upF (n + 1) zs = upF n zs ++ (if (n : Int) ∈ zs then [(n : Int)] else []) := by
  unfold upF
  rw [List.range_succ, List.filter_append, List.map_append]
  by_cases h : (n : Int) ∈ zs <;> simp [h]
theorem up_len (n : Nat) (zs : List Int) : (upF n zs).length ≤ n := by
  unfold upF
  rw [List.length_map]
  exact Nat.le_trans (List.length_filter_le _ _) (by simp)
theorem up_rise {n : Nat} {zs : List Int} (h : ∀ z ∈ zs, 0 ≤ z ∧ z < (n : Int)) : upF n zs = riseL zs := by
  refine up_eqI _ _ ?_ (riseL_lt zs) fun x => ?_
  · unfold upF
    rw [List.pairwise_map]
    exact (List.pairwise_lt_range.filter _).imp fun q => by omega
  · rw [riseL_iff]
    unfold upF
    simp only [List.mem_map, List.mem_filter, List.mem_range, decide_eq_true_eq]
    constructor
    · rintro ⟨i, ⟨_, h2⟩, rfl⟩
      exact h2
    · intro hx
      obtain ⟨h1, h2⟩ := h x hx
      exact ⟨x.toNat, ⟨by omega, by rwa [Int.toNat_of_nonneg h1]⟩, Int.toNat_of_nonneg h1⟩
theorem infoBool : (Tryz.prog.info? 4).map (fun i => (i.zero, i.size, i.bytes)) = some (some (.bool false), 1, 1) := by kernel_rfl
theorem Mrw.made {W : World} {b H n : Nat} (h : W.ownsRow b 4 1 (.slice (some ⟨H, 0, none⟩) n n) n (madeCells #[Value.bool false] n).toList) : Mrw W H 4 n (fun _ => .bool false) n := by
  obtain ⟨h0, h1⟩ := h
  rcases h1 with ⟨e, _⟩ | ⟨g, cap, cur, e, h2, h3, h4, h5, h6, h7⟩
  · cases e
  · cases e
    refine ⟨cur, h3, by omega, fun j hj => ?_⟩
    have hj2 : j < n * 1 := by omega
    have e1 : (cur.toList.take (n * 1))[j]? = cur[j]? := by rw [List.getElem?_take_of_lt hj2, Array.getElem?_toList]
    rw [← e1, h7]
    simp [madeCells, hj, Nat.mod_one]
theorem app_I {W : World} {B : Nat} {v : Value} {O : List Int} (h : W.ownsRow B 3 1 v O.length (O.map (Value.int .i64))) (hB : B ≤ W.heap.size) (x : Int) {ops : Array Oper} {rest : List Oper} {o : Oper} {a : Act} {Q : Exit → Act → World → Prop} (hgd : o.guard = none) (s y : Operand)
    (ho : o.op = .call { callee := .builtin .append, args := #[s, y], argTypes := #[22, 22] }) (hs : a.eval s = v) (hy : a.eval y = .slice (some ⟨W.heap.size, 0, none⟩) 1 1) (hl : O.length ≤ 8388608)
    (hK : ∀ a5 c5 w3, w3.ownsRow B 3 1 (.slice a5 (O.length + 1) c5) (O ++ [x]).length ((O ++ [x]).map (Value.int .i64)) → Grw W w3 v (.slice a5 (O.length + 1) c5) → wpList Tryz.prog ops Q rest (a.put o.dst (.slice a5 (O.length + 1) c5)) w3) :
    wpList Tryz.prog ops Q (o :: rest) a (W.alloc (.cells #[.int .i64 x] 3)) := by
  obtain ⟨i3, hi3, hz30, hz31, hz32⟩ := info_parts info3
  refine wpList_append_own_at _ hgd s y _ ho B 3 i3 _ 1 8 Tryz.underlying22 hi3 hz30 hz31 hz32 rfl (by omega) v O.length (O.map (Value.int .i64)) hs (owns_below h ((Below.refl _ W).alloc (Nat.le_refl _) _)) ⟨W.heap.size, 0, none⟩ 1 1 [.int .i64 x] hy rfl (cnewI W x) (fun u hu => by obtain rfl := List.mem_singleton.1 hu; rfl) (by unfold maxLen; omega) (by omega) (by simp; omega) ?_
  intro v' w3 how hgr hnil hloc
  have hG := grw_append hgr hloc
  obtain ⟨a5, c5, rfl⟩ := rowForm how
  exact hK a5 c5 w3 (by simpa using how) hG
set_option maxRecDepth 100000 in
set_option maxHeartbeats 2000000 in
/-- The numbers of a list below n, rising. -/
theorem rrising_any (w : World) (ao : Option Addr) (cap n : Nat) (L : List Int) (hA : Hid (RdN w ao L)) (hL : Hid (∀ z ∈ L, 0 ≤ z ∧ z < (n : Int))) (hl : L.length ≤ 4194304) (hn : n ≤ 4194304) :
    Calls Tryz.prog 33 #[.slice ao L.length cap, .int .i64 n] w fun e w' => ∃ v, e = .returned v ∧ w'.ownsRow w.heap.size 3 1 v (upF n L).length ((upF n L).map (Value.int .i64)) ∧ Below w.heap.size w w' := by
  obtain ⟨i4, hi4, hz40, hz41, hz42⟩ := info_parts infoBool
  go_enter Tryz.func33, Tryz.ntmps33
  go_wp2_with (at_make; refine wpList_make_full _ rfl _ _ 56 rfl w.heap.size 4 i4 (.bool false) 1 Tryz.underlying56 hi4 hz40 hz41 _ _ _ _ n rfl rfl rfl rfl (by rw [hz42]; omega) (by unfold maxLen; omega) (Nat.le_refl _) ?_)
  intro w1 ho hg
  have D1 : Below w.heap.size w w1 := (Below.refl _ _).grown hg (Nat.le_refl _) (by intro k hk; cases hk)
  have HM := hide (And.intro (Mrw.made ho) D1)
  clear ho hg D1
  go_wp2_with fail
  go_loopw [6] (fun i wr => ∃ k : Nat, k ≤ L.length ∧ i = .int .i64 k ∧ Hid (Mrw wr w.heap.size 4 n (fun c => .bool (decide ((c : Int) ∈ L.take k))) n ∧ Below w.heap.size w wr)) (fun i _ => L.length - (intOf i).toNat)
  case atStart => exact ⟨0, Nat.zero_le _, rfl, hide ⟨HM.out.1.congr fun c hc => by simp, HM.out.2⟩⟩
  case round =>
    obtain ⟨k, hk, rfl, HX⟩ := hrel
    clear HM
    by_cases hlt : k < L.length
    · have i2 : (k : Int) < (L.length : Int) := by omega
      have i3 : (0 : Int) ≤ (k : Int) := by omega
      obtain ⟨bL, oL, rfl, q0⟩ := (hA.out.on HX.out.2) k hlt
      obtain ⟨h0, h1⟩ := hL.out _ (List.getElem_mem hlt)
      have HT : Hid (L.take (k + 1) = L.take k ++ [L[k]]) := hide (List.take_succ_eq_append_getElem hlt)
      obtain ⟨z, hz⟩ : ∃ z, L[k] = z := ⟨_, rfl⟩
      rw [hz] at q0 h0 h1 HT
      obtain ⟨m, rfl⟩ : ∃ m : Nat, z = m := ⟨z.toNat, by omega⟩
      have hm : m < n := by omega
      obtain ⟨u, c0⟩ := HX.out.1.cell m hm
      have f0 := HX.out.1.fz m
      have HU := hide (HX.out.1.upd m (.bool true))
      clear hz
      go_wp2_with fail
      refine ⟨⟨k + 1, by omega, by go_num, hide ⟨HU.out.congr fun c hc => ?_, HX.out.2.trans ((only_set wr w.heap.size m _).toBelow HX.out.2.size fun q z => by omega)⟩⟩, by simp [intOf]; omega⟩
      rw [HT.out]
      by_cases e : c = m
      · subst e; simp
      · rw [if_neg e]
        have : (c : Int) ≠ (m : Int) := by omega
        simp [this]
    · have i2 : ¬ (k : Int) < (L.length : Int) := by omega
      obtain rfl : k = L.length := by omega
      rw [List.take_length] at HX
      obtain ⟨wo, rfl⟩ : ∃ z, z = wr := ⟨_, rfl⟩
      go_wp2_with fail
      go_loopw [7, 8] (fun v i wj => ∃ k : Nat, k ≤ n ∧ i = .int .i64 k ∧ Hid (wj.ownsRow (w.heap.size + 1) 3 1 v (upF k L).length ((upF k L).map (Value.int .i64)) ∧ Mrw wj w.heap.size 4 n (fun c => .bool (decide ((c : Int) ∈ L))) n ∧ Below w.heap.size w wj)) (fun _ i _ => n - (intOf i).toNat)
      case atStart => exact ⟨0, Nat.zero_le _, rfl, hide ⟨⟨rfl, .inl ⟨rfl, rfl⟩⟩, HX.out⟩⟩
      case round =>
        obtain ⟨k, hkn, rfl, HJ⟩ := hrel
        have hul := up_len k L
        have HN := hide (up_next k L)
        obtain ⟨a3, c3, rfl⟩ := rowForm HJ.out.1
        obtain ⟨O, hO⟩ : ∃ O, upF k L = O := ⟨_, rfl⟩
        rw [hO] at HJ HN hul
        rw [hO]
        have HOe := hide hO
        clear hO
        by_cases hkn2 : k < n
        · have j1 : (k : Int) < (n : Int) := by omega
          have j2 : (0 : Int) ≤ (k : Int) := by omega
          have c0 := HJ.out.2.1.at k hkn2
          by_cases hmem : (k : Int) ∈ L
          · rw [decide_eq_true hmem] at c0
            rw [if_pos hmem] at HN
            have HBJ : Hid (w.heap.size + 1 ≤ wr.heap.size) := hide HJ.out.2.1.lt
            clear hmem
            go_wp2_with (at_builtin; refine app_I HJ.out.1 HBJ.out k rfl _ _ rfl rfl rfl (by omega) ?_; intro a5 c5 w3 ho3 hG)
            refine ⟨⟨k + 1, by omega, by go_num, hide ⟨by rw [HN.out]; exact ho3, HJ.out.2.1.only hG.1 fun q => by have := (HJ.out.1.lt _ q).1; omega, HJ.out.2.2.trans (hG.1.toBelow HJ.out.2.2.size fun q z => by have := (HJ.out.1.lt _ z).1; omega)⟩⟩, by simp [intOf]; omega⟩
          · rw [decide_eq_false hmem] at c0
            rw [if_neg hmem, List.append_nil] at HN
            clear hmem
            go_wp2_with fail
            exact ⟨⟨k + 1, by omega, by go_num, hide ⟨by rw [HN.out]; exact HJ.out.1, HJ.out.2⟩⟩, by simp [intOf]; omega⟩
        · have j1 : ¬ (k : Int) < (n : Int) := by omega
          obtain rfl : k = n := by omega
          have HR := hide HJ.out.1
          have HD := hide HJ.out.2.2
          clear HJ
          go_wp2_with fail
          go_ret
          exact ⟨_, rfl, by rw [HOe.out]; exact own_wide HR.out (Nat.le_succ _), HD.out⟩

end Go.Proofs.YtojnlpicgemlaaaGreatDoor
namespace Go.Proofs.YtojnlpicgemlaaaGreatDoor
open Go.RowKit Go.Maps
attribute [local go_sem] Oper.semAt_some

/-! ### An automaton in order -/
theorem riseE_of {D Ed : List EdT} (hs : SsE D) (hm : ∀ y, y ∈ D ↔ y ∈ Ed) : D = riseE Ed := ss_eq _ _ hs (riseE_ss Ed) (fun x => (hm x).trans (riseE_iff Ed x).symm)
set_option maxRecDepth 100000 in
set_option maxHeartbeats 4000000 in
theorem inorder_any (w : World) (n : Nat) (m : Int) (St Fi : List Int) (Ed : List EdT) (a1 a2 a3 : Option Addr) (c1 c2 c3 : Nat) (hA : Hid (RdN w a1 St ∧ RdN w a2 Fi ∧ RdE w a3 Ed)) (hB : Hid ((∀ z ∈ St, 0 ≤ z ∧ z < (n : Int)) ∧ ∀ z ∈ Fi, 0 ≤ z ∧ z < (n : Int))) (hn : n ≤ 4194304) (h1 : St.length ≤ 4194304) (h2 : Fi.length ≤ 4194304) (h3 : Ed.length ≤ 4194304) :
    Calls Tryz.prog 15 #[.agg #[.int .i64 (n : Nat), .int .i64 m, .slice a1 St.length c1, .slice a2 Fi.length c2, .slice a3 Ed.length c3]] w fun e w' => ∃ p1 p2 p3 q1 q2 q3, e = .returned (.agg #[.int .i64 (n : Nat), .int .i64 m, .slice p1 (riseL St).length q1, .slice p2 (riseL Fi).length q2, .slice p3 (riseE Ed).length q3]) ∧ w'.ownsRow w.heap.size 3 1 (.slice p1 (riseL St).length q1) (riseL St).length ((riseL St).map (Value.int .i64)) ∧ w'.ownsRow w.heap.size 3 1 (.slice p2 (riseL Fi).length q2) (riseL Fi).length ((riseL Fi).map (Value.int .i64)) ∧ w'.ownsRow w.heap.size 42 3 (.slice p3 (riseE Ed).length q3) (riseE Ed).length ((riseE Ed).flatMap encE) ∧ Below w.heap.size w w' := by
  obtain ⟨W0, hW0⟩ : ∃ W0, (w.alloc (.cells #[.int .i64 (n : Nat), .int .i64 m, .slice a1 St.length c1, .slice a2 Fi.length c2, .slice a3 Ed.length c3] 25)).alloc (.cells #[.int .i64 0, .int .i64 0, .slice none 0 0, .slice none 0 0, .slice none 0 0] 25) = W0 := ⟨_, rfl⟩
  have d0 : Below w.heap.size w W0 := by rw [← hW0]; exact ((Below.refl _ _).alloc (Nat.le_refl _) _).alloc (by simp) _
  have B0 : W0.heap[w.heap.size]? = some (.cells #[.int .i64 (n : Nat), .int .i64 m, .slice a1 St.length c1, .slice a2 Fi.length c2, .slice a3 Ed.length c3] 25 (0, 0)) := by rw [← hW0]; exact (Below.heap_alloc _ _ _ (by simp)).trans (World.alloc_heap_new _ _)
  have B1 : W0.heap[w.heap.size + 1]? = some (.cells #[.int .i64 0, .int .i64 0, .slice none 0 0, .slice none 0 0, .slice none 0 0] 25 (0, 0)) := by rw [← hW0]; exact heap_alloc2_new w _ _
  have z0 : W0.heap.size = w.heap.size + 2 := by rw [← hW0]; simp
  have HD := hide (And.intro d0 (And.intro B0 (And.intro B1 z0)))
  have SK : Hid (∀ W, Below W0.heap.size W0 W → (fun W => W.cell? ⟨w.heap.size, 0, none⟩ = some (.int .i64 (n : Nat)) ∧ W.cell? ⟨w.heap.size, 1, none⟩ = some (.int .i64 m) ∧ W.cell? ⟨w.heap.size, 2, none⟩ = some (.slice a1 St.length c1) ∧ W.cell? ⟨w.heap.size, 3, none⟩ = some (.slice a2 Fi.length c2) ∧ W.cell? ⟨w.heap.size, 4, none⟩ = some (.slice a3 Ed.length c3)) W) := hide (fun W d => by
    have e := (d.block _ (by have := HD.out.2.2.2; omega)).trans HD.out.2.1
    exact ⟨cell_of e rfl, cell_of e rfl, cell_of e rfl, cell_of e rfl, cell_of e rfl⟩)
  have SQ : Hid (∀ W : World, W.heap[w.heap.size]? = W0.heap[w.heap.size]? → (fun W => W.cell? ⟨w.heap.size, 0, none⟩ = some (.int .i64 (n : Nat)) ∧ W.cell? ⟨w.heap.size, 1, none⟩ = some (.int .i64 m) ∧ W.cell? ⟨w.heap.size, 2, none⟩ = some (.slice a1 St.length c1) ∧ W.cell? ⟨w.heap.size, 3, none⟩ = some (.slice a2 Fi.length c2) ∧ W.cell? ⟨w.heap.size, 4, none⟩ = some (.slice a3 Ed.length c3)) W) := hide (fun W e => by
    have e := e.trans HD.out.2.1
    exact ⟨cell_of e rfl, cell_of e rfl, cell_of e rfl, cell_of e rfl, cell_of e rfl⟩)
  have KA : Hid (∀ W, Below W0.heap.size W0 W → RdN W a1 St ∧ RdN W a2 Fi ∧ RdE W a3 Ed) := hide (fun W d => by
    have dd := HD.out.1.trans (d.mono HD.out.1.size)
    exact ⟨hA.out.1.on dd, hA.out.2.1.on dd, hA.out.2.2.on dd⟩)
  have HU := hide (And.intro (up_rise hB.out.1) (up_rise hB.out.2))
  clear d0 B0 B1 z0
  go_enter Tryz.func15, Tryz.ntmps15
  go_upto_region 1 with fail
  have S0 := SK.out W0.drew (Below.refl _ _).drew
  go_region_held3 (fun W => W.cell? ⟨w.heap.size, 0, none⟩ = some (.int .i64 (n : Nat)) ∧ W.cell? ⟨w.heap.size, 1, none⟩ = some (.int .i64 m) ∧ W.cell? ⟨w.heap.size, 2, none⟩ = some (.slice a1 St.length c1) ∧ W.cell? ⟨w.heap.size, 3, none⟩ = some (.slice a2 Fi.length c2) ∧ W.cell? ⟨w.heap.size, 4, none⟩ = some (.slice a3 Ed.length c3))
    (with_reducible assumption)
    ((first
      | (go_at_call_of 33 a1; refine (rrising_any _ a1 c1 n St (hide (KA.out _ (Below.refl _ W0).drew).1) (hide hB.out.1) h1 hn).mono ?_; rintro e wa ⟨vn, rfl, hn5, da⟩; rw [HU.out.1] at hn5; obtain ⟨p1, q1, rfl⟩ := rowForm hn5; have Da : Below W0.heap.size W0 wa := ⟨da.os, da.tape, da.output, da.size, da.block⟩; have Sa := SK.out wa Da; have H1 := hide (And.intro (show wa.ownsRow W0.heap.size 3 1 _ _ _ from hn5) Da); clear hn5 da Da)
      | (go_at_call_of 33 a2; refine (rrising_any wa a2 c2 n Fi (hide (KA.out _ H1.out.2).2.1) (hide hB.out.2) h2 hn).mono ?_; rintro e wb ⟨vn, rfl, hn5, db⟩; rw [HU.out.2] at hn5; obtain ⟨p2, q2, rfl⟩ := rowForm hn5; have Db : Below W0.heap.size W0 wb := H1.out.2.trans (db.mono H1.out.2.size); have Sb := SK.out wb Db; have H2 := hide (And.intro (own_wide hn5 H1.out.2.size) (And.intro (owns_below H1.out.1 db) Db)); clear hn5 db Db)
      | (go_at_call 34; refine (redges_any wb a3 c3 Ed (hide (KA.out _ H2.out.2.2).2.2) h3).mono ?_; rintro e wc ⟨ve, rfl, hep⟩; obtain ⟨D, he5, hss, hmem, hDl, dc⟩ := hep; obtain ⟨p3, q3, rfl⟩ := rowForm he5; have Dc : Below W0.heap.size W0 wc := H2.out.2.2.trans (dc.mono H2.out.2.2.size); have Sc := SK.out wc Dc; have bE := (Dc.block _ (by have := HD.out.2.2.2; omega)).trans HD.out.2.2.1; have z0 : wc.cell? ⟨w.heap.size + 1, 0, none⟩ = some (.int .i64 0) := cell_of bE rfl; have z1 : wc.cell? ⟨w.heap.size + 1, 1, none⟩ = some (.int .i64 0) := cell_of bE rfl; have z2 : wc.cell? ⟨w.heap.size + 1, 2, none⟩ = some (.slice none 0 0) := cell_of bE rfl; have z3 : wc.cell? ⟨w.heap.size + 1, 3, none⟩ = some (.slice none 0 0) := cell_of bE rfl; have z4 : wc.cell? ⟨w.heap.size + 1, 4, none⟩ = some (.slice none 0 0) := cell_of bE rfl; have f0 : wc.frozen? ⟨w.heap.size + 1, 0, none⟩ = false := fz_of bE; have f1 : wc.frozen? ⟨w.heap.size + 1, 1, none⟩ = false := fz_of bE; have f2 : wc.frozen? ⟨w.heap.size + 1, 2, none⟩ = false := fz_of bE; have f3 : wc.frozen? ⟨w.heap.size + 1, 3, none⟩ = false := fz_of bE; have f4 : wc.frozen? ⟨w.heap.size + 1, 4, none⟩ = false := fz_of bE; have HZ := hide (set5b wc (w.heap.size + 1) _ _ _ _ _ (.int .i64 (n : Nat)) (.int .i64 m) (.slice p1 (riseL St).length q1) (.slice p2 (riseL Fi).length q2) (.slice p3 D.length q3) 25 bE); have S5 := SQ.out _ ((HZ.out.2.block w.heap.size (by have := HD.out.2.2.2; have := Dc.size; omega) (by omega)).trans (Dc.block _ (by have := HD.out.2.2.2; omega))); have H3 := hide (And.intro (riseE_of hss hmem) (And.intro (own_wide he5 H2.out.2.2.size) (And.intro (owns_below H2.out.1 dc) (And.intro (owns_below H2.out.2.1 dc) Dc)))); clear he5 hss hmem hDl dc Dc bE)))
  clear S0 Sa Sb Sc S5
  go_wp2
  refine bodyPost_ret (results_cell_row (p := 2) (ty := 25) rfl _ _ (w.heap.size + 1) 25 _ (0, 0) _ rfl HZ.out.1 Tryz.underlying25 rfl (by kernel_rfl)) rfl ?_
  obtain ⟨eD, r3, r2, r1, Dc⟩ := H3.out
  rw [← eD]
  have hz := HD.out.2.2.2
  have k : ∀ {e sz n : Nat} {v : Value} {xs : List Value}, wc.ownsRow W0.heap.size e sz v n xs → World.ownsRow _ W0.heap.size e sz v n xs := fun h => row_only h HZ.out.2 fun k q z => by have := (h.lt k q).1; omega
  have dd := HD.out.1.trans (Dc.mono HD.out.1.size)
  exact ⟨_, _, _, _, _, _, rfl, owns_down (k r1) (by omega), owns_down (k r2) (by omega), owns_down (k r3) (by omega), dd.trans (HZ.out.2.toBelow dd.size fun k z => by omega)⟩
end Go.Proofs.YtojnlpicgemlaaaGreatDoor
