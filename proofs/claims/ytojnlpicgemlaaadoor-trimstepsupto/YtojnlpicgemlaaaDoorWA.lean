import Derived.Test.YtojnlpicgemlaaaDoorTx
namespace Go.Proofs.YtojnlpicgemlaaaDoor
open Go.RowKit Go.Maps Go.Shelf
attribute [local go_sem] Oper.semAt_some
theorem Only.grown {w w' : World} {r : Option Nat} {R : Nat → Prop} (h : w.grownBy w' r) (hr : ∀ k, r = some k → R k) : Only w w' R :=
  ⟨h.os, h.tape, h.output, h.size, fun k hk hn => h.block k hk (fun e => hn (hr k e.symm))⟩
theorem sortI_up (L : List Int) : (sortI L).Pairwise (· ≤ ·) := by
  have hp : (sortI L).Pairwise fun a b => decide (a ≤ b) = true := List.pairwise_mergeSort (le := fun x y : Int => decide (x ≤ y)) (fun a b c h1 h2 => by
    simp only [decide_eq_true_eq] at *
    omega) (fun a b => by
    simp only [Bool.or_eq_true, decide_eq_true_eq]
    omega) L
  exact hp.imp fun q => by simpa using q
theorem cpL_ss {zs : List Int} (hs : zs.Pairwise (· ≤ ·)) : (Lib.compact zs).Pairwise (· < ·) := by
  have key : ∀ m, m ≤ zs.length → (Lib.compactUpTo zs.toArray m).Pairwise (· < ·) ∧ (∀ x ∈ Lib.compactUpTo zs.toArray m, ∃ j, j < m ∧ ∃ h : j < zs.length, x = zs[j]) := by
    intro m
    induction m with
    | zero => intro _; exact ⟨by simp [Lib.compactUpTo], fun x hx => by simp [Lib.compactUpTo] at hx⟩
    | succ m ih =>
      intro hm
      obtain ⟨k1, k2⟩ := ih (by omega)
      rw [Lib.compactUpTo_succ]
      by_cases hk : Lib.keeps zs.toArray m = true
      · rw [if_pos hk]
        have hm' : m < zs.length := by omega
        have em : zs.toArray[m]! = zs[m] := by simp [hm']
        refine ⟨?_, fun x hx => ?_⟩
        · rw [List.pairwise_append]
          refine ⟨k1, by simp, fun x hx y hy => ?_⟩
          rw [List.mem_singleton.1 hy, em]
          obtain ⟨j, hj, hjl, rfl⟩ := k2 x hx
          unfold Lib.keeps at hk
          rw [decide_eq_true_eq] at hk
          have hm0 : m ≠ 0 := by omega
          have hk2 := hk.resolve_left hm0
          have e1 : zs.toArray[m - 1]! = zs[m - 1] := by simp [show m - 1 < zs.length by omega]
          rw [em, e1] at hk2
          have l1 : zs[m - 1] ≤ zs[m] := (List.pairwise_iff_getElem.1 hs) (m - 1) m (by omega) hm' (by omega)
          rcases Nat.lt_or_ge j (m - 1) with q | q
          · have l2 : zs[j] ≤ zs[m - 1] := (List.pairwise_iff_getElem.1 hs) j (m - 1) hjl (by omega) q
            omega
          · have : j = m - 1 := by omega
            subst this; omega
        · rcases List.mem_append.1 hx with hx | hx
          · obtain ⟨j, hj, q⟩ := k2 x hx
            exact ⟨j, by omega, q⟩
          · rw [List.mem_singleton.1 hx]; exact ⟨m, by omega, hm', em⟩
      · rw [if_neg hk, List.append_nil]
        exact ⟨k1, fun x hx => by obtain ⟨j, hj, q⟩ := k2 x hx; exact ⟨j, by omega, q⟩⟩
  exact (key zs.length (Nat.le_refl _)).1
theorem riseL_ss (L : List Int) : (riseL L).Pairwise (· < ·) := cpL_ss (sortI_up L)
/-! ### Rows of edges -/
/-! ### Edges in order, each once, as the document lays them -/
theorem ltE_tr {a b c : EdT} (h : ltE a b = true) (k : ltE b c = true) : ltE a c = true := swoE.trans a b c h k
/-- What is known of the place at which an edge belongs. -/
structure AtK (out : List EdT) (x : EdT) (k : Nat) : Prop where
  le : k ≤ out.length
  up : ∀ j (h : j < out.length), k ≤ j → ltE x out[j] = true
/-- Is the edge ahead of the place yet greater? -/
def goK (out : List EdT) (x : EdT) (k : Nat) : Bool := decide (0 < k) && ltE x (out[k - 1]?.getD (0, 0, 0))
def eqK (out : List EdT) (x : EdT) (k : Nat) : Bool := decide (0 < k) && decide (out[k - 1]?.getD (0, 0, 0) = x)
theorem AtK.there {out : List EdT} {x : EdT} {k : Nat} (h : AtK out x k) (he : eqK out x k = true) : x ∈ out := by
  unfold eqK at he
  simp only [Bool.and_eq_true, decide_eq_true_eq] at he
  have hl := h.le
  have hj : k - 1 < out.length := by omega
  rw [List.getElem?_eq_getElem hj] at he
  rw [← he.2]
  exact List.getElem_mem hj
theorem AtK.put {out : List EdT} {x : EdT} {k : Nat} (h : AtK out x k) (hs : SsE out) (hg : goK out x k = false) (he : eqK out x k = false) : SsE (out.take k ++ x :: out.drop k) := by
  have hlow : ∀ a ∈ out.take k, ltE a x = true := by
    intro a ha
    obtain ⟨i, hi, rfl⟩ := List.mem_iff_getElem.1 ha
    have hi2 := hi
    rw [List.length_take] at hi2
    have hle := h.le
    rw [List.getElem_take]
    have hk : 0 < k := by omega
    have hj : k - 1 < out.length := by omega
    unfold goK at hg
    unfold eqK at he
    rw [List.getElem?_eq_getElem hj, decide_eq_true hk] at hg he
    simp only [Option.getD_some, Bool.true_and, decide_eq_false_iff_not] at hg he
    have hl : ltE out[k - 1] x = true := by
      cases hc : ltE out[k - 1] x with
      | true => rfl
      | false => exact absurd (totE _ _ hc hg) he
    by_cases e : i = k - 1
    · subst e; exact hl
    · exact ltE_tr (List.pairwise_iff_getElem.1 hs i (k - 1) (by omega) hj (by omega)) hl
  have hup : ∀ a ∈ out.drop k, ltE x a = true := by
    intro a ha
    obtain ⟨i, hi, rfl⟩ := List.mem_iff_getElem.1 ha
    have hi2 := hi
    rw [List.length_drop] at hi2
    rw [List.getElem_drop]
    exact h.up (k + i) (by omega) (by omega)
  unfold SsE
  rw [List.pairwise_append, List.pairwise_cons]
  refine ⟨List.Pairwise.sublist (List.take_sublist _ _) hs, ⟨hup, List.Pairwise.sublist (List.drop_sublist _ _) hs⟩, fun a ha b hb => ?_⟩
  rcases List.mem_cons.1 hb with rfl | hb
  · exact hlow a ha
  · exact ltE_tr (hlow a ha) (hup b hb)
/-! ### Numbers below a bound, rising, as the document lays them -/
theorem up_eqI : ∀ (A B : List Int), A.Pairwise (· < ·) → B.Pairwise (· < ·) → (∀ x, x ∈ A ↔ x ∈ B) → A = B
  | [], [], _, _, _ => rfl
  | [], b :: B, _, _, h => absurd ((h b).2 (by simp)) (by simp)
  | a :: A, [], _, _, h => absurd ((h a).1 (by simp)) (by simp)
  | a :: A, b :: B, hA, hB, h => by
    rw [List.pairwise_cons] at hA hB
    have e : a = b := by
      rcases List.mem_cons.1 ((h a).1 (by simp)) with q | q
      · exact q
      · rcases List.mem_cons.1 ((h b).2 (by simp)) with r | r
        · exact r.symm
        · have := hB.1 a q; have := hA.1 b r; omega
    subst e
    congr 1
    refine up_eqI A B hA.2 hB.2 fun x => ⟨fun q => ?_, fun q => ?_⟩
    · rcases List.mem_cons.1 ((h x).1 (by simp [q])) with r | r
      · have := hA.1 x q; omega
      · exact r
    · rcases List.mem_cons.1 ((h x).2 (by simp [q])) with r | r
      · have := hB.1 x q; omega
      · exact r
theorem Mrw.made {W : World} {b H n : Nat} (h : W.ownsRow b 4 1 (.slice (some ⟨H, 0, none⟩) n n) n (madeCells #[Value.bool false] n).toList) : Mrw W H 4 n (fun _ => .bool false) n := by
  obtain ⟨h0, h1⟩ := h
  rcases h1 with ⟨e, _⟩ | ⟨g, cap, cur, e, h2, h3, h4, h5, h6, h7⟩
  · cases e
  · cases e
    refine ⟨cur, h3, by omega, fun j hj => ?_⟩
    have hj2 : j < n * 1 := by omega
    have e1 : (cur.toList.take (n * 1))[j]? = cur[j]? := by rw [List.getElem?_take_of_lt hj2, Array.getElem?_toList]
    rw [← e1, h7]
    simp [madeCells, hj, Nat.mod_one]
end Go.Proofs.YtojnlpicgemlaaaDoor
namespace Go.Proofs.YtojnlpicgemlaaaDoor
open Go.RowKit Go.Maps
attribute [local go_sem] Oper.semAt_some

/-! ### An automaton in order -/
end Go.Proofs.YtojnlpicgemlaaaDoor
namespace Go.Proofs.YtojnlpicgemlaaaDoor
open Go.RowKit Go.Maps Go.Shelf
attribute [local go_sem] Oper.semAt_some

/-! ### The document's Trim -/
/-- The useful numbers below i; a number's new name. -/
def uL (U : Nat → Bool) (i : Nat) : List Nat := (List.range i).filter U
def uN (U : Nat → Bool) (q : Nat) : Int := if U q = true then ((uL U q).length : Int) else -1
theorem uL_yes {U : Nat → Bool} {i : Nat} (h : U i = true) : uL U (i + 1) = uL U i ++ [i] := by
  unfold uL
  rw [List.range_succ, List.filter_append, List.filter_cons_of_pos h]
  rfl
theorem uL_no {U : Nat → Bool} {i : Nat} (h : U i = false) : uL U (i + 1) = uL U i := by
  unfold uL
  rw [List.range_succ, List.filter_append, List.filter_cons_of_neg (by rw [h]; decide)]
  simp
/-- States renamed, edges renamed. -/
def dL (U : Nat → Bool) (Fr : List Int) : List Int := (Fr.filter fun x => U x.toNat).map fun x => uN U x.toNat
def dE (U : Nat → Bool) (Ed : List EdT) : List EdT := (Ed.filter fun e => U e.1.toNat && U e.2.2.toNat).map fun e => (uN U e.1.toNat, e.2.1, uN U e.2.2.toNat)
theorem dE_len (U : Nat → Bool) (Ed : List EdT) : (dE U Ed).length ≤ Ed.length := by
  unfold dE
  rw [List.length_map]
  exact List.length_filter_le _ _
structure PrS (wz wr : World) (bq k : Nat) (mv : Int) (v : Value) (L : List Int) : Prop where
  box : wr.heap[bq]? = some (.cells #[.int .i64 (k : Int), .int .i64 mv, v, .slice none 0 0, .slice none 0 0] 25 (0, 0))
  row : wr.ownsRow wz.heap.size 3 1 v L.length (L.map (Value.int .i64))
  only : Only wz wr (fun x => x = bq)
structure PrF (wz wr : World) (bq k : Nat) (mv : Int) (v1 v : Value) (L : List Int) : Prop where
  box : wr.heap[bq]? = some (.cells #[.int .i64 (k : Int), .int .i64 mv, v1, v, .slice none 0 0] 25 (0, 0))
  row : wr.ownsRow wz.heap.size 3 1 v L.length (L.map (Value.int .i64))
  only : Only wz wr (fun x => x = bq)
theorem uL_mono (U : Nat → Bool) {i : Nat} : ∀ {j : Nat}, i ≤ j → (uL U i).length ≤ (uL U j).length
  | 0, h => by
    obtain rfl : i = 0 := by omega
    exact Nat.le_refl _
  | j + 1, h => by
    by_cases e : i = j + 1
    · subst e; exact Nat.le_refl _
    · have := uL_mono U (i := i) (j := j) (by omega)
      cases hu : U j
      · rw [uL_no hu]; exact this
      · rw [uL_yes hu, List.length_append]; omega
theorem uN_lt {U : Nat → Bool} {q N : Nat} (hu : U q = true) (hq : q < N) : 0 ≤ uN U q ∧ uN U q < ((uL U N).length : Int) := by
  unfold uN
  rw [if_pos hu]
  have h1 := uL_mono U (i := q + 1) (j := N) (by omega)
  rw [uL_yes hu, List.length_append, List.length_singleton] at h1
  omega
end Go.Proofs.YtojnlpicgemlaaaDoor
namespace Go.Proofs.YtojnlpicgemlaaaDoor
open Go.RowKit Go.Maps Go.Shelf
attribute [local go_sem] Oper.semAt_some

/-! ### Trim: both answer the same -/
theorem uL_mem {U : Nat → Bool} {N q : Nat} : q ∈ uL U N ↔ q < N ∧ U q = true := by
  unfold uL
  rw [List.mem_filter, List.mem_range]
theorem uL_idx {U : Nat → Bool} {N : Nat} : ∀ {q : Nat}, q < N → U q = true → (uL U N).idxOf q = (uL U q).length := by
  induction N with
  | zero => intro q hq; omega
  | succ N ih =>
    intro q hq hu
    by_cases e : q = N
    · subst e
      rw [uL_yes hu, List.idxOf_append, if_neg (fun h => by have := (uL_mem.1 h).1; omega)]
      simp
    · have hq' : q < N := by omega
      cases hN : U N
      · rw [uL_no hN]; exact ih hq' hu
      · rw [uL_yes hN, List.idxOf_append, if_pos (uL_mem.2 ⟨hq', hu⟩)]; exact ih hq' hu
theorem numT_uN {U : Nat → Bool} {N q : Nat} (hq : q < N) (hu : U q = true) : numT (uL U N) q = uN U q := by
  unfold numT numA uN
  rw [if_pos hu, List.take_length, if_pos (uL_mem.2 ⟨hq, hu⟩), uL_idx hq hu]
theorem use_uL {U : Nat → Bool} {N : Nat} {St Fi : List Int} {Ed : List EdT} (h : ∀ q, q < N → (U q = true ↔ useP St Fi Ed q)) : elems N (useX N St Fi Ed) = uL U N := by
  unfold elems uL
  refine List.filter_congr (fun q hq => ?_)
  have hq' := List.mem_range.1 hq
  rw [Bool.eq_iff_iff, useX_test, h q hq']
  exact ⟨fun h => h.2, fun h => ⟨hq', h⟩⟩
theorem use_has {U : Nat → Bool} {N q : Nat} {St Fi : List Int} {Ed : List EdT} (h : ∀ q, q < N → (U q = true ↔ useP St Fi Ed q)) (hq : q < N) : hasB (useX N St Fi Ed) (q : Int) = U q := by
  have : (useX N St Fi Ed).testBit q = U q := by
    rw [Bool.eq_iff_iff, useX_test, h q hq]
    exact ⟨fun h => h.2, fun h => ⟨hq, h⟩⟩
  rw [← this]
  simp [hasB]
theorem ren_dL {U : Nat → Bool} {N : Nat} {St Fi L : List Int} {Ed : List EdT} (h : ∀ q, q < N → (U q = true ↔ useP St Fi Ed q)) (hL : ∀ x ∈ L, ∃ q : Nat, q < N ∧ x = (q : Int)) : renL (useX N St Fi Ed) (numT (uL U N)) L = dL U L := by
  unfold renL dL
  have e1 : L.filter (fun p => hasB (useX N St Fi Ed) p) = L.filter (fun x => U x.toNat) := List.filter_congr (fun x hx => by
    obtain ⟨q, hq, rfl⟩ := hL x hx
    rw [use_has h hq, Int.toNat_natCast])
  rw [e1]
  refine List.map_congr_left (fun x hx => ?_)
  have h1 := List.mem_filter.1 hx
  obtain ⟨q, hq, rfl⟩ := hL x h1.1
  rw [Int.toNat_natCast]
  exact numT_uN hq (by simpa using h1.2)
theorem ren_dE {U : Nat → Bool} {N : Nat} {St Fi : List Int} {Ed L : List EdT} (h : ∀ q, q < N → (U q = true ↔ useP St Fi Ed q)) (hL : ∀ e ∈ L, ∃ p r : Nat, p < N ∧ r < N ∧ e.1 = (p : Int) ∧ e.2.2 = (r : Int)) : renE (useX N St Fi Ed) (numT (uL U N)) L = dE U L := by
  unfold renE dE
  have e1 : L.filter (fun e => hasB (useX N St Fi Ed) e.1 && hasB (useX N St Fi Ed) e.2.2) = L.filter (fun e => U e.1.toNat && U e.2.2.toNat) := List.filter_congr (fun e he => by
    obtain ⟨p, r, hp, hr, h1, h2⟩ := hL e he
    rw [h1, h2, use_has h hp, use_has h hr, Int.toNat_natCast, Int.toNat_natCast])
  rw [e1]
  refine List.map_congr_left (fun e he => ?_)
  have h1 := List.mem_filter.1 he
  obtain ⟨p, r, hp, hr, h2, h3⟩ := hL e h1.1
  have h4 := h1.2
  rw [h2, h3, Int.toNat_natCast, Int.toNat_natCast, Bool.and_eq_true] at h4
  rw [h2, h3, Int.toNat_natCast, Int.toNat_natCast, numT_uN hp h4.1, numT_uN hr h4.2]
theorem uN_up {U : Nat → Bool} {p q : Nat} (hp : U p = true) (hq : U q = true) (h : p < q) : uN U p < uN U q := by
  have h1 := uN_lt hp h
  unfold uN at *
  rw [if_pos hp] at *
  rw [if_pos hq]
  exact h1.2
/-- What is renamed in order is in order. -/
theorem rise_dL {U : Nat → Bool} {N : Nat} {L : List Int} (hL : ∀ x ∈ L, ∃ q : Nat, q < N ∧ x = (q : Int)) : riseL (dL U L) = dL U (riseL L) := by
  refine up_eqI _ _ (riseL_ss _) ?_ (fun x => ?_)
  · unfold dL
    rw [List.pairwise_map]
    have h1 : ((riseL L).filter fun x => U x.toNat).Pairwise (· < ·) := (riseL_ss L).filter _
    refine List.Pairwise.imp_of_mem ?_ h1
    intro a b ha hb hab
    have ha' := List.mem_filter.1 ha
    have hb' := List.mem_filter.1 hb
    obtain ⟨p, hp, rfl⟩ := hL a ((riseL_iff L a).1 ha'.1)
    obtain ⟨q, hq, rfl⟩ := hL b ((riseL_iff L b).1 hb'.1)
    rw [Int.toNat_natCast, Int.toNat_natCast]
    exact uN_up (by simpa using ha'.2) (by simpa using hb'.2) (by omega)
  · rw [riseL_iff]
    unfold dL
    rw [List.mem_map, List.mem_map]
    refine exists_congr (fun y => and_congr ?_ Iff.rfl)
    rw [List.mem_filter, List.mem_filter, riseL_iff]
theorem rise_dE {U : Nat → Bool} {N : Nat} {L : List EdT} (hL : ∀ e ∈ L, ∃ p r : Nat, p < N ∧ r < N ∧ e.1 = (p : Int) ∧ e.2.2 = (r : Int)) : riseE (dE U L) = dE U (riseE L) := by
  refine ss_eq _ _ (riseE_ss _) ?_ (fun x => ?_)
  · unfold SsE dE
    rw [List.pairwise_map]
    have h1 : ((riseE L).filter fun e => U e.1.toNat && U e.2.2.toNat).Pairwise (fun a b => ltE a b = true) := (riseE_ss L).filter _
    refine List.Pairwise.imp_of_mem ?_ h1
    intro a b ha hb hab
    have ha' := List.mem_filter.1 ha
    have hb' := List.mem_filter.1 hb
    obtain ⟨p, r, hp, hr, a1, a2⟩ := hL a ((riseE_iff L a).1 ha'.1)
    obtain ⟨p', r', hp', hr', b1, b2⟩ := hL b ((riseE_iff L b).1 hb'.1)
    have ua := ha'.2
    have ub := hb'.2
    rw [a1, a2, Int.toNat_natCast, Int.toNat_natCast, Bool.and_eq_true] at ua
    rw [b1, b2, Int.toNat_natCast, Int.toNat_natCast, Bool.and_eq_true] at ub
    rw [ltE_iff] at hab ⊢
    simp only [a1, a2, b1, b2, Int.toNat_natCast] at hab ⊢
    rcases hab with h | ⟨h, h'⟩
    · exact .inl (uN_up ua.1 ub.1 (by omega))
    · have e : p = p' := by omega
      subst e
      rcases h' with h' | ⟨h', h''⟩
      · exact .inr ⟨rfl, .inl h'⟩
      · exact .inr ⟨rfl, .inr ⟨h', uN_up ua.2 ub.2 (by omega)⟩⟩
  · rw [riseE_iff]
    unfold dE
    rw [List.mem_map, List.mem_map]
    refine exists_congr (fun y => and_congr ?_ Iff.rfl)
    rw [List.mem_filter, List.mem_filter, riseE_iff]
end Go.Proofs.YtojnlpicgemlaaaDoor
