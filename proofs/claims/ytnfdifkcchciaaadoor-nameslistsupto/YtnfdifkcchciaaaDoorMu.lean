import Derived.Test.YtnfdifkcchciaaaDoorMp
import Derived.Test.YtnfdifkcchciaaaDoorRq
import Derived.Test.YtnfdifkcchciaaaDoorRx
import Derived.Test.YtnfdifkcchciaaaDoorDg
namespace Go.Proofs.YtnfdifkcchciaaaDoor
open Go.RowKit Go.Maps

theorem own_up {w : World} {e size n B : Nat} {v : Value} {xs : List Value} (h : w.ownsRow 0 e size v n xs) (hb : ∀ b, v.ownBlock = some b → B ≤ b) : w.ownsRow B e size v n xs := by
  refine ⟨h.1, ?_⟩
  rcases h.2 with h1 | ⟨g, cap, cur, rfl, _, r⟩
  · exact .inl h1
  · exact .inr ⟨g, cap, cur, rfl, hb g rfl, r⟩

/-- Merge: its error's number, its three lists (none where it errs). -/
def mrgC (a b : List ByteArray) : Int := if a.all vld = true ∧ b.all vld = true then (if a.Nodup ∧ b.Nodup then 0 else 21) else 20
def mL (a b : List ByteArray) : List ByteArray := if mrgC a b = 0 then mrg a b else []
def mP (a b : List ByteArray) : List Nat := if mrgC a b = 0 then List.range a.length else []
def mQ (a b : List ByteArray) : List Nat := if mrgC a b = 0 then qOf a b else []
def MOut (a b : List ByteArray) (v p q : Value) (w w' : World) : Prop := OwnS w' w.heap.size v (mL a b) ∧ OwnN w' w.heap.size p (mP a b) ∧ OwnN w' w.heap.size q (mQ a b)
theorem mout_nil {a b : List ByteArray} {w w' : World} (h : mrgC a b ≠ 0) : MOut a b (.slice none 0 0) (.slice none 0 0) (.slice none 0 0) w w' := by
  unfold MOut mL mP mQ
  rw [if_neg h, if_neg h, if_neg h]
  exact ⟨World.ownsRow_nil _ _ _ _, World.ownsRow_nil _ _ _ _, World.ownsRow_nil _ _ _ _⟩
theorem mout_ok {a b : List ByteArray} {v p q : Value} {w w' : World} (h : mrgC a b = 0) (h1 : OwnS w' w.heap.size v (mrg a b)) (h2 : OwnN w' w.heap.size p (List.range a.length)) (h3 : OwnN w' w.heap.size q (qOf a b)) : MOut a b v p q w w' := by
  unfold MOut mL mP mQ
  rw [if_pos h, if_pos h, if_pos h]
  exact ⟨h1, h2, h3⟩

theorem merge_u (va vb : Value) (a b : List ByteArray) (w : World) (ha : StrS w va a) (hb : StrS w vb b) (la : a.length ≤ 2097152) (lb : b.length ≤ 2097152) (sa : Sml a) (sb : Sml b) (hT : BytesAt w) (hw0 : 0 < w.heap.size) :
    Calls Tryd.prog 16 #[va, vb] w fun e w' => (∃ v p q, e = .returned (.tuple #[v, p, q, .int .i64 (mrgC a b)]) ∧ MOut a b v p q w w' ∧ ∀ b, p.ownBlock = some b → q.ownBlock ≠ some b) ∧ Below w.heap.size w w' := by
  by_cases h : a.all vld = true ∧ b.all vld = true
  · by_cases n : a.Nodup ∧ b.Nodup
    · have e0 : mrgC a b = 0 := by unfold mrgC; rw [if_pos h, if_pos n]
      refine (merge_okp va vb a b w ha hb la lb sa sb h.1 h.2 n.1 n.2 hT hw0).mono ?_
      rintro e w' ⟨v, p, q, rfl, h1, h2, h3, h4, d⟩
      exact ⟨⟨v, p, q, by rw [e0], mout_ok e0 h1 h2 h3, h4⟩, d⟩
    · have e0 : mrgC a b = 21 := by unfold mrgC; rw [if_pos h, if_neg n]
      refine (merge_twice va vb a b w ha hb la lb sa sb h.1 h.2 n hT hw0).mono ?_
      rintro e w' ⟨rfl, d⟩
      exact ⟨⟨_, _, _, by rw [e0], mout_nil (by rw [e0]; decide), fun b hb => by cases hb⟩, d⟩
  · have e0 : mrgC a b = 20 := by unfold mrgC; rw [if_neg h]
    refine (merge_noname va vb a b w ha hb la lb h hT hw0).mono ?_
    rintro e w' ⟨rfl, d⟩
    exact ⟨⟨_, _, _, by rw [e0], mout_nil (by rw [e0]; decide), fun b hb => by cases hb⟩, d⟩
theorem rmerge_u (va vb : Value) (a b : List ByteArray) (w : World) (ha : StrS w va a) (hb : StrS w vb b) (la : a.length ≤ 2097152) (lb : b.length ≤ 2097152) :
    Calls Tryd.prog 27 #[va, vb] w fun e w' => (∃ v p q, e = .returned (.tuple #[v, p, q, .int .i64 (mrgC a b)]) ∧ MOut a b v p q w w') ∧ Below w.heap.size w w' := by
  by_cases h : a.all vld = true ∧ b.all vld = true
  · by_cases n : a.Nodup ∧ b.Nodup
    · have e0 : mrgC a b = 0 := by unfold mrgC; rw [if_pos h, if_pos n]
      refine (rmerge_ok va vb a b w ha hb la lb h.1 h.2 n.1 n.2).mono ?_
      rintro e w' ⟨v, p, q, rfl, h1, h2, h3, d⟩
      exact ⟨⟨v, p, q, by rw [e0], mout_ok e0 h1 h2 h3⟩, d⟩
    · have e0 : mrgC a b = 21 := by unfold mrgC; rw [if_pos h, if_neg n]
      refine (rmerge_twice va vb a b w ha hb la lb h.1 h.2 n).mono ?_
      rintro e w' ⟨rfl, rfl⟩
      exact ⟨⟨_, _, _, by rw [e0], mout_nil (by rw [e0]; decide)⟩, Below.refl _ _⟩
  · have e0 : mrgC a b = 20 := by unfold mrgC; rw [if_neg h]
    refine (rmerge_noname va vb a b w ha hb la lb h).mono ?_
    rintro e w' ⟨rfl, rfl⟩
    exact ⟨⟨_, _, _, by rw [e0], mout_nil (by rw [e0]; decide)⟩, Below.refl _ _⟩

/-- Rename: its error's number, its list. -/
def rnC (l f t : List ByteArray) : Int := if f.length = t.length then renC (renL l f t) else 1
def rnL (l f t : List ByteArray) : List ByteArray := if rnC l f t = 0 then renL l f t else []
theorem rout_u {l f t : List ByteArray} {c : Int} {v : Value} {w w' : World} (hl : f.length = t.length) (h : ROut (renL l f t) c v w w') : c = rnC l f t ∧ OwnS w' w.heap.size v (rnL l f t) := by
  have e : rnC l f t = renC (renL l f t) := by unfold rnC; rw [if_pos hl]
  refine ⟨by rw [e]; exact h.1, ?_⟩
  unfold rnL
  rw [e]
  rcases h.2 with ⟨h0, h1, h2⟩ | ⟨h0, rfl⟩
  · rw [if_pos h0]; exact own_up h1 h2
  · rw [if_neg h0]; exact World.ownsRow_nil _ _ _ _
theorem renL_sml {l f t : List ByteArray} (hl : f.length = t.length) (h1 : ∀ s ∈ l, s.size ≤ 1048576) (h2 : ∀ s ∈ t, s.size ≤ 1048576) : ∀ s ∈ renL l f t, s.size ≤ 1048576 := by
  intro s hs
  obtain ⟨x, hx, rfl⟩ := List.mem_map.1 hs
  by_cases hf : x ∈ f
  · obtain ⟨hi, he⟩ := ren1_in (t := t) hf hl
    rw [he]
    exact h2 _ (List.getElem_mem hi)
  · have : ren1 f t x = x := by unfold ren1; rw [if_neg (fun e => hf (mem_c.1 e))]
    rw [this]
    exact h1 x hx
theorem rename_u (vl vf vt : Value) (l f t : List ByteArray) (w : World) (hl : StrS w vl l) (hf : StrS w vf f) (ht : StrS w vt t) (sl : Sml l) (sf : Sml f) (st : Sml t) (hT : BytesAt w) (hw0 : 0 < w.heap.size) :
    Calls Tryd.prog 35 #[vl, vf, vt] w fun e w' => (∃ v, e = .returned (.tuple #[v, .int .i64 (rnC l f t)]) ∧ OwnS w' w.heap.size v (rnL l f t)) ∧ Below w.heap.size w w' := by
  by_cases h : f.length = t.length
  · refine (rename_q vl vf vt l f t w hl hf ht h sl sf _ rfl (renL_sml h sl.2 st.2) hT hw0).mono ?_
    rintro e w' ⟨⟨v, c, rfl, ho⟩, d⟩
    obtain ⟨h1, h2⟩ := rout_u h ho
    exact ⟨⟨v, by rw [h1], h2⟩, d⟩
  · have e0 : rnC l f t = 1 := by unfold rnC; rw [if_neg h]
    refine (rename_len vl vf vt l f t w hl hf ht h).mono ?_
    rintro e w' ⟨rfl, d⟩
    refine ⟨⟨_, by rw [e0], ?_⟩, d⟩
    unfold rnL
    rw [e0, if_neg (by decide)]
    exact World.ownsRow_nil _ _ _ _
theorem rrename_u (vl vf vt : Value) (l f t : List ByteArray) (w : World) (hl : StrS w vl l) (hf : StrS w vf f) (ht : StrS w vt t) (ll : l.length ≤ 2097152) (lf : f.length ≤ 2097152) :
    Calls Tryd.prog 34 #[vl, vf, vt] w fun e w' => (∃ v, e = .returned (.tuple #[v, .int .i64 (rnC l f t)]) ∧ OwnS w' w.heap.size v (rnL l f t)) ∧ Below w.heap.size w w' := by
  by_cases h : f.length = t.length
  · refine (rrename_eq vl vf vt l f t _ w hl hf ht h ll lf rfl).mono ?_
    rintro e w' ⟨⟨v, c, rfl, ho⟩, d⟩
    obtain ⟨h1, h2⟩ := rout_u h ho
    exact ⟨⟨v, by rw [h1], h2⟩, d⟩
  · have e0 : rnC l f t = 1 := by unfold rnC; rw [if_neg h]
    refine (rrename_len vl vf vt f t w hf ht h).mono ?_
    rintro e w' ⟨rfl, rfl⟩
    refine ⟨⟨_, by rw [e0], ?_⟩, Below.refl _ _⟩
    unfold rnL
    rw [e0, if_neg (by decide)]
    exact World.ownsRow_nil _ _ _ _

/-- Numbered: its error's number, its list. -/
def nuC (head : ByteArray) (n : Int) : Int := if n < 0 ∨ 4096 < n then 1 else numC (numL head n.toNat)
def nuL (head : ByteArray) (n : Int) : List ByteArray := if nuC head n = 0 then numL head n.toNat else []
theorem nout_u {head : ByteArray} {n : Nat} {c : Int} {v : Value} {w w' : World} (hn : n ≤ 4096) (h : NOut (numL head n) c v w w') : c = nuC head n ∧ OwnS w' w.heap.size v (nuL head n) := by
  have e : nuC head (n : Int) = numC (numL head n) := by unfold nuC; rw [if_neg (by omega), Int.toNat_natCast]
  refine ⟨by rw [e]; exact h.1, ?_⟩
  unfold nuL
  rw [e]
  rcases h.2 with ⟨h0, h1, h2⟩ | ⟨h0, rfl⟩
  · rw [if_pos h0, Int.toNat_natCast]; exact own_up h1 h2
  · rw [if_neg h0]; exact World.ownsRow_nil _ _ _ _
theorem nu_bad {head : ByteArray} {n : Int} (h : n < 0 ∨ 4096 < n) : nuC head n = 1 ∧ nuL head n = [] := by
  have e0 : nuC head n = 1 := by unfold nuC; rw [if_pos h]
  refine ⟨e0, ?_⟩
  unfold nuL
  rw [e0, if_neg (by decide)]
theorem num_u (head : ByteArray) (n : Int) (w : World) (hh : head.size ≤ 1048576) (hT : BytesAt w) (hP : PowAt w) (hw0 : 1 < w.heap.size) :
    Calls Tryd.prog 31 #[.string head, .int .i64 n] w fun e w' => (∃ v, e = .returned (.tuple #[v, .int .i64 (nuC head n)]) ∧ OwnS w' w.heap.size v (nuL head n)) ∧ Below w.heap.size w w' := by
  by_cases h : n < 0 ∨ 4096 < n
  · obtain ⟨e0, e1⟩ := nu_bad (head := head) h
    refine (num_bad head n w h).mono ?_
    rintro e w' ⟨rfl, rfl⟩
    exact ⟨⟨_, by rw [e0], by rw [e1]; exact World.ownsRow_nil _ _ _ _⟩, Below.refl _ _⟩
  · obtain ⟨k, rfl⟩ : ∃ k : Nat, n = k := ⟨n.toNat, by omega⟩
    refine (num_in head k w (by omega) hh hT hP hw0).mono ?_
    rintro e w' ⟨⟨v, c, rfl, ho⟩, d⟩
    obtain ⟨h1, h2⟩ := nout_u (by omega) ho
    exact ⟨⟨v, by rw [h1], h2⟩, d⟩
theorem rnum_u (head : ByteArray) (n : Int) (w : World) (hh : head.size ≤ 1048576) (hP : PowAt w) (hw0 : 1 < w.heap.size) :
    Calls Tryd.prog 30 #[.string head, .int .i64 n] w fun e w' => (∃ v, e = .returned (.tuple #[v, .int .i64 (nuC head n)]) ∧ OwnS w' w.heap.size v (nuL head n)) ∧ Below w.heap.size w w' := by
  by_cases h : n < 0 ∨ 4096 < n
  · obtain ⟨e0, e1⟩ := nu_bad (head := head) h
    refine (rnum_bad head n w h).mono ?_
    rintro e w' ⟨rfl, rfl⟩
    exact ⟨⟨_, by rw [e0], by rw [e1]; exact World.ownsRow_nil _ _ _ _⟩, Below.refl _ _⟩
  · obtain ⟨k, rfl⟩ : ∃ k : Nat, n = k := ⟨n.toNat, by omega⟩
    refine (rnum_in head k w (by omega) hh hP hw0).mono ?_
    rintro e w' ⟨⟨v, c, rfl, ho⟩, d⟩
    obtain ⟨h1, h2⟩ := nout_u (by omega) ho
    exact ⟨⟨v, by rw [h1], h2⟩, d⟩
end Go.Proofs.YtnfdifkcchciaaaDoor
