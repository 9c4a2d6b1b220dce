import Derived.Test.YtgifamdoolcemaaDoorMs
namespace Go.Proofs.YtgifamdoolcemaaDoor

/-! ### Names and ops, a byte more -/
theorem nm_iff (l : List Nat) : nmF l = true ↔ 1 ≤ l.length ∧ l.length ≤ 16 ∧ l.all isNm = true := by simp [nmF]
theorem nm_snoc {n : List Nat} {b : Nat} (h : nmF n = true ∨ n = []) : nmF (n ++ [b]) = (decide (n.length < 16) && isNm b) := by
  have ha : n.all isNm = true := by
    rcases h with h | h
    · exact ((nm_iff n).1 h).2.2
    · subst h; rfl
  unfold nmF
  rw [List.all_append, ha, List.length_append, List.length_singleton]
  rw [Bool.eq_iff_iff]
  simp
  omega
theorem nm_58 {l : List Nat} (h : 58 ∈ l) : nmF l = false := by
  refine nmF_false ?_
  rw [List.all_eq_false]
  exact ⟨58, h, by decide⟩
theorem nm_len {n : List Nat} (h : nmF n = true) : 0 < n.length := by have := ((nm_iff n).1 h).1; omega
theorem nm_all {n : List Nat} (h : nmF n = true) : ∀ x ∈ n, isNm x = true := List.all_eq_true.1 ((nm_iff n).1 h).2.2
theorem op_name {l : List Nat} (h : nmF l = true) : opF l = (false, true) := by unfold opF; rw [if_pos h]
theorem getD_last (n : List Nat) (b : Nat) : (n ++ [b]).getD ((n ++ [b]).length - 1) 0 = b := by
  simp [List.getD_eq_getElem?_getD]
theorem take_last (n : List Nat) (b : Nat) : (n ++ [b]).take ((n ++ [b]).length - 1) = n := by simp
theorem op_colon {n : List Nat} (h : nmF n = true) : opF (n ++ [58]) = (false, true) := by
  have hl := nm_len h
  unfold opF
  rw [if_neg (by rw [nm_58 (by simp)]; simp), if_pos ⟨by simp; omega, getD_last n 58⟩]
  simp [h]
theorem op_tail {l : List Nat} (h1 : nmF l = false) (h2 : ¬ (2 ≤ l.length ∧ l.getD (l.length - 1) 0 = 58)) (h3 : ¬ (3 ≤ l.length ∧ l.getD (l.length - 2) 0 = 58 ∧ (l.getD (l.length - 1) 0 = 48 ∨ l.getD (l.length - 1) 0 = 49))) : opF l = (false, false) := by
  unfold opF
  rw [if_neg (by rw [h1]; simp), if_neg h2]
  simp only [decide_eq_false h3, Bool.false_and]
theorem getD_two (n : List Nat) (a b : Nat) : (n ++ [a, b]).getD ((n ++ [a, b]).length - 2) 0 = a ∧ (n ++ [a, b]).getD ((n ++ [a, b]).length - 1) 0 = b := by
  constructor
  · simp [List.getD_eq_getElem?_getD]
  · simp
theorem op_whole {n : List Nat} {d : Nat} (h : nmF n = true) (hd : d = 48 ∨ d = 49) : opF (n ++ [58, d]) = (true, true) := by
  have hl := nm_len h
  obtain ⟨g1, g2⟩ := getD_two n 58 d
  unfold opF
  rw [if_neg (by rw [nm_58 (by simp)]; simp), if_neg (fun hc => by rw [g2] at hc; omega)]
  simp only [g1, g2]
  rw [decide_eq_true ⟨by simp; omega, trivial, hd⟩]
  simp [h]
theorem op_bad1 {n : List Nat} {b : Nat} (h : nmF n = true) (hb : b ≠ 58) (hn : nmF (n ++ [b]) = false) : opF (n ++ [b]) = (false, false) := by
  refine op_tail hn (fun hc => hb (by rw [getD_last] at hc; exact hc.2)) (fun hc => ?_)
  have hl := nm_len h
  obtain ⟨m, c, rfl⟩ : ∃ m c, n = m ++ [c] := ⟨n.dropLast, n.getLast (by intro e; rw [e] at hl; simp at hl), (List.dropLast_concat_getLast _).symm⟩
  have g := (getD_two m c b).1
  rw [List.append_assoc] at hc
  have e : [c] ++ [b] = [c, b] := rfl
  rw [e, g] at hc
  have := nm_all h c (by simp)
  rw [hc.2.1] at this
  exact absurd this (by decide)
theorem op_bad2 {n : List Nat} {b : Nat} (h48 : b ≠ 48) (h49 : b ≠ 49) : opF (n ++ [58, b]) = (false, false) := by
  obtain ⟨g1, g2⟩ := getD_two n 58 b
  by_cases hb : b = 58
  · subst hb
    have e : n ++ [58, 58] = (n ++ [58]) ++ [58] := by simp
    unfold opF
    rw [if_neg (by rw [nm_58 (by simp)]; simp), if_pos ⟨by simp, g2⟩, e, take_last, nm_58 (by simp)]
  · exact op_tail (nm_58 (by simp)) (fun hc => hb (by rw [g2] at hc; exact hc.2)) (fun hc => by rw [g2] at hc; omega)
theorem op_bad3 {n : List Nat} {d b : Nat} (hd : d = 48 ∨ d = 49) : opF (n ++ [58, d, b]) = (false, false) := by
  have e : n ++ [58, d, b] = (n ++ [58]) ++ [d, b] := by simp
  obtain ⟨g1, g2⟩ := getD_two (n ++ [58]) d b
  rw [e]
  by_cases hb : b = 58
  · subst hb
    unfold opF
    have e2 : (n ++ [58]) ++ [d, 58] = (n ++ [58, d]) ++ [58] := by simp
    rw [if_neg (by rw [nm_58 (by simp)]; simp), if_pos ⟨by simp, g2⟩, e2, take_last, nm_58 (by simp)]
  · exact op_tail (nm_58 (by simp)) (fun hc => hb (by rw [g2] at hc; exact hc.2)) (fun hc => by rw [g1] at hc; omega)
theorem op_single {b : Nat} (h : isNm b = false) : opF [b] = (false, false) := by
  refine op_tail ?_ (fun hc => by simp at hc) (fun hc => by simp at hc)
  exact nmF_false (by simp [h])

/-! ### The fields of what stands behind a line's word -/
def Fo (r : List Nat) : List (List Nat) × List Nat := r.foldl fldStep ([], [])
theorem Fo_snoc (r : List Nat) (b : Nat) : Fo (r ++ [b]) = fldStep (Fo r) b := by unfold Fo; rw [List.foldl_append]; rfl
theorem flds_eq (r : List Nat) : flds r = fldEnd (Fo r) := by unfold flds fldAt Fo; rw [List.take_length]
theorem Fo_last {r : List Nat} (h : r ≠ []) : blk (r.getD (r.length - 1) 0) = decide ((Fo r).2 = []) := by
  obtain ⟨m, c, rfl⟩ : ∃ m c, r = m ++ [c] := ⟨r.dropLast, r.getLast h, (List.dropLast_concat_getLast _).symm⟩
  rw [getD_last, Fo_snoc]
  unfold fldStep
  cases hc : blk c
  · simp
  · simp
    split
    · rename_i he; exact he
    · rfl
theorem rl_app {sec tot : Nat} {eb : Bool} {out : List (List Nat)} (tl : List (List Nat)) (h : ∀ x ∈ out, (fieldF sec x).1 = true) (ht : tl ≠ []) : restLoop sec eb tot (out ++ tl) = restLoop sec eb tot tl := by
  induction out with
  | nil => rfl
  | cons x r ih =>
    show (if r ++ tl = [] ∧ eb = true then _ else if (fieldF sec x).1 = true then restLoop sec eb tot (r ++ tl) else _) = _
    rw [if_neg (fun hc => ht (by have := hc.1; simp at this; exact this.2)), if_pos (h x (by simp)), ih (fun y hy => h y (by simp [hy]))]
theorem rl_all {sec tot : Nat} {out : List (List Nat)} (h : ∀ x ∈ out, (fieldF sec x).1 = true) : restLoop sec false tot out = (decide (sec ≠ 1) || decide (tot = 1), true) := by
  induction out with
  | nil => rfl
  | cons x r ih =>
    show (if r = [] ∧ false = true then _ else if (fieldF sec x).1 = true then restLoop sec false tot r else _) = _
    rw [if_neg (fun hc => by cases hc.2), if_pos (h x (by simp)), ih (fun y hy => h y (by simp [hy]))]
theorem rl_bad {sec tot : Nat} {out : List (List Nat)} {y : List Nat} (h : ∀ x ∈ out, (fieldF sec x).1 = true) (hy : (fieldF sec y).1 = false) : restLoop sec false tot (out ++ [y]) = (false, false) := by
  rw [rl_app _ h (by simp)]
  show (if ([] : List (List Nat)) = [] ∧ false = true then _ else if (fieldF sec y).1 = true then _ else _) = _
  rw [if_neg (fun hc => by cases hc.2), if_neg (by rw [hy]; simp)]
theorem rl_last {sec tot : Nat} {out : List (List Nat)} {y : List Nat} (h : ∀ x ∈ out, (fieldF sec x).1 = true) : restLoop sec true tot (out ++ [y]) = fieldF sec y := by
  rw [rl_app _ h (by simp)]
  show (if ([] : List (List Nat)) = [] ∧ true = true then _ else _) = _
  rw [if_pos ⟨rfl, rfl⟩]

/-- What restF says, by the fields' state. -/
theorem rest_state {sec : Nat} {r : List Nat} (h : r ≠ []) (hb : blk (r.headD 0) = true) : restF sec r = if sec = 4 ∨ (sec = 1 ∧ 1 < (fldEnd (Fo r)).length) then (decide (sec = 4 ∧ (fldEnd (Fo r)).length = 0), decide (sec = 4 ∧ (fldEnd (Fo r)).length = 0)) else restLoop sec (!decide ((Fo r).2 = [])) (fldEnd (Fo r)).length (fldEnd (Fo r)) := by
  unfold restF
  rw [if_neg h, if_neg (by rw [hb]; simp), flds_eq, Fo_last h]
theorem rest_nb {sec : Nat} {r : List Nat} (h : r ≠ []) (hb : blk (r.headD 0) = false) : restF sec r = (false, false) := by
  unfold restF
  rw [if_neg h, if_pos hb]

def OpS (cur : List Nat) (e : Nat × Nat) : Prop := (nmF cur = true ∧ e = (5, cur.length)) ∨ (∃ n, nmF n = true ∧ cur = n ++ [58] ∧ e = (6, 0)) ∨ (∃ n d, nmF n = true ∧ (d = 48 ∨ d = 49) ∧ cur = n ++ [58, d] ∧ e = (3, 0))
def RSt : Nat → List (List Nat) → List Nat → Nat × Nat → Prop
  | 0, out, cur, e => (∀ x ∈ out, (opF x).1 = true) ∧ ((cur = [] ∧ e = (4, 0)) ∨ OpS cur e)
  | 1, out, cur, e => (out = [] ∧ cur = [] ∧ e = (10, 0)) ∨ (out = [] ∧ nmF cur = true ∧ e = (11, cur.length)) ∨ (∃ x, out = [x] ∧ nmF x = true ∧ cur = [] ∧ e = (13, 0))
  | 2, out, cur, e => (∀ x ∈ out, nmF x = true) ∧ ((cur = [] ∧ e = (15, 0)) ∨ (nmF cur = true ∧ e = (16, cur.length)))
  | 3, out, cur, e => (∀ x ∈ out, nmF x = true) ∧ ((cur = [] ∧ e = (20, 0)) ∨ (nmF cur = true ∧ e = (21, cur.length)))
  | _, out, cur, e => out = [] ∧ cur = [] ∧ e = (25, 0)
def RInv (sec : Nat) (r : List Nat) (e : Nat × Nat) : Prop := (r = [] ∧ e = En sec) ∨ (r ≠ [] ∧ blk (r.headD 0) = true ∧ RSt sec (Fo r).1 (Fo r).2 e)
end Go.Proofs.YtgifamdoolcemaaDoor
