import Derived.Test.YtgifamdoolcemaaDoorMr
namespace Go.Proofs.YtgifamdoolcemaaDoor

theorem headD_snoc {r : List Nat} (h : r ≠ []) (b : Nat) : (r ++ [b]).headD 0 = r.headD 0 := by
  cases r with
  | nil => exact absurd rfl h
  | cons x r => rfl
theorem step_blank_cur {st : List (List Nat) × List Nat} {b : Nat} (hb : blk b = true) (hc : st.2 ≠ []) : fldStep st b = (st.1 ++ [st.2], []) := by unfold fldStep; rw [if_pos hb, if_neg hc]
theorem step_blank_nil {st : List (List Nat) × List Nat} {b : Nat} (hb : blk b = true) (hc : st.2 = []) : fldStep st b = st := by unfold fldStep; rw [if_pos hb, if_pos hc]
theorem step_char {st : List (List Nat) × List Nat} {b : Nat} (hb : blk b = false) : fldStep st b = (st.1, st.2 ++ [b]) := by unfold fldStep; rw [if_neg (by rw [hb]; simp)]

/-- A blank behind a field that is not whole. -/
theorem bad_blank {sec : Nat} {r : List Nat} {b : Nat} (h4 : sec ≠ 4) (h1 : sec ≠ 1) (hr : r ≠ []) (hh : blk (r.headD 0) = true) (hb : blk b = true) (hc : (Fo r).2 ≠ []) (ho : ∀ x ∈ (Fo r).1, (fieldF sec x).1 = true) (hf : (fieldF sec (Fo r).2).1 = false) : (restF sec (r ++ [b])).2 = false := by
  rw [rest_state (by simp) (by rw [headD_snoc hr]; exact hh), Fo_snoc, step_blank_cur hb hc, if_neg (fun h => h.elim h4 (fun h => h1 h.1))]
  simp only [fldEnd, if_true, decide_true, Bool.not_true]
  rw [rl_bad ho hf]
/-- A byte that makes a field no beginning of one. -/
theorem bad_char {sec : Nat} {r : List Nat} {b : Nat} (h4 : sec ≠ 4) (h1 : sec ≠ 1) (hr : r ≠ []) (hh : blk (r.headD 0) = true) (hb : blk b = false) (ho : ∀ x ∈ (Fo r).1, (fieldF sec x).1 = true) (hf : (fieldF sec ((Fo r).2 ++ [b])).2 = false) : (restF sec (r ++ [b])).2 = false := by
  rw [rest_state (by simp) (by rw [headD_snoc hr]; exact hh), Fo_snoc, step_char hb, if_neg (fun h => h.elim h4 (fun h => h1 h.1))]
  have hne : (Fo r).2 ++ [b] ≠ [] := by simp
  simp only [fldEnd, if_neg hne, decide_eq_false hne, Bool.not_false]
  rw [rl_last ho, hf]
theorem fieldz (x : List Nat) : fieldF 0 x = opF x := rfl
theorem fieldn {sec : Nat} (h : sec ≠ 0) (x : List Nat) : fieldF sec x = (nmF x, nmF x) := by unfold fieldF; rw [if_neg h]
theorem nm_ne {n : List Nat} (h : nmF n = true) : n ≠ [] := fun e => by rw [e] at h; cases h

/-- A step, told of a new end. -/
def Goes (sec : Nat) (r : List Nat) (e : Nat × Nat) (b : Nat) : Prop := ((stepF e b).1 ≠ 0 ∧ RInv sec (r ++ [b]) (stepF e b)) ∨ ((stepF e b).1 = 0 ∧ (restF sec (r ++ [b])).2 = false)
theorem goes_yes {sec : Nat} {r : List Nat} {e q : Nat × Nat} {b : Nat} (hr : r ≠ []) (hh : blk (r.headD 0) = true) (hs : stepF e b = q) (hq : q.1 ≠ 0) (hst : RSt sec (fldStep (Fo r) b).1 (fldStep (Fo r) b).2 q) : Goes sec r e b :=
  .inl ⟨by rw [hs]; exact hq, .inr ⟨by simp, by rw [headD_snoc hr]; exact hh, by rw [Fo_snoc, hs]; exact hst⟩⟩

/-- Nothing behind the word yet. -/
theorem goes_nil {sec : Nat} {b : Nat} (hsec : sec ≤ 4) (hb : b ≠ 10) : Goes sec [] (En sec) b := by
  have aux : ∀ p q, En sec = (p, 0) → wordOf p = [] → blankOf p = q → signsOf p = [] → nameOf p = 0 → 0 < p → q ≠ 0 → RSt sec [] [] (q, 0) → Goes sec [] (En sec) b := by
    intro p q hE hw hq hs hn hp hq0 hst
    rw [hE]
    rcases k_blank p q b hw hb hq hs hn hp with ⟨h1, h2⟩ | ⟨h1, h2⟩
    · refine .inl ⟨by rw [h2]; exact hq0, .inr ⟨by simp, h1, ?_⟩⟩
      have e : Fo ([] ++ [b]) = ([], []) := by rw [Fo_snoc]; exact step_blank_nil h1 rfl
      rw [e, h2]
      exact hst
    · exact .inr ⟨h2, by rw [rest_nb (r := [] ++ [b]) (by simp) (by simpa using h1)]⟩
  match sec, hsec with
  | 0, _ => exact aux 3 4 rfl rfl rfl rfl rfl (by omega) (by omega) ⟨fun x hx => (by cases hx), .inl ⟨rfl, rfl⟩⟩
  | 1, _ => exact aux 9 10 rfl rfl rfl rfl rfl (by omega) (by omega) (.inl ⟨rfl, rfl, rfl⟩)
  | 2, _ => exact aux 14 15 rfl rfl rfl rfl rfl (by omega) (by omega) ⟨fun x hx => (by cases hx), .inl ⟨rfl, rfl⟩⟩
  | 3, _ => exact aux 19 20 rfl rfl rfl rfl rfl (by omega) (by omega) ⟨fun x hx => (by cases hx), .inl ⟨rfl, rfl⟩⟩
  | 4, _ => exact aux 25 25 rfl rfl rfl rfl rfl (by omega) (by omega) ⟨rfl, rfl, rfl⟩

theorem goes_0 {r : List Nat} {e : Nat × Nat} {b : Nat} (hr : r ≠ []) (hh : blk (r.headD 0) = true) (h : RSt 0 (Fo r).1 (Fo r).2 e) (hb : b ≠ 10) : Goes 0 r e b := by
  obtain ⟨ho, h⟩ := h
  have ho' : ∀ x ∈ (Fo r).1, (fieldF 0 x).1 = true := ho
  rcases h with ⟨hc, rfl⟩ | ⟨hn, rfl⟩ | ⟨n, hn, hc, rfl⟩ | ⟨n, d, hn, hd, hc, rfl⟩
  · rcases k_gap 4 4 5 b rfl hb rfl rfl rfl (by omega) with ⟨h1, h2⟩ | ⟨h1, h2, h3⟩ | ⟨h1, h2, h3⟩
    · exact goes_yes hr hh h2 (by simp) (by rw [step_blank_nil h1 hc]; exact ⟨ho, .inl ⟨hc, rfl⟩⟩)
    · refine goes_yes hr hh h3 (by simp) ?_
      rw [step_char h1, hc]
      exact ⟨ho, .inr (.inl ⟨by simp [nmF, h2], rfl⟩)⟩
    · exact .inr ⟨h3, bad_char (by omega) (by omega) hr hh h1 ho' (by rw [hc, fieldz, List.nil_append, op_single h2])⟩
  · rcases k_sign 5 6 58 (Fo r).2.length b rfl hb rfl rfl rfl rfl rfl with ⟨h1, h2⟩ | ⟨h1, h2, h3, h4⟩ | ⟨h1, h2, h3⟩
    · subst h1
      refine goes_yes hr hh h2 (by simp) ?_
      rw [step_char (by decide)]
      exact ⟨ho, .inr (.inr (.inl ⟨_, hn, rfl, rfl⟩))⟩
    · refine goes_yes hr hh h4 (by simp) ?_
      rw [step_char (nm_not_blk h2)]
      refine ⟨ho, .inr (.inl ⟨?_, by simp⟩)⟩
      rw [nm_snoc (.inl hn), h2, decide_eq_true (by have := ((nm_iff _).1 hn).2.1; omega)]
      rfl
    · cases hbl : blk b
      · refine .inr ⟨h3, bad_char (by omega) (by omega) hr hh hbl ho' ?_⟩
        rw [fieldz, op_bad1 hn h1]
        rw [nm_snoc (.inl hn)]
        rcases h2 with h2 | h2
        · rw [h2]; simp
        · rw [h2]; rfl
      · exact .inr ⟨h3, bad_blank (by omega) (by omega) hr hh hbl (nm_ne hn) ho' (by rw [fieldz, op_name hn])⟩
  · rcases k6 b hb with ⟨h1, h2⟩ | ⟨h1, h2, h3⟩
    · refine goes_yes hr hh h2 (by simp) ?_
      rw [step_char (by rcases h1 with rfl | rfl <;> decide), hc]
      exact ⟨ho, .inr (.inr (.inr ⟨n, b, hn, h1, by simp, rfl⟩))⟩
    · cases hbl : blk b
      · refine .inr ⟨h3, bad_char (by omega) (by omega) hr hh hbl ho' ?_⟩
        rw [fieldz, hc, List.append_assoc]
        have := op_bad2 (n := n) h1 h2
        rw [show [58] ++ [b] = [58, b] from rfl, this]
      · exact .inr ⟨h3, bad_blank (by omega) (by omega) hr hh hbl (by rw [hc]; simp) ho' (by rw [fieldz, hc, op_colon hn])⟩
  · rcases k_blank 3 4 b rfl hb rfl rfl rfl (by omega) with ⟨h1, h2⟩ | ⟨h1, h2⟩
    · refine goes_yes hr hh h2 (by simp) ?_
      rw [step_blank_cur h1 (by rw [hc]; simp)]
      refine ⟨fun x hx => ?_, .inl ⟨rfl, rfl⟩⟩
      rcases List.mem_append.1 hx with hx | hx
      · exact ho x hx
      · simp at hx; rw [hx, hc, op_whole hn hd]
    · refine .inr ⟨h2, bad_char (by omega) (by omega) hr hh h1 ho' ?_⟩
      rw [fieldz, hc, List.append_assoc]
      have := op_bad3 (n := n) (b := b) hd
      rw [show [58, d] ++ [b] = [58, d, b] from rfl, this]

theorem goes_n {sec p : Nat} {r : List Nat} {e : Nat × Nat} {b : Nat} (h4 : sec ≠ 4) (h1' : sec ≠ 1) (h0 : sec ≠ 0) (hw : wordOf (p + 1) = [] ∧ wordOf (p + 2) = []) (hq : blankOf (p + 1) = p + 1 ∧ blankOf (p + 2) = p + 1) (hs : signsOf (p + 1) = [] ∧ signsOf (p + 2) = []) (hnm : nameOf (p + 1) = p + 2 ∧ nameOf (p + 2) = p + 2)
    (hR : ∀ out cur e, RSt sec out cur e ↔ ((∀ x ∈ out, nmF x = true) ∧ ((cur = [] ∧ e = (p + 1, 0)) ∨ (nmF cur = true ∧ e = (p + 2, cur.length)))))
    (hr : r ≠ []) (hh : blk (r.headD 0) = true) (h : RSt sec (Fo r).1 (Fo r).2 e) (hb : b ≠ 10) : Goes sec r e b := by
  obtain ⟨ho, h⟩ := (hR _ _ _).1 h
  have ho' : ∀ x ∈ (Fo r).1, (fieldF sec x).1 = true := fun x hx => by rw [fieldn h0]; exact ho x hx
  rcases h with ⟨hc, rfl⟩ | ⟨hn, rfl⟩
  · rcases k_gap (p + 1) (p + 1) (p + 2) b hw.1 hb hq.1 hs.1 hnm.1 (by omega) with ⟨h1, h2⟩ | ⟨h1, h2, h3⟩ | ⟨h1, h2, h3⟩
    · exact goes_yes hr hh h2 (by simp) (by rw [step_blank_nil h1 hc]; exact (hR _ _ _).2 ⟨ho, .inl ⟨hc, rfl⟩⟩)
    · refine goes_yes hr hh h3 (by simp) ?_
      rw [step_char h1, hc]
      exact (hR _ _ _).2 ⟨ho, .inr ⟨by simp [nmF, h2], rfl⟩⟩
    · refine .inr ⟨h3, bad_char h4 h1' hr hh h1 ho' ?_⟩
      rw [hc, fieldn h0, List.nil_append, nmF_false (by simp [h2])]
  · rcases k_name (p + 2) (p + 1) (Fo r).2.length b hw.2 hb hq.2 hs.2 hnm.2 with ⟨h1, h2⟩ | ⟨h1, h2, h3⟩ | ⟨h1, h2, h3⟩
    · refine goes_yes hr hh h2 (by simp) ?_
      rw [step_blank_cur h1 (nm_ne hn)]
      refine (hR _ _ _).2 ⟨fun x hx => ?_, .inl ⟨rfl, rfl⟩⟩
      rcases List.mem_append.1 hx with hx | hx
      · exact ho x hx
      · simp at hx; rw [hx]; exact hn
    · refine goes_yes hr hh h3 (by simp) ?_
      rw [step_char (nm_not_blk h1)]
      refine (hR _ _ _).2 ⟨ho, .inr ⟨?_, by simp⟩⟩
      rw [nm_snoc (.inl hn), h1, decide_eq_true (by have := ((nm_iff _).1 hn).2.1; omega)]
      rfl
    · refine .inr ⟨h3, bad_char h4 h1' hr hh h1 ho' ?_⟩
      rw [fieldn h0, nm_snoc (.inl hn)]
      rcases h2 with h2 | h2
      · rw [h2]; simp
      · rw [h2]; rfl

theorem goes_1 {r : List Nat} {e : Nat × Nat} {b : Nat} (hr : r ≠ []) (hh : blk (r.headD 0) = true) (h : RSt 1 (Fo r).1 (Fo r).2 e) (hb : b ≠ 10) : Goes 1 r e b := by
  have hrs := rest_state (sec := 1) (r := r ++ [b]) (by simp) (by rw [headD_snoc hr]; exact hh)
  rw [Fo_snoc] at hrs
  rcases h with ⟨ho, hc, rfl⟩ | ⟨ho, hn, rfl⟩ | ⟨x, ho, hx, hc, rfl⟩
  · rcases k_gap 10 10 11 b rfl hb rfl rfl rfl (by omega) with ⟨h1, h2⟩ | ⟨h1, h2, h3⟩ | ⟨h1, h2, h3⟩
    · exact goes_yes hr hh h2 (by simp) (by rw [step_blank_nil h1 hc]; exact .inl ⟨ho, hc, rfl⟩)
    · refine goes_yes hr hh h3 (by simp) ?_
      rw [step_char h1, hc]
      exact .inr (.inl ⟨ho, by simp [nmF, h2], rfl⟩)
    · refine .inr ⟨h3, ?_⟩
      rw [hrs, step_char h1, hc, ho]
      simp [fldEnd, restLoop, fieldF, nmF_false (l := [b]) (by simp [h2])]
  · rcases k_name 11 13 (Fo r).2.length b rfl hb rfl rfl rfl with ⟨h1, h2⟩ | ⟨h1, h2, h3⟩ | ⟨h1, h2, h3⟩
    · refine goes_yes hr hh h2 (by simp) ?_
      rw [step_blank_cur h1 (nm_ne hn), ho]
      exact .inr (.inr ⟨_, rfl, hn, rfl, rfl⟩)
    · refine goes_yes hr hh h3 (by simp) ?_
      rw [step_char (nm_not_blk h1)]
      refine .inr (.inl ⟨ho, ?_, by simp⟩)
      rw [nm_snoc (.inl hn), h1, decide_eq_true (by have := ((nm_iff _).1 hn).2.1; omega)]
      rfl
    · refine .inr ⟨h3, ?_⟩
      have hnf : nmF ((Fo r).2 ++ [b]) = false := by
        rw [nm_snoc (.inl hn)]
        rcases h2 with h2 | h2
        · rw [h2]; simp
        · rw [h2]; rfl
      rw [hrs, step_char h1, ho]
      simp [fldEnd, restLoop, fieldF, hnf]
  · rcases k_blank 13 13 b rfl hb rfl rfl rfl (by omega) with ⟨h1, h2⟩ | ⟨h1, h2⟩
    · exact goes_yes hr hh h2 (by simp) (by rw [step_blank_nil h1 hc]; exact .inr (.inr ⟨x, ho, hx, hc, rfl⟩))
    · refine .inr ⟨h2, ?_⟩
      rw [hrs, step_char h1, hc, ho]
      simp [fldEnd]
theorem goes_4 {r : List Nat} {e : Nat × Nat} {b : Nat} (hr : r ≠ []) (hh : blk (r.headD 0) = true) (h : RSt 4 (Fo r).1 (Fo r).2 e) (hb : b ≠ 10) : Goes 4 r e b := by
  obtain ⟨ho, hc, rfl⟩ := h
  rcases k_blank 25 25 b rfl hb rfl rfl rfl (by omega) with ⟨h1, h2⟩ | ⟨h1, h2⟩
  · exact goes_yes hr hh h2 (by simp) (by rw [step_blank_nil h1 hc]; exact ⟨ho, hc, rfl⟩)
  · refine .inr ⟨h2, ?_⟩
    rw [rest_state (by simp) (by rw [headD_snoc hr]; exact hh), Fo_snoc, step_char h1, hc, ho]
    simp [fldEnd]

/-- What stands behind the word, a byte more. -/
theorem R_next {sec : Nat} {r : List Nat} {e : Nat × Nat} {b : Nat} (hsec : sec ≤ 4) (h : RInv sec r e) (hb : b ≠ 10) : Goes sec r e b := by
  rcases h with ⟨rfl, rfl⟩ | ⟨hr, hh, h⟩
  · exact goes_nil hsec hb
  · match sec, hsec with
    | 0, _ => exact goes_0 hr hh h hb
    | 1, _ => exact goes_1 hr hh h hb
    | 2, _ => exact goes_n (p := 14) (by omega) (by omega) (by omega) ⟨rfl, rfl⟩ ⟨rfl, rfl⟩ ⟨rfl, rfl⟩ ⟨rfl, rfl⟩ (fun _ _ _ => Iff.rfl) hr hh h hb
    | 3, _ => exact goes_n (p := 19) (by omega) (by omega) (by omega) ⟨rfl, rfl⟩ ⟨rfl, rfl⟩ ⟨rfl, rfl⟩ ⟨rfl, rfl⟩ (fun _ _ _ => Iff.rfl) hr hh h hb
    | 4, _ => exact goes_4 hr hh h hb

/-- What restF says of what may stand behind the word. -/
def Vals (sec : Nat) (v : Bool × Bool) (e : Nat × Nat) : Prop := (v = (true, true) ∧ stepF e 10 = Ls (sec + 1)) ∨ (v = (false, true) ∧ (stepF e 10).1 = 0)
theorem fol_feed (p r : Nat) (hw : wordOf p = []) : stepF (p, r) 10 = (feedOf p, 0) := by unfold stepF; simp [hw]
theorem R_val {sec : Nat} {r : List Nat} {e : Nat × Nat} (hsec : sec ≤ 4) (h : RInv sec r e) : Vals sec (restF sec r) e := by
  rcases h with ⟨rfl, rfl⟩ | ⟨hr, hh, h⟩
  · match sec, hsec with
    | 0, _ => exact .inl ⟨rfl, rfl⟩
    | 1, _ => exact .inr ⟨rfl, rfl⟩
    | 2, _ => exact .inl ⟨rfl, rfl⟩
    | 3, _ => exact .inl ⟨rfl, rfl⟩
    | 4, _ => exact .inl ⟨rfl, rfl⟩
  · rw [rest_state hr hh]
    match sec, hsec with
    | 0, _ =>
      obtain ⟨ho, h⟩ := h
      have ho' : ∀ x ∈ (Fo r).1, (fieldF 0 x).1 = true := ho
      rw [if_neg (by omega)]
      rcases h with ⟨hc, rfl⟩ | ⟨hn, rfl⟩ | ⟨n, hn, hc, rfl⟩ | ⟨n, d, hn, hd, hc, rfl⟩
      · left
        refine ⟨?_, rfl⟩
        simp only [fldEnd, hc, if_true, decide_true, Bool.not_true]
        rw [rl_all ho']
        rfl
      · right
        refine ⟨?_, by rw [fol_feed 5 _ rfl]; rfl⟩
        simp only [fldEnd, if_neg (nm_ne hn), decide_eq_false (nm_ne hn), Bool.not_false]
        rw [rl_last ho', fieldz, op_name hn]
      · right
        have hne : (Fo r).2 ≠ [] := by rw [hc]; simp
        refine ⟨?_, rfl⟩
        simp only [fldEnd, if_neg hne, decide_eq_false hne, Bool.not_false]
        rw [rl_last ho', fieldz, hc, op_colon hn]
      · left
        have hne : (Fo r).2 ≠ [] := by rw [hc]; simp
        refine ⟨?_, rfl⟩
        simp only [fldEnd, if_neg hne, decide_eq_false hne, Bool.not_false]
        rw [rl_last ho', fieldz, hc, op_whole hn hd]
    | 1, _ =>
      rcases h with ⟨ho, hc, rfl⟩ | ⟨ho, hn, rfl⟩ | ⟨x, ho, hx, hc, rfl⟩
      · right
        exact ⟨by simp [fldEnd, hc, ho, restLoop], rfl⟩
      · left
        refine ⟨by simp [fldEnd, nm_ne hn, ho, restLoop, fieldF, hn], ?_⟩
        rw [fol_feed 11 _ rfl]; rfl
      · left
        exact ⟨by simp [fldEnd, hc, ho, restLoop, fieldF, hx], rfl⟩
    | 2, _ =>
      obtain ⟨ho, h⟩ := h
      have ho' : ∀ x ∈ (Fo r).1, (fieldF 2 x).1 = true := fun x hx => ho x hx
      rw [if_neg (by omega)]
      left
      rcases h with ⟨hc, rfl⟩ | ⟨hn, rfl⟩
      · refine ⟨?_, rfl⟩
        simp only [fldEnd, hc, if_true, decide_true, Bool.not_true]
        rw [rl_all ho']
        rfl
      · refine ⟨?_, by rw [fol_feed 16 _ rfl]; rfl⟩
        simp only [fldEnd, if_neg (nm_ne hn), decide_eq_false (nm_ne hn), Bool.not_false]
        rw [rl_last ho', fieldn (by omega), hn]
    | 3, _ =>
      obtain ⟨ho, h⟩ := h
      have ho' : ∀ x ∈ (Fo r).1, (fieldF 3 x).1 = true := fun x hx => ho x hx
      rw [if_neg (by omega)]
      left
      rcases h with ⟨hc, rfl⟩ | ⟨hn, rfl⟩
      · refine ⟨?_, rfl⟩
        simp only [fldEnd, hc, if_true, decide_true, Bool.not_true]
        rw [rl_all ho']
        rfl
      · refine ⟨?_, by rw [fol_feed 21 _ rfl]; rfl⟩
        simp only [fldEnd, if_neg (nm_ne hn), decide_eq_false (nm_ne hn), Bool.not_false]
        rw [rl_last ho', fieldn (by omega), hn]
    | 4, _ =>
      obtain ⟨ho, hc, rfl⟩ := h
      left
      exact ⟨by simp [fldEnd, hc, ho], rfl⟩
end Go.Proofs.YtgifamdoolcemaaDoor
