import Derived.Test.YtgifamdoolcemaaDoorRn
namespace Go.Proofs.YtgifamdoolcemaaDoor

theorem c_Ls {sec : Nat} (h : sec ≤ 4) : compF (Ls sec) = tailL sec := by
  match sec, h with
  | 0, _ => decide +kernel
  | 1, _ => decide +kernel
  | 2, _ => decide +kernel
  | 3, _ => decide +kernel
  | 4, _ => decide +kernel
theorem c_Em {sec : Nat} (h : sec ≤ 4) : compF (Em sec) = 10 :: tailL sec := by
  match sec, h with
  | 0, _ => decide +kernel
  | 1, _ => decide +kernel
  | 2, _ => decide +kernel
  | 3, _ => decide +kernel
  | 4, _ => decide +kernel
set_option maxRecDepth 100000 in
theorem c_word : ∀ sec, sec < 5 → ∀ j, j < 12 → 0 < j → j < (wordL sec).length → compF ((Ls sec).1, j) = (wordL sec).drop j ++ (if sec = 1 then [9, 39] else []) ++ (if sec = 4 then [] else 10 :: tailL (sec + 1)) := by decide +kernel
set_option maxRecDepth 100000 in
theorem c_names : ∀ r, r < 17 → 0 < r → compF (5, r) = [58, 48] ++ 10 :: tailL 1 ∧ compF (11, r) = 10 :: tailL 2 ∧ compF (16, r) = 10 :: tailL 3 ∧ compF (21, r) = 10 :: tailL 4 ∧ compF (26, r) = [40, 41, 45, 62, 39] ∧ compF (28, r) = [41, 45, 62, 39] := by decide +kernel
set_option maxRecDepth 100000 in
theorem c_rest : compF (3, 0) = 10 :: tailL 1 ∧ compF (4, 0) = 10 :: tailL 1 ∧ compF (6, 0) = [48] ++ 10 :: tailL 1 ∧ compF (9, 0) = [9, 39] ++ 10 :: tailL 2 ∧ compF (10, 0) = [39] ++ 10 :: tailL 2 ∧ compF (13, 0) = 10 :: tailL 2 ∧ compF (14, 0) = 10 :: tailL 3 ∧ compF (15, 0) = 10 :: tailL 3 ∧ compF (19, 0) = 10 :: tailL 4 ∧ compF (20, 0) = 10 :: tailL 4 ∧ compF (27, 0) = [41, 45, 62, 39] ∧ compF (29, 0) = [45, 62, 39] ∧ compF (29, 1) = [62, 39] ∧ compF (30, 0) = [39] := by decide +kernel
theorem nm_r {n : List Nat} (h : nmF n = true) : n.length < 17 ∧ 0 < n.length := by have := (nm_iff n).1 h; omega

/-- What makes a rule's beginning a rule. -/
theorem U_end {x : List Nat} {e : Nat × Nat} (h : UInv x e) (hf : isF e = false) : endedF x = compF e ∧ (thrd x = [] ∨ thrd x = [45] ∨ 2 ≤ (thrd x).length) := by
  have s0 : ∀ A : List Nat, Stop [] A := fun A => .inl rfl
  have n0 : nmLen [] = 0 := by decide
  have d1 : ∀ {A y : List Nat}, nmF A = true → Stop y A → (A ++ y).drop (nmLen (A ++ y)) = y := fun hA hy => by rw [nmLen_app (.inl hA) hy]; simp
  have d2 : ∀ {B y : List Nat}, (nmF B = true ∨ B = []) → Stop y B → (B ++ y).drop (nmLen (B ++ y)) = y := fun hB hy => by rw [nmLen_app hB hy]; simp
  cases h with
  | u0 => cases hf
  | ub _ hx hbl => cases hf
  | u1 A hA =>
    have e1 := d1 (y := []) hA (s0 _)
    rw [List.append_nil] at e1
    constructor
    · unfold endedF
      rw [e1, (c_names x.length (nm_r hA).1 (nm_r hA).2).2.2.2.2.1]
      rfl
    · left
      unfold thrd
      rw [e1]
      simp only [List.drop_nil]
      rfl
  | u2 A hA =>
    have e1 := d1 (y := 40 :: []) hA (stop40 _ _)
    constructor
    · unfold endedF
      rw [e1, c_rest.2.2.2.2.2.2.2.2.2.2.1]
      unfold end1
      rw [if_neg (by simp)]
      simp only [List.drop_succ_cons, List.drop_zero, n0]
      rfl
    · left
      unfold thrd
      rw [e1]
      simp only [List.drop_succ_cons, List.drop_zero, n0]
      rfl
  | u3 A B hA hB =>
    have e1 := d1 (y := 40 :: B) hA (stop40 _ _)
    have e2 := d2 (y := []) (.inl hB) (s0 _)
    rw [List.append_nil] at e2
    constructor
    · unfold endedF
      rw [e1, (c_names B.length (nm_r hB).1 (nm_r hB).2).2.2.2.2.2]
      unfold end1
      rw [if_neg (by simp)]
      simp only [List.drop_succ_cons, List.drop_zero, e2]
      rfl
    · left
      unfold thrd
      rw [e1]
      simp only [List.drop_succ_cons, List.drop_zero, e2]
      rfl
  | u4 A B g hA hB hg =>
    have e1 := d1 (y := 40 :: (B ++ 41 :: g)) hA (stop40 _ _)
    have e2 := d2 (y := 41 :: g) hB (stop41 _ _)
    have e3 := skip_app (y := []) hg (.inl rfl)
    rw [List.append_nil] at e3
    constructor
    · unfold endedF
      rw [e1, c_rest.2.2.2.2.2.2.2.2.2.2.2.1]
      unfold end1
      rw [if_neg (by simp)]
      simp only [List.drop_succ_cons, List.drop_zero, e2]
      unfold end2
      rw [if_neg (by simp)]
      simp only [List.drop_succ_cons, List.drop_zero, e3]
      rfl
    · left
      unfold thrd
      rw [e1]
      simp only [List.drop_succ_cons, List.drop_zero, e2, e3]
  | u5 A B g hA hB hg =>
    have e1 := d1 (y := 40 :: (B ++ 41 :: (g ++ [45]))) hA (stop40 _ _)
    have e2 := d2 (y := 41 :: (g ++ [45])) hB (stop41 _ _)
    have e3 := skip_app (y := [45]) hg (nb45 _)
    constructor
    · unfold endedF
      rw [e1, c_rest.2.2.2.2.2.2.2.2.2.2.2.2.1]
      unfold end1
      rw [if_neg (by simp)]
      simp only [List.drop_succ_cons, List.drop_zero, e2]
      unfold end2
      rw [if_neg (by simp)]
      simp only [List.drop_succ_cons, List.drop_zero, e3]
      rfl
    · right; left
      unfold thrd
      rw [e1]
      simp only [List.drop_succ_cons, List.drop_zero, e2, e3]
  | u6 A B g h hA hB hg hh =>
    have e1 := d1 (y := 40 :: (B ++ 41 :: (g ++ 45 :: 62 :: h))) hA (stop40 _ _)
    have e2 := d2 (y := 41 :: (g ++ 45 :: 62 :: h)) hB (stop41 _ _)
    have e3 := skip_app (y := 45 :: 62 :: h) hg (nb45 _)
    have e4 := skip_app (y := []) hh (.inl rfl)
    rw [List.append_nil] at e4
    constructor
    · unfold endedF
      rw [e1, c_rest.2.2.2.2.2.2.2.2.2.2.2.2.2]
      unfold end1
      rw [if_neg (by simp)]
      simp only [List.drop_succ_cons, List.drop_zero, e2]
      unfold end2
      rw [if_neg (by simp)]
      simp only [List.drop_succ_cons, List.drop_zero, e3]
      unfold end3
      rw [if_neg (by simp), if_neg (by simp)]
      simp only [List.drop_succ_cons, List.drop_zero, e4]
      rfl
    · right; right
      unfold thrd
      rw [e1]
      simp only [List.drop_succ_cons, List.drop_zero, e2, e3]
      simp
  | u7 A B g h C hA hB hg hh hC =>
    exfalso
    have : isF (31, C.length) = true := by unfold isF; rw [fol_feed 31 _ rfl]; rfl
    rw [this] at hf
    cases hf
  | u8 A B g h C k hA hB hg hh hC hk hkb => cases hf

theorem last_cur {r : List Nat} (h : r ≠ []) (hc : (Fo r).2 ≠ []) : r.getD (r.length - 1) 0 = (Fo r).2.getD ((Fo r).2.length - 1) 0 := by
  obtain ⟨m, c, rfl⟩ : ∃ m c, r = m ++ [c] := ⟨r.dropLast, r.getLast h, (List.dropLast_concat_getLast _).symm⟩
  rw [getD_last, Fo_snoc] at *
  cases hb : blk c
  · rw [step_char hb]
    simp only
    rw [getD_last]
  · exfalso
    apply hc
    unfold fldStep
    rw [if_pos hb]
    split
    · rename_i he; exact he
    · rfl
theorem nm_last {n : List Nat} (h : nmF n = true) : n.getD (n.length - 1) 0 ≠ 58 := by
  have hl := nm_len h
  obtain ⟨m, c, rfl⟩ : ∃ m c, n = m ++ [c] := ⟨n.dropLast, n.getLast (by intro e; rw [e] at hl; simp at hl), (List.dropLast_concat_getLast _).symm⟩
  rw [getD_last]
  intro e
  have := nm_all h c (by simp)
  rw [e] at this
  exact absurd this (by decide)

/-- What makes a line's beginning, that is no empty one, whole. -/
theorem R_fill {sec : Nat} {r : List Nat} {e : Nat × Nat} (hsec : sec ≤ 4) (h : RInv sec r e) (hf : isF e = false) : filledF sec (wordL sec ++ r) ++ (if sec = 4 then [] else 10 :: tailL (sec + 1)) = compF e := by
  have hF : filledF sec (wordL sec ++ r) = if (restF sec r).1 = true then [] else if sec = 1 then (if r = [] then [9, 39] else [39]) else if r.getD (r.length - 1) 0 = 58 then [48] else [58, 48] := by
    unfold filledF
    rw [if_neg (by simp)]
    simp
  rw [hF]
  have hv := R_val hsec h
  have whole : (stepF e 10).1 ≠ 0 → (restF sec r).1 = true := fun hs => by
    rcases hv with ⟨h1, _⟩ | ⟨_, h2⟩
    · rw [h1]
    · exact absurd h2 hs
  have part : (stepF e 10).1 = 0 → (restF sec r).1 = false := fun hs => by
    rcases hv with ⟨_, h2⟩ | ⟨h1, _⟩
    · rw [h2] at hs; exact absurd hs ls_ne
    · rw [h1]
  obtain ⟨q3, q4, q6, q9, q10, q13, q14, q15, q19, q20, _⟩ := c_rest
  rcases h with ⟨rfl, rfl⟩ | ⟨hr, hh, h⟩
  · match sec, hsec with
    | 0, _ => exact q3.symm
    | 1, _ => exact q9.symm
    | 2, _ => exact q14.symm
    | 3, _ => exact q19.symm
    | 4, _ => cases hf
  · match sec, hsec with
    | 0, _ =>
      obtain ⟨ho, h⟩ := h
      rcases h with ⟨hc, rfl⟩ | ⟨hn, rfl⟩ | ⟨n, hn, hc, rfl⟩ | ⟨n, d, hn, hd, hc, rfl⟩
      · rw [if_pos (whole (by decide)), q4]; rfl
      · rw [part (by rw [fol_feed 5 _ rfl]; rfl), (c_names _ (nm_r hn).1 (nm_r hn).2).1, last_cur hr (nm_ne hn)]
        simp only [Bool.false_eq_true, if_false]
        rw [if_neg (by omega), if_neg (nm_last hn)]
        rfl
      · rw [part (by decide), q6, last_cur hr (by rw [hc]; simp), hc, getD_last]
        rfl
      · rw [if_pos (whole (by decide)), q3]; rfl
    | 1, _ =>
      rcases h with ⟨ho, hc, rfl⟩ | ⟨ho, hn, rfl⟩ | ⟨x, ho, hx, hc, rfl⟩
      · rw [part (by decide), q10]
        simp only [Bool.false_eq_true, if_false, if_true]
        rw [if_neg hr]
        rfl
      · rw [if_pos (whole (by rw [fol_feed 11 _ rfl]; decide)), (c_names _ (nm_r hn).1 (nm_r hn).2).2.1]; rfl
      · rw [if_pos (whole (by decide)), q13]; rfl
    | 2, _ =>
      obtain ⟨ho, h⟩ := h
      rcases h with ⟨hc, rfl⟩ | ⟨hn, rfl⟩
      · rw [if_pos (whole (by decide)), q15]; rfl
      · rw [if_pos (whole (by rw [fol_feed 16 _ rfl]; decide)), (c_names _ (nm_r hn).1 (nm_r hn).2).2.2.1]; rfl
    | 3, _ =>
      obtain ⟨ho, h⟩ := h
      rcases h with ⟨hc, rfl⟩ | ⟨hn, rfl⟩
      · rw [if_pos (whole (by decide)), q20]; rfl
      · rw [if_pos (whole (by rw [fol_feed 21 _ rfl]; decide)), (c_names _ (nm_r hn).1 (nm_r hn).2).2.2.2.1]; rfl
    | 4, _ =>
      obtain ⟨ho, hc, rfl⟩ := h
      cases hf

/-- What Complete answers of a line's beginning. -/
theorem W_fill {sec : Nat} {x : List Nat} {e : Nat × Nat} (hsec : sec ≤ 4) (h : WInv sec x e) (hf : isF e = false) :
    (x = [] ∧ compF e = tailL sec) ∨ (x ≠ [] ∧ x.all blk = true ∧ compF e = 10 :: tailL sec) ∨ (x ≠ [] ∧ x.all blk = false ∧ compF e = filledF sec x ++ (if sec = 4 then [] else 10 :: tailL (sec + 1))) := by
  obtain ⟨f1, f2, f3⟩ := word_facts hsec
  cases h with
  | w0 => exact .inl ⟨rfl, c_Ls hsec⟩
  | wb _ hx hbl => exact .inr (.inl ⟨hx, hbl, c_Em hsec⟩)
  | ww j hj hjl =>
    right; right
    have hnb := word_nb hsec hj []
    rw [List.append_nil] at hnb
    have hlen : ((wordL sec).take j).length = j := by simp; omega
    refine ⟨fun e => by rw [e] at hlen; simp at hlen; omega, hnb, ?_⟩
    rw [c_word sec (by omega) j (by have := word_len sec; omega) hj hjl]
    unfold filledF
    rw [hlen, if_pos hjl]
  | wr r _ hr =>
    right; right
    have hnb := word_nb hsec (j := (wordL sec).length) (by omega) r
    rw [List.take_length] at hnb
    refine ⟨fun e => (by rw [e] at hnb; cases hnb), hnb, (R_fill hsec hr hf).symm⟩
end Go.Proofs.YtgifamdoolcemaaDoor
