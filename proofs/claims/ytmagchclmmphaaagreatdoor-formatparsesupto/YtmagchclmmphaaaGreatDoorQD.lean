import Derived.Test.YtmagchclmmphaaaGreatDoorQA
namespace Go.Proofs.YtmagchclmmphaaaGreatDoor.rf

theorem blk_iff (b : Nat) : (b = 32 ∨ b = 9) ↔ blk b = true := by simp [blk]
theorem st_gen (p r b : Nat) (hw : wordOf p = []) (hb : b ≠ 10) : stepF (p, r) b = if blk b = true then (blankOf p, 0) else if (signsOf p).contains b = true then (pastOf p, 0) else if isNm b = true then alongN p r else (0, 0) := by
  unfold stepF
  simp only [hw, ne_eq, not_true, false_and, if_false, hb, blk_iff]
theorem nm_not_blk {b : Nat} (h : isNm b = true) : blk b = false := by
  simp only [isNm, Bool.or_eq_true, Bool.and_eq_true, Nat.ble_eq, Nat.beq_eq] at h
  simp only [blk, Bool.or_eq_false_iff, beq_eq_false_iff_ne]
  omega
theorem blk_not_nm {b : Nat} (h : blk b = true) : isNm b = false := by
  cases hn : isNm b
  · rfl
  · rw [nm_not_blk hn] at h; cases h

/-- Places at which a blank leads on, and nothing else. -/
theorem k_blank (p q b : Nat) (hw : wordOf p = []) (hb : b ≠ 10) (hq : blankOf p = q) (hs : signsOf p = []) (hn : nameOf p = 0) (hp : 0 < p) : (blk b = true ∧ stepF (p, 0) b = (q, 0)) ∨ (blk b = false ∧ (stepF (p, 0) b).1 = 0) := by
  rw [st_gen p 0 b hw hb, hs, hq]
  cases hbl : blk b
  · right
    refine ⟨rfl, ?_⟩
    simp [alongN, hn]
    split
    · split
      · omega
      · rfl
    · rfl
  · left
    exact ⟨rfl, by simp⟩
/-- Places at which a blank leads on, and a name begins. -/
theorem k_gap (p q n b : Nat) (hw : wordOf p = []) (hb : b ≠ 10) (hq : blankOf p = q) (hs : signsOf p = []) (hn : nameOf p = n) (hne : n ≠ p) : (blk b = true ∧ stepF (p, 0) b = (q, 0)) ∨ (blk b = false ∧ isNm b = true ∧ stepF (p, 0) b = (n, 1)) ∨ (blk b = false ∧ isNm b = false ∧ (stepF (p, 0) b).1 = 0) := by
  rw [st_gen p 0 b hw hb, hs, hq]
  cases hbl : blk b
  · cases hnm : isNm b
    · exact .inr (.inr ⟨rfl, rfl, by simp⟩)
    · exact .inr (.inl ⟨rfl, rfl, by simp [alongN, hn, hne]⟩)
  · exact .inl ⟨rfl, by simp⟩
/-- Inside a name that a blank ends. -/
theorem k_name (p q r b : Nat) (hw : wordOf p = []) (hb : b ≠ 10) (hq : blankOf p = q) (hs : signsOf p = []) (hn : nameOf p = p) : (blk b = true ∧ stepF (p, r) b = (q, 0)) ∨ (isNm b = true ∧ r ≠ 16 ∧ stepF (p, r) b = (p, r + 1)) ∨ (blk b = false ∧ (isNm b = false ∨ r = 16) ∧ (stepF (p, r) b).1 = 0) := by
  rw [st_gen p r b hw hb, hs, hq]
  cases hbl : blk b
  · cases hnm : isNm b
    · exact .inr (.inr ⟨rfl, .inl rfl, by simp⟩)
    · by_cases h : r = 16
      · exact .inr (.inr ⟨rfl, .inr h, by simp [alongN, hn, h]⟩)
      · exact .inr (.inl ⟨rfl, h, by simp [alongN, hn, h]⟩)
  · exact .inl ⟨rfl, by simp⟩
/-- Inside a name that a sign ends. -/
theorem k_sign (p q c r b : Nat) (hw : wordOf p = []) (hb : b ≠ 10) (hq : blankOf p = 0) (hs : signsOf p = [c]) (hn : nameOf p = p) (hpa : pastOf p = q) (hc : blk c = false) : (b = c ∧ stepF (p, r) b = (q, 0)) ∨ (b ≠ c ∧ isNm b = true ∧ r ≠ 16 ∧ stepF (p, r) b = (p, r + 1)) ∨ (b ≠ c ∧ (isNm b = false ∨ r = 16) ∧ (stepF (p, r) b).1 = 0) := by
  rw [st_gen p r b hw hb, hs, hq, hpa]
  by_cases hbc : b = c
  · subst hbc
    exact .inl ⟨rfl, by simp [hc]⟩
  · cases hbl : blk b
    · cases hnm : isNm b
      · exact .inr (.inr ⟨hbc, .inl rfl, by simp [hbc]⟩)
      · by_cases h : r = 16
        · exact .inr (.inr ⟨hbc, .inr h, by simp [hbc, alongN, hn, h]⟩)
        · exact .inr (.inl ⟨hbc, rfl, h, by simp [hbc, alongN, hn, h]⟩)
    · exact .inr (.inr ⟨hbc, .inl (blk_not_nm hbl), by simp⟩)
theorem k6 (b : Nat) (hb : b ≠ 10) : ((b = 48 ∨ b = 49) ∧ stepF (6, 0) b = (3, 0)) ∨ (b ≠ 48 ∧ b ≠ 49 ∧ (stepF (6, 0) b).1 = 0) := by
  rw [st_gen 6 0 b rfl hb]
  by_cases h1 : b = 48
  · subst h1; exact .inl ⟨.inl rfl, rfl⟩
  · by_cases h2 : b = 49
    · subst h2; exact .inl ⟨.inr rfl, rfl⟩
    · refine .inr ⟨h1, h2, ?_⟩
      simp only [blankOf, signsOf, alongN, nameOf]
      cases hbl : blk b <;> cases hnm : isNm b <;> simp [h1, h2]
theorem k27 (b : Nat) (hb : b ≠ 10) : (b = 41 ∧ stepF (27, 0) b = (29, 0)) ∨ (b ≠ 41 ∧ isNm b = true ∧ stepF (27, 0) b = (28, 1)) ∨ (b ≠ 41 ∧ isNm b = false ∧ (stepF (27, 0) b).1 = 0) := by
  rw [st_gen 27 0 b rfl hb]
  by_cases h1 : b = 41
  · subst h1; exact .inl ⟨rfl, rfl⟩
  · cases hnm : isNm b
    · refine .inr (.inr ⟨h1, rfl, ?_⟩)
      simp only [blankOf, signsOf]
      cases hbl : blk b <;> simp [h1]
    · refine .inr (.inl ⟨h1, rfl, ?_⟩)
      simp [signsOf, alongN, nameOf, nm_not_blk hnm, h1]
theorem k29a (b : Nat) (hb : b ≠ 10) : (blk b = true ∧ stepF (29, 0) b = (29, 0)) ∨ (b = 45 ∧ stepF (29, 0) b = (29, 1)) ∨ (blk b = false ∧ b ≠ 45 ∧ (stepF (29, 0) b).1 = 0) := by
  by_cases h1 : b = 45
  · subst h1; exact .inr (.inl ⟨rfl, rfl⟩)
  · have e : stepF (29, 0) b = if blk b = true then (29, 0) else if isNm b = true then (0, 1) else (0, 0) := by
      unfold stepF
      simp only [wordOf, List.getD_cons_zero, ne_eq, hb, if_false, ← blk_iff, signsOf, alongN, nameOf, blankOf]
      simp [Ne.symm h1]
    rw [e]
    cases hbl : blk b
    · refine .inr (.inr ⟨rfl, h1, ?_⟩)
      cases isNm b <;> simp
    · exact .inl ⟨rfl, by simp⟩
theorem k29b (b : Nat) : (b = 62 ∧ stepF (29, 1) b = (30, 0)) ∨ (b ≠ 62 ∧ (stepF (29, 1) b).1 = 0) := by
  by_cases h1 : b = 62
  · subst h1; exact .inl ⟨rfl, rfl⟩
  · refine .inr ⟨h1, ?_⟩
    unfold stepF
    simp only [wordOf, List.getD_cons_succ, List.getD_cons_zero]
    simp [Ne.symm h1]
/-- A line's beginning, and its word. -/
def Ls : Nat → Nat × Nat
  | 0 => (1, 0) | 1 => (7, 0) | 2 => (12, 0) | 3 => (17, 0) | 4 => (22, 0) | _ => (24, 0)
def Em : Nat → Nat × Nat
  | 0 => (2, 0) | 1 => (8, 0) | 2 => (13, 0) | 3 => (18, 0) | 4 => (23, 0) | _ => (25, 0)
def En : Nat → Nat × Nat
  | 0 => (3, 0) | 1 => (9, 0) | 2 => (14, 0) | 3 => (19, 0) | _ => (25, 0)
theorem k_word (sec j b : Nat) (hsec : sec ≤ 4) (hj : j < (wordL sec).length) (h0 : 0 < j) : ((wordL sec).getD j 0 = b ∧ stepF ((Ls sec).1, j) b = if j + 1 = (wordL sec).length then En sec else ((Ls sec).1, j + 1)) ∨ ((wordL sec).getD j 0 ≠ b ∧ (stepF ((Ls sec).1, j) b).1 = 0) := by
  have hw : wordOf (Ls sec).1 = wordL sec := by match sec, hsec with | 0, _ => rfl | 1, _ => rfl | 2, _ => rfl | 3, _ => rfl | 4, _ => rfl
  have hp : (pastOf (Ls sec).1, 0) = En sec := by match sec, hsec with | 0, _ => rfl | 1, _ => rfl | 2, _ => rfl | 3, _ => rfl | 4, _ => rfl
  have hne : wordL sec ≠ [] := fun e => by rw [e] at hj; simp at hj
  by_cases h : (wordL sec).getD j 0 = b
  · refine .inl ⟨h, ?_⟩
    unfold stepF alongW
    simp only [hw]
    rw [if_pos ⟨hne, h⟩, hp]
  · refine .inr ⟨h, ?_⟩
    unfold stepF
    simp only [hw]
    rw [if_neg (fun hc => h hc.2), if_pos ⟨hne, h0⟩]
theorem k_line (sec b : Nat) (hsec : sec ≤ 4) (hb : b ≠ 10) : (blk b = true ∧ stepF (Ls sec) b = Em sec) ∨ (blk b = false ∧ (wordL sec).getD 0 0 = b ∧ stepF (Ls sec) b = ((Ls sec).1, 1)) ∨ (blk b = false ∧ (wordL sec).getD 0 0 ≠ b ∧ (stepF (Ls sec) b).1 = 0) := by
  have aux : ∀ p c rest q, wordOf p = c :: rest → rest ≠ [] → blankOf p = q → signsOf p = [] → nameOf p = 0 → 0 < p → blk c = false → (blk b = true ∧ stepF (p, 0) b = (q, 0)) ∨ (blk b = false ∧ c = b ∧ stepF (p, 0) b = (p, 1)) ∨ (blk b = false ∧ c ≠ b ∧ (stepF (p, 0) b).1 = 0) := by
    intro p c rest q hw hr hq hs hn hp hc
    have hl : ¬ (0 + 1 = (c :: rest).length) := by
      simp
      exact hr
    unfold stepF
    simp only [hw, List.getD_cons_zero, ne_eq, reduceCtorEq, not_false_eq_true, true_and, Nat.lt_irrefl, if_false, hb, blk_iff, hs, hq]
    by_cases hcb : c = b
    · subst hcb
      refine .inr (.inl ⟨hc, rfl, ?_⟩)
      rw [if_pos rfl]
      unfold alongW
      rw [hw, if_neg hl]
    · rw [if_neg hcb]
      cases hbl : blk b
      · refine .inr (.inr ⟨rfl, hcb, ?_⟩)
        simp [alongN, hn]
        split
        · split
          · omega
          · rfl
        · rfl
      · exact .inl ⟨rfl, by simp⟩
  match sec, hsec with
  | 0, _ => exact aux 1 79 _ 2 rfl (by simp) rfl rfl rfl (by omega) rfl
  | 1, _ => exact aux 7 65 _ 8 rfl (by simp) rfl rfl rfl (by omega) rfl
  | 2, _ => exact aux 12 83 _ 13 rfl (by simp) rfl rfl rfl (by omega) rfl
  | 3, _ => exact aux 17 70 _ 18 rfl (by simp) rfl rfl rfl (by omega) rfl
  | 4, _ => exact aux 22 84 _ 23 rfl (by simp) rfl rfl rfl (by omega) rfl
end Go.Proofs.YtmagchclmmphaaaGreatDoor.rf
namespace Go.Proofs.YtmagchclmmphaaaGreatDoor.rf

/-! ### Names and ops, a byte more -/
theorem nm_iff (l : List Nat) : nmF l = true ↔ 1 ≤ l.length ∧ l.length ≤ 16 ∧ l.all isNm = true := by simp [nmF]
theorem nm_snoc {n : List Nat} {b : Nat} (h : nmF n = true ∨ n = []) : nmF (n ++ [b]) = (decide (n.length < 16) && isNm b) := by
  have ha : n.all isNm = true := by
    rcases h with h | h
    · exact ((nm_iff n).1 h).2.2
    · subst h; rfl
  unfold nmF
  rw [List.all_append, ha, List.length_append, List.length_singleton]
  rw [Bool.eq_iff_iff]
  simp
  omega
theorem nm_58 {l : List Nat} (h : 58 ∈ l) : nmF l = false := by
  refine nmF_false ?_
  rw [List.all_eq_false]
  exact ⟨58, h, by decide⟩
theorem nm_len {n : List Nat} (h : nmF n = true) : 0 < n.length := by have := ((nm_iff n).1 h).1; omega
theorem nm_all {n : List Nat} (h : nmF n = true) : ∀ x ∈ n, isNm x = true := List.all_eq_true.1 ((nm_iff n).1 h).2.2
theorem op_name {l : List Nat} (h : nmF l = true) : opF l = (false, true) := by unfold opF; rw [if_pos h]
theorem getD_last (n : List Nat) (b : Nat) : (n ++ [b]).getD ((n ++ [b]).length - 1) 0 = b := by
  simp [List.getD_eq_getElem?_getD]
theorem take_last (n : List Nat) (b : Nat) : (n ++ [b]).take ((n ++ [b]).length - 1) = n := by simp
theorem op_colon {n : List Nat} (h : nmF n = true) : opF (n ++ [58]) = (false, true) := by
  have hl := nm_len h
  unfold opF
  rw [if_neg (by rw [nm_58 (by simp)]; simp), if_pos ⟨by simp; omega, getD_last n 58⟩]
  simp [h]
theorem op_tail {l : List Nat} (h1 : nmF l = false) (h2 : ¬ (2 ≤ l.length ∧ l.getD (l.length - 1) 0 = 58)) (h3 : ¬ (3 ≤ l.length ∧ l.getD (l.length - 2) 0 = 58 ∧ (l.getD (l.length - 1) 0 = 48 ∨ l.getD (l.length - 1) 0 = 49))) : opF l = (false, false) := by
  unfold opF
  rw [if_neg (by rw [h1]; simp), if_neg h2]
  simp only [decide_eq_false h3, Bool.false_and]
theorem getD_two (n : List Nat) (a b : Nat) : (n ++ [a, b]).getD ((n ++ [a, b]).length - 2) 0 = a ∧ (n ++ [a, b]).getD ((n ++ [a, b]).length - 1) 0 = b := by
  constructor
  · simp [List.getD_eq_getElem?_getD]
  · simp
theorem op_whole {n : List Nat} {d : Nat} (h : nmF n = true) (hd : d = 48 ∨ d = 49) : opF (n ++ [58, d]) = (true, true) := by
  have hl := nm_len h
  obtain ⟨g1, g2⟩ := getD_two n 58 d
  unfold opF
  rw [if_neg (by rw [nm_58 (by simp)]; simp), if_neg (fun hc => by rw [g2] at hc; omega)]
  simp only [g1, g2]
  rw [decide_eq_true ⟨by simp; omega, trivial, hd⟩]
  simp [h]
theorem op_bad1 {n : List Nat} {b : Nat} (h : nmF n = true) (hb : b ≠ 58) (hn : nmF (n ++ [b]) = false) : opF (n ++ [b]) = (false, false) := by
  refine op_tail hn (fun hc => hb (by rw [getD_last] at hc; exact hc.2)) (fun hc => ?_)
  have hl := nm_len h
  obtain ⟨m, c, rfl⟩ : ∃ m c, n = m ++ [c] := ⟨n.dropLast, n.getLast (by intro e; rw [e] at hl; simp at hl), (List.dropLast_concat_getLast _).symm⟩
  have g := (getD_two m c b).1
  rw [List.append_assoc] at hc
  have e : [c] ++ [b] = [c, b] := rfl
  rw [e, g] at hc
  have := nm_all h c (by simp)
  rw [hc.2.1] at this
  exact absurd this (by decide)
theorem op_bad2 {n : List Nat} {b : Nat} (h48 : b ≠ 48) (h49 : b ≠ 49) : opF (n ++ [58, b]) = (false, false) := by
  obtain ⟨g1, g2⟩ := getD_two n 58 b
  by_cases hb : b = 58
  · subst hb
    have e : n ++ [58, 58] = (n ++ [58]) ++ [58] := by simp
    unfold opF
    rw [if_neg (by rw [nm_58 (by simp)]; simp), if_pos ⟨by simp, g2⟩, e, take_last, nm_58 (by simp)]
  · exact op_tail (nm_58 (by simp)) (fun hc => hb (by rw [g2] at hc; exact hc.2)) (fun hc => by rw [g2] at hc; omega)
theorem op_bad3 {n : List Nat} {d b : Nat} (hd : d = 48 ∨ d = 49) : opF (n ++ [58, d, b]) = (false, false) := by
  have e : n ++ [58, d, b] = (n ++ [58]) ++ [d, b] := by simp
  obtain ⟨g1, g2⟩ := getD_two (n ++ [58]) d b
  rw [e]
  by_cases hb : b = 58
  · subst hb
    unfold opF
    have e2 : (n ++ [58]) ++ [d, 58] = (n ++ [58, d]) ++ [58] := by simp
    rw [if_neg (by rw [nm_58 (by simp)]; simp), if_pos ⟨by simp, g2⟩, e2, take_last, nm_58 (by simp)]
  · exact op_tail (nm_58 (by simp)) (fun hc => hb (by rw [g2] at hc; exact hc.2)) (fun hc => by rw [g1] at hc; omega)
theorem op_single {b : Nat} (h : isNm b = false) : opF [b] = (false, false) := by
  refine op_tail ?_ (fun hc => by simp at hc) (fun hc => by simp at hc)
  exact nmF_false (by simp [h])

/-! ### The fields of what stands behind a line's word -/
def Fo (r : List Nat) : List (List Nat) × List Nat := r.foldl fldStep ([], [])
theorem Fo_snoc (r : List Nat) (b : Nat) : Fo (r ++ [b]) = fldStep (Fo r) b := by unfold Fo; rw [List.foldl_append]; rfl
theorem flds_eq (r : List Nat) : flds r = fldEnd (Fo r) := by unfold flds fldAt Fo; rw [List.take_length]
theorem Fo_last {r : List Nat} (h : r ≠ []) : blk (r.getD (r.length - 1) 0) = decide ((Fo r).2 = []) := by
  obtain ⟨m, c, rfl⟩ : ∃ m c, r = m ++ [c] := ⟨r.dropLast, r.getLast h, (List.dropLast_concat_getLast _).symm⟩
  rw [getD_last, Fo_snoc]
  unfold fldStep
  cases hc : blk c
  · simp
  · simp
    split
    · rename_i he; exact he
    · rfl
theorem rl_app {sec tot : Nat} {eb : Bool} {out : List (List Nat)} (tl : List (List Nat)) (h : ∀ x ∈ out, (fieldF sec x).1 = true) (ht : tl ≠ []) : restLoop sec eb tot (out ++ tl) = restLoop sec eb tot tl := by
  induction out with
  | nil => rfl
  | cons x r ih =>
    show (if r ++ tl = [] ∧ eb = true then _ else if (fieldF sec x).1 = true then restLoop sec eb tot (r ++ tl) else _) = _
    rw [if_neg (fun hc => ht (by have := hc.1; simp at this; exact this.2)), if_pos (h x (by simp)), ih (fun y hy => h y (by simp [hy]))]
theorem rl_all {sec tot : Nat} {out : List (List Nat)} (h : ∀ x ∈ out, (fieldF sec x).1 = true) : restLoop sec false tot out = (decide (sec ≠ 1) || decide (tot = 1), true) := by
  induction out with
  | nil => rfl
  | cons x r ih =>
    show (if r = [] ∧ false = true then _ else if (fieldF sec x).1 = true then restLoop sec false tot r else _) = _
    rw [if_neg (fun hc => by cases hc.2), if_pos (h x (by simp)), ih (fun y hy => h y (by simp [hy]))]
theorem rl_bad {sec tot : Nat} {out : List (List Nat)} {y : List Nat} (h : ∀ x ∈ out, (fieldF sec x).1 = true) (hy : (fieldF sec y).1 = false) : restLoop sec false tot (out ++ [y]) = (false, false) := by
  rw [rl_app _ h (by simp)]
  show (if ([] : List (List Nat)) = [] ∧ false = true then _ else if (fieldF sec y).1 = true then _ else _) = _
  rw [if_neg (fun hc => by cases hc.2), if_neg (by rw [hy]; simp)]
theorem rl_last {sec tot : Nat} {out : List (List Nat)} {y : List Nat} (h : ∀ x ∈ out, (fieldF sec x).1 = true) : restLoop sec true tot (out ++ [y]) = fieldF sec y := by
  rw [rl_app _ h (by simp)]
  show (if ([] : List (List Nat)) = [] ∧ true = true then _ else _) = _
  rw [if_pos ⟨rfl, rfl⟩]

/-- What restF says, by the fields' state. -/
theorem rest_state {sec : Nat} {r : List Nat} (h : r ≠ []) (hb : blk (r.headD 0) = true) : restF sec r = if sec = 4 ∨ (sec = 1 ∧ 1 < (fldEnd (Fo r)).length) then (decide (sec = 4 ∧ (fldEnd (Fo r)).length = 0), decide (sec = 4 ∧ (fldEnd (Fo r)).length = 0)) else restLoop sec (!decide ((Fo r).2 = [])) (fldEnd (Fo r)).length (fldEnd (Fo r)) := by
  unfold restF
  rw [if_neg h, if_neg (by rw [hb]; simp), flds_eq, Fo_last h]
theorem rest_nb {sec : Nat} {r : List Nat} (h : r ≠ []) (hb : blk (r.headD 0) = false) : restF sec r = (false, false) := by
  unfold restF
  rw [if_neg h, if_pos hb]

def OpS (cur : List Nat) (e : Nat × Nat) : Prop := (nmF cur = true ∧ e = (5, cur.length)) ∨ (∃ n, nmF n = true ∧ cur = n ++ [58] ∧ e = (6, 0)) ∨ (∃ n d, nmF n = true ∧ (d = 48 ∨ d = 49) ∧ cur = n ++ [58, d] ∧ e = (3, 0))
def RSt : Nat → List (List Nat) → List Nat → Nat × Nat → Prop
  | 0, out, cur, e => (∀ x ∈ out, (opF x).1 = true) ∧ ((cur = [] ∧ e = (4, 0)) ∨ OpS cur e)
  | 1, out, cur, e => (out = [] ∧ cur = [] ∧ e = (10, 0)) ∨ (out = [] ∧ nmF cur = true ∧ e = (11, cur.length)) ∨ (∃ x, out = [x] ∧ nmF x = true ∧ cur = [] ∧ e = (13, 0))
  | 2, out, cur, e => (∀ x ∈ out, nmF x = true) ∧ ((cur = [] ∧ e = (15, 0)) ∨ (nmF cur = true ∧ e = (16, cur.length)))
  | 3, out, cur, e => (∀ x ∈ out, nmF x = true) ∧ ((cur = [] ∧ e = (20, 0)) ∨ (nmF cur = true ∧ e = (21, cur.length)))
  | _, out, cur, e => out = [] ∧ cur = [] ∧ e = (25, 0)
def RInv (sec : Nat) (r : List Nat) (e : Nat × Nat) : Prop := (r = [] ∧ e = En sec) ∨ (r ≠ [] ∧ blk (r.headD 0) = true ∧ RSt sec (Fo r).1 (Fo r).2 e)
end Go.Proofs.YtmagchclmmphaaaGreatDoor.rf
namespace Go.Proofs.YtmagchclmmphaaaGreatDoor.rf

theorem headD_snoc {r : List Nat} (h : r ≠ []) (b : Nat) : (r ++ [b]).headD 0 = r.headD 0 := by
  cases r with
  | nil => exact absurd rfl h
  | cons x r => rfl
theorem step_blank_cur {st : List (List Nat) × List Nat} {b : Nat} (hb : blk b = true) (hc : st.2 ≠ []) : fldStep st b = (st.1 ++ [st.2], []) := by unfold fldStep; rw [if_pos hb, if_neg hc]
theorem step_blank_nil {st : List (List Nat) × List Nat} {b : Nat} (hb : blk b = true) (hc : st.2 = []) : fldStep st b = st := by unfold fldStep; rw [if_pos hb, if_pos hc]
theorem step_char {st : List (List Nat) × List Nat} {b : Nat} (hb : blk b = false) : fldStep st b = (st.1, st.2 ++ [b]) := by unfold fldStep; rw [if_neg (by rw [hb]; simp)]

/-- A blank behind a field that is not whole. -/
theorem bad_blank {sec : Nat} {r : List Nat} {b : Nat} (h4 : sec ≠ 4) (h1 : sec ≠ 1) (hr : r ≠ []) (hh : blk (r.headD 0) = true) (hb : blk b = true) (hc : (Fo r).2 ≠ []) (ho : ∀ x ∈ (Fo r).1, (fieldF sec x).1 = true) (hf : (fieldF sec (Fo r).2).1 = false) : (restF sec (r ++ [b])).2 = false := by
  rw [rest_state (by simp) (by rw [headD_snoc hr]; exact hh), Fo_snoc, step_blank_cur hb hc, if_neg (fun h => h.elim h4 (fun h => h1 h.1))]
  simp only [fldEnd, if_true, decide_true, Bool.not_true]
  rw [rl_bad ho hf]
/-- A byte that makes a field no beginning of one. -/
theorem bad_char {sec : Nat} {r : List Nat} {b : Nat} (h4 : sec ≠ 4) (h1 : sec ≠ 1) (hr : r ≠ []) (hh : blk (r.headD 0) = true) (hb : blk b = false) (ho : ∀ x ∈ (Fo r).1, (fieldF sec x).1 = true) (hf : (fieldF sec ((Fo r).2 ++ [b])).2 = false) : (restF sec (r ++ [b])).2 = false := by
  rw [rest_state (by simp) (by rw [headD_snoc hr]; exact hh), Fo_snoc, step_char hb, if_neg (fun h => h.elim h4 (fun h => h1 h.1))]
  have hne : (Fo r).2 ++ [b] ≠ [] := by simp
  simp only [fldEnd, if_neg hne, decide_eq_false hne, Bool.not_false]
  rw [rl_last ho, hf]
theorem fieldz (x : List Nat) : fieldF 0 x = opF x := rfl
theorem fieldn {sec : Nat} (h : sec ≠ 0) (x : List Nat) : fieldF sec x = (nmF x, nmF x) := by unfold fieldF; rw [if_neg h]
theorem nm_ne {n : List Nat} (h : nmF n = true) : n ≠ [] := fun e => by rw [e] at h; cases h

/-- A step, told of a new end. -/
def Goes (sec : Nat) (r : List Nat) (e : Nat × Nat) (b : Nat) : Prop := ((stepF e b).1 ≠ 0 ∧ RInv sec (r ++ [b]) (stepF e b)) ∨ ((stepF e b).1 = 0 ∧ (restF sec (r ++ [b])).2 = false)
theorem goes_yes {sec : Nat} {r : List Nat} {e q : Nat × Nat} {b : Nat} (hr : r ≠ []) (hh : blk (r.headD 0) = true) (hs : stepF e b = q) (hq : q.1 ≠ 0) (hst : RSt sec (fldStep (Fo r) b).1 (fldStep (Fo r) b).2 q) : Goes sec r e b :=
  .inl ⟨by rw [hs]; exact hq, .inr ⟨by simp, by rw [headD_snoc hr]; exact hh, by rw [Fo_snoc, hs]; exact hst⟩⟩

/-- Nothing behind the word yet. -/
theorem goes_nil {sec : Nat} {b : Nat} (hsec : sec ≤ 4) (hb : b ≠ 10) : Goes sec [] (En sec) b := by
  have aux : ∀ p q, En sec = (p, 0) → wordOf p = [] → blankOf p = q → signsOf p = [] → nameOf p = 0 → 0 < p → q ≠ 0 → RSt sec [] [] (q, 0) → Goes sec [] (En sec) b := by
    intro p q hE hw hq hs hn hp hq0 hst
    rw [hE]
    rcases k_blank p q b hw hb hq hs hn hp with ⟨h1, h2⟩ | ⟨h1, h2⟩
    · refine .inl ⟨by rw [h2]; exact hq0, .inr ⟨by simp, h1, ?_⟩⟩
      have e : Fo ([] ++ [b]) = ([], []) := by rw [Fo_snoc]; exact step_blank_nil h1 rfl
      rw [e, h2]
      exact hst
    · exact .inr ⟨h2, by rw [rest_nb (r := [] ++ [b]) (by simp) (by simpa using h1)]⟩
  match sec, hsec with
  | 0, _ => exact aux 3 4 rfl rfl rfl rfl rfl (by omega) (by omega) ⟨fun x hx => (by cases hx), .inl ⟨rfl, rfl⟩⟩
  | 1, _ => exact aux 9 10 rfl rfl rfl rfl rfl (by omega) (by omega) (.inl ⟨rfl, rfl, rfl⟩)
  | 2, _ => exact aux 14 15 rfl rfl rfl rfl rfl (by omega) (by omega) ⟨fun x hx => (by cases hx), .inl ⟨rfl, rfl⟩⟩
  | 3, _ => exact aux 19 20 rfl rfl rfl rfl rfl (by omega) (by omega) ⟨fun x hx => (by cases hx), .inl ⟨rfl, rfl⟩⟩
  | 4, _ => exact aux 25 25 rfl rfl rfl rfl rfl (by omega) (by omega) ⟨rfl, rfl, rfl⟩

theorem goes_0 {r : List Nat} {e : Nat × Nat} {b : Nat} (hr : r ≠ []) (hh : blk (r.headD 0) = true) (h : RSt 0 (Fo r).1 (Fo r).2 e) (hb : b ≠ 10) : Goes 0 r e b := by
  obtain ⟨ho, h⟩ := h
  have ho' : ∀ x ∈ (Fo r).1, (fieldF 0 x).1 = true := ho
  rcases h with ⟨hc, rfl⟩ | ⟨hn, rfl⟩ | ⟨n, hn, hc, rfl⟩ | ⟨n, d, hn, hd, hc, rfl⟩
  · rcases k_gap 4 4 5 b rfl hb rfl rfl rfl (by omega) with ⟨h1, h2⟩ | ⟨h1, h2, h3⟩ | ⟨h1, h2, h3⟩
    · exact goes_yes hr hh h2 (by simp) (by rw [step_blank_nil h1 hc]; exact ⟨ho, .inl ⟨hc, rfl⟩⟩)
    · refine goes_yes hr hh h3 (by simp) ?_
      rw [step_char h1, hc]
      exact ⟨ho, .inr (.inl ⟨by simp [nmF, h2], rfl⟩)⟩
    · exact .inr ⟨h3, bad_char (by omega) (by omega) hr hh h1 ho' (by rw [hc, fieldz, List.nil_append, op_single h2])⟩
  · rcases k_sign 5 6 58 (Fo r).2.length b rfl hb rfl rfl rfl rfl rfl with ⟨h1, h2⟩ | ⟨h1, h2, h3, h4⟩ | ⟨h1, h2, h3⟩
    · subst h1
      refine goes_yes hr hh h2 (by simp) ?_
      rw [step_char (by decide)]
      exact ⟨ho, .inr (.inr (.inl ⟨_, hn, rfl, rfl⟩))⟩
    · refine goes_yes hr hh h4 (by simp) ?_
      rw [step_char (nm_not_blk h2)]
      refine ⟨ho, .inr (.inl ⟨?_, by simp⟩)⟩
      rw [nm_snoc (.inl hn), h2, decide_eq_true (by have := ((nm_iff _).1 hn).2.1; omega)]
      rfl
    · cases hbl : blk b
      · refine .inr ⟨h3, bad_char (by omega) (by omega) hr hh hbl ho' ?_⟩
        rw [fieldz, op_bad1 hn h1]
        rw [nm_snoc (.inl hn)]
        rcases h2 with h2 | h2
        · rw [h2]; simp
        · rw [h2]; rfl
      · exact .inr ⟨h3, bad_blank (by omega) (by omega) hr hh hbl (nm_ne hn) ho' (by rw [fieldz, op_name hn])⟩
  · rcases k6 b hb with ⟨h1, h2⟩ | ⟨h1, h2, h3⟩
    · refine goes_yes hr hh h2 (by simp) ?_
      rw [step_char (by rcases h1 with rfl | rfl <;> decide), hc]
      exact ⟨ho, .inr (.inr (.inr ⟨n, b, hn, h1, by simp, rfl⟩))⟩
    · cases hbl : blk b
      · refine .inr ⟨h3, bad_char (by omega) (by omega) hr hh hbl ho' ?_⟩
        rw [fieldz, hc, List.append_assoc]
        have := op_bad2 (n := n) h1 h2
        rw [show [58] ++ [b] = [58, b] from rfl, this]
      · exact .inr ⟨h3, bad_blank (by omega) (by omega) hr hh hbl (by rw [hc]; simp) ho' (by rw [fieldz, hc, op_colon hn])⟩
  · rcases k_blank 3 4 b rfl hb rfl rfl rfl (by omega) with ⟨h1, h2⟩ | ⟨h1, h2⟩
    · refine goes_yes hr hh h2 (by simp) ?_
      rw [step_blank_cur h1 (by rw [hc]; simp)]
      refine ⟨fun x hx => ?_, .inl ⟨rfl, rfl⟩⟩
      rcases List.mem_append.1 hx with hx | hx
      · exact ho x hx
      · simp at hx; rw [hx, hc, op_whole hn hd]
    · refine .inr ⟨h2, bad_char (by omega) (by omega) hr hh h1 ho' ?_⟩
      rw [fieldz, hc, List.append_assoc]
      have := op_bad3 (n := n) (b := b) hd
      rw [show [58, d] ++ [b] = [58, d, b] from rfl, this]

theorem goes_n {sec p : Nat} {r : List Nat} {e : Nat × Nat} {b : Nat} (h4 : sec ≠ 4) (h1' : sec ≠ 1) (h0 : sec ≠ 0) (hw : wordOf (p + 1) = [] ∧ wordOf (p + 2) = []) (hq : blankOf (p + 1) = p + 1 ∧ blankOf (p + 2) = p + 1) (hs : signsOf (p + 1) = [] ∧ signsOf (p + 2) = []) (hnm : nameOf (p + 1) = p + 2 ∧ nameOf (p + 2) = p + 2)
    (hR : ∀ out cur e, RSt sec out cur e ↔ ((∀ x ∈ out, nmF x = true) ∧ ((cur = [] ∧ e = (p + 1, 0)) ∨ (nmF cur = true ∧ e = (p + 2, cur.length)))))
    (hr : r ≠ []) (hh : blk (r.headD 0) = true) (h : RSt sec (Fo r).1 (Fo r).2 e) (hb : b ≠ 10) : Goes sec r e b := by
  obtain ⟨ho, h⟩ := (hR _ _ _).1 h
  have ho' : ∀ x ∈ (Fo r).1, (fieldF sec x).1 = true := fun x hx => by rw [fieldn h0]; exact ho x hx
  rcases h with ⟨hc, rfl⟩ | ⟨hn, rfl⟩
  · rcases k_gap (p + 1) (p + 1) (p + 2) b hw.1 hb hq.1 hs.1 hnm.1 (by omega) with ⟨h1, h2⟩ | ⟨h1, h2, h3⟩ | ⟨h1, h2, h3⟩
    · exact goes_yes hr hh h2 (by simp) (by rw [step_blank_nil h1 hc]; exact (hR _ _ _).2 ⟨ho, .inl ⟨hc, rfl⟩⟩)
    · refine goes_yes hr hh h3 (by simp) ?_
      rw [step_char h1, hc]
      exact (hR _ _ _).2 ⟨ho, .inr ⟨by simp [nmF, h2], rfl⟩⟩
    · refine .inr ⟨h3, bad_char h4 h1' hr hh h1 ho' ?_⟩
      rw [hc, fieldn h0, List.nil_append, nmF_false (by simp [h2])]
  · rcases k_name (p + 2) (p + 1) (Fo r).2.length b hw.2 hb hq.2 hs.2 hnm.2 with ⟨h1, h2⟩ | ⟨h1, h2, h3⟩ | ⟨h1, h2, h3⟩
    · refine goes_yes hr hh h2 (by simp) ?_
      rw [step_blank_cur h1 (nm_ne hn)]
      refine (hR _ _ _).2 ⟨fun x hx => ?_, .inl ⟨rfl, rfl⟩⟩
      rcases List.mem_append.1 hx with hx | hx
      · exact ho x hx
      · simp at hx; rw [hx]; exact hn
    · refine goes_yes hr hh h3 (by simp) ?_
      rw [step_char (nm_not_blk h1)]
      refine (hR _ _ _).2 ⟨ho, .inr ⟨?_, by simp⟩⟩
      rw [nm_snoc (.inl hn), h1, decide_eq_true (by have := ((nm_iff _).1 hn).2.1; omega)]
      rfl
    · refine .inr ⟨h3, bad_char h4 h1' hr hh h1 ho' ?_⟩
      rw [fieldn h0, nm_snoc (.inl hn)]
      rcases h2 with h2 | h2
      · rw [h2]; simp
      · rw [h2]; rfl

theorem goes_1 {r : List Nat} {e : Nat × Nat} {b : Nat} (hr : r ≠ []) (hh : blk (r.headD 0) = true) (h : RSt 1 (Fo r).1 (Fo r).2 e) (hb : b ≠ 10) : Goes 1 r e b := by
  have hrs := rest_state (sec := 1) (r := r ++ [b]) (by simp) (by rw [headD_snoc hr]; exact hh)
  rw [Fo_snoc] at hrs
  rcases h with ⟨ho, hc, rfl⟩ | ⟨ho, hn, rfl⟩ | ⟨x, ho, hx, hc, rfl⟩
  · rcases k_gap 10 10 11 b rfl hb rfl rfl rfl (by omega) with ⟨h1, h2⟩ | ⟨h1, h2, h3⟩ | ⟨h1, h2, h3⟩
    · exact goes_yes hr hh h2 (by simp) (by rw [step_blank_nil h1 hc]; exact .inl ⟨ho, hc, rfl⟩)
    · refine goes_yes hr hh h3 (by simp) ?_
      rw [step_char h1, hc]
      exact .inr (.inl ⟨ho, by simp [nmF, h2], rfl⟩)
    · refine .inr ⟨h3, ?_⟩
      rw [hrs, step_char h1, hc, ho]
      simp [fldEnd, restLoop, fieldF, nmF_false (l := [b]) (by simp [h2])]
  · rcases k_name 11 13 (Fo r).2.length b rfl hb rfl rfl rfl with ⟨h1, h2⟩ | ⟨h1, h2, h3⟩ | ⟨h1, h2, h3⟩
    · refine goes_yes hr hh h2 (by simp) ?_
      rw [step_blank_cur h1 (nm_ne hn), ho]
      exact .inr (.inr ⟨_, rfl, hn, rfl, rfl⟩)
    · refine goes_yes hr hh h3 (by simp) ?_
      rw [step_char (nm_not_blk h1)]
      refine .inr (.inl ⟨ho, ?_, by simp⟩)
      rw [nm_snoc (.inl hn), h1, decide_eq_true (by have := ((nm_iff _).1 hn).2.1; omega)]
      rfl
    · refine .inr ⟨h3, ?_⟩
      have hnf : nmF ((Fo r).2 ++ [b]) = false := by
        rw [nm_snoc (.inl hn)]
        rcases h2 with h2 | h2
        · rw [h2]; simp
        · rw [h2]; rfl
      rw [hrs, step_char h1, ho]
      simp [fldEnd, restLoop, fieldF, hnf]
  · rcases k_blank 13 13 b rfl hb rfl rfl rfl (by omega) with ⟨h1, h2⟩ | ⟨h1, h2⟩
    · exact goes_yes hr hh h2 (by simp) (by rw [step_blank_nil h1 hc]; exact .inr (.inr ⟨x, ho, hx, hc, rfl⟩))
    · refine .inr ⟨h2, ?_⟩
      rw [hrs, step_char h1, hc, ho]
      simp [fldEnd]
theorem goes_4 {r : List Nat} {e : Nat × Nat} {b : Nat} (hr : r ≠ []) (hh : blk (r.headD 0) = true) (h : RSt 4 (Fo r).1 (Fo r).2 e) (hb : b ≠ 10) : Goes 4 r e b := by
  obtain ⟨ho, hc, rfl⟩ := h
  rcases k_blank 25 25 b rfl hb rfl rfl rfl (by omega) with ⟨h1, h2⟩ | ⟨h1, h2⟩
  · exact goes_yes hr hh h2 (by simp) (by rw [step_blank_nil h1 hc]; exact ⟨ho, hc, rfl⟩)
  · refine .inr ⟨h2, ?_⟩
    rw [rest_state (by simp) (by rw [headD_snoc hr]; exact hh), Fo_snoc, step_char h1, hc, ho]
    simp [fldEnd]

/-- What stands behind the word, a byte more. -/
theorem R_next {sec : Nat} {r : List Nat} {e : Nat × Nat} {b : Nat} (hsec : sec ≤ 4) (h : RInv sec r e) (hb : b ≠ 10) : Goes sec r e b := by
  rcases h with ⟨rfl, rfl⟩ | ⟨hr, hh, h⟩
  · exact goes_nil hsec hb
  · match sec, hsec with
    | 0, _ => exact goes_0 hr hh h hb
    | 1, _ => exact goes_1 hr hh h hb
    | 2, _ => exact goes_n (p := 14) (by omega) (by omega) (by omega) ⟨rfl, rfl⟩ ⟨rfl, rfl⟩ ⟨rfl, rfl⟩ ⟨rfl, rfl⟩ (fun _ _ _ => Iff.rfl) hr hh h hb
    | 3, _ => exact goes_n (p := 19) (by omega) (by omega) (by omega) ⟨rfl, rfl⟩ ⟨rfl, rfl⟩ ⟨rfl, rfl⟩ ⟨rfl, rfl⟩ (fun _ _ _ => Iff.rfl) hr hh h hb
    | 4, _ => exact goes_4 hr hh h hb

/-- What restF says of what may stand behind the word. -/
def Vals (sec : Nat) (v : Bool × Bool) (e : Nat × Nat) : Prop := (v = (true, true) ∧ stepF e 10 = Ls (sec + 1)) ∨ (v = (false, true) ∧ (stepF e 10).1 = 0)
theorem fol_feed (p r : Nat) (hw : wordOf p = []) : stepF (p, r) 10 = (feedOf p, 0) := by unfold stepF; simp [hw]
theorem R_val {sec : Nat} {r : List Nat} {e : Nat × Nat} (hsec : sec ≤ 4) (h : RInv sec r e) : Vals sec (restF sec r) e := by
  rcases h with ⟨rfl, rfl⟩ | ⟨hr, hh, h⟩
  · match sec, hsec with
    | 0, _ => exact .inl ⟨rfl, rfl⟩
    | 1, _ => exact .inr ⟨rfl, rfl⟩
    | 2, _ => exact .inl ⟨rfl, rfl⟩
    | 3, _ => exact .inl ⟨rfl, rfl⟩
    | 4, _ => exact .inl ⟨rfl, rfl⟩
  · rw [rest_state hr hh]
    match sec, hsec with
    | 0, _ =>
      obtain ⟨ho, h⟩ := h
      have ho' : ∀ x ∈ (Fo r).1, (fieldF 0 x).1 = true := ho
      rw [if_neg (by omega)]
      rcases h with ⟨hc, rfl⟩ | ⟨hn, rfl⟩ | ⟨n, hn, hc, rfl⟩ | ⟨n, d, hn, hd, hc, rfl⟩
      · left
        refine ⟨?_, rfl⟩
        simp only [fldEnd, hc, if_true, decide_true, Bool.not_true]
        rw [rl_all ho']
        rfl
      · right
        refine ⟨?_, by rw [fol_feed 5 _ rfl]; rfl⟩
        simp only [fldEnd, if_neg (nm_ne hn), decide_eq_false (nm_ne hn), Bool.not_false]
        rw [rl_last ho', fieldz, op_name hn]
      · right
        have hne : (Fo r).2 ≠ [] := by rw [hc]; simp
        refine ⟨?_, rfl⟩
        simp only [fldEnd, if_neg hne, decide_eq_false hne, Bool.not_false]
        rw [rl_last ho', fieldz, hc, op_colon hn]
      · left
        have hne : (Fo r).2 ≠ [] := by rw [hc]; simp
        refine ⟨?_, rfl⟩
        simp only [fldEnd, if_neg hne, decide_eq_false hne, Bool.not_false]
        rw [rl_last ho', fieldz, hc, op_whole hn hd]
    | 1, _ =>
      rcases h with ⟨ho, hc, rfl⟩ | ⟨ho, hn, rfl⟩ | ⟨x, ho, hx, hc, rfl⟩
      · right
        exact ⟨by simp [fldEnd, hc, ho, restLoop], rfl⟩
      · left
        refine ⟨by simp [fldEnd, nm_ne hn, ho, restLoop, fieldF, hn], ?_⟩
        rw [fol_feed 11 _ rfl]; rfl
      · left
        exact ⟨by simp [fldEnd, hc, ho, restLoop, fieldF, hx], rfl⟩
    | 2, _ =>
      obtain ⟨ho, h⟩ := h
      have ho' : ∀ x ∈ (Fo r).1, (fieldF 2 x).1 = true := fun x hx => ho x hx
      rw [if_neg (by omega)]
      left
      rcases h with ⟨hc, rfl⟩ | ⟨hn, rfl⟩
      · refine ⟨?_, rfl⟩
        simp only [fldEnd, hc, if_true, decide_true, Bool.not_true]
        rw [rl_all ho']
        rfl
      · refine ⟨?_, by rw [fol_feed 16 _ rfl]; rfl⟩
        simp only [fldEnd, if_neg (nm_ne hn), decide_eq_false (nm_ne hn), Bool.not_false]
        rw [rl_last ho', fieldn (by omega), hn]
    | 3, _ =>
      obtain ⟨ho, h⟩ := h
      have ho' : ∀ x ∈ (Fo r).1, (fieldF 3 x).1 = true := fun x hx => ho x hx
      rw [if_neg (by omega)]
      left
      rcases h with ⟨hc, rfl⟩ | ⟨hn, rfl⟩
      · refine ⟨?_, rfl⟩
        simp only [fldEnd, hc, if_true, decide_true, Bool.not_true]
        rw [rl_all ho']
        rfl
      · refine ⟨?_, by rw [fol_feed 21 _ rfl]; rfl⟩
        simp only [fldEnd, if_neg (nm_ne hn), decide_eq_false (nm_ne hn), Bool.not_false]
        rw [rl_last ho', fieldn (by omega), hn]
    | 4, _ =>
      obtain ⟨ho, hc, rfl⟩ := h
      left
      exact ⟨by simp [fldEnd, hc, ho], rfl⟩
end Go.Proofs.YtmagchclmmphaaaGreatDoor.rf
namespace Go.Proofs.YtmagchclmmphaaaGreatDoor.rf

def lineF (sec : Nat) (l : List Nat) : Bool × Bool × Bool :=
  if l.all blk = true then (true, false, true)
  else if sec = 5 then ((ruleF l).1, false, (ruleF l).2)
  else if l.length < (wordL sec).length then (false, false, decide ((wordL sec).take l.length = l))
  else if l.take (wordL sec).length ≠ wordL sec then (false, false, false)
  else ((restF sec (l.drop (wordL sec).length)).1, (restF sec (l.drop (wordL sec).length)).1, (restF sec (l.drop (wordL sec).length)).2)

/-! ### Rules -/
def Stop (y A : List Nat) : Prop := y = [] ∨ isNm (y.headD 0) = false ∨ A.length = 16
theorem nmLen_app {A y : List Nat} (hA : nmF A = true ∨ A = []) (hy : Stop y A) : nmLen (A ++ y) = A.length := by
  have ha : A.all isNm = true := by
    rcases hA with h | h
    · exact ((nm_iff A).1 h).2.2
    · subst h; rfl
  have h16 : A.length ≤ 16 := by
    rcases hA with h | h
    · exact ((nm_iff A).1 h).2.1
    · subst h; simp
  refine nmLen_at (by simp) h16 (by simpa using ha) ?_
  rcases hy with h | h | h
  · left; simp [h]
  · cases y with
    | nil => left; simp
    | cons b y => right; right; exact ⟨b, by simp, h⟩
  · exact .inr (.inl h)
theorem skip_app {g y : List Nat} (hg : g.all blk = true) (hy : y = [] ∨ blk (y.headD 0) = false) : skipF (g ++ y) = y := by
  unfold skipF
  rw [List.dropWhile_append_of_pos (List.all_eq_true.1 hg)]
  cases y with
  | nil => rfl
  | cons b y =>
    rcases hy with h | h
    · cases h
    · rw [List.dropWhile_cons, if_neg (by rw [show blk b = false from h]; simp)]
theorem E1 {A y : List Nat} (hA : nmF A = true) (hy : Stop y A) : ruleF (A ++ y) = ruleF1 y := by
  unfold ruleF
  rw [nmLen_app (.inl hA) hy, if_neg (by have := nm_len hA; omega)]
  simp
theorem E2 {B y : List Nat} (hB : nmF B = true ∨ B = []) (hy : Stop y B) : ruleF1 (40 :: (B ++ y)) = ruleF2 y := by
  unfold ruleF1
  rw [if_neg (by simp), if_neg (by simp)]
  simp only [List.drop_succ_cons, List.drop_zero]
  rw [nmLen_app hB hy]
  simp
theorem E3 {g y : List Nat} (hg : g.all blk = true) (hy : y = [] ∨ blk (y.headD 0) = false) : ruleF2 (41 :: (g ++ y)) = ruleF3 y := by
  unfold ruleF2
  rw [if_neg (by simp), if_neg (by simp)]
  simp only [List.drop_succ_cons, List.drop_zero]
  rw [skip_app hg hy]
theorem E4 {g y : List Nat} (hg : g.all blk = true) (hy : y = [] ∨ blk (y.headD 0) = false) : ruleF3 (45 :: 62 :: (g ++ y)) = ruleF4 y := by
  unfold ruleF3
  rw [if_neg (by simp), if_neg (by simp)]
  simp only [List.drop_succ_cons, List.drop_zero]
  rw [skip_app hg hy]
theorem E5 {C y : List Nat} (hC : nmF C = true) (hy : Stop y C) : ruleF4 (C ++ y) = (y.all blk, y.all blk) := by
  unfold ruleF4
  rw [if_neg (by have := nm_ne hC; simp [this]), nmLen_app (.inl hC) hy, decide_eq_true (nm_len hC)]
  simp

/-- What a rule's beginning looks like. -/
inductive UInv : List Nat → Nat × Nat → Prop
  | u0 : UInv [] (24, 0)
  | ub (x : List Nat) : x ≠ [] → x.all blk = true → UInv x (25, 0)
  | u1 (A : List Nat) : nmF A = true → UInv A (26, A.length)
  | u2 (A : List Nat) : nmF A = true → UInv (A ++ 40 :: []) (27, 0)
  | u3 (A B : List Nat) : nmF A = true → nmF B = true → UInv (A ++ 40 :: B) (28, B.length)
  | u4 (A B g : List Nat) : nmF A = true → (nmF B = true ∨ B = []) → g.all blk = true → UInv (A ++ 40 :: (B ++ 41 :: g)) (29, 0)
  | u5 (A B g : List Nat) : nmF A = true → (nmF B = true ∨ B = []) → g.all blk = true → UInv (A ++ 40 :: (B ++ 41 :: (g ++ [45]))) (29, 1)
  | u6 (A B g h : List Nat) : nmF A = true → (nmF B = true ∨ B = []) → g.all blk = true → h.all blk = true → UInv (A ++ 40 :: (B ++ 41 :: (g ++ 45 :: 62 :: h))) (30, 0)
  | u7 (A B g h C : List Nat) : nmF A = true → (nmF B = true ∨ B = []) → g.all blk = true → h.all blk = true → nmF C = true → UInv (A ++ 40 :: (B ++ 41 :: (g ++ 45 :: 62 :: (h ++ C)))) (31, C.length)
  | u8 (A B g h C k : List Nat) : nmF A = true → (nmF B = true ∨ B = []) → g.all blk = true → h.all blk = true → nmF C = true → k ≠ [] → k.all blk = true → UInv (A ++ 40 :: (B ++ 41 :: (g ++ 45 :: 62 :: (h ++ (C ++ k))))) (25, 0)

theorem nm_grow {n : List Nat} {b : Nat} (h : nmF n = true) (hb : isNm b = true) (hl : n.length ≠ 16) : nmF (n ++ [b]) = true := by
  rw [nm_snoc (.inl h), hb, decide_eq_true (by have := ((nm_iff _).1 h).2.1; omega)]
  rfl
theorem nm_one {b : Nat} (h : isNm b = true) : nmF [b] = true := by simp [nmF, h]
theorem all_snoc {g : List Nat} {b : Nat} (h : g.all blk = true) (hb : blk b = true) : (g ++ [b]).all blk = true := by rw [List.all_append, h]; simp [hb]
theorem stop_at {b : Nat} {A y : List Nat} (h : isNm b = false ∨ A.length = 16) : Stop (b :: y) A := .inr (h.imp id id)
theorem stop40 (y A : List Nat) : Stop (40 :: y) A := .inr (.inl rfl)
theorem stop41 (y A : List Nat) : Stop (41 :: y) A := .inr (.inl rfl)
theorem nb45 (y : List Nat) : (45 :: y) = [] ∨ blk ((45 :: y).headD 0) = false := .inr rfl
theorem nm_nb {C y : List Nat} (hC : nmF C = true) : (C ++ y) = [] ∨ blk ((C ++ y).headD 0) = false := by
  cases C with
  | nil => cases hC
  | cons c C => exact .inr (nm_not_blk (nm_all hC c (by simp)))

/-- A rule's beginning, a byte more. -/
theorem U_next {x : List Nat} {e : Nat × Nat} {b : Nat} (h : UInv x e) (hb : b ≠ 10) : ((stepF e b).1 ≠ 0 ∧ UInv (x ++ [b]) (stepF e b)) ∨ ((stepF e b).1 = 0 ∧ (x ++ [b]).all blk = false ∧ (ruleF (x ++ [b])).2 = false) := by
  have nall : ∀ {l : List Nat} {c : Nat}, c ∈ l → blk c = false → l.all blk = false := fun hm hc => by
    rw [List.all_eq_false]
    exact ⟨_, hm, by rw [hc]; simp⟩
  have hnm0 : ∀ {A : List Nat}, nmF A = true → ∃ c ∈ A, blk c = false := fun {A} hA => by
    cases A with
    | nil => cases hA
    | cons c A => exact ⟨c, by simp, nm_not_blk (nm_all hA c (by simp))⟩
  cases h with
  | u0 =>
    rcases k_gap 24 25 26 b rfl hb rfl rfl rfl (by omega) with ⟨h1, h2⟩ | ⟨h1, h2, h3⟩ | ⟨h1, h2, h3⟩
    · rw [h2]; exact .inl ⟨by simp, .ub _ (by simp) (by simp [h1])⟩
    · rw [h3]; exact .inl ⟨by simp, .u1 [b] (nm_one h2)⟩
    · refine .inr ⟨h3, nall (c := b) (by simp) h1, ?_⟩
      have : nmLen ([] ++ [b]) = 0 := nmLen_app (A := []) (.inr rfl) (stop_at (.inl h2))
      unfold ruleF
      rw [this, if_pos rfl]
  | ub _ hx hbl =>
    rcases k_blank 25 25 b rfl hb rfl rfl rfl (by omega) with ⟨h1, h2⟩ | ⟨h1, h2⟩
    · rw [h2]; exact .inl ⟨by simp, .ub _ (by simp) (all_snoc hbl h1)⟩
    · refine .inr ⟨h2, nall (c := b) (by simp) h1, ?_⟩
      cases x with
      | nil => exact absurd rfl hx
      | cons c x =>
        have hc : blk c = true := by simp at hbl; exact hbl.1
        have : nmLen ([] ++ (c :: (x ++ [b]))) = 0 := nmLen_app (A := []) (.inr rfl) (stop_at (.inl (blk_not_nm hc)))
        unfold ruleF
        rw [List.cons_append]
        rw [List.nil_append] at this
        rw [this, if_pos rfl]
  | u1 A hA =>
    obtain ⟨c, hc, hcb⟩ := hnm0 hA
    rcases k_sign 26 27 40 x.length b rfl hb rfl rfl rfl rfl rfl with ⟨h1, h2⟩ | ⟨h1, h2, h3, h4⟩ | ⟨h1, h2, h3⟩
    · subst h1; rw [h2]; exact .inl ⟨by simp, .u2 x hA⟩
    · rw [h4]
      refine .inl ⟨by simp, ?_⟩
      have := UInv.u1 (x ++ [b]) (nm_grow hA h2 h3)
      simpa using this
    · refine .inr ⟨h3, nall (c := c) (by simp [hc]) hcb, ?_⟩
      rw [E1 hA (stop_at h2)]
      unfold ruleF1
      rw [if_neg (by simp), if_pos (by simpa using h1)]
  | u2 A hA =>
    obtain ⟨c, hc, hcb⟩ := hnm0 hA
    rcases k27 b hb with ⟨h1, h2⟩ | ⟨h1, h2, h3⟩ | ⟨h1, h2, h3⟩
    · subst h1; rw [h2]
      refine .inl ⟨by simp, ?_⟩
      have := UInv.u4 A [] [] hA (.inr rfl) rfl
      simpa using this
    · rw [h3]
      refine .inl ⟨by simp, ?_⟩
      have := UInv.u3 A [b] hA (nm_one h2)
      simpa using this
    · refine .inr ⟨h3, nall (c := c) (by simp [hc]) hcb, ?_⟩
      have e : A ++ 40 :: [] ++ [b] = A ++ 40 :: ([] ++ [b]) := by simp
      rw [e, E1 hA (stop40 _ _), E2 (.inr rfl) (stop_at (.inl h2))]
      unfold ruleF2
      rw [if_neg (by simp), if_pos (by simpa using h1)]
  | u3 A B hA hB =>
    obtain ⟨c, hc, hcb⟩ := hnm0 hA
    rcases k_sign 28 29 41 B.length b rfl hb rfl rfl rfl rfl rfl with ⟨h1, h2⟩ | ⟨h1, h2, h3, h4⟩ | ⟨h1, h2, h3⟩
    · subst h1; rw [h2]
      refine .inl ⟨by simp, ?_⟩
      have := UInv.u4 A B [] hA (.inl hB) rfl
      simpa using this
    · rw [h4]
      refine .inl ⟨by simp, ?_⟩
      have := UInv.u3 A (B ++ [b]) hA (nm_grow hB h2 h3)
      simpa using this
    · refine .inr ⟨h3, nall (c := c) (by simp [hc]) hcb, ?_⟩
      have e : A ++ 40 :: B ++ [b] = A ++ 40 :: (B ++ [b]) := by simp
      rw [e, E1 hA (stop40 _ _), E2 (.inl hB) (stop_at h2)]
      unfold ruleF2
      rw [if_neg (by simp), if_pos (by simpa using h1)]
  | u4 A B g hA hB hg =>
    obtain ⟨c, hc, hcb⟩ := hnm0 hA
    rcases k29a b hb with ⟨h1, h2⟩ | ⟨h1, h2⟩ | ⟨h1, h2, h3⟩
    · rw [h2]
      refine .inl ⟨by simp, ?_⟩
      have := UInv.u4 A B (g ++ [b]) hA hB (all_snoc hg h1)
      simpa using this
    · subst h1; rw [h2]
      refine .inl ⟨by simp, ?_⟩
      have := UInv.u5 A B g hA hB hg
      simpa using this
    · refine .inr ⟨h3, nall (c := c) (by simp [hc]) hcb, ?_⟩
      have e : A ++ 40 :: (B ++ 41 :: g) ++ [b] = A ++ 40 :: (B ++ 41 :: (g ++ [b])) := by simp
      rw [e, E1 hA (stop40 _ _), E2 hB (stop41 _ _), E3 (y := [b]) hg (.inr h1)]
      unfold ruleF3
      rw [if_neg (by simp [h2]), if_pos (by simp)]
  | u5 A B g hA hB hg =>
    obtain ⟨c, hc, hcb⟩ := hnm0 hA
    rcases k29b b with ⟨h1, h2⟩ | ⟨h1, h2⟩
    · subst h1; rw [h2]
      refine .inl ⟨by simp, ?_⟩
      have := UInv.u6 A B g [] hA hB hg rfl
      simpa using this
    · refine .inr ⟨h2, nall (c := c) (by simp [hc]) hcb, ?_⟩
      have e : A ++ 40 :: (B ++ 41 :: (g ++ [45])) ++ [b] = A ++ 40 :: (B ++ 41 :: (g ++ 45 :: [b])) := by simp
      rw [e, E1 hA (stop40 _ _), E2 hB (stop41 _ _), E3 hg (nb45 _)]
      unfold ruleF3
      rw [if_neg (by simp), if_pos (by simp [h1])]
  | u6 A B g h hA hB hg hh =>
    obtain ⟨c, hc, hcb⟩ := hnm0 hA
    rcases k_gap 30 30 31 b rfl hb rfl rfl rfl (by omega) with ⟨h1, h2⟩ | ⟨h1, h2, h3⟩ | ⟨h1, h2, h3⟩
    · rw [h2]
      refine .inl ⟨by simp, ?_⟩
      have := UInv.u6 A B g (h ++ [b]) hA hB hg (all_snoc hh h1)
      simpa using this
    · rw [h3]
      refine .inl ⟨by simp, ?_⟩
      have := UInv.u7 A B g h [b] hA hB hg hh (nm_one h2)
      simpa using this
    · refine .inr ⟨h3, nall (c := c) (by simp [hc]) hcb, ?_⟩
      have e : A ++ 40 :: (B ++ 41 :: (g ++ 45 :: 62 :: h)) ++ [b] = A ++ 40 :: (B ++ 41 :: (g ++ 45 :: 62 :: (h ++ [b]))) := by simp
      rw [e, E1 hA (stop40 _ _), E2 hB (stop41 _ _), E3 hg (nb45 _), E4 (y := [b]) hh (.inr h1)]
      have : nmLen ([] ++ [b]) = 0 := nmLen_app (A := []) (.inr rfl) (stop_at (.inl h2))
      rw [List.nil_append] at this
      unfold ruleF4
      rw [if_neg (by simp), this]
      simp
  | u7 A B g h C hA hB hg hh hC =>
    obtain ⟨c, hc, hcb⟩ := hnm0 hA
    rcases k_name 31 25 C.length b rfl hb rfl rfl rfl with ⟨h1, h2⟩ | ⟨h1, h2, h3⟩ | ⟨h1, h2, h3⟩
    · rw [h2]
      refine .inl ⟨by simp, ?_⟩
      have := UInv.u8 A B g h C [b] hA hB hg hh hC (by simp) (by simp [h1])
      simpa using this
    · rw [h3]
      refine .inl ⟨by simp, ?_⟩
      have := UInv.u7 A B g h (C ++ [b]) hA hB hg hh (nm_grow hC h1 h2)
      simpa using this
    · refine .inr ⟨h3, nall (c := c) (by simp [hc]) hcb, ?_⟩
      have e : A ++ 40 :: (B ++ 41 :: (g ++ 45 :: 62 :: (h ++ C))) ++ [b] = A ++ 40 :: (B ++ 41 :: (g ++ 45 :: 62 :: (h ++ (C ++ [b])))) := by simp
      rw [e, E1 hA (stop40 _ _), E2 hB (stop41 _ _), E3 hg (nb45 _), E4 hh (nm_nb hC), E5 hC (stop_at h2)]
      simp [h1]
  | u8 A B g h C k hA hB hg hh hC hk hkb =>
    obtain ⟨c, hc, hcb⟩ := hnm0 hA
    rcases k_blank 25 25 b rfl hb rfl rfl rfl (by omega) with ⟨h1, h2⟩ | ⟨h1, h2⟩
    · rw [h2]
      refine .inl ⟨by simp, ?_⟩
      have := UInv.u8 A B g h C (k ++ [b]) hA hB hg hh hC (by simp) (all_snoc hkb h1)
      simpa using this
    · refine .inr ⟨h2, nall (c := c) (by simp [hc]) hcb, ?_⟩
      have e : A ++ 40 :: (B ++ 41 :: (g ++ 45 :: 62 :: (h ++ (C ++ k)))) ++ [b] = A ++ 40 :: (B ++ 41 :: (g ++ 45 :: 62 :: (h ++ (C ++ (k ++ [b]))))) := by simp
      have hst : Stop (k ++ [b]) C := by
        cases k with
        | nil => exact absurd rfl hk
        | cons d k =>
          have hd : blk d = true := by simp at hkb; exact hkb.1
          exact stop_at (.inl (blk_not_nm hd))
      rw [e, E1 hA (stop40 _ _), E2 hB (stop41 _ _), E3 hg (nb45 _), E4 hh (nm_nb hC), E5 hC hst]
      simp [h1]

/-- What lineF says of a rule's beginning. -/
theorem U_val {x : List Nat} {e : Nat × Nat} (h : UInv x e) : (lineF 5 x = (true, false, true) ∧ stepF e 10 = (24, 0)) ∨ (lineF 5 x = (false, false, true) ∧ (stepF e 10).1 = 0) := by
  have hnb : ∀ {A y : List Nat}, nmF A = true → (A ++ y).all blk = false := fun {A y} hA => by
    cases A with
    | nil => cases hA
    | cons c A =>
      rw [List.all_eq_false]
      exact ⟨c, by simp, by rw [nm_not_blk (nm_all hA c (by simp))]; simp⟩
  have hl : ∀ {l : List Nat}, l.all blk = false → lineF 5 l = ((ruleF l).1, false, (ruleF l).2) := fun h => by unfold lineF; rw [if_neg (by rw [h]; simp), if_pos rfl]
  have hst0 : ∀ A : List Nat, Stop [] A := fun A => .inl rfl
  cases h with
  | u0 => exact .inl ⟨rfl, rfl⟩
  | ub _ hx hbl => exact .inl ⟨by unfold lineF; rw [if_pos hbl], rfl⟩
  | u1 A hA =>
    right
    have := hnb (y := []) hA
    rw [List.append_nil] at this
    refine ⟨?_, by rw [fol_feed 26 _ rfl]; rfl⟩
    rw [hl this]
    have e := E1 (y := []) hA (hst0 _)
    rw [List.append_nil] at e
    rw [e]; rfl
  | u2 A hA =>
    right
    refine ⟨?_, rfl⟩
    rw [hl (hnb hA), E1 hA (stop40 _ _)]
    have := E2 (B := []) (y := []) (.inr rfl) (hst0 _)
    rw [List.append_nil] at this
    rw [this]; rfl
  | u3 A B hA hB =>
    right
    refine ⟨?_, by rw [fol_feed 28 _ rfl]; rfl⟩
    rw [hl (hnb hA), E1 hA (stop40 _ _)]
    have := E2 (y := []) (.inl hB) (hst0 _)
    rw [List.append_nil] at this
    rw [this]; rfl
  | u4 A B g hA hB hg =>
    right
    refine ⟨?_, rfl⟩
    rw [hl (hnb hA), E1 hA (stop40 _ _), E2 hB (stop41 _ _)]
    have := E3 (y := []) hg (.inl rfl)
    rw [List.append_nil] at this
    rw [this]; rfl
  | u5 A B g hA hB hg =>
    right
    refine ⟨?_, rfl⟩
    rw [hl (hnb hA), E1 hA (stop40 _ _), E2 hB (stop41 _ _), E3 hg (nb45 _)]
    rfl
  | u6 A B g h hA hB hg hh =>
    right
    refine ⟨?_, rfl⟩
    rw [hl (hnb hA), E1 hA (stop40 _ _), E2 hB (stop41 _ _), E3 hg (nb45 _)]
    have := E4 (y := []) hh (.inl rfl)
    rw [List.append_nil] at this
    rw [this]; rfl
  | u7 A B g h C hA hB hg hh hC =>
    left
    refine ⟨?_, by rw [fol_feed 31 _ rfl]; rfl⟩
    have e5 := E5 (y := []) hC (hst0 _)
    have e4 := E4 (y := C) hh (by have := nm_nb (y := []) hC; rwa [List.append_nil] at this)
    rw [List.append_nil] at e5
    rw [hl (hnb hA), E1 hA (stop40 _ _), E2 hB (stop41 _ _), E3 hg (nb45 _), e4, e5]
    rfl
  | u8 A B g h C k hA hB hg hh hC hk hkb =>
    left
    refine ⟨?_, rfl⟩
    have hst : Stop k C := by
      cases k with
      | nil => exact absurd rfl hk
      | cons d k =>
        have hd : blk d = true := by simp at hkb; exact hkb.1
        exact stop_at (.inl (blk_not_nm hd))
    rw [hl (hnb hA), E1 hA (stop40 _ _), E2 hB (stop41 _ _), E3 hg (nb45 _), E4 hh (nm_nb hC), E5 hC hst, hkb]
end Go.Proofs.YtmagchclmmphaaaGreatDoor.rf
namespace Go.Proofs.YtmagchclmmphaaaGreatDoor.rf

inductive WInv (sec : Nat) : List Nat → Nat × Nat → Prop
  | w0 : WInv sec [] (Ls sec)
  | wb (x : List Nat) : x ≠ [] → x.all blk = true → WInv sec x (Em sec)
  | ww (j : Nat) : 0 < j → j < (wordL sec).length → WInv sec ((wordL sec).take j) ((Ls sec).1, j)
  | wr (r : List Nat) (e : Nat × Nat) : RInv sec r e → WInv sec (wordL sec ++ r) e

theorem word_facts {sec : Nat} (h : sec ≤ 4) : 1 < (wordL sec).length ∧ blk ((wordL sec).getD 0 0) = false ∧ ∀ b ∈ wordL sec, b ≠ 10 := by
  match sec, h with
  | 0, _ => exact ⟨by decide, by decide, by decide⟩
  | 1, _ => exact ⟨by decide, by decide, by decide⟩
  | 2, _ => exact ⟨by decide, by decide, by decide⟩
  | 3, _ => exact ⟨by decide, by decide, by decide⟩
  | 4, _ => exact ⟨by decide, by decide, by decide⟩
theorem take_getD {l : List Nat} {j : Nat} (h : j < l.length) : l.take (j + 1) = l.take j ++ [l.getD j 0] := by
  rw [List.take_succ_eq_append_getElem h]
  simp [List.getD_eq_getElem?_getD, List.getElem?_eq_getElem h]
theorem word_nb {sec : Nat} (h : sec ≤ 4) {j : Nat} (hj : 0 < j) (y : List Nat) : ((wordL sec).take j ++ y).all blk = false := by
  obtain ⟨h1, h2, _⟩ := word_facts h
  rw [List.all_eq_false]
  refine ⟨(wordL sec).getD 0 0, List.mem_append.2 (.inl ?_), by rw [h2]; simp⟩
  obtain ⟨m, rfl⟩ : ∃ m, j = m + 1 := ⟨j - 1, by omega⟩
  cases hw : wordL sec with
  | nil => rw [hw] at h1; simp at h1
  | cons c w => simp
/-- A line that is no empty one, by its head. -/
theorem line_head {sec : Nat} {l : List Nat} (h : sec ≤ 4) (hnb : l.all blk = false) (hl : l ≠ []) (hh : l.headD 0 ≠ (wordL sec).getD 0 0) : (lineF sec l).2.2 = false := by
  obtain ⟨h1, _, _⟩ := word_facts h
  unfold lineF
  rw [if_neg (by rw [hnb]; simp), if_neg (by omega)]
  cases l with
  | nil => exact absurd rfl hl
  | cons b l =>
    cases hw : wordL sec with
    | nil => rw [hw] at h1; simp at h1
    | cons c w =>
      rw [hw] at hh
      simp only [List.headD_cons, List.getD_cons_zero] at hh
      split
      · simp [Ne.symm hh]
      · rw [if_pos]
        simp [hh]

theorem W_next {sec : Nat} {x : List Nat} {e : Nat × Nat} {b : Nat} (hsec : sec ≤ 4) (h : WInv sec x e) (hb : b ≠ 10) : ((stepF e b).1 ≠ 0 ∧ WInv sec (x ++ [b]) (stepF e b)) ∨ ((stepF e b).1 = 0 ∧ (lineF sec (x ++ [b])).2.2 = false) := by
  obtain ⟨f1, f2, f3⟩ := word_facts hsec
  have hEm0 : (Em sec).1 ≠ 0 := by match sec, hsec with | 0, _ => decide | 1, _ => decide | 2, _ => decide | 3, _ => decide | 4, _ => decide
  have hLs0 : (Ls sec).1 ≠ 0 := by match sec, hsec with | 0, _ => decide | 1, _ => decide | 2, _ => decide | 3, _ => decide | 4, _ => decide
  have hEn0 : (En sec).1 ≠ 0 := by match sec, hsec with | 0, _ => decide | 1, _ => decide | 2, _ => decide | 3, _ => decide | 4, _ => decide
  cases h with
  | w0 =>
    rcases k_line sec b hsec hb with ⟨h1, h2⟩ | ⟨h1, h2, h3⟩ | ⟨h1, h2, h3⟩
    · rw [h2]; exact .inl ⟨hEm0, .wb _ (by simp) (by simp [h1])⟩
    · rw [h3]
      refine .inl ⟨hLs0, ?_⟩
      have := WInv.ww (sec := sec) 1 (by omega) f1
      rw [take_getD (by omega), h2] at this
      simpa using this
    · refine .inr ⟨h3, line_head hsec (by simp [h1]) (by simp) ?_⟩
      simpa using Ne.symm h2
  | wb _ hx hbl =>
    have hk : (blk b = true ∧ stepF (Em sec) b = Em sec) ∨ (blk b = false ∧ (stepF (Em sec) b).1 = 0) := by
      match sec, hsec with
      | 0, _ => exact k_blank 2 2 b rfl hb rfl rfl rfl (by omega)
      | 1, _ => exact k_blank 8 8 b rfl hb rfl rfl rfl (by omega)
      | 2, _ => exact k_blank 13 13 b rfl hb rfl rfl rfl (by omega)
      | 3, _ => exact k_blank 18 18 b rfl hb rfl rfl rfl (by omega)
      | 4, _ => exact k_blank 23 23 b rfl hb rfl rfl rfl (by omega)
    rcases hk with ⟨h1, h2⟩ | ⟨h1, h2⟩
    · rw [h2]; exact .inl ⟨hEm0, .wb _ (by simp) (all_snoc hbl h1)⟩
    · refine .inr ⟨h2, line_head hsec (by rw [List.all_append]; simp [h1]) (by simp) ?_⟩
      rw [headD_snoc hx]
      cases x with
      | nil => exact absurd rfl hx
      | cons c x =>
        simp only [List.headD_cons]
        intro e
        have hc : blk c = true := by simp at hbl; exact hbl.1
        rw [e, f2] at hc
        cases hc
  | ww j hj hjl =>
    rcases k_word sec j b hsec hjl hj with ⟨h1, h2⟩ | ⟨h1, h2⟩
    · rw [h2]
      have ht := take_getD hjl
      rw [h1] at ht
      by_cases hl : j + 1 = (wordL sec).length
      · rw [if_pos hl]
        refine .inl ⟨hEn0, ?_⟩
        have := WInv.wr (sec := sec) [] (En sec) (.inl ⟨rfl, rfl⟩)
        rw [← ht, hl, List.take_length]
        simpa using this
      · rw [if_neg hl]
        refine .inl ⟨hLs0, ?_⟩
        rw [← ht]
        exact .ww (j + 1) (by omega) (by omega)
    · refine .inr ⟨h2, ?_⟩
      have hlen : ((wordL sec).take j ++ [b]).length = j + 1 := by simp; omega
      have hne : (wordL sec).take (j + 1) ≠ (wordL sec).take j ++ [b] := fun e => by
        rw [take_getD hjl] at e
        have := List.append_cancel_left e
        simp at this
        exact h1 (by simpa [List.getD_eq_getElem?_getD] using this)
      unfold lineF
      rw [if_neg (by rw [word_nb hsec hj]; simp), if_neg (by omega), hlen]
      split
      · simp [hne]
      · rw [if_pos]
        intro e
        have hjl2 : (wordL sec).length = j + 1 := by omega
        rw [hjl2, List.take_of_length_le (by omega)] at e
        exact hne (by rw [e, ← hjl2, List.take_length])
  | wr r e hr =>
    rcases R_next hsec hr hb with ⟨h1, h2⟩ | ⟨h1, h2⟩
    · refine .inl ⟨h1, ?_⟩
      rw [List.append_assoc]
      exact .wr _ _ h2
    · refine .inr ⟨h1, ?_⟩
      have hnb : (wordL sec ++ (r ++ [b])).all blk = false := by
        have := word_nb hsec (j := (wordL sec).length) (by omega) (r ++ [b])
        rwa [List.take_length] at this
      unfold lineF
      rw [List.append_assoc, if_neg (by rw [hnb]; simp), if_neg (by omega), if_neg (by simp), if_neg (by simp)]
      simpa using h2

/-- What lineF says of a line's beginning. -/
def LVal (sec : Nat) (v : Bool × Bool × Bool) (e : Nat × Nat) : Prop := (v = (true, false, true) ∧ stepF e 10 = Ls sec) ∨ (v = (true, true, true) ∧ sec ≤ 4 ∧ stepF e 10 = Ls (sec + 1)) ∨ (v = (false, false, true) ∧ (stepF e 10).1 = 0)
theorem W_val {sec : Nat} {x : List Nat} {e : Nat × Nat} (hsec : sec ≤ 4) (h : WInv sec x e) : LVal sec (lineF sec x) e := by
  obtain ⟨f1, f2, f3⟩ := word_facts hsec
  cases h with
  | w0 => exact .inl ⟨rfl, by match sec, hsec with | 0, _ => rfl | 1, _ => rfl | 2, _ => rfl | 3, _ => rfl | 4, _ => rfl⟩
  | wb _ hx hbl => exact .inl ⟨by unfold lineF; rw [if_pos hbl], by match sec, hsec with | 0, _ => rfl | 1, _ => rfl | 2, _ => rfl | 3, _ => rfl | 4, _ => rfl⟩
  | ww j hj hjl =>
    right; right
    have hnb := word_nb hsec hj []
    rw [List.append_nil] at hnb
    have hlen : ((wordL sec).take j).length = j := by simp; omega
    constructor
    · unfold lineF
      rw [if_neg (by rw [hnb]; simp), if_neg (by omega), hlen, if_pos hjl]
      simp
    · rcases k_word sec j 10 hsec hjl hj with ⟨h1, _⟩ | ⟨_, h2⟩
      · exact absurd h1 (f3 _ (by
          rw [List.getD_eq_getElem?_getD, List.getElem?_eq_getElem hjl]
          exact List.getElem_mem hjl))
      · exact h2
  | wr r _ hr =>
    have hnb := word_nb hsec (j := (wordL sec).length) (by omega) r
    rw [List.take_length] at hnb
    have e1 : lineF sec (wordL sec ++ r) = ((restF sec r).1, (restF sec r).1, (restF sec r).2) := by
      unfold lineF
      rw [if_neg (by rw [hnb]; simp), if_neg (by omega), if_neg (by simp), if_neg (by simp)]
      simp
    rw [e1]
    rcases R_val hsec hr with ⟨h1, h2⟩ | ⟨h1, h2⟩
    · right; left
      rw [h1]
      exact ⟨rfl, hsec, h2⟩
    · right; right
      rw [h1]
      exact ⟨rfl, h2⟩

/-- A line's beginning in its section. -/
def LInv (sec : Nat) (x : List Nat) (e : Nat × Nat) : Prop := (sec ≤ 4 ∧ WInv sec x e) ∨ (sec = 5 ∧ UInv x e)
theorem L_start {sec : Nat} (h : sec ≤ 5) : LInv sec [] (Ls sec) := by
  by_cases h5 : sec = 5
  · subst h5; exact .inr ⟨rfl, .u0⟩
  · exact .inl ⟨by omega, .w0⟩
theorem L_next {sec : Nat} {x : List Nat} {e : Nat × Nat} {b : Nat} (h : LInv sec x e) (hb : b ≠ 10) : ((stepF e b).1 ≠ 0 ∧ LInv sec (x ++ [b]) (stepF e b)) ∨ ((stepF e b).1 = 0 ∧ (lineF sec (x ++ [b])).2.2 = false) := by
  rcases h with ⟨hs, h⟩ | ⟨rfl, h⟩
  · exact (W_next hs h hb).imp (fun ⟨a, b⟩ => ⟨a, .inl ⟨hs, b⟩⟩) id
  · rcases U_next h hb with ⟨h1, h2⟩ | ⟨h1, h2, h3⟩
    · exact .inl ⟨h1, .inr ⟨rfl, h2⟩⟩
    · exact .inr ⟨h1, by unfold lineF; rw [if_neg (by rw [h2]; simp), if_pos rfl]; exact h3⟩
theorem L_val {sec : Nat} {x : List Nat} {e : Nat × Nat} (h : LInv sec x e) : LVal sec (lineF sec x) e := by
  rcases h with ⟨hs, h⟩ | ⟨rfl, h⟩
  · exact W_val hs h
  · rcases U_val h with ⟨h1, h2⟩ | ⟨h1, h2⟩
    · exact .inl ⟨h1, h2⟩
    · exact .inr (.inr ⟨h1, h2⟩)
end Go.Proofs.YtmagchclmmphaaaGreatDoor.rf
namespace Go.Proofs.YtmagchclmmphaaaGreatDoor.rf
open Go.RowKit Go.Maps

theorem beq_bts (a b : ByteArray) : (a.toList == b.toList) = decide (bts a = bts b) := by
  rw [str_beq, Bool.eq_iff_iff, decide_eq_true_iff, decide_eq_true_iff]
  exact ⟨fun h => by rw [h], bts_inj⟩
theorem word_256 (sec : Nat) : ∀ b ∈ wordL sec, b < 256 := by
  unfold wordL
  split <;> decide
theorem word_len (sec : Nat) : (wordL sec).length ≤ 12 := by
  unfold wordL
  split <;> decide

set_option maxRecDepth 100000 in
set_option maxHeartbeats 4000000 in
theorem line_any (sec : Nat) (s : ByteArray) (w : World) (hs : s.size ≤ 130000100) (hsec : sec ≤ 5) : Calls Tryz.prog 52 #[.int .i64 sec, .string s] w fun e w' => e = .returned (.tuple #[.bool (lineF sec (bts s)).1, .bool (lineF sec (bts s)).2.1, .bool (lineF sec (bts s)).2.2]) ∧ Below w.heap.size w w' := by
  have hbk := fun W => blanks_any s W (by omega)
  have hl := bts_len s
  cases hA : (bts s).all blk
  · rw [hA] at hbk
    by_cases h5 : sec = 5
    · have i5 : ((sec : Int) == 5) = true := by rw [beq_iff_eq]; omega
      have HE : Hid (lineF sec (bts s) = ((ruleF (bts s)).1, false, (ruleF (bts s)).2)) := hide (by unfold lineF; rw [if_neg (by rw [hA]; simp), if_pos h5])
      have hru := fun W => rule_any s W (by omega)
      generalize ruleF (bts s) = pq at *
      obtain ⟨p, q⟩ := pq
      clear hA h5 hl
      go_enter Tryz.func52, Tryz.ntmps52
      go_wp2_with (first
        | (go_at_call 78; refine (hbk _).mono ?_; rintro e w' ⟨rfl, hw'⟩; obtain rfl := hw'.symm)
        | (go_at_call 79; refine (hru _).mono ?_; rintro e w' ⟨rfl, hw'⟩; obtain rfl := hw'.symm))
      go_ret3
      exact ⟨by rw [HE.out]; rfl, Below.refl _ _⟩
    · have i5 : ((sec : Int) == 5) = false := by rw [beq_eq_false_iff_ne]; omega
      have hwd := fun W => word_any sec W
      have hwb := bts_strB (wordL sec) (word_256 sec)
      have hwz := strB_size (wordL sec)
      have hw12 := word_len sec
      by_cases h6 : s.size < (wordL sec).length
      · have HE : Hid (lineF sec (bts s) = (false, false, decide ((wordL sec).take s.size = bts s))) := hide (by unfold lineF; rw [if_neg (by rw [hA]; simp), if_neg h5, hl, if_pos h6])
        have hbe := beq_bts ((strB (wordL sec)).extract 0 s.size) s
        rw [bts_take, hwb] at hbe
        have HB := hide hbe
        have j1 : (s.size : Int) < ((strB (wordL sec)).size : Int) := by rw [hwz]; omega
        have j2 : (0 : Int) ≤ (s.size : Int) := by omega
        have j3 : (s.size : Int) ≤ ((strB (wordL sec)).size : Int) := by rw [hwz]; omega
        generalize strB (wordL sec) = wd at *
        clear hA h5 hl h6 hbe hwb hwz
        go_enter Tryz.func52, Tryz.ntmps52
        go_wp2_with (first
          | (go_at_call 78; refine (hbk _).mono ?_; rintro e w' ⟨rfl, hw'⟩; obtain rfl := hw'.symm)
          | (go_at_call 80; refine (hwd _).mono ?_; rintro e w' ⟨rfl, hw'⟩; obtain rfl := hw'.symm))
        go_quiet (fail)
        go_wp2
        go_ret3
        exact ⟨by rw [HE.out, ← HB.out]; rfl, below_drewN' (Below.refl _ _) _⟩
      · have j1 : ¬ (s.size : Int) < ((strB (wordL sec)).size : Int) := by rw [hwz]; omega
        have j2 : (0 : Int) ≤ ((strB (wordL sec)).size : Int) := by omega
        have j3 : ((strB (wordL sec)).size : Int) ≤ (s.size : Int) := by rw [hwz]; omega
        have hbe := beq_bts (s.extract 0 (strB (wordL sec)).size) (strB (wordL sec))
        rw [bts_take, hwb] at hbe
        by_cases h7 : (bts s).take (wordL sec).length = wordL sec
        · rw [decide_eq_true (show (bts s).take (strB (wordL sec)).size = wordL sec by rw [hwz]; exact h7)] at hbe
          have HE : Hid (lineF sec (bts s) = ((restF sec ((bts s).drop (wordL sec).length)).1, (restF sec ((bts s).drop (wordL sec).length)).1, (restF sec ((bts s).drop (wordL sec).length)).2)) := hide (by unfold lineF; rw [if_neg (by rw [hA]; simp), if_neg h5, hl, if_neg h6, if_neg (fun h => h h7)])
          have hre := fun W => rest_any sec (s.extract (strB (wordL sec)).size s.size) W (by rw [ByteArray.size_extract]; omega) hsec
          have hrb : bts (s.extract (strB (wordL sec)).size s.size) = (bts s).drop (wordL sec).length := by rw [bts_tail, hwz]
          rw [hrb] at hre
          clear hrb
          generalize restF sec ((bts s).drop (wordL sec).length) = pq at *
          obtain ⟨p, q⟩ := pq
          generalize strB (wordL sec) = wd at *
          clear hA h5 hl h6 h7 hwb hwz
          go_enter Tryz.func52, Tryz.ntmps52
          go_wp2_with (first
            | (go_at_call 78; refine (hbk _).mono ?_; rintro e w' ⟨rfl, hw'⟩; obtain rfl := hw'.symm)
            | (go_at_call 80; refine (hwd _).mono ?_; rintro e w' ⟨rfl, hw'⟩; obtain rfl := hw'.symm)
            | (go_at_call 81; refine (hre _).mono ?_; rintro e w' ⟨rfl, hd⟩))
          go_ret3
          exact ⟨by rw [HE.out]; rfl, hd⟩
        · rw [decide_eq_false (show ¬ (bts s).take (strB (wordL sec)).size = wordL sec by rw [hwz]; exact h7)] at hbe
          have HE : Hid (lineF sec (bts s) = (false, false, false)) := hide (by unfold lineF; rw [if_neg (by rw [hA]; simp), if_neg h5, hl, if_neg h6, if_pos h7])
          generalize strB (wordL sec) = wd at *
          clear hA h5 hl h6 h7 hwb hwz
          go_enter Tryz.func52, Tryz.ntmps52
          go_wp2_with (first
            | (go_at_call 78; refine (hbk _).mono ?_; rintro e w' ⟨rfl, hw'⟩; obtain rfl := hw'.symm)
            | (go_at_call 80; refine (hwd _).mono ?_; rintro e w' ⟨rfl, hw'⟩; obtain rfl := hw'.symm))
          go_ret3
          exact ⟨by rw [HE.out]; rfl, Below.refl _ _⟩
  · rw [hA] at hbk
    have HE : Hid (lineF sec (bts s) = (true, false, true)) := hide (by unfold lineF; rw [if_pos hA])
    clear hA hl
    go_enter Tryz.func52, Tryz.ntmps52
    go_wp2_with (go_at_call 78; refine (hbk _).mono ?_; rintro e w' ⟨rfl, hw'⟩; obtain rfl := hw'.symm)
    go_ret3
    exact ⟨by rw [HE.out]; rfl, Below.refl _ _⟩

set_option maxRecDepth 100000 in
set_option maxHeartbeats 1000000 in
theorem begun_any (sec : Nat) (s : ByteArray) (w : World) (hs : s.size ≤ 130000100) (hsec : sec ≤ 5) : Calls Tryz.prog 51 #[.int .i64 sec, .string s] w fun e w' => e = .returned (.bool (lineF sec (bts s)).2.2) ∧ Below w.heap.size w w' := by
  have hli := fun W => line_any sec s W hs hsec
  generalize lineF sec (bts s) = v at *
  obtain ⟨a, b, c⟩ := v
  go_enter Tryz.func51, Tryz.ntmps51
  go_wp2_with (go_at_call 52; refine (hli _).mono ?_; rintro e w' ⟨rfl, hd⟩)
  go_ret
  exact ⟨rfl, hd⟩
end Go.Proofs.YtmagchclmmphaaaGreatDoor.rf
namespace Go.Proofs.YtmagchclmmphaaaGreatDoor.rf
open Go.RowKit Go.Maps

/-- A block that holds a Place. -/
def PlcAt (w : World) (b x y z : Nat) : Prop := w.heap[b]? = some (.cells #[.int .i64 (x : Nat), .int .i64 (y : Nat), .int .i64 (z : Nat)] 46)
theorem PlcAt.facts {w : World} {b x y z : Nat} (h : PlcAt w b x y z) : (w.cell? ⟨b, 0, none⟩ = some (.int .i64 (x : Nat)) ∧ w.cell? ⟨b, 1, none⟩ = some (.int .i64 (y : Nat)) ∧ w.cell? ⟨b, 2, none⟩ = some (.int .i64 (z : Nat))) ∧ w.frozen? ⟨b, 0, none⟩ = false ∧ w.frozen? ⟨b, 1, none⟩ = false ∧ w.frozen? ⟨b, 2, none⟩ = false := by
  unfold PlcAt at h
  refine ⟨⟨?_, ?_, ?_⟩, ?_, ?_, ?_⟩ <;> simp [World.cell?, World.frozen?, h]
theorem PlcAt.lt {w : World} {b x y z : Nat} (h : PlcAt w b x y z) : b < w.heap.size := (Array.getElem?_eq_some_iff.1 h).1
theorem PlcAt.below {w w' : World} {b x y z B : Nat} (h : PlcAt w b x y z) (hb : Below B w w') (hB : b < B) : PlcAt w' b x y z := (hb.block b hB).trans h
theorem PlcAt.set0 {w : World} {b x y z : Nat} (h : PlcAt w b x y z) (v : Nat) : PlcAt (w.setCell ⟨b, 0, none⟩ (.int .i64 (v : Nat))) b v y z := by unfold PlcAt at *; rw [heap_setCell_same w b 0 _ 46 _ h]; simp
theorem PlcAt.set1 {w : World} {b x y z : Nat} (h : PlcAt w b x y z) (v : Nat) : PlcAt (w.setCell ⟨b, 1, none⟩ (.int .i64 (v : Nat))) b x v z := by unfold PlcAt at *; rw [heap_setCell_same w b 1 _ 46 _ h]; simp
theorem PlcAt.set2 {w : World} {b x y z : Nat} (h : PlcAt w b x y z) (v : Nat) : PlcAt (w.setCell ⟨b, 2, none⟩ (.int .i64 (v : Nat))) b x y v := by unfold PlcAt at *; rw [heap_setCell_same w b 2 _ 46 _ h]; simp
theorem PlcAt.other {w : World} {b b' x y z : Nat} (h : PlcAt w b x y z) (o : Nat) (u : Value) (hn : b ≠ b') : PlcAt (w.setCell ⟨b', o, none⟩ u) b x y z := by unfold PlcAt at *; rw [Below.heap_setCell _ _ _ _ hn]; exact h

/-- What the loop of place holds. -/
structure PlL (w w' : World) (s : ByteArray) (k sec f : Nat) (e : Nat × Nat) : Prop where
  sec5 : sec ≤ 5
  fk : f ≤ k
  r : PlcAt w' w.heap.size 0 0 0
  p : PlcAt w' (w.heap.size + 1) k sec f
  bel : Below w.heap.size w w'
  go : goF (1, 0) ((bts s).take k) = (e, k)
  ln : LInv sec (((bts s).take k).drop f) e
theorem bts_seg (s : ByteArray) (f k : Nat) : bts (s.extract f k) = ((bts s).take k).drop f := by rw [bts_extract, List.drop_take]
theorem seg_snoc (s : ByteArray) (f k b : Nat) (hf : f ≤ k) (hk : k < (bts s).length) (hb : (bts s)[k] = b) : ((bts s).take (k + 1)).drop f = ((bts s).take k).drop f ++ [b] := by
  rw [List.take_succ_eq_append_getElem hk, hb, List.drop_append_of_le_length (by simp; omega)]
theorem seg_nil (s : ByteArray) (k : Nat) : ((bts s).take k).drop k = [] := by simp
theorem ls_ne {sec : Nat} : (Ls sec).1 ≠ 0 := by unfold Ls; split <;> simp

theorem keep_pl {w wr w1 : World} {s : ByteArray} {k sec f : Nat} {e : Nat × Nat} (P : PlL w wr s k sec f e) (d : Below wr.drew.heap.size wr.drew w1) : PlcAt w1 (w.heap.size + 1) k sec f ∧ PlcAt w1 w.heap.size 0 0 0 ∧ Below w.heap.size w w1 :=
  ⟨PlcAt.below (w := wr.drew) P.p d P.p.lt, PlcAt.below (w := wr.drew) P.r d P.r.lt, P.bel.drew.trans (d.mono P.bel.size)⟩

set_option maxRecDepth 100000 in
set_option maxHeartbeats 4000000 in
theorem place_any (s : ByteArray) (w : World) (hs : s.size ≤ 130000000) :
    Calls Tryz.prog 21 #[.string s] w fun e w' => ∃ sec f, e = .returned (.agg #[.int .i64 (lenF s : Nat), .int .i64 (sec : Nat), .int .i64 (f : Nat)]) ∧ sec ≤ 5 ∧ f ≤ lenF s ∧ LInv sec (((bts s).take (lenF s)).drop f) (endF s) ∧ Below w.heap.size w w' := by
  have HL := hide (bts_len s)
  go_enter Tryz.func21, Tryz.ntmps21
  go_wp2
  go_loopw [4] (fun i wr => ∃ (k sec f : Nat), k ≤ s.size ∧ sec ≤ 5 ∧ f ≤ k ∧ i = .int .i64 k ∧ Hid (∃ e, PlL w wr s k sec f e)) (fun i _ => s.size - (intOf i).toNat)
  case atStart =>
    refine ⟨0, 0, 0, Nat.zero_le _, by omega, Nat.le_refl _, rfl, hide ⟨(1, 0), by omega, Nat.le_refl _, ?_, ?_, ?_, rfl, L_start (by omega)⟩⟩
    · show (((w.alloc _).alloc _).heap[w.heap.size]?) = _
      rw [Below.heap_alloc _ _ _ (by simp)]
      exact (MapKept.heap_alloc _ _).1
    · show (((w.alloc _).alloc _).heap[w.heap.size + 1]?) = _
      rw [show w.heap.size + 1 = (w.alloc (Obj.cells #[Value.int IntKind.i64 0, Value.int IntKind.i64 0, Value.int IntKind.i64 0] 46)).heap.size by simp]
      exact (MapKept.heap_alloc _ _).1
    · exact ((Below.refl _ _).alloc (Nat.le_refl _) _).alloc (by simp) _
  case round =>
    obtain ⟨k, sec, f, hk, hsec, hfk, rfl, HH⟩ := hrel
    obtain ⟨e, P⟩ := HH.out
    obtain ⟨⟨c0, c1, c2⟩, f0, f1, f2⟩ := P.p.facts
    obtain ⟨⟨r0, r1, r2⟩, g0, g1, g2⟩ := P.r.facts
    have hsz := P.p.lt
    by_cases hlt : k < s.size
    · have hkl : k < (bts s).length := by rw [bts_len]; exact hlt
      have hix := idx_b s k hlt
      obtain ⟨b, hb⟩ : ∃ b, (bts s)[k]'hkl = b := ⟨_, rfl⟩
      rw [hb] at hix
      have HB := hide hb
      have i1 : (k : Int) < (s.size : Int) := by omega
      have k0 : (0 : Int) ≤ (k : Int) := by omega
      have k1 : (0 : Int) ≤ (f : Int) := by omega
      by_cases h10 : b = 10
      · subst h10
        have k2 : (f : Int) ≤ (k : Int) := by omega
        have k3 : (k : Int) ≤ (s.size : Int) := by omega
        have hli := fun W => line_any sec (s.extract f k) W (by rw [ByteArray.size_extract]; omega) hsec
        rw [bts_seg] at hli
        have hval := L_val P.ln
        have HP := hide P
        rcases hval with ⟨hv, hst⟩ | ⟨hv, hs4, hst⟩ | ⟨hv, hst⟩
        · rw [hv] at hli
          have HG := hide (goF_more P.go hkl (by rw [hb, hst]; exact ls_ne))
          have HS := hide hst
          clear hb hst hv P HH c0 c1 c2 f0 f1 f2 r0 r1 r2 g0 g1 g2
          obtain ⟨⟨c0, c1, c2⟩, f0, f1, f2⟩ := HP.out.p.facts
          go_wp2_with fail
          go_region_with (go_at_call 52; refine (hli _).mono ?_; rintro e' w1 ⟨rfl, d⟩; obtain ⟨hp1, hr1, hbb1⟩ := keep_pl HP.out d; obtain ⟨⟨c0', c1', c2'⟩, f0', f1', f2'⟩ := hp1.facts; obtain ⟨⟨r0', r1', r2'⟩, g0', g1', g2'⟩ := hr1.facts)
          all_goals
            (have H1 := hide (And.intro hp1 (And.intro hr1 hbb1))
             clear hp1 hr1 hbb1 d
             go_wp2
             go_roundw
             case rel =>
               refine ⟨k + 1, sec, k + 1, by omega, by omega, by omega, by go_num, hide ⟨Ls (sec), by omega, by omega, ?_, ?_, ?_, ?_, ?_⟩⟩
               · exact (H1.out.2.1.other _ _ (by omega)).other _ _ (by omega)
               · exact (H1.out.1.set0 (k + 1)).set2 (k + 1)
               · exact (H1.out.2.2.setCell (by simp) _).setCell (by simp) _
               · have := HG.out; rw [HB.out, HS.out] at this; exact this
               · rw [seg_nil]; exact L_start (by omega)
             case measure => simp [intOf]; omega)
        · rw [hv] at hli
          have HG := hide (goF_more P.go hkl (by rw [hb, hst]; exact ls_ne))
          have HS := hide hst
          clear hb hst hv P HH c0 c1 c2 f0 f1 f2 r0 r1 r2 g0 g1 g2
          obtain ⟨⟨c0, c1, c2⟩, f0, f1, f2⟩ := HP.out.p.facts
          go_wp2_with fail
          go_region_with (go_at_call 52; refine (hli _).mono ?_; rintro e' w1 ⟨rfl, d⟩; obtain ⟨hp1, hr1, hbb1⟩ := keep_pl HP.out d; obtain ⟨⟨c0', c1', c2'⟩, f0', f1', f2'⟩ := hp1.facts; obtain ⟨⟨r0', r1', r2'⟩, g0', g1', g2'⟩ := hr1.facts)
          all_goals
            (have H1 := hide (And.intro hp1 (And.intro hr1 hbb1))
             clear hp1 hr1 hbb1 d
             go_wp2
             go_roundw
             case rel =>
               refine ⟨k + 1, sec + 1, k + 1, by omega, by omega, by omega, by go_num, hide ⟨Ls (sec + 1), by omega, by omega, ?_, ?_, ?_, ?_, ?_⟩⟩
               · exact ((H1.out.2.1.other _ _ (by omega)).other _ _ (by omega)).other _ _ (by omega)
               · exact ((H1.out.1.set1 (sec + 1)).set0 (k + 1)).set2 (k + 1)
               · exact ((H1.out.2.2.setCell (by simp) _).setCell (by simp) _).setCell (by simp) _
               · have := HG.out; rw [HB.out, HS.out] at this; exact this
               · rw [seg_nil]; exact L_start (by omega)
             case measure => simp [intOf]; omega)
        · rw [hv] at hli
          have HG : Hid (lenF s = k ∧ endF s = e) := hide (by
            have := goF_halt P.go hkl (by rw [hb]; exact hst)
            exact ⟨congrArg Prod.snd this, congrArg Prod.fst this⟩)
          clear hb hst hv P HH c0 c1 c2 f0 f1 f2 r0 r1 r2 g0 g1 g2
          obtain ⟨⟨c0, c1, c2⟩, f0, f1, f2⟩ := HP.out.p.facts
          go_wp2_with fail
          go_region_with (go_at_call 52; refine (hli _).mono ?_; rintro e' w1 ⟨rfl, d⟩; obtain ⟨hp1, hr1, hbb1⟩ := keep_pl HP.out d; obtain ⟨⟨c0', c1', c2'⟩, f0', f1', f2'⟩ := hp1.facts; obtain ⟨⟨r0', r1', r2'⟩, g0', g1', g2'⟩ := hr1.facts)
          all_goals
            (have H1 := hide (And.intro hp1 (And.intro hr1 hbb1))
             clear hp1 hr1 hbb1 d
             go_wp2
             have hr2 := ((H1.out.2.1.set0 k).set1 sec).set2 f
             obtain ⟨⟨k0', k1', k2'⟩, _⟩ := hr2.facts
             refine bodyPost_ret (v := .agg #[.int .i64 (k : Nat), .int .i64 (sec : Nat), .int .i64 (f : Nat)]) (by simp [results, go_sem, k0', k1', k2']) rfl ⟨sec, f, ?_⟩
             obtain ⟨h1, h2⟩ := HG.out
             rw [h1, h2]
             exact ⟨rfl, HP.out.sec5, HP.out.fk, HP.out.ln, ((H1.out.2.2.setCell (Nat.le_refl _) _).setCell (Nat.le_refl _) _).setCell (Nat.le_refl _) _⟩)
      · have hbn : ((b : Int) != 10) = true := by rw [bne_iff_ne]; omega
        have hwr : IntKind.i64.wrap ((k : Int) + 1) = (k : Int) + 1 := by rw [IntKind.wrap_i64]; omega
        have c3a : (f : Int) ≤ (k : Int) + 1 := by omega
        have c4a : (0 : Int) ≤ (k : Int) + 1 := by omega
        have c6a : (k : Int) + 1 ≤ (s.size : Int) := by omega
        have hbg := fun W => begun_any sec (s.extract f (k + 1)) W (by rw [ByteArray.size_extract]; omega) hsec
        rw [bts_seg, seg_snoc s f k b hfk hkl hb] at hbg
        have HP := hide P
        rcases L_next P.ln h10 with ⟨hst, hln⟩ | ⟨hst, hln⟩
        · have hv : (lineF sec (((bts s).take k).drop f ++ [b])).2.2 = true := by
            rcases L_val hln with ⟨hv, _⟩ | ⟨hv, _⟩ | ⟨hv, _⟩ <;> rw [hv]
          rw [hv] at hbg
          have HG := hide (goF_more P.go hkl (by rw [hb]; exact hst))
          have HN := hide hln
          clear hb hst hv P HH h10 hln c0 c1 c2 f0 f1 f2 r0 r1 r2 g0 g1 g2
          obtain ⟨⟨c0, c1, c2⟩, f0, f1, f2⟩ := HP.out.p.facts
          go_wp2_with fail
          go_region_with (go_at_call 51; refine (hbg _).mono ?_; rintro e' w1 ⟨rfl, d⟩; obtain ⟨hp1, hr1, hbb1⟩ := keep_pl HP.out d; obtain ⟨⟨c0', c1', c2'⟩, f0', f1', f2'⟩ := hp1.facts; obtain ⟨⟨r0', r1', r2'⟩, g0', g1', g2'⟩ := hr1.facts)
          all_goals
            (have H1 := hide (And.intro hp1 (And.intro hr1 hbb1))
             clear hp1 hr1 hbb1 d
             go_wp2
             go_roundw
             case rel =>
               refine ⟨k + 1, sec, f, by omega, by omega, by omega, by go_num, hide ⟨stepF e b, by omega, by omega, ?_, ?_, ?_, ?_, ?_⟩⟩
               · exact H1.out.2.1.other _ _ (by omega)
               · exact H1.out.1.set0 (k + 1)
               · exact H1.out.2.2.setCell (by simp) _
               · have := HG.out; rw [HB.out] at this; exact this
               · rw [seg_snoc s f k b hfk hkl HB.out]; exact HN.out
             case measure => simp [intOf]; omega)
        · rw [hln] at hbg
          have HG : Hid (lenF s = k ∧ endF s = e) := hide (by
            have := goF_halt P.go hkl (by rw [hb]; exact hst)
            exact ⟨congrArg Prod.snd this, congrArg Prod.fst this⟩)
          clear hb hst P HH h10 hln c0 c1 c2 f0 f1 f2 r0 r1 r2 g0 g1 g2
          obtain ⟨⟨c0, c1, c2⟩, f0, f1, f2⟩ := HP.out.p.facts
          go_wp2_with fail
          go_region_with (go_at_call 51; refine (hbg _).mono ?_; rintro e' w1 ⟨rfl, d⟩; obtain ⟨hp1, hr1, hbb1⟩ := keep_pl HP.out d; obtain ⟨⟨c0', c1', c2'⟩, f0', f1', f2'⟩ := hp1.facts; obtain ⟨⟨r0', r1', r2'⟩, g0', g1', g2'⟩ := hr1.facts)
          all_goals
            (have H1 := hide (And.intro hp1 (And.intro hr1 hbb1))
             clear hp1 hr1 hbb1 d
             go_wp2
             have hr2 := ((H1.out.2.1.set0 k).set1 sec).set2 f
             obtain ⟨⟨k0', k1', k2'⟩, _⟩ := hr2.facts
             refine bodyPost_ret (v := .agg #[.int .i64 (k : Nat), .int .i64 (sec : Nat), .int .i64 (f : Nat)]) (by simp [results, go_sem, k0', k1', k2']) rfl ⟨sec, f, ?_⟩
             obtain ⟨h1, h2⟩ := HG.out
             rw [h1, h2]
             exact ⟨rfl, HP.out.sec5, HP.out.fk, HP.out.ln, ((H1.out.2.2.setCell (Nat.le_refl _) _).setCell (Nat.le_refl _) _).setCell (Nat.le_refl _) _⟩)
    · have i1 : ¬ (k : Int) < (s.size : Int) := by omega
      have HG : Hid (lenF s = k ∧ endF s = e) := hide (by
        have hg := P.go
        rw [List.take_of_length_le (by rw [bts_len]; omega)] at hg
        exact ⟨congrArg Prod.snd hg, congrArg Prod.fst hg⟩)
      have H1 := hide P
      clear P HH
      go_wp2
      have hr2 := ((H1.out.r.set0 k).set1 sec).set2 f
      obtain ⟨⟨k0', k1', k2'⟩, _⟩ := hr2.facts
      refine bodyPost_ret (v := .agg #[.int .i64 (k : Nat), .int .i64 (sec : Nat), .int .i64 (f : Nat)]) (by simp [results, go_sem, k0', k1', k2']) rfl ⟨sec, f, ?_⟩
      obtain ⟨h1, h2⟩ := HG.out
      rw [h1, h2]
      exact ⟨rfl, H1.out.sec5, H1.out.fk, H1.out.ln, ((H1.out.bel.setCell (Nat.le_refl _) _).setCell (Nat.le_refl _) _).setCell (Nat.le_refl _) _⟩
end Go.Proofs.YtmagchclmmphaaaGreatDoor.rf
namespace Go.Proofs.YtmagchclmmphaaaGreatDoor.rf
open Go.RowKit Go.Maps

/-- What file says. -/
theorem file_val {sec : Nat} {x : List Nat} {e : Nat × Nat} (h5 : sec ≤ 5) (h : LInv sec x e) : ((lineF sec x).1 && (decide (sec = 5) || (decide (sec = 4) && (lineF sec x).2.1))) = isF e := by
  rcases L_val h with ⟨hv, hs⟩ | ⟨hv, h4, hs⟩ | ⟨hv, hs⟩
  · rw [hv]
    unfold isF
    rw [hs]
    have hc : sec = 0 ∨ sec = 1 ∨ sec = 2 ∨ sec = 3 ∨ sec = 4 ∨ sec = 5 := by omega
    rcases hc with rfl | rfl | rfl | rfl | rfl | rfl <;> rfl
  · rw [hv]
    unfold isF
    rw [hs]
    have hc : sec = 0 ∨ sec = 1 ∨ sec = 2 ∨ sec = 3 ∨ sec = 4 := by omega
    rcases hc with rfl | rfl | rfl | rfl | rfl <;> rfl
  · rw [hv]
    unfold isF
    rw [Bool.false_and, hs]
    rfl

set_option maxRecDepth 100000 in
set_option maxHeartbeats 2000000 in
theorem file_any (s : ByteArray) (x sec f : Nat) (e : Nat × Nat) (w : World) (hs : s.size ≤ 130000000) (h5 : sec ≤ 5) (hf : f ≤ s.size) (hln : LInv sec ((bts s).drop f) e) :
    Calls Tryz.prog 22 #[.string s, .agg #[.int .i64 (x : Nat), .int .i64 (sec : Nat), .int .i64 (f : Nat)]] w fun e' w' => e' = .returned (.bool (isF e)) ∧ Below w.heap.size w w' := by
  have hli := fun W => line_any sec (s.extract f s.size) W (by rw [ByteArray.size_extract]; omega) h5
  rw [bts_tail] at hli
  have HF := hide (file_val h5 hln)
  generalize lineF sec ((bts s).drop f) = v at *
  obtain ⟨a, b, c⟩ := v
  simp only at HF
  have k0 : (0 : Int) ≤ (f : Int) := by omega
  have k1 : (f : Int) ≤ (s.size : Int) := by omega
  have hc : sec = 5 ∨ sec = 4 ∨ (sec ≠ 5 ∧ sec ≠ 4) := by omega
  clear hln
  have hd1 : Below w.heap.size w (w.alloc (.cells #[.int .i64 (x : Nat), .int .i64 (sec : Nat), .int .i64 (f : Nat)] 46)) := (Below.refl _ _).alloc (Nat.le_refl _) _
  have HD1 := hide hd1
  have HC : Hid (PlcAt (w.alloc (.cells #[.int .i64 (x : Nat), .int .i64 (sec : Nat), .int .i64 (f : Nat)] 46)) w.heap.size x sec f) := hide (MapKept.heap_alloc _ _).1
  clear hd1
  go_enter Tryz.func22, Tryz.ntmps22
  go_wp2_with fail
  refine (hli _).mono ?_
  rintro e' w1 ⟨rfl, d⟩
  have hp := HC.out.below d HC.out.lt
  obtain ⟨⟨c0, c1, c2⟩, _⟩ := hp.facts
  have HD := hide (HD1.out.trans (d.mono HD1.out.size))
  clear hp d hli
  cases a
  · go_wp2
    go_ret
    exact ⟨by rw [← HF.out]; first | rfl | simp, HD.out⟩
  · rcases hc with h | h | ⟨h, h'⟩
    · have i5 : ((sec : Int) == 5) = true := by rw [beq_iff_eq]; omega
      have HE : Hid (isF e = true) := hide (by rw [← HF.out, decide_eq_true h]; rfl)
      clear h
      go_wp2
      go_ret
      exact ⟨by rw [HE.out]; first | rfl | simp, HD.out⟩
    · have i5 : ((sec : Int) == 5) = false := by rw [beq_eq_false_iff_ne]; omega
      have i4 : ((sec : Int) == 4) = true := by rw [beq_iff_eq]; omega
      have HE : Hid (isF e = b) := hide (by rw [← HF.out, decide_eq_true h, decide_eq_false (show ¬ sec = 5 by omega)]; simp)
      clear h
      go_wp2
      go_ret
      exact ⟨by rw [HE.out]; first | rfl | simp, HD.out⟩
    · have i5 : ((sec : Int) == 5) = false := by rw [beq_eq_false_iff_ne]; omega
      have i4 : ((sec : Int) == 4) = false := by rw [beq_eq_false_iff_ne]; omega
      have HE : Hid (isF e = false) := hide (by rw [← HF.out, decide_eq_false h, decide_eq_false h']; simp)
      clear h h'
      go_wp2
      go_ret
      exact ⟨by rw [HE.out]; first | rfl | simp, HD.out⟩

set_option maxRecDepth 100000 in
set_option maxHeartbeats 2000000 in
theorem rcheck_any (s : ByteArray) (w : World) (hs : s.size ≤ 130000000) :
    Calls Tryz.prog 8 #[.string s] w fun e w' => e = .returned (.tuple #[.int .i64 (lenF s : Nat), .int .i64 (errF s : Nat)]) ∧ Below w.heap.size w w' := by
  have hpl := fun W => place_any s W hs
  have hle := len_le s
  have HE : Hid (errF s = if lenF s < s.size ∨ isF (endF s) = false then 30 else 0) := hide rfl
  have HT : Hid (∀ f, lenF s = s.size → ((bts s).take (lenF s)).drop f = (bts s).drop f) := hide (fun f h => by rw [h, List.take_of_length_le (by rw [bts_len]; exact Nat.le_refl _)])
  generalize endF s = en at *
  generalize hn : lenF s = n at *
  go_enter Tryz.func8, Tryz.ntmps8
  go_wp2_with fail
  refine (hpl _).mono ?_
  rintro e w1 ⟨sec, f, rfl, h5, hfn, hln, d⟩
  have HD := hide (d.alloc d.size (.cells #[.int .i64 (n : Nat), .int .i64 (sec : Nat), .int .i64 (f : Nat)] 46))
  have HC : Hid (PlcAt (w1.alloc (.cells #[.int .i64 (n : Nat), .int .i64 (sec : Nat), .int .i64 (f : Nat)] 46)) w1.heap.size n sec f) := hide (MapKept.heap_alloc _ _).1
  clear hpl d
  by_cases hlt : n < s.size
  · have i1 : (n : Int) < (s.size : Int) := by omega
    have i2 : decide ((n : Int) < (s.size : Int)) = true := decide_eq_true i1
    have HL := hide hlt
    clear hlt hln hn
    go_wp2
    go_ret2
    exact ⟨by rw [HE.out, if_pos (.inl HL.out)]; rfl, HD.out⟩
  · have i1 : ¬ (n : Int) < (s.size : Int) := by omega
    have HL := hide hlt
    have hns : n = s.size := by omega
    rw [HT.out f hns] at hln
    have hfi := fun W => file_any s n sec f en W hs h5 (by omega) hln
    clear hlt hln hns hn
    go_wp2_with fail
    refine (hfi _).mono ?_
    rintro e w2 ⟨rfl, d2⟩
    have hp := HC.out.below d2 HC.out.lt
    obtain ⟨⟨c0, c1, c2⟩, _⟩ := hp.facts
    have HD2 := hide (HD.out.trans (d2.mono HD.out.size))
    clear hp d2 hfi
    generalize isF en = fl at *
    cases fl
    · go_wp2
      go_ret2
      exact ⟨by rw [HE.out, if_pos (by simp)]; rfl, HD2.out⟩
    · go_wp2
      go_ret2
      exact ⟨by rw [HE.out, if_neg (by have := HL.out; simp; omega)]; rfl, HD2.out⟩
end Go.Proofs.YtmagchclmmphaaaGreatDoor.rf
