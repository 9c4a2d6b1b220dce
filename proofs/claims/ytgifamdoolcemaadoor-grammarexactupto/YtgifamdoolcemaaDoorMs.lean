import Derived.Test.YtgifamdoolcemaaDoorRg
namespace Go.Proofs.YtgifamdoolcemaaDoor

theorem blk_iff (b : Nat) : (b = 32 ∨ b = 9) ↔ blk b = true := by simp [blk]
theorem st_gen (p r b : Nat) (hw : wordOf p = []) (hb : b ≠ 10) : stepF (p, r) b = if blk b = true then (blankOf p, 0) else if (signsOf p).contains b = true then (pastOf p, 0) else if isNm b = true then alongN p r else (0, 0) := by
  unfold stepF
  simp only [hw, ne_eq, not_true, false_and, if_false, hb, blk_iff]
theorem nm_not_blk {b : Nat} (h : isNm b = true) : blk b = false := by
  simp only [isNm, Bool.or_eq_true, Bool.and_eq_true, Nat.ble_eq, Nat.beq_eq] at h
  simp only [blk, Bool.or_eq_false_iff, beq_eq_false_iff_ne]
  omega
theorem blk_not_nm {b : Nat} (h : blk b = true) : isNm b = false := by
  cases hn : isNm b
  · rfl
  · rw [nm_not_blk hn] at h; cases h

/-- Places at which a blank leads on, and nothing else. -/
theorem k_blank (p q b : Nat) (hw : wordOf p = []) (hb : b ≠ 10) (hq : blankOf p = q) (hs : signsOf p = []) (hn : nameOf p = 0) (hp : 0 < p) : (blk b = true ∧ stepF (p, 0) b = (q, 0)) ∨ (blk b = false ∧ (stepF (p, 0) b).1 = 0) := by
  rw [st_gen p 0 b hw hb, hs, hq]
  cases hbl : blk b
  · right
    refine ⟨rfl, ?_⟩
    simp [alongN, hn]
    split
    · split
      · omega
      · rfl
    · rfl
  · left
    exact ⟨rfl, by simp⟩
/-- Places at which a blank leads on, and a name begins. -/
theorem k_gap (p q n b : Nat) (hw : wordOf p = []) (hb : b ≠ 10) (hq : blankOf p = q) (hs : signsOf p = []) (hn : nameOf p = n) (hne : n ≠ p) : (blk b = true ∧ stepF (p, 0) b = (q, 0)) ∨ (blk b = false ∧ isNm b = true ∧ stepF (p, 0) b = (n, 1)) ∨ (blk b = false ∧ isNm b = false ∧ (stepF (p, 0) b).1 = 0) := by
  rw [st_gen p 0 b hw hb, hs, hq]
  cases hbl : blk b
  · cases hnm : isNm b
    · exact .inr (.inr ⟨rfl, rfl, by simp⟩)
    · exact .inr (.inl ⟨rfl, rfl, by simp [alongN, hn, hne]⟩)
  · exact .inl ⟨rfl, by simp⟩
/-- Inside a name that a blank ends. -/
theorem k_name (p q r b : Nat) (hw : wordOf p = []) (hb : b ≠ 10) (hq : blankOf p = q) (hs : signsOf p = []) (hn : nameOf p = p) : (blk b = true ∧ stepF (p, r) b = (q, 0)) ∨ (isNm b = true ∧ r ≠ 16 ∧ stepF (p, r) b = (p, r + 1)) ∨ (blk b = false ∧ (isNm b = false ∨ r = 16) ∧ (stepF (p, r) b).1 = 0) := by
  rw [st_gen p r b hw hb, hs, hq]
  cases hbl : blk b
  · cases hnm : isNm b
    · exact .inr (.inr ⟨rfl, .inl rfl, by simp⟩)
    · by_cases h : r = 16
      · exact .inr (.inr ⟨rfl, .inr h, by simp [alongN, hn, h]⟩)
      · exact .inr (.inl ⟨rfl, h, by simp [alongN, hn, h]⟩)
  · exact .inl ⟨rfl, by simp⟩
/-- Inside a name that a sign ends. -/
theorem k_sign (p q c r b : Nat) (hw : wordOf p = []) (hb : b ≠ 10) (hq : blankOf p = 0) (hs : signsOf p = [c]) (hn : nameOf p = p) (hpa : pastOf p = q) (hc : blk c = false) : (b = c ∧ stepF (p, r) b = (q, 0)) ∨ (b ≠ c ∧ isNm b = true ∧ r ≠ 16 ∧ stepF (p, r) b = (p, r + 1)) ∨ (b ≠ c ∧ (isNm b = false ∨ r = 16) ∧ (stepF (p, r) b).1 = 0) := by
  rw [st_gen p r b hw hb, hs, hq, hpa]
  by_cases hbc : b = c
  · subst hbc
    exact .inl ⟨rfl, by simp [hc]⟩
  · cases hbl : blk b
    · cases hnm : isNm b
      · exact .inr (.inr ⟨hbc, .inl rfl, by simp [hbc]⟩)
      · by_cases h : r = 16
        · exact .inr (.inr ⟨hbc, .inr h, by simp [hbc, alongN, hn, h]⟩)
        · exact .inr (.inl ⟨hbc, rfl, h, by simp [hbc, alongN, hn, h]⟩)
    · exact .inr (.inr ⟨hbc, .inl (blk_not_nm hbl), by simp⟩)
theorem k6 (b : Nat) (hb : b ≠ 10) : ((b = 48 ∨ b = 49) ∧ stepF (6, 0) b = (3, 0)) ∨ (b ≠ 48 ∧ b ≠ 49 ∧ (stepF (6, 0) b).1 = 0) := by
  rw [st_gen 6 0 b rfl hb]
  by_cases h1 : b = 48
  · subst h1; exact .inl ⟨.inl rfl, rfl⟩
  · by_cases h2 : b = 49
    · subst h2; exact .inl ⟨.inr rfl, rfl⟩
    · refine .inr ⟨h1, h2, ?_⟩
      simp only [blankOf, signsOf, alongN, nameOf]
      cases hbl : blk b <;> cases hnm : isNm b <;> simp [h1, h2]
theorem k27 (b : Nat) (hb : b ≠ 10) : (b = 41 ∧ stepF (27, 0) b = (29, 0)) ∨ (b ≠ 41 ∧ isNm b = true ∧ stepF (27, 0) b = (28, 1)) ∨ (b ≠ 41 ∧ isNm b = false ∧ (stepF (27, 0) b).1 = 0) := by
  rw [st_gen 27 0 b rfl hb]
  by_cases h1 : b = 41
  · subst h1; exact .inl ⟨rfl, rfl⟩
  · cases hnm : isNm b
    · refine .inr (.inr ⟨h1, rfl, ?_⟩)
      simp only [blankOf, signsOf]
      cases hbl : blk b <;> simp [h1]
    · refine .inr (.inl ⟨h1, rfl, ?_⟩)
      simp [signsOf, alongN, nameOf, nm_not_blk hnm, h1]
theorem k29a (b : Nat) (hb : b ≠ 10) : (blk b = true ∧ stepF (29, 0) b = (29, 0)) ∨ (b = 45 ∧ stepF (29, 0) b = (29, 1)) ∨ (blk b = false ∧ b ≠ 45 ∧ (stepF (29, 0) b).1 = 0) := by
  by_cases h1 : b = 45
  · subst h1; exact .inr (.inl ⟨rfl, rfl⟩)
  · have e : stepF (29, 0) b = if blk b = true then (29, 0) else if isNm b = true then (0, 1) else (0, 0) := by
      unfold stepF
      simp only [wordOf, List.getD_cons_zero, ne_eq, hb, if_false, ← blk_iff, signsOf, alongN, nameOf, blankOf]
      simp [Ne.symm h1]
    rw [e]
    cases hbl : blk b
    · refine .inr (.inr ⟨rfl, h1, ?_⟩)
      cases isNm b <;> simp
    · exact .inl ⟨rfl, by simp⟩
theorem k29b (b : Nat) : (b = 62 ∧ stepF (29, 1) b = (30, 0)) ∨ (b ≠ 62 ∧ (stepF (29, 1) b).1 = 0) := by
  by_cases h1 : b = 62
  · subst h1; exact .inl ⟨rfl, rfl⟩
  · refine .inr ⟨h1, ?_⟩
    unfold stepF
    simp only [wordOf, List.getD_cons_succ, List.getD_cons_zero]
    simp [Ne.symm h1]
/-- A line's beginning, and its word. -/
def Ls : Nat → Nat × Nat
  | 0 => (1, 0) | 1 => (7, 0) | 2 => (12, 0) | 3 => (17, 0) | 4 => (22, 0) | _ => (24, 0)
def Em : Nat → Nat × Nat
  | 0 => (2, 0) | 1 => (8, 0) | 2 => (13, 0) | 3 => (18, 0) | 4 => (23, 0) | _ => (25, 0)
def En : Nat → Nat × Nat
  | 0 => (3, 0) | 1 => (9, 0) | 2 => (14, 0) | 3 => (19, 0) | _ => (25, 0)
theorem k_word (sec j b : Nat) (hsec : sec ≤ 4) (hj : j < (wordL sec).length) (h0 : 0 < j) : ((wordL sec).getD j 0 = b ∧ stepF ((Ls sec).1, j) b = if j + 1 = (wordL sec).length then En sec else ((Ls sec).1, j + 1)) ∨ ((wordL sec).getD j 0 ≠ b ∧ (stepF ((Ls sec).1, j) b).1 = 0) := by
  have hw : wordOf (Ls sec).1 = wordL sec := by match sec, hsec with | 0, _ => rfl | 1, _ => rfl | 2, _ => rfl | 3, _ => rfl | 4, _ => rfl
  have hp : (pastOf (Ls sec).1, 0) = En sec := by match sec, hsec with | 0, _ => rfl | 1, _ => rfl | 2, _ => rfl | 3, _ => rfl | 4, _ => rfl
  have hne : wordL sec ≠ [] := fun e => by rw [e] at hj; simp at hj
  by_cases h : (wordL sec).getD j 0 = b
  · refine .inl ⟨h, ?_⟩
    unfold stepF alongW
    simp only [hw]
    rw [if_pos ⟨hne, h⟩, hp]
  · refine .inr ⟨h, ?_⟩
    unfold stepF
    simp only [hw]
    rw [if_neg (fun hc => h hc.2), if_pos ⟨hne, h0⟩]
theorem k_line (sec b : Nat) (hsec : sec ≤ 4) (hb : b ≠ 10) : (blk b = true ∧ stepF (Ls sec) b = Em sec) ∨ (blk b = false ∧ (wordL sec).getD 0 0 = b ∧ stepF (Ls sec) b = ((Ls sec).1, 1)) ∨ (blk b = false ∧ (wordL sec).getD 0 0 ≠ b ∧ (stepF (Ls sec) b).1 = 0) := by
  have aux : ∀ p c rest q, wordOf p = c :: rest → rest ≠ [] → blankOf p = q → signsOf p = [] → nameOf p = 0 → 0 < p → blk c = false → (blk b = true ∧ stepF (p, 0) b = (q, 0)) ∨ (blk b = false ∧ c = b ∧ stepF (p, 0) b = (p, 1)) ∨ (blk b = false ∧ c ≠ b ∧ (stepF (p, 0) b).1 = 0) := by
    intro p c rest q hw hr hq hs hn hp hc
    have hl : ¬ (0 + 1 = (c :: rest).length) := by
      simp
      exact hr
    unfold stepF
    simp only [hw, List.getD_cons_zero, ne_eq, reduceCtorEq, not_false_eq_true, true_and, Nat.lt_irrefl, if_false, hb, blk_iff, hs, hq]
    by_cases hcb : c = b
    · subst hcb
      refine .inr (.inl ⟨hc, rfl, ?_⟩)
      rw [if_pos rfl]
      unfold alongW
      rw [hw, if_neg hl]
    · rw [if_neg hcb]
      cases hbl : blk b
      · refine .inr (.inr ⟨rfl, hcb, ?_⟩)
        simp [alongN, hn]
        split
        · split
          · omega
          · rfl
        · rfl
      · exact .inl ⟨rfl, by simp⟩
  match sec, hsec with
  | 0, _ => exact aux 1 79 _ 2 rfl (by simp) rfl rfl rfl (by omega) rfl
  | 1, _ => exact aux 7 65 _ 8 rfl (by simp) rfl rfl rfl (by omega) rfl
  | 2, _ => exact aux 12 83 _ 13 rfl (by simp) rfl rfl rfl (by omega) rfl
  | 3, _ => exact aux 17 70 _ 18 rfl (by simp) rfl rfl rfl (by omega) rfl
  | 4, _ => exact aux 22 84 _ 23 rfl (by simp) rfl rfl rfl (by omega) rfl
end Go.Proofs.YtgifamdoolcemaaDoor
