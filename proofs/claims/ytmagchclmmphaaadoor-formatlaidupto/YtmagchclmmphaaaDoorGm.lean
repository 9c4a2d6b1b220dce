namespace Go.Proofs.YtmagchclmmphaaaDoor

/-! ### The table of places -/
def blankOf : Nat → Nat
  | 1 => 2 | 2 => 2 | 3 => 4 | 4 => 4 | 7 => 8 | 8 => 8 | 9 => 10 | 10 => 10 | 11 => 13 | 12 => 13 | 13 => 13 | 14 => 15 | 15 => 15 | 16 => 15
  | 17 => 18 | 18 => 18 | 19 => 20 | 20 => 20 | 21 => 20 | 22 => 23 | 23 => 23 | 24 => 25 | 25 => 25 | 29 => 29 | 30 => 30 | 31 => 25 | _ => 0
def feedOf : Nat → Nat
  | 1 => 1 | 2 => 1 | 3 => 7 | 4 => 7 | 7 => 7 | 8 => 7 | 11 => 12 | 12 => 12 | 13 => 12 | 14 => 17 | 15 => 17 | 16 => 17 | 17 => 17 | 18 => 17
  | 19 => 22 | 20 => 22 | 21 => 22 | 22 => 22 | 23 => 22 | 24 => 24 | 25 => 24 | 31 => 24 | _ => 0
def nameOf : Nat → Nat
  | 4 => 5 | 5 => 5 | 10 => 11 | 11 => 11 | 15 => 16 | 16 => 16 | 20 => 21 | 21 => 21 | 24 => 26 | 26 => 26 | 27 => 28 | 28 => 28 | 30 => 31 | 31 => 31 | _ => 0
def pastOf : Nat → Nat
  | 1 => 3 | 5 => 6 | 6 => 3 | 7 => 9 | 12 => 14 | 17 => 19 | 22 => 25 | 26 => 27 | 27 => 29 | 28 => 29 | 29 => 30 | _ => 0
def signsOf : Nat → List Nat
  | 5 => [58] | 6 => [48, 49] | 26 => [40] | 27 => [41] | 28 => [41] | _ => []
def wordOf : Nat → List Nat
  | 1 => [79, 112, 115]
  | 7 => [65, 117, 116, 111, 109, 97, 116, 111, 110]
  | 12 => [83, 116, 97, 116, 101, 115]
  | 17 => [70, 105, 110, 97, 108, 32, 83, 116, 97, 116, 101, 115]
  | 22 => [84, 114, 97, 110, 115, 105, 116, 105, 111, 110, 115]
  | 29 => [45, 62]
  | _ => []

def isNm (b : Nat) : Bool := (Nat.ble 65 b && Nat.ble b 90) || (Nat.ble 97 b && Nat.ble b 122) || (Nat.ble 48 b && Nat.ble b 57) || Nat.beq b 95 || Nat.beq b 39

/-- A spot: a place, and how much was read there. -/
def alongW (p r : Nat) : Nat × Nat := if r + 1 = (wordOf p).length then (pastOf p, 0) else (p, r + 1)
def alongN (p r : Nat) : Nat × Nat := if nameOf p ≠ p then (nameOf p, 1) else if r = 16 then (0, 0) else (p, r + 1)
def stepF (s : Nat × Nat) (b : Nat) : Nat × Nat :=
  if wordOf s.1 ≠ [] ∧ (wordOf s.1).getD s.2 0 = b then alongW s.1 s.2
  else if wordOf s.1 ≠ [] ∧ 0 < s.2 then (0, 0)
  else if b = 10 then (feedOf s.1, 0)
  else if b = 32 ∨ b = 9 then (blankOf s.1, 0)
  else if (signsOf s.1).contains b then (pastOf s.1, 0)
  else if isNm b then alongN s.1 s.2
  else (0, 0)
def okS (s : Nat × Nat) : Bool :=
  Nat.ble 1 s.1 && Nat.ble s.1 31 && (if wordOf s.1 ≠ [] then decide (s.2 < (wordOf s.1).length) else if nameOf s.1 = s.1 then decide (1 ≤ s.2 ∧ s.2 ≤ 16) else decide (s.2 = 0))
def isF (s : Nat × Nat) : Bool := (stepF s 10).1 == 24

/-- All spots that may be. -/
def spots : List (Nat × Nat) := ((List.range 32).flatMap fun p => (List.range 17).map fun r => (p, r)).filter okS

theorem ok_bound {s : Nat × Nat} (h : okS s = true) : 1 ≤ s.1 ∧ s.1 < 32 ∧ s.2 < 17 := by
  obtain ⟨p, r⟩ := s
  simp only [okS, Bool.and_eq_true, Nat.ble_eq] at h
  obtain ⟨⟨h1, h2⟩, h3⟩ := h
  refine ⟨h1, by simp only; omega, ?_⟩
  simp only at *
  have : ∀ p, p < 32 → (wordOf p).length ≤ 12 := by decide
  have hw := this p (by omega)
  split at h3
  · simp only [decide_eq_true_eq] at h3; omega
  · split at h3 <;> simp only [decide_eq_true_eq] at h3 <;> omega

theorem mem_spots {s : Nat × Nat} (h : okS s = true) : s ∈ spots := by
  obtain ⟨h1, h2, h3⟩ := ok_bound h
  unfold spots
  rw [List.mem_filter]
  refine ⟨?_, h⟩
  rw [List.mem_flatMap]
  exact ⟨s.1, List.mem_range.2 h2, List.mem_map.2 ⟨s.2, List.mem_range.2 h3, rfl⟩⟩

/-- To try all spots. -/
theorem all_spots {P : Nat × Nat → Bool} (h : spots.all P = true) {s : Nat × Nat} (hs : okS s = true) : P s = true := List.all_eq_true.1 h s (mem_spots hs)

/-- Where a step may lead, by its kind. -/
theorem step_kinds (s : Nat × Nat) (b : Nat) (h : (stepF s b).1 ≠ 0) :
    (wordOf s.1 ≠ [] ∧ (wordOf s.1).getD s.2 0 = b ∧ stepF s b = alongW s.1 s.2) ∨
    ((wordOf s.1 = [] ∨ s.2 = 0) ∧ ((b = 10 ∧ stepF s b = (feedOf s.1, 0)) ∨ ((b = 32 ∨ b = 9) ∧ stepF s b = (blankOf s.1, 0)) ∨ ((signsOf s.1).contains b = true ∧ stepF s b = (pastOf s.1, 0)) ∨ (isNm b = true ∧ stepF s b = alongN s.1 s.2))) := by
  unfold stepF at h ⊢
  split
  · rename_i h1
    exact .inl ⟨h1.1, h1.2, rfl⟩
  · rename_i h1
    rw [if_neg h1] at h
    split
    · rename_i h2
      rw [if_pos h2] at h
      exact absurd rfl h
    · rename_i h2
      rw [if_neg h2] at h
      refine .inr ⟨?_, ?_⟩
      · by_cases hw : wordOf s.1 = []
        · exact .inl hw
        · exact .inr (by
            have : ¬ 0 < s.2 := fun h0 => h2 ⟨hw, h0⟩
            omega)
      · split
        · rename_i h3; exact .inl ⟨h3, rfl⟩
        · rename_i h3
          rw [if_neg h3] at h
          split
          · rename_i h4; exact .inr (.inl ⟨h4, rfl⟩)
          · rename_i h4
            rw [if_neg h4] at h
            split
            · rename_i h5; exact .inr (.inr (.inl ⟨h5, rfl⟩))
            · rename_i h5
              rw [if_neg h5] at h
              split
              · rename_i h6; exact .inr (.inr (.inr ⟨h6, rfl⟩))
              · rename_i h6
                rw [if_neg h6] at h
                exact absurd rfl h

set_option maxRecDepth 100000 in
theorem step_ok {s : Nat × Nat} {b : Nat} (hs : okS s = true) (h : (stepF s b).1 ≠ 0) : okS (stepF s b) = true := by
  have key : spots.all (fun s => (wordOf s.1 == [] || (alongW s.1 s.2).1 == 0 || okS (alongW s.1 s.2)) && (feedOf s.1 == 0 || okS (feedOf s.1, 0)) && (blankOf s.1 == 0 || okS (blankOf s.1, 0)) && (signsOf s.1 == [] || pastOf s.1 == 0 || okS (pastOf s.1, 0)) && ((alongN s.1 s.2).1 == 0 || okS (alongN s.1 s.2))) = true := by decide +kernel
  have k := all_spots key hs
  simp only [Bool.and_eq_true, Bool.or_eq_true, beq_iff_eq] at k
  obtain ⟨⟨⟨⟨k1, k2⟩, k3⟩, k4⟩, k5⟩ := k
  rcases step_kinds s b h with ⟨a1, _, a3⟩ | ⟨_, ⟨_, a⟩ | ⟨_, a⟩ | ⟨a0, a⟩ | ⟨_, a⟩⟩
  · rw [a3] at h ⊢
    rcases k1 with (k | k) | k
    · exact absurd k a1
    · exact absurd k h
    · exact k
  · rw [a] at h ⊢
    exact k2.resolve_left h
  · rw [a] at h ⊢
    exact k3.resolve_left h
  · rw [a] at h ⊢
    rcases k4 with (k | k) | k
    · rw [k] at a0; simp at a0
    · exact absurd k h
    · exact k
  · rw [a] at h ⊢
    exact k5.resolve_left h

/-- How far a text goes: where it stands then, and behind how many bytes. -/
def goF (s : Nat × Nat) : List Nat → (Nat × Nat) × Nat
  | [] => (s, 0)
  | b :: t => if (stepF s b).1 = 0 then (s, 0) else ((goF (stepF s b) t).1, (goF (stepF s b) t).2 + 1)

theorem goF_le (s : Nat × Nat) (l : List Nat) : (goF s l).2 ≤ l.length := by
  induction l generalizing s with
  | nil => exact Nat.le_refl _
  | cons b t ih =>
    unfold goF
    split
    · exact Nat.zero_le _
    · have := ih (stepF s b); simp; omega
theorem goF_ok {s : Nat × Nat} (hs : okS s = true) (l : List Nat) : okS (goF s l).1 = true := by
  induction l generalizing s with
  | nil => exact hs
  | cons b t ih =>
    unfold goF
    split
    · exact hs
    · rename_i h; exact ih (step_ok hs h)
theorem goF_stop {s : Nat × Nat} {b : Nat} (t : List Nat) (h : (stepF s b).1 = 0) : goF s (b :: t) = (s, 0) := by
  show (if (stepF s b).1 = 0 then (s, 0) else ((goF (stepF s b) t).1, (goF (stepF s b) t).2 + 1)) = _
  rw [if_pos h]
theorem goF_on {s : Nat × Nat} {b : Nat} (t : List Nat) (h : (stepF s b).1 ≠ 0) : goF s (b :: t) = ((goF (stepF s b) t).1, (goF (stepF s b) t).2 + 1) := by
  show (if (stepF s b).1 = 0 then (s, 0) else ((goF (stepF s b) t).1, (goF (stepF s b) t).2 + 1)) = _
  rw [if_neg h]
theorem goF_app {s : Nat × Nat} {l : List Nat} (m : List Nat) (h : (goF s l).2 = l.length) : goF s (l ++ m) = ((goF (goF s l).1 m).1, l.length + (goF (goF s l).1 m).2) := by
  induction l generalizing s with
  | nil => simp [goF]
  | cons b t ih =>
    simp only [List.cons_append]
    by_cases hn : (stepF s b).1 = 0
    · rw [goF_stop t hn] at h; simp at h
    · rw [goF_on t hn] at h ⊢
      simp only [List.length_cons, Nat.add_right_cancel_iff] at h
      rw [goF_on _ hn, ih h]
      simp only [Prod.mk.injEq, true_and, List.length_cons]
      omega
theorem goF_app_stop {s : Nat × Nat} {l : List Nat} (m : List Nat) (h : (goF s l).2 < l.length) : goF s (l ++ m) = goF s l := by
  induction l generalizing s with
  | nil => simp at h
  | cons b t ih =>
    simp only [List.cons_append]
    by_cases hn : (stepF s b).1 = 0
    · rw [goF_stop t hn, goF_stop _ hn]
    · rw [goF_on t hn] at h ⊢
      rw [goF_on _ hn, ih (by simpa using h)]
theorem goF_take {s : Nat × Nat} {l : List Nat} : goF s (l.take (goF s l).2) = goF s l := by
  induction l generalizing s with
  | nil => rfl
  | cons b t ih =>
    by_cases hn : (stepF s b).1 = 0
    · rw [goF_stop t hn]; rfl
    · rw [goF_on t hn]
      simp only [List.take_succ_cons]
      rw [goF_on _ hn, ih]
/-- Where it stops, the next byte leads nowhere. -/
theorem goF_next {s : Nat × Nat} {l : List Nat} (h : (goF s l).2 < l.length) : (stepF (goF s l).1 l[(goF s l).2]).1 = 0 := by
  induction l generalizing s with
  | nil => simp at h
  | cons b t ih =>
    by_cases hn : (stepF s b).1 = 0
    · have e : goF s (b :: t) = (s, 0) := by show (if (stepF s b).1 = 0 then _ else _) = _; rw [if_pos hn]
      simp [e, hn]
    · have e : goF s (b :: t) = ((goF (stepF s b) t).1, (goF (stepF s b) t).2 + 1) := by show (if (stepF s b).1 = 0 then _ else _) = _; rw [if_neg hn]
      have h' : (goF (stepF s b) t).2 < t.length := by rw [e] at h; simpa using h
      have := ih h'
      simp [e, this]

/-! ### The way to a file -/
def nextB (s : Nat × Nat) : Nat :=
  if wordOf s.1 ≠ [] then (wordOf s.1).getD s.2 0
  else match s.1 with
    | 5 => 58 | 6 => 48 | 9 => 9 | 10 => 39 | 26 => 40 | 27 => 41 | 28 => 41 | 30 => 39 | _ => 10
def cmp (s : Nat × Nat) : Nat → List Nat
  | 0 => []
  | n + 1 => if isF s then [] else nextB s :: cmp (stepF s (nextB s)) n
def compF (s : Nat × Nat) : List Nat := cmp s 49

theorem compF_file {s : Nat × Nat} (h : isF s = true) : compF s = [] := by unfold compF cmp; rw [if_pos h]
set_option maxRecDepth 100000 in
theorem compF_cons {s : Nat × Nat} (hs : okS s = true) (h : isF s = false) : compF s = nextB s :: compF (stepF s (nextB s)) ∧ (stepF s (nextB s)).1 ≠ 0 := by
  have key : spots.all (fun s => isF s || (decide (compF s = nextB s :: compF (stepF s (nextB s))) && (stepF s (nextB s)).1 != 0)) = true := by decide +kernel
  have k := all_spots key hs
  simpa [h] using k

set_option maxRecDepth 100000 in
/-- No other byte leads on to a shorter way, and a lesser one to none as short. -/
theorem compF_best {s : Nat × Nat} {b : Nat} (hs : okS s = true) (h : isF s = false) (hb : (stepF s b).1 ≠ 0) :
    (compF s).length ≤ (compF (stepF s b)).length + 1 ∧ ((compF s).length = (compF (stepF s b)).length + 1 → nextB s ≤ b) := by
  have key : spots.all (fun s => isF s || (
      (wordOf s.1 == [] || decide ((compF s).length ≤ (compF (alongW s.1 s.2)).length + 1 ∧ nextB s ≤ (wordOf s.1).getD s.2 0)) &&
      (feedOf s.1 == 0 || (wordOf s.1 != [] && s.2 != 0) || decide ((compF s).length ≤ (compF (feedOf s.1, 0)).length + 1 ∧ ((compF s).length = (compF (feedOf s.1, 0)).length + 1 → nextB s ≤ 10))) &&
      (blankOf s.1 == 0 || (wordOf s.1 != [] && s.2 != 0) || decide ((compF s).length ≤ (compF (blankOf s.1, 0)).length + 1 ∧ ((compF s).length = (compF (blankOf s.1, 0)).length + 1 → nextB s ≤ 9))) &&
      ((signsOf s.1) == [] || decide ((compF s).length ≤ (compF (pastOf s.1, 0)).length + 1 ∧ ((compF s).length = (compF (pastOf s.1, 0)).length + 1 → (signsOf s.1).all (fun c => Nat.ble (nextB s) c) = true))) &&
      ((alongN s.1 s.2).1 == 0 || (wordOf s.1 != [] && s.2 != 0) || decide ((compF s).length ≤ (compF (alongN s.1 s.2)).length + 1 ∧ ((compF s).length = (compF (alongN s.1 s.2)).length + 1 → nextB s ≤ 39))))) = true := by decide +kernel
  have k := all_spots key hs
  simp only [h, Bool.false_or, Bool.and_eq_true, Bool.or_eq_true, beq_iff_eq, bne_iff_ne, decide_eq_true_eq] at k
  obtain ⟨⟨⟨⟨k1, k2⟩, k3⟩, k4⟩, k5⟩ := k
  have nm39 : isNm b = true → 39 ≤ b := by
    intro hn
    simp only [isNm, Bool.or_eq_true, Bool.and_eq_true, Nat.ble_eq, Nat.beq_eq] at hn
    omega
  rcases step_kinds s b hb with ⟨a1, a2, a3⟩ | ⟨a0, ⟨a1, a⟩ | ⟨a1, a⟩ | ⟨a1, a⟩ | ⟨a1, a⟩⟩
  · rw [a3]
    rw [a2] at k1
    have k := k1.resolve_left a1
    exact ⟨k.1, fun _ => k.2⟩
  all_goals rw [a] at hb ⊢
  all_goals have na : ¬ (wordOf s.1 ≠ [] ∧ s.2 ≠ 0) := fun ⟨x, y⟩ => a0.elim x y
  · rcases k2 with (k | k) | k
    · exact absurd k hb
    · exact absurd k na
    · exact ⟨k.1, fun e => a1 ▸ k.2 e⟩
  · rcases k3 with (k | k) | k
    · exact absurd k hb
    · exact absurd k na
    · exact ⟨k.1, fun e => by have := k.2 e; omega⟩
  · rcases k4 with k | k
    · rw [k] at a1; simp at a1
    · refine ⟨k.1, fun e => ?_⟩
      have := List.all_eq_true.1 (k.2 e) b (by simpa using a1)
      simpa using this
  · rcases k5 with (k | k) | k
    · exact absurd k hb
    · exact absurd k na
    · exact ⟨k.1, fun e => by have := k.2 e; have := nm39 a1; omega⟩

/-- The way leads to a file. -/
theorem compF_goes {s : Nat × Nat} (hs : okS s = true) : (goF s (compF s)).2 = (compF s).length ∧ isF (goF s (compF s)).1 = true := by
  have aux : ∀ n s, okS s = true → (compF s).length ≤ n → (goF s (compF s)).2 = (compF s).length ∧ isF (goF s (compF s)).1 = true := by
    intro n
    induction n with
    | zero =>
      intro s hs hl
      have e : compF s = [] := List.eq_nil_of_length_eq_zero (by omega)
      rw [e]
      refine ⟨rfl, ?_⟩
      cases hf : isF s
      · rw [(compF_cons hs hf).1] at e; cases e
      · exact hf
    | succ n ih =>
      intro s hs hl
      cases hf : isF s
      · obtain ⟨e, hn⟩ := compF_cons hs hf
        rw [e] at hl ⊢
        have := ih (stepF s (nextB s)) (step_ok hs hn) (by simpa using hl)
        unfold goF
        rw [if_neg hn]
        exact ⟨by simp only [List.length_cons]; rw [this.1], this.2⟩
      · rw [compF_file hf]; exact ⟨rfl, hf⟩
  exact aux _ s hs (Nat.le_refl _)

end Go.Proofs.YtmagchclmmphaaaDoor
