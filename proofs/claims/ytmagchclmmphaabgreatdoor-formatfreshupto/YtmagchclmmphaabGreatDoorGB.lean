namespace Go.Proofs.YtmagchclmmphaabGreatDoor

/-! ### The table of places -/
def blankOf : Nat → Nat
  | 1 => 2 | 2 => 2 | 3 => 4 | 4 => 4 | 7 => 8 | 8 => 8 | 9 => 10 | 10 => 10 | 11 => 13 | 12 => 13 | 13 => 13 | 14 => 15 | 15 => 15 | 16 => 15
  | 17 => 18 | 18 => 18 | 19 => 20 | 20 => 20 | 21 => 20 | 22 => 23 | 23 => 23 | 24 => 25 | 25 => 25 | 29 => 29 | 30 => 30 | 31 => 25 | _ => 0
def feedOf : Nat → Nat
  | 1 => 1 | 2 => 1 | 3 => 7 | 4 => 7 | 7 => 7 | 8 => 7 | 11 => 12 | 12 => 12 | 13 => 12 | 14 => 17 | 15 => 17 | 16 => 17 | 17 => 17 | 18 => 17
  | 19 => 22 | 20 => 22 | 21 => 22 | 22 => 22 | 23 => 22 | 24 => 24 | 25 => 24 | 31 => 24 | _ => 0
def nameOf : Nat → Nat
  | 4 => 5 | 5 => 5 | 10 => 11 | 11 => 11 | 15 => 16 | 16 => 16 | 20 => 21 | 21 => 21 | 24 => 26 | 26 => 26 | 27 => 28 | 28 => 28 | 30 => 31 | 31 => 31 | _ => 0
def pastOf : Nat → Nat
  | 1 => 3 | 5 => 6 | 6 => 3 | 7 => 9 | 12 => 14 | 17 => 19 | 22 => 25 | 26 => 27 | 27 => 29 | 28 => 29 | 29 => 30 | _ => 0
def signsOf : Nat → List Nat
  | 5 => [58] | 6 => [48, 49] | 26 => [40] | 27 => [41] | 28 => [41] | _ => []
def wordOf : Nat → List Nat
  | 1 => [79, 112, 115]
  | 7 => [65, 117, 116, 111, 109, 97, 116, 111, 110]
  | 12 => [83, 116, 97, 116, 101, 115]
  | 17 => [70, 105, 110, 97, 108, 32, 83, 116, 97, 116, 101, 115]
  | 22 => [84, 114, 97, 110, 115, 105, 116, 105, 111, 110, 115]
  | 29 => [45, 62]
  | _ => []

def isNm (b : Nat) : Bool := (Nat.ble 65 b && Nat.ble b 90) || (Nat.ble 97 b && Nat.ble b 122) || (Nat.ble 48 b && Nat.ble b 57) || Nat.beq b 95 || Nat.beq b 39

/-- A spot: a place, and how much was read there. -/
def alongW (p r : Nat) : Nat × Nat := if r + 1 = (wordOf p).length then (pastOf p, 0) else (p, r + 1)
def alongN (p r : Nat) : Nat × Nat := if nameOf p ≠ p then (nameOf p, 1) else if r = 16 then (0, 0) else (p, r + 1)
def stepF (s : Nat × Nat) (b : Nat) : Nat × Nat :=
  if wordOf s.1 ≠ [] ∧ (wordOf s.1).getD s.2 0 = b then alongW s.1 s.2
  else if wordOf s.1 ≠ [] ∧ 0 < s.2 then (0, 0)
  else if b = 10 then (feedOf s.1, 0)
  else if b = 32 ∨ b = 9 then (blankOf s.1, 0)
  else if (signsOf s.1).contains b then (pastOf s.1, 0)
  else if isNm b then alongN s.1 s.2
  else (0, 0)
def okS (s : Nat × Nat) : Bool :=
  Nat.ble 1 s.1 && Nat.ble s.1 31 && (if wordOf s.1 ≠ [] then decide (s.2 < (wordOf s.1).length) else if nameOf s.1 = s.1 then decide (1 ≤ s.2 ∧ s.2 ≤ 16) else decide (s.2 = 0))
def isF (s : Nat × Nat) : Bool := (stepF s 10).1 == 24

/-- All spots that may be. -/
def spots : List (Nat × Nat) := ((List.range 32).flatMap fun p => (List.range 17).map fun r => (p, r)).filter okS

theorem ok_bound {s : Nat × Nat} (h : okS s = true) : 1 ≤ s.1 ∧ s.1 < 32 ∧ s.2 < 17 := by
  obtain ⟨p, r⟩ := s
  simp only [okS, Bool.and_eq_true, Nat.ble_eq] at h
  obtain ⟨⟨h1, h2⟩, h3⟩ := h
  refine ⟨h1, by simp only; omega, ?_⟩
  simp only at *
  have : ∀ p, p < 32 → (wordOf p).length ≤ 12 := by decide
  have hw := this p (by omega)
  split at h3
  · simp only [decide_eq_true_eq] at h3; omega
  · split at h3 <;> simp only [decide_eq_true_eq] at h3 <;> omega

theorem mem_spots {s : Nat × Nat} (h : okS s = true) : s ∈ spots := by
  obtain ⟨h1, h2, h3⟩ := ok_bound h
  unfold spots
  rw [List.mem_filter]
  refine ⟨?_, h⟩
  rw [List.mem_flatMap]
  exact ⟨s.1, List.mem_range.2 h2, List.mem_map.2 ⟨s.2, List.mem_range.2 h3, rfl⟩⟩

/-- To try all spots. -/
theorem all_spots {P : Nat × Nat → Bool} (h : spots.all P = true) {s : Nat × Nat} (hs : okS s = true) : P s = true := List.all_eq_true.1 h s (mem_spots hs)

/-- Where a step may lead, by its kind. -/
theorem step_kinds (s : Nat × Nat) (b : Nat) (h : (stepF s b).1 ≠ 0) :
    (wordOf s.1 ≠ [] ∧ (wordOf s.1).getD s.2 0 = b ∧ stepF s b = alongW s.1 s.2) ∨
    ((wordOf s.1 = [] ∨ s.2 = 0) ∧ ((b = 10 ∧ stepF s b = (feedOf s.1, 0)) ∨ ((b = 32 ∨ b = 9) ∧ stepF s b = (blankOf s.1, 0)) ∨ ((signsOf s.1).contains b = true ∧ stepF s b = (pastOf s.1, 0)) ∨ (isNm b = true ∧ stepF s b = alongN s.1 s.2))) := by
  unfold stepF at h ⊢
  split
  · rename_i h1
    exact .inl ⟨h1.1, h1.2, rfl⟩
  · rename_i h1
    rw [if_neg h1] at h
    split
    · rename_i h2
      rw [if_pos h2] at h
      exact absurd rfl h
    · rename_i h2
      rw [if_neg h2] at h
      refine .inr ⟨?_, ?_⟩
      · by_cases hw : wordOf s.1 = []
        · exact .inl hw
        · exact .inr (by
            have : ¬ 0 < s.2 := fun h0 => h2 ⟨hw, h0⟩
            omega)
      · split
        · rename_i h3; exact .inl ⟨h3, rfl⟩
        · rename_i h3
          rw [if_neg h3] at h
          split
          · rename_i h4; exact .inr (.inl ⟨h4, rfl⟩)
          · rename_i h4
            rw [if_neg h4] at h
            split
            · rename_i h5; exact .inr (.inr (.inl ⟨h5, rfl⟩))
            · rename_i h5
              rw [if_neg h5] at h
              split
              · rename_i h6; exact .inr (.inr (.inr ⟨h6, rfl⟩))
              · rename_i h6
                rw [if_neg h6] at h
                exact absurd rfl h

set_option maxRecDepth 100000 in
theorem step_ok {s : Nat × Nat} {b : Nat} (hs : okS s = true) (h : (stepF s b).1 ≠ 0) : okS (stepF s b) = true := by
  have key : spots.all (fun s => (wordOf s.1 == [] || (alongW s.1 s.2).1 == 0 || okS (alongW s.1 s.2)) && (feedOf s.1 == 0 || okS (feedOf s.1, 0)) && (blankOf s.1 == 0 || okS (blankOf s.1, 0)) && (signsOf s.1 == [] || pastOf s.1 == 0 || okS (pastOf s.1, 0)) && ((alongN s.1 s.2).1 == 0 || okS (alongN s.1 s.2))) = true := by decide +kernel
  have k := all_spots key hs
  simp only [Bool.and_eq_true, Bool.or_eq_true, beq_iff_eq] at k
  obtain ⟨⟨⟨⟨k1, k2⟩, k3⟩, k4⟩, k5⟩ := k
  rcases step_kinds s b h with ⟨a1, _, a3⟩ | ⟨_, ⟨_, a⟩ | ⟨_, a⟩ | ⟨a0, a⟩ | ⟨_, a⟩⟩
  · rw [a3] at h ⊢
    rcases k1 with (k | k) | k
    · exact absurd k a1
    · exact absurd k h
    · exact k
  · rw [a] at h ⊢
    exact k2.resolve_left h
  · rw [a] at h ⊢
    exact k3.resolve_left h
  · rw [a] at h ⊢
    rcases k4 with (k | k) | k
    · rw [k] at a0; simp at a0
    · exact absurd k h
    · exact k
  · rw [a] at h ⊢
    exact k5.resolve_left h

/-- How far a text goes: where it stands then, and behind how many bytes. -/
def goF (s : Nat × Nat) : List Nat → (Nat × Nat) × Nat
  | [] => (s, 0)
  | b :: t => if (stepF s b).1 = 0 then (s, 0) else ((goF (stepF s b) t).1, (goF (stepF s b) t).2 + 1)

theorem goF_le (s : Nat × Nat) (l : List Nat) : (goF s l).2 ≤ l.length := by
  induction l generalizing s with
  | nil => exact Nat.le_refl _
  | cons b t ih =>
    unfold goF
    split
    · exact Nat.zero_le _
    · have := ih (stepF s b); simp; omega
theorem goF_ok {s : Nat × Nat} (hs : okS s = true) (l : List Nat) : okS (goF s l).1 = true := by
  induction l generalizing s with
  | nil => exact hs
  | cons b t ih =>
    unfold goF
    split
    · exact hs
    · rename_i h; exact ih (step_ok hs h)
theorem goF_stop {s : Nat × Nat} {b : Nat} (t : List Nat) (h : (stepF s b).1 = 0) : goF s (b :: t) = (s, 0) := by
  show (if (stepF s b).1 = 0 then (s, 0) else ((goF (stepF s b) t).1, (goF (stepF s b) t).2 + 1)) = _
  rw [if_pos h]
theorem goF_on {s : Nat × Nat} {b : Nat} (t : List Nat) (h : (stepF s b).1 ≠ 0) : goF s (b :: t) = ((goF (stepF s b) t).1, (goF (stepF s b) t).2 + 1) := by
  show (if (stepF s b).1 = 0 then (s, 0) else ((goF (stepF s b) t).1, (goF (stepF s b) t).2 + 1)) = _
  rw [if_neg h]
theorem goF_app {s : Nat × Nat} {l : List Nat} (m : List Nat) (h : (goF s l).2 = l.length) : goF s (l ++ m) = ((goF (goF s l).1 m).1, l.length + (goF (goF s l).1 m).2) := by
  induction l generalizing s with
  | nil => simp [goF]
  | cons b t ih =>
    simp only [List.cons_append]
    by_cases hn : (stepF s b).1 = 0
    · rw [goF_stop t hn] at h; simp at h
    · rw [goF_on t hn] at h ⊢
      simp only [List.length_cons, Nat.add_right_cancel_iff] at h
      rw [goF_on _ hn, ih h]
      simp only [Prod.mk.injEq, true_and, List.length_cons]
      omega
theorem goF_app_stop {s : Nat × Nat} {l : List Nat} (m : List Nat) (h : (goF s l).2 < l.length) : goF s (l ++ m) = goF s l := by
  induction l generalizing s with
  | nil => simp at h
  | cons b t ih =>
    simp only [List.cons_append]
    by_cases hn : (stepF s b).1 = 0
    · rw [goF_stop t hn, goF_stop _ hn]
    · rw [goF_on t hn] at h ⊢
      rw [goF_on _ hn, ih (by simpa using h)]
theorem goF_take {s : Nat × Nat} {l : List Nat} : goF s (l.take (goF s l).2) = goF s l := by
  induction l generalizing s with
  | nil => rfl
  | cons b t ih =>
    by_cases hn : (stepF s b).1 = 0
    · rw [goF_stop t hn]; rfl
    · rw [goF_on t hn]
      simp only [List.take_succ_cons]
      rw [goF_on _ hn, ih]
/-- Where it stops, the next byte leads nowhere. -/
theorem goF_next {s : Nat × Nat} {l : List Nat} (h : (goF s l).2 < l.length) : (stepF (goF s l).1 l[(goF s l).2]).1 = 0 := by
  induction l generalizing s with
  | nil => simp at h
  | cons b t ih =>
    by_cases hn : (stepF s b).1 = 0
    · have e : goF s (b :: t) = (s, 0) := by show (if (stepF s b).1 = 0 then _ else _) = _; rw [if_pos hn]
      simp [e, hn]
    · have e : goF s (b :: t) = ((goF (stepF s b) t).1, (goF (stepF s b) t).2 + 1) := by show (if (stepF s b).1 = 0 then _ else _) = _; rw [if_neg hn]
      have h' : (goF (stepF s b) t).2 < t.length := by rw [e] at h; simpa using h
      have := ih h'
      simp [e, this]

/-! ### The way to a file -/
def nextB (s : Nat × Nat) : Nat :=
  if wordOf s.1 ≠ [] then (wordOf s.1).getD s.2 0
  else match s.1 with
    | 5 => 58 | 6 => 48 | 9 => 9 | 10 => 39 | 26 => 40 | 27 => 41 | 28 => 41 | 30 => 39 | _ => 10
def cmp (s : Nat × Nat) : Nat → List Nat
  | 0 => []
  | n + 1 => if isF s then [] else nextB s :: cmp (stepF s (nextB s)) n
def compF (s : Nat × Nat) : List Nat := cmp s 49

theorem compF_file {s : Nat × Nat} (h : isF s = true) : compF s = [] := by unfold compF cmp; rw [if_pos h]
set_option maxRecDepth 100000 in
theorem compF_cons {s : Nat × Nat} (hs : okS s = true) (h : isF s = false) : compF s = nextB s :: compF (stepF s (nextB s)) ∧ (stepF s (nextB s)).1 ≠ 0 := by
  have key : spots.all (fun s => isF s || (decide (compF s = nextB s :: compF (stepF s (nextB s))) && (stepF s (nextB s)).1 != 0)) = true := by decide +kernel
  have k := all_spots key hs
  simpa [h] using k

set_option maxRecDepth 100000 in
/-- No other byte leads on to a shorter way, and a lesser one to none as short. -/
theorem compF_best {s : Nat × Nat} {b : Nat} (hs : okS s = true) (h : isF s = false) (hb : (stepF s b).1 ≠ 0) :
    (compF s).length ≤ (compF (stepF s b)).length + 1 ∧ ((compF s).length = (compF (stepF s b)).length + 1 → nextB s ≤ b) := by
  have key : spots.all (fun s => isF s || (
      (wordOf s.1 == [] || decide ((compF s).length ≤ (compF (alongW s.1 s.2)).length + 1 ∧ nextB s ≤ (wordOf s.1).getD s.2 0)) &&
      (feedOf s.1 == 0 || (wordOf s.1 != [] && s.2 != 0) || decide ((compF s).length ≤ (compF (feedOf s.1, 0)).length + 1 ∧ ((compF s).length = (compF (feedOf s.1, 0)).length + 1 → nextB s ≤ 10))) &&
      (blankOf s.1 == 0 || (wordOf s.1 != [] && s.2 != 0) || decide ((compF s).length ≤ (compF (blankOf s.1, 0)).length + 1 ∧ ((compF s).length = (compF (blankOf s.1, 0)).length + 1 → nextB s ≤ 9))) &&
      ((signsOf s.1) == [] || decide ((compF s).length ≤ (compF (pastOf s.1, 0)).length + 1 ∧ ((compF s).length = (compF (pastOf s.1, 0)).length + 1 → (signsOf s.1).all (fun c => Nat.ble (nextB s) c) = true))) &&
      ((alongN s.1 s.2).1 == 0 || (wordOf s.1 != [] && s.2 != 0) || decide ((compF s).length ≤ (compF (alongN s.1 s.2)).length + 1 ∧ ((compF s).length = (compF (alongN s.1 s.2)).length + 1 → nextB s ≤ 39))))) = true := by decide +kernel
  have k := all_spots key hs
  simp only [h, Bool.false_or, Bool.and_eq_true, Bool.or_eq_true, beq_iff_eq, bne_iff_ne, decide_eq_true_eq] at k
  obtain ⟨⟨⟨⟨k1, k2⟩, k3⟩, k4⟩, k5⟩ := k
  have nm39 : isNm b = true → 39 ≤ b := by
    intro hn
    simp only [isNm, Bool.or_eq_true, Bool.and_eq_true, Nat.ble_eq, Nat.beq_eq] at hn
    omega
  rcases step_kinds s b hb with ⟨a1, a2, a3⟩ | ⟨a0, ⟨a1, a⟩ | ⟨a1, a⟩ | ⟨a1, a⟩ | ⟨a1, a⟩⟩
  · rw [a3]
    rw [a2] at k1
    have k := k1.resolve_left a1
    exact ⟨k.1, fun _ => k.2⟩
  all_goals rw [a] at hb ⊢
  all_goals have na : ¬ (wordOf s.1 ≠ [] ∧ s.2 ≠ 0) := fun ⟨x, y⟩ => a0.elim x y
  · rcases k2 with (k | k) | k
    · exact absurd k hb
    · exact absurd k na
    · exact ⟨k.1, fun e => a1 ▸ k.2 e⟩
  · rcases k3 with (k | k) | k
    · exact absurd k hb
    · exact absurd k na
    · exact ⟨k.1, fun e => by have := k.2 e; omega⟩
  · rcases k4 with k | k
    · rw [k] at a1; simp at a1
    · refine ⟨k.1, fun e => ?_⟩
      have := List.all_eq_true.1 (k.2 e) b (by simpa using a1)
      simpa using this
  · rcases k5 with (k | k) | k
    · exact absurd k hb
    · exact absurd k na
    · exact ⟨k.1, fun e => by have := k.2 e; have := nm39 a1; omega⟩

/-- The way leads to a file. -/
theorem compF_goes {s : Nat × Nat} (hs : okS s = true) : (goF s (compF s)).2 = (compF s).length ∧ isF (goF s (compF s)).1 = true := by
  have aux : ∀ n s, okS s = true → (compF s).length ≤ n → (goF s (compF s)).2 = (compF s).length ∧ isF (goF s (compF s)).1 = true := by
    intro n
    induction n with
    | zero =>
      intro s hs hl
      have e : compF s = [] := List.eq_nil_of_length_eq_zero (by omega)
      rw [e]
      refine ⟨rfl, ?_⟩
      cases hf : isF s
      · rw [(compF_cons hs hf).1] at e; cases e
      · exact hf
    | succ n ih =>
      intro s hs hl
      cases hf : isF s
      · obtain ⟨e, hn⟩ := compF_cons hs hf
        rw [e] at hl ⊢
        have := ih (stepF s (nextB s)) (step_ok hs hn) (by simpa using hl)
        unfold goF
        rw [if_neg hn]
        exact ⟨by simp only [List.length_cons]; rw [this.1], this.2⟩
      · rw [compF_file hf]; exact ⟨rfl, hf⟩
  exact aux _ s hs (Nat.le_refl _)

end Go.Proofs.YtmagchclmmphaabGreatDoor
namespace Go.Proofs.YtmagchclmmphaabGreatDoor

/-! ### Shorter, or as long and lesser -/
def ltL : List Nat → List Nat → Prop
  | a :: u, b :: v => a < b ∨ (a = b ∧ ltL u v)
  | _, _ => False
def slt (u v : List Nat) : Prop := u.length < v.length ∨ (u.length = v.length ∧ ltL u v)
def sle (u v : List Nat) : Prop := u = v ∨ slt u v
theorem ltL_irr (u : List Nat) : ¬ ltL u u := by
  induction u with
  | nil => exact fun h => h
  | cons a u ih => rintro (h | ⟨_, h⟩); exact Nat.lt_irrefl _ h; exact ih h
theorem ltL_trans {u v w : List Nat} (h1 : ltL u v) (h2 : ltL v w) : ltL u w := by
  induction u generalizing v w with
  | nil => exact absurd h1 (by unfold ltL; exact fun h => h)
  | cons a u ih =>
    match v, w, h1, h2 with
    | b :: v, c :: w, h1, h2 =>
      rcases h1 with h1 | ⟨rfl, h1⟩ <;> rcases h2 with h2 | ⟨rfl, h2⟩
      · exact .inl (Nat.lt_trans h1 h2)
      · exact .inl h1
      · exact .inl h2
      · exact .inr ⟨rfl, ih h1 h2⟩
theorem slt_irr (u : List Nat) : ¬ slt u u := by rintro (h | ⟨_, h⟩); exact Nat.lt_irrefl _ h; exact ltL_irr _ h
theorem slt_trans {u v w : List Nat} (h1 : slt u v) (h2 : slt v w) : slt u w := by
  rcases h1 with h1 | ⟨e1, h1⟩ <;> rcases h2 with h2 | ⟨e2, h2⟩
  · exact .inl (by omega)
  · exact .inl (by omega)
  · exact .inl (by omega)
  · exact .inr ⟨by omega, ltL_trans h1 h2⟩
theorem sle_trans {u v w : List Nat} (h1 : sle u v) (h2 : sle v w) : sle u w := by
  rcases h1 with rfl | h1
  · exact h2
  · rcases h2 with rfl | h2
    · exact .inr h1
    · exact .inr (slt_trans h1 h2)
theorem sle_anti {u v : List Nat} (h1 : sle u v) (h2 : sle v u) : u = v := by
  rcases h1 with h1 | h1
  · exact h1
  · rcases h2 with h2 | h2
    · exact h2.symm
    · exact absurd (slt_trans h1 h2) (slt_irr _)
theorem ltL_snoc {u v : List Nat} (a b : Nat) (hl : u.length = v.length) (h : ltL u v) : ltL (u ++ [a]) (v ++ [b]) := by
  induction u generalizing v with
  | nil => exact absurd h (by unfold ltL; exact fun h => h)
  | cons x u ih =>
    match v, h, hl with
    | y :: v, h, hl =>
      rcases h with h | ⟨rfl, h⟩
      · exact .inl h
      · exact .inr ⟨rfl, ih (by simpa using hl) h⟩
theorem ltL_last (u : List Nat) {a b : Nat} (h : a < b) : ltL (u ++ [a]) (u ++ [b]) := by
  induction u with
  | nil => exact .inl h
  | cons x u ih => exact .inr ⟨rfl, ih⟩
theorem slt_snoc {u v : List Nat} (a b : Nat) (h : slt u v) : slt (u ++ [a]) (v ++ [b]) := by
  rcases h with h | ⟨e, h⟩
  · exact .inl (by simpa using h)
  · exact .inr ⟨by simpa using e, ltL_snoc a b e h⟩
theorem slt_last (u : List Nat) {a b : Nat} (h : a < b) : slt (u ++ [a]) (u ++ [b]) := .inr ⟨by simp, ltL_last u h⟩
theorem sle_snoc {u v : List Nat} (a : Nat) (h : sle u v) : sle (u ++ [a]) (v ++ [a]) := by
  rcases h with rfl | h
  · exact .inl rfl
  · exact .inr (slt_snoc a a h)
theorem slt_nil (u : List Nat) (a : Nat) : slt [] (u ++ [a]) := .inl (by simp)
theorem sle_app (u v : List Nat) : sle u (u ++ v) := by
  cases v with
  | nil => exact .inl (by simp)
  | cons b v => exact .inr (.inl (by simp))

/-! ### compF is the least of all ways to a file -/
theorem compF_least {v : List Nat} : ∀ {s : Nat × Nat}, okS s = true → (goF s v).2 = v.length → isF (goF s v).1 = true → sle (compF s) v := by
  induction v with
  | nil => intro s _ _ h; exact .inl (compF_file h)
  | cons b v ih =>
    intro s hs h1 h2
    cases hf : isF s
    · by_cases hn : (stepF s b).1 = 0
      · rw [goF_stop v hn] at h1; simp at h1
      · rw [goF_on v hn] at h1 h2
        have h := ih (step_ok hs hn) (by simpa using h1) h2
        obtain ⟨e, _⟩ := compF_cons hs hf
        obtain ⟨k1, k2⟩ := compF_best hs hf hn
        have hl : (compF (stepF s b)).length ≤ v.length := by rcases h with h | h | h; rw [h]; exact Nat.le_refl _; omega; omega
        by_cases hlt : (compF s).length < (b :: v).length
        · exact .inr (.inl hlt)
        · simp only [List.length_cons] at hlt
          have hb := k2 (by omega)
          rcases Nat.lt_or_eq_of_le hb with hb | hb
          · rw [e]
            refine .inr (.inr ⟨?_, .inl hb⟩)
            rw [← e]; simp only [List.length_cons]; omega
          · rw [hb] at e
            rw [e]
            rcases h with h | h | h
            · exact .inl (by rw [h])
            · exact .inr (.inl (by simpa using h))
            · exact .inr (.inr ⟨by simpa using h.1, .inr ⟨rfl, h.2⟩⟩)
    · rw [compF_file hf]; exact .inr (.inl (by simp))

/-! ### The search -/
structure Mk where
  sp : Nat × Nat
  bt : Nat
  fr : Nat
  way : List Nat

theorem step_lt {s : Nat × Nat} {b : Nat} (h : (stepF s b).1 ≠ 0) : b < 256 := by
  have hw : ∀ p, p < 32 → ∀ c ∈ wordOf p, c < 256 := by decide
  have hg : ∀ p, p < 32 → ∀ c ∈ signsOf p, c < 256 := by decide
  rcases step_kinds s b h with ⟨a1, a2, _⟩ | ⟨_, ⟨a, _⟩ | ⟨a, _⟩ | ⟨a, _⟩ | ⟨a, _⟩⟩
  · by_cases hp : s.1 < 32
    · by_cases hr : s.2 < (wordOf s.1).length
      · rw [List.getD_eq_getElem?_getD, List.getElem?_eq_getElem hr] at a2
        simp only [Option.getD_some] at a2
        exact a2 ▸ hw _ hp _ (List.getElem_mem hr)
      · rw [List.getD_eq_getElem?_getD, List.getElem?_eq_none (by omega)] at a2
        simp at a2; omega
    · exfalso
      apply a1
      unfold wordOf
      split <;> first | omega | rfl
  · omega
  · omega
  · by_cases hp : s.1 < 32
    · exact hg _ hp _ (by simpa using a)
    · exfalso
      have : signsOf s.1 = [] := by unfold signsOf; split <;> first | omega | rfl
      rw [this] at a; simp at a
  · simp only [isNm, Bool.or_eq_true, Bool.and_eq_true, Nat.ble_eq, Nat.beq_eq] at a
    omega

/-- The bytes that may follow. -/
def folF (s : Nat × Nat) : List Nat := (List.range 256).filter fun b => (stepF s b).1 != 0
theorem mem_fol {s : Nat × Nat} {b : Nat} : b ∈ folF s ↔ (stepF s b).1 ≠ 0 := by
  unfold folF
  rw [List.mem_filter, List.mem_range, bne_iff_ne]
  exact ⟨fun h => h.2, fun h => ⟨step_lt h, h⟩⟩

/-- What the search holds: it looks at mark i, and of the bytes behind it has done those of D. -/
structure Bfs (s0 : Nat × Nat) (M : List Mk) (i : Nat) (D : List Nat) : Prop where
  first : ∃ m, M[0]? = some m ∧ m.sp = s0 ∧ m.way = []
  lnk : ∀ (j : Nat) (m : Mk), M[j]? = some m → 0 < j → m.fr < j ∧ m.fr ≤ i ∧ (m.fr = i → m.bt ∈ D) ∧ ∃ m', M[m.fr]? = some m' ∧ m.way = m'.way ++ [m.bt] ∧ m.sp = stepF m'.sp m.bt ∧ (stepF m'.sp m.bt).1 ≠ 0
  oks : ∀ m : Mk, m ∈ M → okS m.sp = true
  nod : (M.map Mk.sp).Nodup
  srt : ∀ (j k : Nat) (m m' : Mk), j < k → M[j]? = some m → M[k]? = some m' → slt m.way m'.way
  don : ∀ (j : Nat) (m : Mk), M[j]? = some m → j < i → isF m.sp = false ∧ ∀ b, (stepF m.sp b).1 ≠ 0 → ∃ m' ∈ M, m'.sp = stepF m.sp b ∧ sle m'.way (m.way ++ [b])
  cur : ∀ m : Mk, M[i]? = some m → ∀ b ∈ D, ∃ m' ∈ M, m'.sp = stepF m.sp b ∧ sle m'.way (m.way ++ [b])

theorem Bfs.start {s0 : Nat × Nat} (h : okS s0 = true) : Bfs s0 [⟨s0, 0, 0, []⟩] 0 [] where
  first := ⟨_, rfl, rfl, rfl⟩
  lnk := fun j m hm hj => by cases j with | zero => omega | succ j => simp at hm
  oks := fun m hm => by simp at hm; subst hm; exact h
  nod := by simp
  srt := fun j k m m' hjk h1 h2 => by cases k with | zero => omega | succ k => simp at h2
  don := fun j m _ hj => absurd hj (Nat.not_lt_zero _)
  cur := fun m _ b hb => by cases hb

/-- All that is there is less than what would come next. -/
theorem Bfs.less {s0 : Nat × Nat} {M : List Mk} {i : Nat} {D : List Nat} (h : Bfs s0 M i D) {m : Mk} (hm : M[i]? = some m) {b : Nat} (hb : ∀ x ∈ D, x < b) {j : Nat} {m' : Mk} (hj : M[j]? = some m') : slt m'.way (m.way ++ [b]) := by
  cases j with
  | zero =>
    obtain ⟨f, h1, _, h3⟩ := h.first
    rw [h1] at hj
    cases hj
    rw [h3]
    exact slt_nil _ _
  | succ j =>
    obtain ⟨l1, l2, l3, p, hp, hw, _, _⟩ := h.lnk _ _ hj (by omega)
    rw [hw]
    rcases Nat.lt_or_eq_of_le l2 with l | l
    · exact slt_snoc _ _ (h.srt _ _ _ _ l hp hm)
    · rw [l, hm] at hp
      cases hp
      exact slt_last _ (hb _ (l3 l))

/-- A byte whose spot is there. -/
theorem Bfs.old {s0 : Nat × Nat} {M : List Mk} {i : Nat} {D : List Nat} (h : Bfs s0 M i D) {m : Mk} (hm : M[i]? = some m) {b : Nat} (hb : ∀ x ∈ D, x < b) (ho : stepF m.sp b ∈ M.map Mk.sp) : Bfs s0 M i (D ++ [b]) where
  first := h.first
  lnk := fun j m' hj h0 => by
    obtain ⟨l1, l2, l3, l4⟩ := h.lnk j m' hj h0
    exact ⟨l1, l2, fun e => List.mem_append.2 (.inl (l3 e)), l4⟩
  oks := h.oks
  nod := h.nod
  srt := h.srt
  don := h.don
  cur := fun m' hm' x hx => by
    rw [hm] at hm'
    cases hm'
    rcases List.mem_append.1 hx with hx | hx
    · exact h.cur m hm x hx
    · simp at hx
      subst hx
      obtain ⟨q, hq, e⟩ := List.mem_map.1 ho
      obtain ⟨j, hj⟩ := List.mem_iff_getElem?.1 hq
      exact ⟨q, hq, e, .inr (h.less hm hb hj)⟩

theorem snoc_get {M : List Mk} {a m : Mk} {j : Nat} (h : (M ++ [a])[j]? = some m) : M[j]? = some m ∨ (j = M.length ∧ m = a) := by
  rcases Nat.lt_trichotomy j M.length with hj | hj | hj
  · rw [List.getElem?_append_left hj] at h; exact .inl h
  · subst hj; simp at h; exact .inr ⟨rfl, h.symm⟩
  · rw [List.getElem?_eq_none (by simp; omega)] at h; cases h
theorem get_snoc {M : List Mk} {m : Mk} (a : Mk) {j : Nat} (h : M[j]? = some m) : (M ++ [a])[j]? = some m := by
  obtain ⟨hj, _⟩ := List.getElem?_eq_some_iff.1 h
  rw [List.getElem?_append_left hj]; exact h

/-- A byte whose spot is new. -/
theorem Bfs.new {s0 : Nat × Nat} {M : List Mk} {i : Nat} {D : List Nat} (h : Bfs s0 M i D) {m : Mk} (hm : M[i]? = some m) {b : Nat} (hb : ∀ x ∈ D, x < b) (hs : (stepF m.sp b).1 ≠ 0) (ho : stepF m.sp b ∉ M.map Mk.sp) :
    Bfs s0 (M ++ [⟨stepF m.sp b, b, i, m.way ++ [b]⟩]) i (D ++ [b]) := by
  have hi : i < M.length := (List.getElem?_eq_some_iff.1 hm).1
  refine ⟨?_, ?_, ?_, ?_, ?_, ?_, ?_⟩
  · obtain ⟨f, h1, h2⟩ := h.first
    exact ⟨f, get_snoc _ h1, h2⟩
  · intro j m' hj h0
    rcases snoc_get hj with hj | ⟨rfl, rfl⟩
    · obtain ⟨l1, l2, l3, p, hp, l4⟩ := h.lnk j m' hj h0
      exact ⟨l1, l2, fun e => List.mem_append.2 (.inl (l3 e)), p, get_snoc _ hp, l4⟩
    · exact ⟨hi, Nat.le_refl _, fun _ => by simp, m, get_snoc _ hm, rfl, rfl, hs⟩
  · intro m' hm'
    rcases List.mem_append.1 hm' with hm' | hm'
    · exact h.oks m' hm'
    · simp at hm'
      subst hm'
      exact step_ok (h.oks m (List.mem_of_getElem? hm)) hs
  · rw [List.map_append, List.nodup_append]
    refine ⟨h.nod, by simp, ?_⟩
    intro a ha c hc e
    simp at hc
    exact ho (by rw [← hc, ← e]; exact ha)
  · intro j k m1 m2 hjk h1 h2
    rcases snoc_get h2 with h2 | ⟨rfl, rfl⟩
    · rcases snoc_get h1 with h1 | ⟨e, _⟩
      · exact h.srt j k m1 m2 hjk h1 h2
      · have := (List.getElem?_eq_some_iff.1 h2).1; omega
    · rcases snoc_get h1 with h1 | ⟨e, _⟩
      · exact h.less hm hb h1
      · omega
  · intro j m' hj hji
    rcases snoc_get hj with hj | ⟨e, _⟩
    · obtain ⟨d1, d2⟩ := h.don j m' hj hji
      refine ⟨d1, fun x hx => ?_⟩
      obtain ⟨q, hq, e⟩ := d2 x hx
      exact ⟨q, List.mem_append.2 (.inl hq), e⟩
    · omega
  · intro m' hm' x hx
    rw [get_snoc _ hm] at hm'
    cases hm'
    rcases List.mem_append.1 hx with hx | hx
    · obtain ⟨q, hq, e⟩ := h.cur m hm x hx
      exact ⟨q, List.mem_append.2 (.inl hq), e⟩
    · simp at hx
      subst hx
      exact ⟨⟨stepF m.sp x, x, i, m.way ++ [x]⟩, List.mem_append.2 (.inr (List.mem_singleton.2 rfl)), rfl, .inl rfl⟩

theorem Bfs.closed {s0 : Nat × Nat} {M : List Mk} {i : Nat} {D : List Nat} (h : Bfs s0 M i D) (hi : M.length ≤ i) : False := by
  have aux : ∀ (v : List Nat) (x : Nat × Nat), x ∈ M.map Mk.sp → (goF x v).2 = v.length → isF (goF x v).1 = true → False := by
    intro v
    induction v with
    | nil =>
      intro x hx _ hf
      obtain ⟨m, hm, rfl⟩ := List.mem_map.1 hx
      obtain ⟨j, hj⟩ := List.mem_iff_getElem?.1 hm
      have hjl := (List.getElem?_eq_some_iff.1 hj).1
      have := (h.don j m hj (by omega)).1
      rw [show (goF m.sp []).1 = m.sp from rfl, this] at hf
      cases hf
    | cons b v ih =>
      intro x hx h1 h2
      obtain ⟨m, hm, rfl⟩ := List.mem_map.1 hx
      obtain ⟨j, hj⟩ := List.mem_iff_getElem?.1 hm
      have hjl := (List.getElem?_eq_some_iff.1 hj).1
      by_cases hn : (stepF m.sp b).1 = 0
      · rw [goF_stop v hn] at h1; simp at h1
      · rw [goF_on v hn] at h1 h2
        obtain ⟨q, hq, e, _⟩ := (h.don j m hj (by omega)).2 b hn
        exact ih _ (e ▸ List.mem_map_of_mem hq) (by simpa using h1) h2
  obtain ⟨m, hm, rfl, _⟩ := h.first
  have hmm := List.mem_of_getElem? hm
  have := compF_goes (h.oks m hmm)
  exact aux _ _ (List.mem_map_of_mem hmm) this.1 this.2

/-- The next mark. -/
theorem Bfs.next {s0 : Nat × Nat} {M : List Mk} {i : Nat} {D : List Nat} (h : Bfs s0 M i D) {m : Mk} (hm : M[i]? = some m) (hf : isF m.sp = false) (hD : D = folF m.sp) : Bfs s0 M (i + 1) [] ∧ i + 1 < M.length := by
  have hb : Bfs s0 M (i + 1) [] := by
    refine ⟨h.first, ?_, h.oks, h.nod, h.srt, ?_, fun m' _ b hb => by cases hb⟩
    · intro j m' hj h0
      obtain ⟨l1, l2, l3, l4⟩ := h.lnk j m' hj h0
      exact ⟨l1, by omega, fun e => by omega, l4⟩
    · intro j m' hj hji
      by_cases e : j = i
      · subst e
        rw [hm] at hj
        cases hj
        exact ⟨hf, fun b hb => h.cur m hm b (by rw [hD]; exact mem_fol.2 hb)⟩
      · exact h.don j m' hj (by omega)
  refine ⟨hb, ?_⟩
  apply Nat.lt_of_not_le
  exact fun hle => hb.closed hle

theorem nodup_le {l m : List (Nat × Nat)} (h : l.Nodup) (hs : ∀ x ∈ l, x ∈ m) : l.length ≤ m.length := by
  induction l generalizing m with
  | nil => exact Nat.zero_le _
  | cons x l ih =>
    have hx := hs x (by simp)
    have := ih (m := m.erase x) (List.nodup_cons.1 h).2 (fun y hy => (List.mem_erase_of_ne (fun (e : y = x) => (List.nodup_cons.1 h).1 (e ▸ hy))).2 (hs y (by simp [hy])))
    rw [List.length_erase_of_mem hx] at this
    have := List.length_pos_of_mem hx
    simp only [List.length_cons]; omega
theorem Bfs.size {s0 : Nat × Nat} {M : List Mk} {i : Nat} {D : List Nat} (h : Bfs s0 M i D) : M.length ≤ 544 := by
  have h1 := nodup_le (m := spots) h.nod (fun x hx => by obtain ⟨m, hm, rfl⟩ := List.mem_map.1 hx; exact mem_spots (h.oks m hm))
  have h2 : spots.length ≤ 544 := by decide +kernel
  rw [List.length_map] at h1
  omega

theorem Bfs.goes {s0 : Nat × Nat} {M : List Mk} {i : Nat} {D : List Nat} (h : Bfs s0 M i D) : ∀ (n j : Nat) (m : Mk), j ≤ n → M[j]? = some m → goF s0 m.way = (m.sp, m.way.length) := by
  intro n
  induction n with
  | zero =>
    intro j m hj hm
    obtain rfl : j = 0 := by omega
    obtain ⟨f, h1, h2, h3⟩ := h.first
    rw [h1] at hm
    cases hm
    rw [h3, ← h2]; rfl
  | succ n ih =>
    intro j m hj hm
    by_cases h0 : j = 0
    · exact ih j m (by omega) hm
    · obtain ⟨l1, _, _, p, hp, hw, hsp, hn⟩ := h.lnk j m hm (by omega)
      have e := ih m.fr p (by omega) hp
      rw [hw, goF_app _ (by rw [e]), e, goF_on _ hn, hsp]
      simp [goF]

/-- The first mark that is a file was come to by the least way. -/
theorem Bfs.ends {s0 : Nat × Nat} {M : List Mk} {i : Nat} {D : List Nat} (h : Bfs s0 M i D) {m : Mk} (hm : M[i]? = some m) (hf : isF m.sp = true) : m.way = compF s0 := by
  obtain ⟨f, f1, f2, f3⟩ := h.first
  have ok0 : okS s0 = true := f2 ▸ h.oks f (List.mem_of_getElem? f1)
  have hg := h.goes i i m (Nat.le_refl _) hm
  refine sle_anti ?_ (compF_least ok0 (by rw [hg]) (by rw [hg]; exact hf))
  have aux : ∀ (v pre : List Nat) (q : Mk), q ∈ M → sle q.way pre → (goF q.sp v).2 = v.length → isF (goF q.sp v).1 = true → sle m.way (pre ++ v) := by
    intro v
    induction v with
    | nil =>
      intro pre q hq hs _ hfq
      obtain ⟨j, hj⟩ := List.mem_iff_getElem?.1 hq
      rw [List.append_nil]
      by_cases hji : j < i
      · have := (h.don j q hj hji).1
        rw [show (goF q.sp []).1 = q.sp from rfl, this] at hfq
        cases hfq
      · refine sle_trans ?_ hs
        rcases Nat.lt_or_eq_of_le (Nat.le_of_not_lt hji) with hij | hij
        · exact .inr (h.srt i j m q hij hm hj)
        · subst hij; rw [hm] at hj; cases hj; exact .inl rfl
    | cons b v ih =>
      intro pre q hq hs h1 h2
      obtain ⟨j, hj⟩ := List.mem_iff_getElem?.1 hq
      by_cases hji : j < i
      · by_cases hn : (stepF q.sp b).1 = 0
        · rw [goF_stop v hn] at h1; simp at h1
        · rw [goF_on v hn] at h1 h2
          obtain ⟨q', hq', e, hs'⟩ := (h.don j q hj hji).2 b hn
          have := ih (pre ++ [b]) q' hq' (sle_trans hs' (sle_snoc b hs)) (by rw [e]; simpa using h1) (by rw [e]; exact h2)
          simpa using this
      · have h3 : sle m.way q.way := by
          rcases Nat.lt_or_eq_of_le (Nat.le_of_not_lt hji) with hij | hij
          · exact .inr (h.srt i j m q hij hm hj)
          · subst hij; rw [hm] at hj; cases hj; exact .inl rfl
        exact sle_trans h3 (sle_trans hs (sle_app _ _))
  have hc := compF_goes ok0
  have := aux (compF s0) [] f (List.mem_of_getElem? f1) (by rw [f3]; exact .inl rfl) (by rw [f2]; exact hc.1) (by rw [f2]; exact hc.2)
  simpa using this

end Go.Proofs.YtmagchclmmphaabGreatDoor
