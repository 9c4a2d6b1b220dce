import Derived.Test.YtmagchclmmphaabGreatDoorGB
namespace Go.Proofs.YtmagchclmmphaabGreatDoor

/-! ### Runs of bytes, as lists -/
def endC (D : List (List Nat)) (c : List Nat) : List (List Nat) := D ++ (if c = [] then [] else [c])
theorem endC_nil (D : List (List Nat)) : endC D [] = D := by simp [endC]
theorem endC_ne (D : List (List Nat)) {c : List Nat} (h : c ≠ []) : endC D c = D ++ [c] := by simp [endC, h]
/-- The longest runs of such bytes; c is what has been read of the one at hand. -/
def runsF (h : Nat → Bool) : List Nat → List Nat → List (List Nat)
  | c, [] => endC [] c
  | c, b :: t => if h b then runsF h (c ++ [b]) t else endC [] c ++ runsF h [] t
/-- Behind u the runs D stand, and c of the next one. -/
def RunS (h : Nat → Bool) (u : List Nat) (D : List (List Nat)) (c : List Nat) : Prop := ∀ t, runsF h [] (u ++ t) = D ++ runsF h c t
theorem RunS.nil (h : Nat → Bool) : RunS h [] [] [] := fun t => by simp
theorem RunS.on {h : Nat → Bool} {u c : List Nat} {D : List (List Nat)} {b : Nat} (r : RunS h u D c) (hb : h b = true) : RunS h (u ++ [b]) D (c ++ [b]) := fun t => by
  rw [List.append_assoc, r, List.singleton_append, runsF, if_pos hb]
theorem RunS.off {h : Nat → Bool} {u c : List Nat} {D : List (List Nat)} {b : Nat} (r : RunS h u D c) (hb : h b = false) : RunS h (u ++ [b]) (endC D c) [] := fun t => by
  rw [List.append_assoc, r, List.singleton_append, runsF, if_neg (by simp [hb])]
  simp [endC]
theorem RunS.all {h : Nat → Bool} {u c : List Nat} {D : List (List Nat)} (r : RunS h u D c) : runsF h [] u = endC D c := by
  have := r []
  rw [List.append_nil] at this
  rw [this]
  simp [runsF, endC]
theorem RunS.void {h : Nat → Bool} {c : List Nat} {D : List (List Nat)} (r : RunS h [] D c) : D = [] ∧ c = [] := by
  have := r.all
  simp only [runsF, endC, if_true, List.append_nil] at this
  have h2 := List.append_eq_nil_iff.1 this.symm
  refine ⟨h2.1, ?_⟩
  have := h2.2
  split at this
  · assumption
  · cases this

/-! ### The lines of a file -/
def wOps : List Nat := [79, 112, 115]
def wAut : List Nat := [65, 117, 116, 111, 109, 97, 116, 111, 110]
def wSta : List Nat := [83, 116, 97, 116, 101, 115]
def wFin : List Nat := [70, 105, 110, 97, 108]
def wTra : List Nat := [84, 114, 97, 110, 115, 105, 116, 105, 111, 110, 115]
/-- Ops: names and arities. -/
def flatO (P : List (List Nat × Nat)) : List (List Nat) := P.flatMap fun x => [x.1, [x.2]]
def arO (P : List (List Nat × Nat)) : Prop := ∀ x ∈ P, x.2 = 48 ∨ x.2 = 49
theorem flatO_add (P : List (List Nat × Nat)) (n : List Nat) (d : Nat) : flatO (P ++ [(n, d)]) = flatO P ++ [n] ++ [[d]] := by simp [flatO]
theorem arO_add {P : List (List Nat × Nat)} (h : arO P) (n : List Nat) {d : Nat} (hd : d = 48 ∨ d = 49) : arO (P ++ [(n, d)]) := by
  intro x hx
  rcases List.mem_append.1 hx with hx | hx
  · exact h x hx
  · simp at hx; subst hx; exact hd
def ruleL (L : List (List Nat)) : Prop := (∃ a b, L = [a, b]) ∨ ∃ a b c, L = [a, b, c]
/-- What a line's pieces may be, by what comes next. -/
def fineL (pl : Nat) (L : List (List Nat)) : Prop := L = [] ∨
  (pl = 0 ∧ ∃ P, arO P ∧ L = wOps :: flatO P) ∨ (pl = 1 ∧ ∃ n, L = [wAut, n]) ∨ (pl = 2 ∧ ∃ M, L = wSta :: M) ∨ (pl = 3 ∧ ∃ M, L = wFin :: wSta :: M) ∨ (pl = 4 ∧ L = [wTra]) ∨ (pl = 5 ∧ ruleL L)
def nextL (pl : Nat) (L : List (List Nat)) : Nat := if L = [] then pl else min (pl + 1) 5
def shortL (L : List (List Nat)) : Prop := ∀ x ∈ L, 0 < x.length ∧ x.length ≤ 16
theorem shortL_end {D : List (List Nat)} {c : List Nat} (h : shortL D) (hc : c.length ≤ 16) : shortL (endC D c) := by
  intro x hx
  unfold endC at hx
  rcases List.mem_append.1 hx with hx | hx
  · exact h x hx
  · split at hx
    · cases hx
    · rename_i hne
      simp at hx; subst hx
      exact ⟨List.length_pos_iff.2 hne, hc⟩
/-- What has been read of a line at a place. -/
def CurP (p r pl : Nat) (D : List (List Nat)) (c : List Nat) : Prop :=
  match p with
  | 1 => pl = 0 ∧ D = [] ∧ c = wOps.take r
  | 2 => pl = 0 ∧ D = [] ∧ c = []
  | 3 => pl = 0 ∧ c ≠ [] ∧ c.length ≤ 16 ∧ ∃ P, arO P ∧ D ++ [c] = wOps :: flatO P
  | 4 => pl = 0 ∧ c = [] ∧ ∃ P, arO P ∧ D = wOps :: flatO P
  | 5 => pl = 0 ∧ c.length = r ∧ ∃ P, arO P ∧ D = wOps :: flatO P
  | 6 => pl = 0 ∧ c = [] ∧ ∃ P n, arO P ∧ D = wOps :: flatO P ++ [n]
  | 7 => pl = 1 ∧ D = [] ∧ c = wAut.take r
  | 8 => pl = 1 ∧ D = [] ∧ c = []
  | 9 => pl = 1 ∧ D = [] ∧ c = wAut
  | 10 => pl = 1 ∧ D = [wAut] ∧ c = []
  | 11 => pl = 1 ∧ D = [wAut] ∧ c.length = r
  | 12 => pl = 2 ∧ D = [] ∧ c = wSta.take r
  | 13 => c = [] ∧ ((pl = 1 ∧ ∃ n, D = [wAut, n]) ∨ (pl = 2 ∧ D = []))
  | 14 => pl = 2 ∧ D = [] ∧ c = wSta
  | 15 => pl = 2 ∧ c = [] ∧ ∃ M, D = wSta :: M
  | 16 => pl = 2 ∧ c.length = r ∧ ∃ M, D = wSta :: M
  | 17 => pl = 3 ∧ ((r ≤ 5 ∧ D = [] ∧ c = wFin.take r) ∨ (6 ≤ r ∧ D = [wFin] ∧ c = wSta.take (r - 6)))
  | 18 => pl = 3 ∧ D = [] ∧ c = []
  | 19 => pl = 3 ∧ D = [wFin] ∧ c = wSta
  | 20 => pl = 3 ∧ c = [] ∧ ∃ M, D = wFin :: wSta :: M
  | 21 => pl = 3 ∧ c.length = r ∧ ∃ M, D = wFin :: wSta :: M
  | 22 => pl = 4 ∧ D = [] ∧ c = wTra.take r
  | 23 => pl = 4 ∧ D = [] ∧ c = []
  | 24 => pl = 5 ∧ D = [] ∧ c = []
  | 25 => (pl = 4 ∧ ((D = [] ∧ c = wTra) ∨ (D = [wTra] ∧ c = []))) ∨ (pl = 5 ∧ c = [] ∧ (D = [] ∨ ruleL D))
  | 26 => pl = 5 ∧ D = [] ∧ c.length = r
  | 27 => pl = 5 ∧ c = [] ∧ ∃ a, D = [a]
  | 28 => pl = 5 ∧ c.length = r ∧ ∃ a, D = [a]
  | 29 => pl = 5 ∧ c = [] ∧ ((∃ a, D = [a]) ∨ ∃ a b, D = [a, b])
  | 30 => pl = 5 ∧ c = [] ∧ ((∃ a, D = [a]) ∨ ∃ a b, D = [a, b])
  | 31 => pl = 5 ∧ c.length = r ∧ ((∃ a, D = [a]) ∨ ∃ a b, D = [a, b])
  | _ => False
theorem ne_of_len {c : List Nat} {r : Nat} (h : c.length = r) (hr : 1 ≤ r) : c ≠ [] := by
  rintro rfl; simp at h; omega

/-- A line feed. -/
theorem cur_feed {p r pl : Nat} {D : List (List Nat)} {c : List Nat} (hr : nameOf p = p → 1 ≤ r) (hw : wordOf p ≠ [] → r = 0) (h : CurP p r pl D c) (hf : feedOf p ≠ 0) : fineL pl (endC D c) ∧ CurP (feedOf p) 0 (nextL pl (endC D c)) [] [] := by
  match p, h with
  | 1, ⟨h1, h2, h3⟩ => obtain rfl := hw (by decide); subst h1 h2 h3; exact ⟨.inl rfl, rfl, rfl, rfl⟩
  | 2, ⟨h1, h2, h3⟩ => subst h1 h2 h3; exact ⟨.inl rfl, rfl, rfl, rfl⟩
  | 3, ⟨h1, h2, _, P, hP, e⟩ => subst h1; rw [endC_ne _ h2, e]; exact ⟨.inr (.inl ⟨rfl, P, hP, rfl⟩), by simp [CurP, nextL, feedOf]⟩
  | 4, ⟨h1, h2, P, hP, e⟩ => subst h1 h2 e; rw [endC_nil]; exact ⟨.inr (.inl ⟨rfl, P, hP, rfl⟩), by simp [CurP, nextL, feedOf]⟩
  | 7, ⟨h1, h2, h3⟩ => obtain rfl := hw (by decide); subst h1 h2 h3; exact ⟨.inl rfl, rfl, rfl, rfl⟩
  | 8, ⟨h1, h2, h3⟩ => subst h1 h2 h3; exact ⟨.inl rfl, rfl, rfl, rfl⟩
  | 11, ⟨h1, h2, h3⟩ => subst h1 h2; rw [endC_ne _ (ne_of_len h3 (hr rfl))]; exact ⟨.inr (.inr (.inl ⟨rfl, c, rfl⟩)), by simp [CurP, nextL, feedOf]⟩
  | 12, ⟨h1, h2, h3⟩ => obtain rfl := hw (by decide); subst h1 h2 h3; exact ⟨.inl rfl, rfl, rfl, rfl⟩
  | 13, ⟨h1, k⟩ =>
    subst h1; rw [endC_nil]
    rcases k with ⟨rfl, n, rfl⟩ | ⟨rfl, rfl⟩
    · exact ⟨.inr (.inr (.inl ⟨rfl, n, rfl⟩)), by simp [CurP, nextL, feedOf]⟩
    · exact ⟨.inl rfl, by simp [CurP, nextL, feedOf]⟩
  | 14, ⟨h1, h2, h3⟩ => subst h1 h2 h3; exact ⟨.inr (.inr (.inr (.inl ⟨rfl, [], by simp [endC, wSta]⟩))), by simp [CurP, nextL, feedOf, endC, wSta]⟩
  | 15, ⟨h1, h2, M, e⟩ => subst h1 h2 e; rw [endC_nil]; exact ⟨.inr (.inr (.inr (.inl ⟨rfl, M, rfl⟩))), by simp [CurP, nextL, feedOf]⟩
  | 16, ⟨h1, h2, M, e⟩ => subst h1 e; rw [endC_ne _ (ne_of_len h2 (hr rfl))]; exact ⟨.inr (.inr (.inr (.inl ⟨rfl, M ++ [c], rfl⟩))), by simp [CurP, nextL, feedOf]⟩
  | 17, ⟨h1, k⟩ =>
    obtain rfl := hw (by decide)
    rcases k with ⟨_, h2, h3⟩ | ⟨h, _⟩
    · subst h1 h2 h3; exact ⟨.inl rfl, by simp [CurP, nextL, feedOf, endC, wFin]⟩
    · omega
  | 18, ⟨h1, h2, h3⟩ => subst h1 h2 h3; exact ⟨.inl rfl, by simp [CurP, nextL, feedOf, endC, wFin]⟩
  | 19, ⟨h1, h2, h3⟩ => subst h1 h2 h3; exact ⟨.inr (.inr (.inr (.inr (.inl ⟨rfl, [], by simp [endC, wSta]⟩)))), by simp [CurP, nextL, feedOf, endC]⟩
  | 20, ⟨h1, h2, M, e⟩ => subst h1 h2 e; rw [endC_nil]; exact ⟨.inr (.inr (.inr (.inr (.inl ⟨rfl, M, rfl⟩)))), by simp [CurP, nextL, feedOf]⟩
  | 21, ⟨h1, h2, M, e⟩ => subst h1 e; rw [endC_ne _ (ne_of_len h2 (hr rfl))]; exact ⟨.inr (.inr (.inr (.inr (.inl ⟨rfl, M ++ [c], rfl⟩)))), by simp [CurP, nextL, feedOf]⟩
  | 22, ⟨h1, h2, h3⟩ => obtain rfl := hw (by decide); subst h1 h2 h3; exact ⟨.inl rfl, rfl, rfl, rfl⟩
  | 23, ⟨h1, h2, h3⟩ => subst h1 h2 h3; exact ⟨.inl rfl, rfl, rfl, rfl⟩
  | 24, ⟨h1, h2, h3⟩ => subst h1 h2 h3; exact ⟨.inl rfl, rfl, rfl, rfl⟩
  | 25, k =>
    rcases k with ⟨rfl, ⟨rfl, rfl⟩ | ⟨rfl, rfl⟩⟩ | ⟨rfl, rfl, k⟩
    · exact ⟨.inr (.inr (.inr (.inr (.inr (.inl ⟨rfl, by simp [endC, wTra]⟩))))), by simp [CurP, nextL, feedOf, endC, wTra]⟩
    · exact ⟨.inr (.inr (.inr (.inr (.inr (.inl ⟨rfl, by simp [endC]⟩))))), by simp [CurP, nextL, feedOf, endC]⟩
    · rw [endC_nil]
      rcases k with rfl | k
      · exact ⟨.inl rfl, by simp [CurP, nextL, feedOf]⟩
      · refine ⟨.inr (.inr (.inr (.inr (.inr (.inr ⟨rfl, k⟩))))), ?_⟩
        have hne : D ≠ [] := by rintro rfl; rcases k with ⟨a, b, e⟩ | ⟨a, b, c, e⟩ <;> cases e
        simp [CurP, nextL, feedOf, hne]
  | 31, ⟨h1, h2, k⟩ =>
    subst h1; rw [endC_ne _ (ne_of_len h2 (hr rfl))]
    refine ⟨.inr (.inr (.inr (.inr (.inr (.inr ⟨rfl, ?_⟩))))), by simp [CurP, nextL, feedOf]⟩
    rcases k with ⟨a, rfl⟩ | ⟨a, b, rfl⟩
    · exact .inl ⟨a, c, rfl⟩
    · exact .inr ⟨a, b, c, rfl⟩
  | 5, _ | 6, _ | 9, _ | 10, _ | 26, _ | 27, _ | 28, _ | 29, _ | 30, _ => exact absurd rfl hf

/-- A blank. -/
theorem cur_blank {p r pl : Nat} {D : List (List Nat)} {c : List Nat} (hr : nameOf p = p → 1 ≤ r) (hw : wordOf p ≠ [] → r = 0) (h : CurP p r pl D c) (hf : blankOf p ≠ 0) : CurP (blankOf p) 0 pl (endC D c) [] := by
  match p, h with
  | 1, ⟨h1, h2, h3⟩ => obtain rfl := hw (by decide); subst h1 h2 h3; exact ⟨rfl, rfl, rfl⟩
  | 2, ⟨h1, h2, h3⟩ => subst h1 h2 h3; exact ⟨rfl, rfl, rfl⟩
  | 3, ⟨h1, h2, _, P, hP, e⟩ => subst h1; rw [endC_ne _ h2, e]; exact ⟨rfl, rfl, P, hP, rfl⟩
  | 4, ⟨h1, h2, P, hP, e⟩ => subst h1 h2 e; rw [endC_nil]; exact ⟨rfl, rfl, P, hP, rfl⟩
  | 7, ⟨h1, h2, h3⟩ => obtain rfl := hw (by decide); subst h1 h2 h3; exact ⟨rfl, rfl, rfl⟩
  | 8, ⟨h1, h2, h3⟩ => subst h1 h2 h3; exact ⟨rfl, rfl, rfl⟩
  | 9, ⟨h1, h2, h3⟩ => subst h1 h2 h3; exact ⟨rfl, by simp [endC, wAut], rfl⟩
  | 10, ⟨h1, h2, h3⟩ => subst h1 h2 h3; exact ⟨rfl, by simp [endC], rfl⟩
  | 11, ⟨h1, h2, h3⟩ => subst h1 h2; rw [endC_ne _ (ne_of_len h3 (hr rfl))]; exact ⟨rfl, .inl ⟨rfl, c, rfl⟩⟩
  | 12, ⟨h1, h2, h3⟩ => obtain rfl := hw (by decide); subst h1 h2 h3; exact ⟨rfl, .inr ⟨rfl, rfl⟩⟩
  | 13, ⟨h1, k⟩ => subst h1; rw [endC_nil]; exact ⟨rfl, k⟩
  | 14, ⟨h1, h2, h3⟩ => subst h1 h2 h3; exact ⟨rfl, rfl, [], by simp [endC, wSta]⟩
  | 15, ⟨h1, h2, M, e⟩ => subst h1 h2 e; rw [endC_nil]; exact ⟨rfl, rfl, M, rfl⟩
  | 16, ⟨h1, h2, M, e⟩ => subst h1 e; rw [endC_ne _ (ne_of_len h2 (hr rfl))]; exact ⟨rfl, rfl, M ++ [c], rfl⟩
  | 17, ⟨h1, k⟩ =>
    obtain rfl := hw (by decide)
    rcases k with ⟨_, h2, h3⟩ | ⟨h, _⟩
    · subst h1 h2 h3; exact ⟨rfl, rfl, rfl⟩
    · omega
  | 18, ⟨h1, h2, h3⟩ => subst h1 h2 h3; exact ⟨rfl, rfl, rfl⟩
  | 19, ⟨h1, h2, h3⟩ => subst h1 h2 h3; exact ⟨rfl, rfl, [], by simp [endC, wSta]⟩
  | 20, ⟨h1, h2, M, e⟩ => subst h1 h2 e; rw [endC_nil]; exact ⟨rfl, rfl, M, rfl⟩
  | 21, ⟨h1, h2, M, e⟩ => subst h1 e; rw [endC_ne _ (ne_of_len h2 (hr rfl))]; exact ⟨rfl, rfl, M ++ [c], rfl⟩
  | 22, ⟨h1, h2, h3⟩ => obtain rfl := hw (by decide); subst h1 h2 h3; exact ⟨rfl, rfl, rfl⟩
  | 23, ⟨h1, h2, h3⟩ => subst h1 h2 h3; exact ⟨rfl, rfl, rfl⟩
  | 24, ⟨h1, h2, h3⟩ => subst h1 h2 h3; exact .inr ⟨rfl, rfl, .inl rfl⟩
  | 25, k =>
    rcases k with ⟨rfl, ⟨rfl, rfl⟩ | ⟨rfl, rfl⟩⟩ | ⟨rfl, rfl, k⟩
    · exact .inl ⟨rfl, .inr ⟨by simp [endC, wTra], rfl⟩⟩
    · exact .inl ⟨rfl, .inr ⟨by simp [endC], rfl⟩⟩
    · rw [endC_nil]; exact .inr ⟨rfl, rfl, k⟩
  | 29, ⟨h1, h2, k⟩ => subst h1 h2; rw [endC_nil]; exact ⟨rfl, rfl, k⟩
  | 30, ⟨h1, h2, k⟩ => subst h1 h2; rw [endC_nil]; exact ⟨rfl, rfl, k⟩
  | 31, ⟨h1, h2, k⟩ =>
    subst h1; rw [endC_ne _ (ne_of_len h2 (hr rfl))]
    refine .inr ⟨rfl, rfl, .inr ?_⟩
    rcases k with ⟨a, rfl⟩ | ⟨a, b, rfl⟩
    · exact .inl ⟨a, c, rfl⟩
    · exact .inr ⟨a, b, c, rfl⟩
  | 5, _ | 6, _ | 26, _ | 27, _ | 28, _ => exact absurd rfl hf

/-- A byte of a name. -/
theorem cur_name {p r b pl : Nat} {D : List (List Nat)} {c : List Nat} (h : CurP p r pl D c) (hf : (alongN p r).1 ≠ 0) : CurP (alongN p r).1 (alongN p r).2 pl D (c ++ [b]) := by
  have stay : ∀ p, nameOf p = p → (alongN p r).1 ≠ 0 → alongN p r = (p, r + 1) := by
    intro p hp hn
    unfold alongN at hn ⊢
    rw [if_neg (by simp [hp])] at hn ⊢
    split
    · rename_i h; rw [if_pos h] at hn; exact absurd rfl hn
    · rfl
  match p, h with
  | 4, ⟨h1, h2, P, hP, e⟩ => subst h1 h2; exact ⟨rfl, rfl, P, hP, e⟩
  | 5, ⟨h1, h2, P, hP, e⟩ => rw [stay 5 rfl hf]; exact ⟨h1, by simp [h2], P, hP, e⟩
  | 10, ⟨h1, h2, h3⟩ => subst h3; exact ⟨h1, h2, rfl⟩
  | 11, ⟨h1, h2, h3⟩ => rw [stay 11 rfl hf]; exact ⟨h1, h2, by simp [h3]⟩
  | 15, ⟨h1, h2, h3⟩ => subst h2; exact ⟨h1, rfl, h3⟩
  | 16, ⟨h1, h2, h3⟩ => rw [stay 16 rfl hf]; exact ⟨h1, by simp [h2], h3⟩
  | 20, ⟨h1, h2, h3⟩ => subst h2; exact ⟨h1, rfl, h3⟩
  | 21, ⟨h1, h2, h3⟩ => rw [stay 21 rfl hf]; exact ⟨h1, by simp [h2], h3⟩
  | 24, ⟨h1, h2, h3⟩ => subst h3; exact ⟨h1, h2, rfl⟩
  | 26, ⟨h1, h2, h3⟩ => rw [stay 26 rfl hf]; exact ⟨h1, h2, by simp [h3]⟩
  | 27, ⟨h1, h2, h3⟩ => subst h2; exact ⟨h1, rfl, h3⟩
  | 28, ⟨h1, h2, h3⟩ => rw [stay 28 rfl hf]; exact ⟨h1, by simp [h2], h3⟩
  | 30, ⟨h1, h2, h3⟩ => subst h2; exact ⟨h1, rfl, h3⟩
  | 31, ⟨h1, h2, h3⟩ => rw [stay 31 rfl hf]; exact ⟨h1, by simp [h2], h3⟩
  | 1, _ | 2, _ | 3, _ | 6, _ | 7, _ | 8, _ | 9, _ | 12, _ | 13, _ | 14, _ | 17, _ | 18, _ | 19, _ | 22, _ | 23, _ | 25, _ | 29, _ => exact absurd rfl hf

/-- A sign: 0 and 1 are bytes of names, the others aren't. -/
theorem cur_sign {p r b pl : Nat} {D : List (List Nat)} {c : List Nat} (hr : nameOf p = p → 1 ≤ r) (h : CurP p r pl D c) (hf : (signsOf p).contains b = true) :
    (b = 48 ∨ b = 49) ∧ CurP (pastOf p) 0 pl D (c ++ [b]) ∨ (b = 58 ∨ b = 40 ∨ b = 41) ∧ CurP (pastOf p) 0 pl (endC D c) [] := by
  match p, h with
  | 5, ⟨h1, h2, P, hP, e⟩ =>
    subst h1 e
    refine .inr ⟨.inl (by simpa [signsOf] using hf), rfl, rfl, P, c, hP, ?_⟩
    rw [endC_ne _ (ne_of_len h2 (hr rfl))]
  | 6, ⟨h1, h2, P, n, hP, e⟩ =>
    subst h1 h2 e
    have hb : b = 48 ∨ b = 49 := by simpa [signsOf] using hf
    exact .inl ⟨hb, rfl, by simp, by simp, P ++ [(n, b)], arO_add hP n hb, by simp [flatO]⟩
  | 26, ⟨h1, h2, h3⟩ =>
    subst h1 h2
    refine .inr ⟨.inr (.inl (by simpa [signsOf] using hf)), rfl, rfl, c, ?_⟩
    rw [endC_ne _ (ne_of_len h3 (hr rfl))]; rfl
  | 27, ⟨h1, h2, a, e⟩ =>
    subst h1 h2 e
    exact .inr ⟨.inr (.inr (by simpa [signsOf] using hf)), rfl, rfl, .inl ⟨a, by simp [endC]⟩⟩
  | 28, ⟨h1, h2, a, e⟩ =>
    subst h1 e
    refine .inr ⟨.inr (.inr (by simpa [signsOf] using hf)), rfl, rfl, .inr ⟨a, c, ?_⟩⟩
    rw [endC_ne _ (ne_of_len h2 (hr rfl))]; rfl
  | 1, _ | 2, _ | 3, _ | 4, _ | 7, _ | 8, _ | 9, _ | 10, _ | 11, _ | 12, _ | 13, _ | 14, _ | 15, _ | 16, _ | 17, _ | 18, _ | 19, _ | 20, _ | 21, _ | 22, _ | 23, _ | 24, _ | 25, _ | 29, _ | 30, _ | 31, _ => cases hf

theorem take_one {w : List Nat} {r : Nat} (h : r < w.length) : w.take r ++ [w.getD r 0] = w.take (r + 1) := by
  rw [List.take_add_one, List.getElem?_eq_getElem h]
  simp [h]
/-- A byte of a word. -/
theorem cur_word {p r pl : Nat} {D : List (List Nat)} {c : List Nat} (hw : wordOf p ≠ []) (hr : r < (wordOf p).length) (h : CurP p r pl D c) :
    isNm ((wordOf p).getD r 0) = true ∧ CurP (alongW p r).1 (alongW p r).2 pl D (c ++ [(wordOf p).getD r 0]) ∨
    isNm ((wordOf p).getD r 0) = false ∧ (wordOf p).getD r 0 ≠ 10 ∧ CurP (alongW p r).1 (alongW p r).2 pl (endC D c) [] := by
  have one : ∀ q (w : List Nat), wordOf q = w → r < w.length → (∀ j, j < w.length → isNm (w.getD j 0) = true) → (∀ j, j < w.length → CurP q j pl D (w.take j)) → CurP (pastOf q) 0 pl D w → c = w.take r → isNm ((wordOf q).getD r 0) = true ∧ CurP (alongW q r).1 (alongW q r).2 pl D (c ++ [(wordOf q).getD r 0]) := by
    intro q w e hr hn h1 h2 hc
    subst e
    refine ⟨hn r hr, ?_⟩
    rw [hc, take_one hr]
    unfold alongW
    split
    · rename_i hl
      rw [hl, List.take_length]
      exact h2
    · exact h1 (r + 1) (by omega)
  match p, h with
  | 1, ⟨h1, h2, h3⟩ => exact .inl (one 1 wOps rfl hr (by decide) (fun j hj => ⟨h1, h2, rfl⟩) ⟨h1, by decide, by decide, [], by simp [arO], by rw [h2]; rfl⟩ h3)
  | 7, ⟨h1, h2, h3⟩ => exact .inl (one 7 wAut rfl hr (by decide) (fun j hj => ⟨h1, h2, rfl⟩) ⟨h1, h2, rfl⟩ h3)
  | 12, ⟨h1, h2, h3⟩ => exact .inl (one 12 wSta rfl hr (by decide) (fun j hj => ⟨h1, h2, rfl⟩) ⟨h1, h2, rfl⟩ h3)
  | 22, ⟨h1, h2, h3⟩ => exact .inl (one 22 wTra rfl hr (by decide) (fun j hj => ⟨h1, h2, rfl⟩) (.inl ⟨h1, .inl ⟨h2, rfl⟩⟩) h3)
  | 17, ⟨h1, k⟩ =>
    have hr' : r < 12 := hr
    rcases k with ⟨h2, h3, h4⟩ | ⟨h2, h3, h4⟩
    · by_cases h5 : r = 5
      · subst h5 h3 h4
        exact .inr ⟨by decide, by decide, h1, .inr ⟨by decide, by decide, rfl⟩⟩
      · left
        have hlt : r < 5 := by omega
        have e : (wordOf 17).getD r 0 = wFin.getD r 0 := by
          match r, hlt with
          | 0, _ | 1, _ | 2, _ | 3, _ | 4, _ => rfl
        have n : isNm ((wordOf 17).getD r 0) = true := by
          match r, hlt with
          | 0, _ | 1, _ | 2, _ | 3, _ | 4, _ => rfl
        have ea : alongW 17 r = (17, r + 1) := by
          match r, hlt with
          | 0, _ | 1, _ | 2, _ | 3, _ | 4, _ => rfl
        refine ⟨n, ?_⟩
        rw [ea, e, h4, take_one (w := wFin) (by show r < 5; omega)]
        exact ⟨h1, .inl ⟨by omega, h3, rfl⟩⟩
    · left
      obtain ⟨k, rfl⟩ : ∃ k, r = 6 + k := ⟨r - 6, by omega⟩
      have hk : k < 6 := by omega
      rw [Nat.add_sub_cancel_left] at h4
      have e : (wordOf 17).getD (6 + k) 0 = wSta.getD k 0 := by
        match k, hk with
        | 0, _ | 1, _ | 2, _ | 3, _ | 4, _ | 5, _ => rfl
      have n : isNm ((wordOf 17).getD (6 + k) 0) = true := by
        match k, hk with
        | 0, _ | 1, _ | 2, _ | 3, _ | 4, _ | 5, _ => rfl
      refine ⟨n, ?_⟩
      rw [e, h4, take_one (w := wSta) hk]
      by_cases h5 : k = 5
      · subst h5; exact ⟨h1, h3, rfl⟩
      · have ea : alongW 17 (6 + k) = (17, 6 + (k + 1)) := by
          have hk' : k < 5 := by omega
          match k, hk' with
          | 0, _ | 1, _ | 2, _ | 3, _ | 4, _ => rfl
        rw [ea]
        exact ⟨h1, .inr ⟨by simp, h3, by show _ = List.take (6 + (k + 1) - 6) wSta; rw [Nat.add_sub_cancel_left]⟩⟩
  | 29, ⟨h1, h2, k⟩ =>
    subst h2
    have hr' : r < 2 := hr
    right
    rw [endC_nil]
    match r, hr' with
    | 0, _ => exact ⟨rfl, by decide, h1, rfl, k⟩
    | 1, _ => exact ⟨rfl, by decide, h1, rfl, k⟩
  | 2, _ | 3, _ | 4, _ | 5, _ | 6, _ | 8, _ | 9, _ | 10, _ | 11, _ | 13, _ | 14, _ | 15, _ | 16, _ | 18, _ | 19, _ | 20, _ | 21, _ | 23, _ | 24, _ | 25, _ | 26, _ | 27, _ | 28, _ | 30, _ | 31, _ => exact absurd rfl hw
end Go.Proofs.YtmagchclmmphaabGreatDoor
namespace Go.Proofs.YtmagchclmmphaabGreatDoor

def fdB (b : Nat) : Bool := b != 10
/-- Lines that a file may begin with, and what comes next. -/
inductive Good : List (List Nat) → Nat → Prop
  | nil : Good [] 0
  | add {Ls : List (List Nat)} {pl : Nat} (l : List Nat) : Good Ls pl → fineL pl (runsF isNm [] l) → shortL (runsF isNm [] l) → Good (Ls ++ [l]) (nextL pl (runsF isNm [] l))
/-- What has been read of a file. -/
def InvL (q : Nat × Nat) (u : List Nat) : Prop := ∃ pl Ls c D cur, RunS fdB u Ls c ∧ RunS isNm c D cur ∧ Good Ls pl ∧ CurP q.1 q.2 pl D cur ∧ shortL D

theorem ok_word {p r : Nat} (h : okS (p, r) = true) (hw : wordOf p ≠ []) : r < (wordOf p).length := by
  simp only [okS, Bool.and_eq_true] at h
  have := h.2
  rw [if_pos hw] at this
  simpa using this
theorem ok_name {p r : Nat} (h : okS (p, r) = true) (hn : nameOf p = p) : 1 ≤ r ∧ r ≤ 16 := by
  have hb := ok_bound h
  have hw : wordOf p = [] := by
    have : ∀ p, p < 32 → 1 ≤ p → nameOf p = p → wordOf p = [] := by decide
    exact this p hb.2.1 hb.1 hn
  simp only [okS, Bool.and_eq_true] at h
  have := h.2
  rw [if_neg (by simp [hw]), if_pos hn] at this
  simpa using this
theorem cur_len {p r pl : Nat} {D : List (List Nat)} {c : List Nat} (hs : okS (p, r) = true) (h : CurP p r pl D c) : c.length ≤ 16 := by
  have len : ∀ (w : List Nat), w.length ≤ 16 → (w.take r).length ≤ 16 := fun w hw => by rw [List.length_take]; omega
  match p, h with
  | 1, ⟨_, _, e⟩ => rw [e]; exact len wOps (by decide)
  | 7, ⟨_, _, e⟩ => rw [e]; exact len wAut (by decide)
  | 12, ⟨_, _, e⟩ => rw [e]; exact len wSta (by decide)
  | 22, ⟨_, _, e⟩ => rw [e]; exact len wTra (by decide)
  | 17, ⟨_, .inl ⟨_, _, e⟩⟩ => rw [e]; exact len wFin (by decide)
  | 17, ⟨_, .inr ⟨_, _, e⟩⟩ => rw [e, List.length_take]; exact Nat.le_trans (Nat.min_le_right _ _) (by decide)
  | 3, ⟨_, _, e, _⟩ => exact e
  | 9, ⟨_, _, e⟩ => rw [e]; decide
  | 14, ⟨_, _, e⟩ => rw [e]; decide
  | 19, ⟨_, _, e⟩ => rw [e]; decide
  | 5, ⟨_, e, _⟩ => rw [e]; exact (ok_name hs rfl).2
  | 11, ⟨_, _, e⟩ => rw [e]; exact (ok_name hs rfl).2
  | 16, ⟨_, e, _⟩ => rw [e]; exact (ok_name hs rfl).2
  | 21, ⟨_, e, _⟩ => rw [e]; exact (ok_name hs rfl).2
  | 26, ⟨_, _, e⟩ => rw [e]; exact (ok_name hs rfl).2
  | 28, ⟨_, e, _⟩ => rw [e]; exact (ok_name hs rfl).2
  | 31, ⟨_, e, _⟩ => rw [e]; exact (ok_name hs rfl).2
  | 25, k =>
    rcases k with ⟨_, ⟨_, e⟩ | ⟨_, e⟩⟩ | ⟨_, e, _⟩ <;> rw [e] <;> decide
  | 2, ⟨_, _, e⟩ => rw [e]; decide
  | 8, ⟨_, _, e⟩ => rw [e]; decide
  | 18, ⟨_, _, e⟩ => rw [e]; decide
  | 23, ⟨_, _, e⟩ => rw [e]; decide
  | 24, ⟨_, _, e⟩ => rw [e]; decide
  | 10, ⟨_, _, e⟩ => rw [e]; decide
  | 4, ⟨_, e, _⟩ => rw [e]; decide
  | 6, ⟨_, e, _⟩ => rw [e]; decide
  | 13, ⟨e, _⟩ => rw [e]; decide
  | 15, ⟨_, e, _⟩ => rw [e]; decide
  | 20, ⟨_, e, _⟩ => rw [e]; decide
  | 27, ⟨_, e, _⟩ => rw [e]; decide
  | 29, ⟨_, e, _⟩ => rw [e]; decide
  | 30, ⟨_, e, _⟩ => rw [e]; decide

theorem shortL_nil : shortL [] := fun _ h => by cases h
/-- A line feed ends the line. -/
theorem InvL.feed {p r : Nat} {u : List Nat} (hs : okS (p, r) = true) (hw : wordOf p ≠ [] → r = 0) (h : InvL (p, r) u) (hf : feedOf p ≠ 0) : InvL (feedOf p, 0) (u ++ [10]) ∧ ∃ pl, Good (runsF fdB [] u) pl ∧ CurP (feedOf p) 0 pl [] [] := by
  obtain ⟨pl, Ls, c, D, cur, h1, h2, h3, h4, h5⟩ := h
  have hl := cur_len hs h4
  obtain ⟨hfi, hcu⟩ := cur_feed (fun h => (ok_name hs h).1) hw h4 hf
  have hsh := shortL_end h5 hl
  rw [← h2.all] at hfi hcu hsh
  have g : Good (endC Ls c) (nextL pl (runsF isNm [] c)) := by
    by_cases hc : c = []
    · subst hc
      rw [endC_nil]
      simpa [nextL, runsF, endC] using h3
    · rw [endC_ne _ hc]
      exact .add c h3 hfi hsh
  refine ⟨⟨_, _, [], [], [], h1.off rfl, RunS.nil _, g, hcu, shortL_nil⟩, _, by rw [h1.all]; exact g, hcu⟩
theorem InvL.next {q : Nat × Nat} {u : List Nat} {b : Nat} (hs : okS q = true) (h : InvL q u) (hn : (stepF q b).1 ≠ 0) : InvL (stepF q b) (u ++ [b]) := by
  obtain ⟨p, r⟩ := q
  have name : ∀ {pl : Nat} {Ls D : List (List Nat)} {c cur : List Nat} {q' : Nat × Nat}, RunS fdB u Ls c → RunS isNm c D cur → Good Ls pl → shortL D → isNm b = true → CurP q'.1 q'.2 pl D (cur ++ [b]) → InvL q' (u ++ [b]) := by
    intro pl Ls D c cur q' h1 h2 h3 h5 hb hc
    have h10 : fdB b = true := by
      unfold fdB
      rw [bne_iff_ne]; rintro rfl; revert hb; decide
    exact ⟨pl, Ls, c ++ [b], D, cur ++ [b], h1.on h10, h2.on hb, h3, hc, h5⟩
  have off : ∀ {pl : Nat} {Ls D : List (List Nat)} {c cur : List Nat} {q' : Nat × Nat}, RunS fdB u Ls c → RunS isNm c D cur → Good Ls pl → shortL D → cur.length ≤ 16 → isNm b = false → b ≠ 10 → CurP q'.1 q'.2 pl (endC D cur) [] → InvL q' (u ++ [b]) := by
    intro pl Ls D c cur q' h1 h2 h3 h5 hl hb hb2 hc
    exact ⟨pl, Ls, c ++ [b], endC D cur, [], h1.on (by unfold fdB; simpa using hb2), h2.off hb, h3, hc, shortL_end h5 hl⟩
  rcases step_kinds (p, r) b hn with ⟨a1, a2, a3⟩ | ⟨a0, ⟨a1, a⟩ | ⟨a1, a⟩ | ⟨a1, a⟩ | ⟨a1, a⟩⟩
  · obtain ⟨pl, Ls, c, D, cur, h1, h2, h3, h4, h5⟩ := h
    rw [a3]
    have := cur_word a1 (ok_word hs a1) h4
    simp only at a2
    rw [a2] at this
    rcases this with ⟨k1, k2⟩ | ⟨k1, k2, k3⟩
    · exact name h1 h2 h3 h5 k1 k2
    · exact off h1 h2 h3 h5 (cur_len hs h4) k1 k2 k3
  · rw [a] at hn ⊢
    subst a1
    exact (h.feed hs (fun x => a0.resolve_left x) hn).1
  · rw [a] at hn ⊢
    obtain ⟨pl, Ls, c, D, cur, h1, h2, h3, h4, h5⟩ := h
    refine off h1 h2 h3 h5 (cur_len hs h4) ?_ ?_ (cur_blank (fun h => (ok_name hs h).1) (fun x => a0.resolve_left x) h4 hn)
    · rcases a1 with rfl | rfl <;> decide
    · rcases a1 with rfl | rfl <;> decide
  · rw [a] at hn ⊢
    obtain ⟨pl, Ls, c, D, cur, h1, h2, h3, h4, h5⟩ := h
    rcases cur_sign (fun h => (ok_name hs h).1) h4 a1 with ⟨k1, k2⟩ | ⟨k1, k2⟩
    · exact name h1 h2 h3 h5 (by rcases k1 with rfl | rfl <;> decide) k2
    · exact off h1 h2 h3 h5 (cur_len hs h4) (by rcases k1 with rfl | rfl | rfl <;> decide) (by rcases k1 with rfl | rfl | rfl <;> decide) k2
  · rw [a] at hn ⊢
    obtain ⟨pl, Ls, c, D, cur, h1, h2, h3, h4, h5⟩ := h
    exact name h1 h2 h3 h5 a1 (cur_name h4 hn)
theorem InvL.go {q : Nat × Nat} {u : List Nat} (v : List Nat) (hs : okS q = true) (h : InvL q u) (hl : (goF q v).2 = v.length) : InvL (goF q v).1 (u ++ v) := by
  induction v generalizing q u with
  | nil => simpa [goF] using h
  | cons b t ih =>
    by_cases hn : (stepF q b).1 = 0
    · rw [goF_stop t hn] at hl; simp at hl
    · rw [goF_on t hn] at hl ⊢
      have := ih (step_ok hs hn) (h.next hs hn) (by simpa using hl)
      simpa using this
/-- A file's lines. -/
theorem good_of {u : List Nat} (hl : (goF (1, 0) u).2 = u.length) (hf : isF (goF (1, 0) u).1 = true) : Good (runsF fdB [] u) 5 := by
  have h0 : InvL (1, 0) [] := ⟨0, [], [], [], [], RunS.nil _, RunS.nil _, .nil, ⟨rfl, rfl, rfl⟩, shortL_nil⟩
  have h := h0.go u (by decide) hl
  rw [List.nil_append] at h
  have hok : okS (goF (1, 0) u).1 = true := goF_ok (by decide) u
  generalize (goF (1, 0) u).1 = q at *
  obtain ⟨p, r⟩ := q
  unfold isF at hf
  rw [beq_iff_eq] at hf
  have hn : (stepF (p, r) 10).1 ≠ 0 := by rw [hf]; decide
  rcases step_kinds (p, r) 10 hn with ⟨a1, a2, a3⟩ | ⟨a0, ⟨a1, a⟩ | ⟨a1, a⟩ | ⟨a1, a⟩ | ⟨a1, a⟩⟩
  · have k : ∀ p, p < 32 → ∀ r, r < (wordOf p).length → (wordOf p).getD r 0 ≠ 10 := by decide
    exact absurd a2 (k p (ok_bound hok).2.1 r (ok_word hok a1))
  · rw [a] at hf
    obtain ⟨_, pl, g, k⟩ := h.feed hok (fun x => a0.resolve_left x) (by rw [show feedOf p = 24 from hf]; decide)
    rw [show feedOf p = 24 from hf] at k
    rw [k.1] at g
    exact g
  · omega
  · have k : ∀ p, p < 32 → ((signsOf p).contains 10) = false := by decide
    simp only at a1
    rw [k p (ok_bound hok).2.1] at a1
    cases a1
  · exact absurd a1 (by decide)

/-- Runs are no longer than what they are of. -/
theorem runs_len (h : Nat → Bool) (t c : List Nat) : (runsF h c t).flatten.length ≤ c.length + t.length := by
  induction t generalizing c with
  | nil => unfold runsF endC; split <;> simp
  | cons b t ih =>
    unfold runsF
    split
    · have := ih (c ++ [b]); simp at this ⊢; omega
    · have := ih []
      unfold endC
      split <;> simp at this ⊢ <;> omega
theorem runs_pos (h : Nat → Bool) (t c : List Nat) : ∀ x ∈ runsF h c t, 0 < x.length := by
  have e : ∀ c x, x ∈ endC [] c → 0 < x.length := by
    intro c x hx
    unfold endC at hx
    split at hx
    · cases hx
    · rename_i hc; simp at hx; subst hx; exact List.length_pos_iff.2 hc
  induction t generalizing c with
  | nil => exact e c
  | cons b t ih =>
    unfold runsF
    split
    · exact ih _
    · intro x hx
      rcases List.mem_append.1 hx with hx | hx
      · exact e c x hx
      · exact ih _ x hx
/-- Runs lie apart: n of them take n - 1 bytes besides their own. -/
theorem runs_room (h : Nat → Bool) (t c : List Nat) : (runsF h c t).flatten.length + (runsF h c t).length ≤ c.length + t.length + 1 := by
  have e : ∀ c : List Nat, (endC [] c).flatten.length = c.length ∧ (endC [] c).length ≤ 1 := by
    intro c
    unfold endC
    split
    · rename_i hc; subst hc; exact ⟨rfl, Nat.zero_le _⟩
    · simp
  induction t generalizing c with
  | nil =>
    have := e c
    unfold runsF
    rw [List.length_nil]; omega
  | cons b t ih =>
    unfold runsF
    split
    · have := ih (c ++ [b])
      rw [List.length_append, List.length_singleton] at this
      rw [List.length_cons]; omega
    · have h1 := ih []
      have h2 := e c
      rw [List.flatten_append, List.length_append, List.length_append, List.length_cons]
      rw [List.length_nil] at h1
      omega
theorem flat_le {L : List (List Nat)} (h : ∀ x ∈ L, 0 < x.length) : L.length ≤ L.flatten.length := by
  induction L with
  | nil => simp
  | cons a t ih =>
    have h1 := h a (by simp)
    have h2 := ih (fun x hx => h x (by simp [hx]))
    rw [List.flatten_cons, List.length_append, List.length_cons]; omega
theorem runs_half (h : Nat → Bool) (t : List Nat) : 2 * (runsF h [] t).length ≤ t.length + 1 := by
  have h1 := runs_room h t []
  have h2 := flat_le (runs_pos h t [])
  rw [List.length_nil] at h1; omega
theorem runs_count (h : Nat → Bool) (t : List Nat) : (runsF h [] t).length ≤ t.length := by
  have h1 := runs_len h t []
  have h2 := flat_le (runs_pos h t [])
  rw [List.length_nil] at h1; omega
end Go.Proofs.YtmagchclmmphaabGreatDoor
namespace Go.Proofs.YtmagchclmmphaabGreatDoor

/-! ### The canonical text goes through the places, and its lines are what they should be -/
structure XI (q : Nat × Nat) (u : List Nat) (LP : List (List (List Nat))) (c : List Nat) (D : List (List Nat)) (cur : List Nat) : Prop where
  go : goF (1, 0) u = (q, u.length)
  ls : ∃ Ls, RunS fdB u Ls c ∧ Ls.map (runsF isNm []) = LP
  ps : RunS isNm c D cur
theorem goF_one {q q' : Nat × Nat} {u : List Nat} {b : Nat} (h : goF (1, 0) u = (q, u.length)) (hs : stepF q b = q') (hq : q'.1 ≠ 0) : goF (1, 0) (u ++ [b]) = (q', (u ++ [b]).length) := by
  rw [goF_app [b] (by rw [h]), h]
  simp only
  rw [goF_on [] (by rw [hs]; exact hq), hs]
  simp [goF]
theorem fd_of_nm {b : Nat} (h : isNm b = true) : fdB b = true := by
  unfold fdB; rw [bne_iff_ne]; rintro rfl; revert h; decide
theorem XI.nm {q q' : Nat × Nat} {u c cur : List Nat} {LP : List (List (List Nat))} {D : List (List Nat)} {b : Nat} (h : XI q u LP c D cur) (hb : isNm b = true) (hs : stepF q b = q') (hq : q'.1 ≠ 0) : XI q' (u ++ [b]) LP (c ++ [b]) D (cur ++ [b]) := by
  obtain ⟨Ls, h1, h2⟩ := h.ls
  exact ⟨goF_one h.go hs hq, ⟨Ls, h1.on (fd_of_nm hb), h2⟩, h.ps.on hb⟩
theorem XI.off {q q' : Nat × Nat} {u c cur : List Nat} {LP : List (List (List Nat))} {D : List (List Nat)} {b : Nat} (h : XI q u LP c D cur) (hb : isNm b = false) (h10 : b ≠ 10) (hs : stepF q b = q') (hq : q'.1 ≠ 0) : XI q' (u ++ [b]) LP (c ++ [b]) (endC D cur) [] := by
  obtain ⟨Ls, h1, h2⟩ := h.ls
  exact ⟨goF_one h.go hs hq, ⟨Ls, h1.on (by unfold fdB; simpa using h10), h2⟩, h.ps.off hb⟩
/-- Inside a line, whose pieces so far are E. -/
def XE (q : Nat × Nat) (u : List Nat) (LP : List (List (List Nat))) (E : List (List Nat)) : Prop := ∃ c D cur, c ≠ [] ∧ endC D cur = E ∧ XI q u LP c D cur
/-- .. at the end of a piece that may go on. -/
def XC (q : Nat × Nat) (u : List Nat) (LP : List (List (List Nat))) (D : List (List Nat)) (cur : List Nat) : Prop := ∃ c, c ≠ [] ∧ XI q u LP c D cur
/-- At a line's beginning. -/
def XK (q : Nat × Nat) (u : List Nat) (LP : List (List (List Nat))) : Prop := XI q u LP [] [] []
theorem XC.e {q : Nat × Nat} {u cur : List Nat} {LP : List (List (List Nat))} {D : List (List Nat)} (h : XC q u LP D cur) : XE q u LP (endC D cur) := by
  obtain ⟨c, hc, h⟩ := h
  exact ⟨c, D, cur, hc, rfl, h⟩
theorem XE.off {q q' : Nat × Nat} {u : List Nat} {LP : List (List (List Nat))} {E : List (List Nat)} {b : Nat} (h : XE q u LP E) (hb : isNm b = false) (h10 : b ≠ 10) (hs : stepF q b = q') (hq : q'.1 ≠ 0) : XC q' (u ++ [b]) LP E [] := by
  obtain ⟨c, D, cur, hc, rfl, h⟩ := h
  exact ⟨c ++ [b], by simp, h.off hb h10 hs hq⟩
theorem XE.feed {q q' : Nat × Nat} {u : List Nat} {LP : List (List (List Nat))} {E : List (List Nat)} (h : XE q u LP E) (hs : stepF q 10 = q') (hq : q'.1 ≠ 0) : XK q' (u ++ [10]) (LP ++ [E]) := by
  obtain ⟨c, D, cur, hc, rfl, h⟩ := h
  obtain ⟨Ls, h1, h2⟩ := h.ls
  refine ⟨goF_one h.go hs hq, ⟨endC Ls c, h1.off rfl, ?_⟩, RunS.nil _⟩
  rw [endC_ne _ hc, List.map_append, h2, List.map_singleton, h.ps.all]
theorem XC.run {q q' : Nat × Nat} {u cur : List Nat} {LP : List (List (List Nat))} {D : List (List Nat)} (n : List Nat) (hn : ∀ b ∈ n, isNm b = true) (hg : goF q n = (q', n.length)) (h : XC q u LP D cur) : XC q' (u ++ n) LP D (cur ++ n) := by
  induction n generalizing q u cur with
  | nil =>
    have : q = q' := by simpa [goF] using congrArg Prod.fst hg
    subst this
    simpa using h
  | cons b t ih =>
    by_cases hz : (stepF q b).1 = 0
    · rw [goF_stop t hz] at hg; simp at hg
    · rw [goF_on t hz] at hg
      obtain ⟨c, hc, h⟩ := h
      have h1 : XC (stepF q b) (u ++ [b]) LP D (cur ++ [b]) := ⟨c ++ [b], by simp, h.nm (hn b (by simp)) rfl hz⟩
      have := ih (fun x hx => hn x (by simp [hx])) (by
        have e1 := congrArg Prod.fst hg
        have e2 := congrArg Prod.snd hg
        simp at e1 e2
        exact Prod.ext e1 e2) h1
      simpa using this
theorem XK.run {q q' : Nat × Nat} {u : List Nat} {LP : List (List (List Nat))} (n : List Nat) (h0 : n ≠ []) (hn : ∀ b ∈ n, isNm b = true) (hg : goF q n = (q', n.length)) (h : XK q u LP) : XC q' (u ++ n) LP [] n := by
  match n, h0 with
  | b :: t, _ =>
    by_cases hz : (stepF q b).1 = 0
    · rw [goF_stop t hz] at hg; simp at hg
    · rw [goF_on t hz] at hg
      have h1 : XC (stepF q b) (u ++ [b]) LP [] [b] := ⟨[b], by simp, by have := XI.nm h (hn b (by simp)) rfl hz; simpa using this⟩
      have := h1.run t (fun x hx => hn x (by simp [hx])) (by
        have e1 := congrArg Prod.fst hg
        have e2 := congrArg Prod.snd hg
        simp at e1 e2
        exact Prod.ext e1 e2)
      simpa using this
/-- A name. -/
def nmOk (n : List Nat) : Prop := n ≠ [] ∧ n.length ≤ 16 ∧ ∀ b ∈ n, isNm b = true
/-- A place at which a name is read. -/
def entry (p p' : Nat) : Bool := nameOf p == p' && p' != p && nameOf p' == p' && wordOf p == [] && wordOf p' == [] && p' != 0 && (signsOf p).all (fun c => !isNm c) && (signsOf p').all (fun c => !isNm c)
theorem step_nm {p r b : Nat} (hw : wordOf p = []) (hs : (signsOf p).all (fun c => !isNm c) = true) (hb : isNm b = true) : stepF (p, r) b = alongN p r := by
  unfold stepF
  rw [if_neg (by simp [hw]), if_neg (by simp [hw]), if_neg (by rintro rfl; revert hb; decide), if_neg (by rintro (rfl | rfl) <;> revert hb <;> decide)]
  rw [if_neg ?_, if_pos hb]
  intro hc
  have := List.all_eq_true.1 hs b (by simpa using hc)
  simp [hb] at this
theorem name_rest {p : Nat} (hw : wordOf p = []) (hs : (signsOf p).all (fun c => !isNm c) = true) (hp : nameOf p = p) (h0 : p ≠ 0) : ∀ (n : List Nat) (r : Nat), (∀ b ∈ n, isNm b = true) → r + n.length ≤ 16 → goF (p, r) n = ((p, r + n.length), n.length)
  | [], r, _, _ => rfl
  | b :: t, r, hn, hl => by
    have hs1 : stepF (p, r) b = (p, r + 1) := by
      rw [step_nm hw hs (hn b (by simp))]
      unfold alongN
      rw [if_neg (by simp [hp]), if_neg (by simp at hl; omega)]
    rw [goF_on t (by rw [hs1]; exact h0), hs1, name_rest hw hs hp h0 t (r + 1) (fun x hx => hn x (by simp [hx])) (by simp at hl; omega)]
    simp; omega
theorem name_go {p p' : Nat} (he : entry p p' = true) {n : List Nat} (hn : nmOk n) : goF (p, 0) n = ((p', n.length), n.length) := by
  unfold entry at he
  simp only [Bool.and_eq_true, beq_iff_eq, bne_iff_ne] at he
  obtain ⟨⟨⟨⟨⟨⟨⟨e1, e2⟩, e3⟩, e4⟩, e5⟩, e6⟩, e7⟩, e8⟩ := he
  obtain ⟨h0, hl, hb⟩ := hn
  match n, h0 with
  | b :: t, _ =>
    have hs1 : stepF (p, 0) b = (p', 1) := by
      rw [step_nm e4 e7 (hb b (by simp))]
      unfold alongN
      rw [if_pos (by rw [e1]; exact e2), e1]
    rw [goF_on t (by rw [hs1]; exact e6), hs1, name_rest e5 e8 e3 e6 t 1 (fun x hx => hb x (by simp [hx])) (by simp at hl; omega)]
    simp; omega

/-- A blank, then a name. -/
theorem XE.blName {q : Nat × Nat} {u : List Nat} {LP : List (List (List Nat))} {E : List (List Nat)} {p p' : Nat} (h : XE q u LP E) (hs : stepF q 32 = (p, 0)) (hp : p ≠ 0) (he : entry p p' = true) {n : List Nat} (hn : nmOk n) : XC (p', n.length) (u ++ [32] ++ n) LP E n := by
  have h1 := h.off (b := 32) (by decide) (by decide) hs hp
  have h2 := h1.run n hn.2.2 (name_go he hn)
  simpa using h2
theorem XC.e1 {q : Nat × Nat} {u cur : List Nat} {LP : List (List (List Nat))} {D : List (List Nat)} (h : XC q u LP D cur) (hc : cur ≠ []) : XE q u LP (D ++ [cur]) := by
  have := h.e
  rwa [endC_ne _ hc] at this
theorem bl_step {p p' r : Nat} (hw : wordOf p = []) (hb : blankOf p = p') : stepF (p, r) 32 = (p', 0) := by
  unfold stepF; rw [if_neg (by simp [hw]), if_neg (by simp [hw]), if_neg (by decide), if_pos (.inl rfl), hb]
theorem fd_step {p p' r : Nat} (hw : wordOf p = []) (hb : feedOf p = p') : stepF (p, r) 10 = (p', 0) := by
  unfold stepF; rw [if_neg (by simp [hw]), if_neg (by simp [hw]), if_pos rfl, hb]
theorem sg_step {p p' r b : Nat} (hw : wordOf p = []) (h1 : b ≠ 10) (h2 : b ≠ 32) (h3 : b ≠ 9) (hs : (signsOf p).contains b = true) (hb : pastOf p = p') : stepF (p, r) b = (p', 0) := by
  unfold stepF; rw [if_neg (by simp [hw]), if_neg (by simp [hw]), if_neg h1, if_neg (by rintro (h | h); exact h2 h; exact h3 h), if_pos hs, hb]

/-- An op. -/
theorem XE.op {u : List Nat} {LP : List (List (List Nat))} {E : List (List Nat)} (h : XE (3, 0) u LP E) {n : List Nat} (hn : nmOk n) {d : Nat} (hd : d = 48 ∨ d = 49) : XE (3, 0) (u ++ ([32] ++ n ++ [58, d])) LP (E ++ [n] ++ [[d]]) := by
  have h1 := h.blName (p := 4) (p' := 5) (by decide) (by decide) (by decide) hn
  have h2 := (h1.e1 hn.1).off (b := 58) (q' := (6, 0)) (by decide) (by decide) (sg_step (by decide) (by decide) (by decide) (by decide) (by decide) (by decide)) (by decide)
  have h3 := h2.run [d] (by intro b hb; rw [List.mem_singleton.1 hb]; rcases hd with rfl | rfl <;> decide) (q' := (3, 0)) (by rcases hd with rfl | rfl <;> decide)
  have h4 := h3.e1 (by simp)
  simpa using h4
theorem XE.ops {LP : List (List (List Nat))} : ∀ (P : List (List Nat × Nat)) {u : List Nat} {E : List (List Nat)}, XE (3, 0) u LP E → (∀ x ∈ P, nmOk x.1) → arO P → XE (3, 0) (u ++ P.flatMap fun x => [32] ++ x.1 ++ [58, x.2]) LP (E ++ flatO P)
  | [], u, E, h, _, _ => by simpa [flatO] using h
  | x :: P, u, E, h, hn, ha => by
    have h1 := h.op (hn x (by simp)) (ha x (by simp))
    have h2 := XE.ops P h1 (fun y hy => hn y (by simp [hy])) (fun y hy => ha y (by simp [hy]))
    simpa [flatO, List.append_assoc] using h2
/-- Names, a blank ahead of each: from place a, by b, to c. -/
theorem XE.names {LP : List (List (List Nat))} {a b c : Nat} (hwa : wordOf a = []) (hwc : wordOf c = []) (hba : blankOf a = b) (hbc : blankOf c = b) (hb0 : b ≠ 0) (he : entry b c = true) : ∀ (L : List (List Nat)) {r : Nat} {p : Nat} {u : List Nat} {E : List (List Nat)}, (p = a ∨ p = c) → XE (p, r) u LP E → (∀ x ∈ L, nmOk x) → ∃ p' r', (p' = a ∨ p' = c) ∧ XE (p', r') (u ++ L.flatMap fun x => [32] ++ x) LP (E ++ L)
  | [], r, p, u, E, hp, h, _ => ⟨p, r, hp, by simpa using h⟩
  | x :: L, r, p, u, E, hp, h, hn => by
    have hs : stepF (p, r) 32 = (b, 0) := by
      rcases hp with rfl | rfl
      · exact bl_step hwa hba
      · exact bl_step hwc hbc
    have h1 := (h.blName hs hb0 he (hn x (by simp))).e1 (hn x (by simp)).1
    obtain ⟨p', r', h2, h3⟩ := XE.names hwa hwc hba hbc hb0 he L (.inr rfl) h1 (fun y hy => hn y (by simp [hy]))
    exact ⟨p', r', h2, by simpa [List.append_assoc] using h3⟩
/-- A rule's pieces. -/
def ruP (r : List Nat × List Nat × List Nat) : List (List Nat) := if r.2.1 = [] then [r.1, r.2.2] else [r.1, r.2.1, r.2.2]
def ruN (r : List Nat × List Nat × List Nat) : List Nat := r.1 ++ [40] ++ r.2.1 ++ [41, 32, 45, 62, 32] ++ r.2.2 ++ [10]
theorem XK.rule {u : List Nat} {LP : List (List (List Nat))} (h : XK (24, 0) u LP) {r : List Nat × List Nat × List Nat} (h1 : nmOk r.1) (h2 : r.2.1 = [] ∨ nmOk r.2.1) (h3 : nmOk r.2.2) : XK (24, 0) (u ++ ruN r) (LP ++ [ruP r]) := by
  obtain ⟨a, b, c⟩ := r
  simp only at h1 h2 h3
  have k1 := h.run a h1.1 h1.2.2 (name_go (p := 24) (p' := 26) (by decide) h1)
  have k2 := (k1.e1 h1.1).off (b := 40) (q' := (27, 0)) (by decide) (by decide) (sg_step (by decide) (by decide) (by decide) (by decide) (by decide) (by decide)) (by decide)
  have tail : ∀ {E : List (List Nat)} {v : List Nat}, XC (29, 0) v LP E [] → XK (24, 0) (v ++ [32, 45, 62, 32] ++ c ++ [10]) (LP ++ [E ++ [c]]) := by
    intro E v k
    have t1 := (k.e).off (b := 32) (q' := (29, 0)) (by decide) (by decide) (by decide) (by decide)
    rw [endC_nil] at t1
    have t2 := (t1.e).off (b := 45) (q' := (29, 1)) (by decide) (by decide) (by decide) (by decide)
    rw [endC_nil] at t2
    have t3 := (t2.e).off (b := 62) (q' := (30, 0)) (by decide) (by decide) (by decide) (by decide)
    rw [endC_nil] at t3
    have t4 := (t3.e).off (b := 32) (q' := (30, 0)) (by decide) (by decide) (by decide) (by decide)
    rw [endC_nil] at t4
    have t5 := (t4.run c h3.2.2 (name_go (p := 30) (p' := 31) (by decide) h3)).e1 (by simpa using h3.1)
    have t6 := t5.feed (q' := (24, 0)) (fd_step (by decide) (by decide)) (by decide)
    simpa using t6
  unfold ruN ruP
  simp only
  rcases h2 with rfl | h2
  · have k3 := (k2.e).off (b := 41) (q' := (29, 0)) (by decide) (by decide) (sg_step (by decide) (by decide) (by decide) (by decide) (by decide) (by decide)) (by decide)
    rw [endC_nil] at k3
    have := tail k3
    simpa using this
  · have k3 := (k2.run b h2.2.2 (name_go (p := 27) (p' := 28) (by decide) h2)).e1 (by simpa using h2.1)
    have k4 := k3.off (b := 41) (q' := (29, 0)) (by decide) (by decide) (sg_step (by decide) (by decide) (by decide) (by decide) (by decide) (by decide)) (by decide)
    have := tail k4
    rw [if_neg h2.1]
    simpa using this
theorem XK.rules : ∀ (R : List (List Nat × List Nat × List Nat)) {u : List Nat} {LP : List (List (List Nat))}, XK (24, 0) u LP → (∀ r ∈ R, nmOk r.1 ∧ (r.2.1 = [] ∨ nmOk r.2.1) ∧ nmOk r.2.2) → XK (24, 0) (u ++ R.flatMap ruN) (LP ++ R.map ruP)
  | [], u, LP, h, _ => by simpa using h
  | r :: R, u, LP, h, hr => by
    have h0 := hr r (by simp)
    have h1 := h.rule h0.1 h0.2.1 h0.2.2
    have h2 := XK.rules R h1 (fun x hx => hr x (by simp [hx]))
    simpa [List.append_assoc] using h2

/-- A file's text and its lines' pieces. -/
def fileN (ti : List Nat) (P : List (List Nat × Nat)) (S F : List (List Nat)) (R : List (List Nat × List Nat × List Nat)) : List Nat :=
  wOps ++ (P.flatMap fun x => [32] ++ x.1 ++ [58, x.2]) ++ [10] ++ wAut ++ [32] ++ ti ++ [10] ++ wSta ++ (S.flatMap fun x => [32] ++ x) ++ [10] ++ wFin ++ [32] ++ wSta ++ (F.flatMap fun x => [32] ++ x) ++ [10] ++ wTra ++ [10] ++ R.flatMap ruN
def fileP (ti : List Nat) (P : List (List Nat × Nat)) (S F : List (List Nat)) (R : List (List Nat × List Nat × List Nat)) : List (List (List Nat)) :=
  [wOps :: flatO P, [wAut, ti], wSta :: S, wFin :: wSta :: F, [wTra]] ++ R.map ruP
theorem file_goes {ti : List Nat} {P : List (List Nat × Nat)} {S F : List (List Nat)} {R : List (List Nat × List Nat × List Nat)} (ht : nmOk ti) (hP : ∀ x ∈ P, nmOk x.1) (ha : arO P) (hS : ∀ x ∈ S, nmOk x) (hF : ∀ x ∈ F, nmOk x) (hR : ∀ r ∈ R, nmOk r.1 ∧ (r.2.1 = [] ∨ nmOk r.2.1) ∧ nmOk r.2.2) : XK (24, 0) (fileN ti P S F R) (fileP ti P S F R) := by
  have k0 : XK (1, 0) [] [] := ⟨rfl, ⟨[], RunS.nil _, rfl⟩, RunS.nil _⟩
  have k1 := (k0.run wOps (by decide) (by decide) (q' := (3, 0)) (by decide)).e1 (by decide)
  have k2 := XE.ops P k1 hP ha
  have k3 := k2.feed (q' := (7, 0)) (by decide) (by decide)
  have k4 := (k3.run wAut (by decide) (by decide) (q' := (9, 0)) (by decide)).e1 (by decide)
  have k5 := (k4.blName (p := 10) (p' := 11) (by decide) (by decide) (by decide) ht).e1 ht.1
  have k6 := k5.feed (q' := (12, 0)) (fd_step (by decide) (by decide)) (by decide)
  have k7 := (k6.run wSta (by decide) (by decide) (q' := (14, 0)) (by decide)).e1 (by decide)
  obtain ⟨p8, r8, hp8, k8⟩ := XE.names (a := 14) (b := 15) (c := 16) (by decide) (by decide) (by decide) (by decide) (by decide) (by decide) S (.inl rfl) k7 hS
  have k9 := k8.feed (q' := (17, 0)) (by rcases hp8 with rfl | rfl <;> exact fd_step (by decide) (by decide)) (by decide)
  have k10 := (k9.run wFin (by decide) (by decide) (q' := (17, 5)) (by decide)).e1 (by decide)
  have k11 := k10.off (b := 32) (q' := (17, 6)) (by decide) (by decide) (by decide) (by decide)
  have k12 := (k11.run wSta (by decide) (q' := (19, 0)) (by decide)).e1 (by decide)
  obtain ⟨p13, r13, hp13, k13⟩ := XE.names (a := 19) (b := 20) (c := 21) (by decide) (by decide) (by decide) (by decide) (by decide) (by decide) F (.inl rfl) k12 hF
  have k14 := k13.feed (q' := (22, 0)) (by rcases hp13 with rfl | rfl <;> exact fd_step (by decide) (by decide)) (by decide)
  have k15 := (k14.run wTra (by decide) (by decide) (q' := (25, 0)) (by decide)).e1 (by decide)
  have k16 := k15.feed (q' := (24, 0)) (by decide) (by decide)
  have k17 := XK.rules R k16 hR
  unfold fileN fileP
  simpa [List.append_assoc] using k17
/-- .. so it is a file, and these are its lines. -/
theorem file_lines {ti : List Nat} {P : List (List Nat × Nat)} {S F : List (List Nat)} {R : List (List Nat × List Nat × List Nat)} (ht : nmOk ti) (hP : ∀ x ∈ P, nmOk x.1) (ha : arO P) (hS : ∀ x ∈ S, nmOk x) (hF : ∀ x ∈ F, nmOk x) (hR : ∀ r ∈ R, nmOk r.1 ∧ (r.2.1 = [] ∨ nmOk r.2.1) ∧ nmOk r.2.2) :
    goF (1, 0) (fileN ti P S F R) = ((24, 0), (fileN ti P S F R).length) ∧ (runsF fdB [] (fileN ti P S F R)).map (runsF isNm []) = fileP ti P S F R := by
  have k := file_goes ht hP ha hS hF hR
  refine ⟨k.go, ?_⟩
  obtain ⟨Ls, h1, h2⟩ := k.ls
  rw [h1.all, endC_nil, h2]
end Go.Proofs.YtmagchclmmphaabGreatDoor
