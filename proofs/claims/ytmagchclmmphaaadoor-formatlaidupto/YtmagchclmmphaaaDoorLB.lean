import Derived.Test.YtmagchclmmphaaaDoorGm
namespace Go.Proofs.YtmagchclmmphaaaDoor

/-! ### Runs of bytes, as lists -/
def endC (D : List (List Nat)) (c : List Nat) : List (List Nat) := D ++ (if c = [] then [] else [c])
theorem endC_nil (D : List (List Nat)) : endC D [] = D := by simp [endC]
theorem endC_ne (D : List (List Nat)) {c : List Nat} (h : c ≠ []) : endC D c = D ++ [c] := by simp [endC, h]
/-- The longest runs of such bytes; c is what has been read of the one at hand. -/
def runsF (h : Nat → Bool) : List Nat → List Nat → List (List Nat)
  | c, [] => endC [] c
  | c, b :: t => if h b then runsF h (c ++ [b]) t else endC [] c ++ runsF h [] t
/-- Behind u the runs D stand, and c of the next one. -/
def RunS (h : Nat → Bool) (u : List Nat) (D : List (List Nat)) (c : List Nat) : Prop := ∀ t, runsF h [] (u ++ t) = D ++ runsF h c t
theorem RunS.nil (h : Nat → Bool) : RunS h [] [] [] := fun t => by simp
theorem RunS.on {h : Nat → Bool} {u c : List Nat} {D : List (List Nat)} {b : Nat} (r : RunS h u D c) (hb : h b = true) : RunS h (u ++ [b]) D (c ++ [b]) := fun t => by
  rw [List.append_assoc, r, List.singleton_append, runsF, if_pos hb]
theorem RunS.off {h : Nat → Bool} {u c : List Nat} {D : List (List Nat)} {b : Nat} (r : RunS h u D c) (hb : h b = false) : RunS h (u ++ [b]) (endC D c) [] := fun t => by
  rw [List.append_assoc, r, List.singleton_append, runsF, if_neg (by simp [hb])]
  simp [endC]
theorem RunS.all {h : Nat → Bool} {u c : List Nat} {D : List (List Nat)} (r : RunS h u D c) : runsF h [] u = endC D c := by
  have := r []
  rw [List.append_nil] at this
  rw [this]
  simp [runsF, endC]
theorem RunS.void {h : Nat → Bool} {c : List Nat} {D : List (List Nat)} (r : RunS h [] D c) : D = [] ∧ c = [] := by
  have := r.all
  simp only [runsF, endC, if_true, List.append_nil] at this
  have h2 := List.append_eq_nil_iff.1 this.symm
  refine ⟨h2.1, ?_⟩
  have := h2.2
  split at this
  · assumption
  · cases this

/-! ### The lines of a file -/
def wOps : List Nat := [79, 112, 115]
def wAut : List Nat := [65, 117, 116, 111, 109, 97, 116, 111, 110]
def wSta : List Nat := [83, 116, 97, 116, 101, 115]
def wFin : List Nat := [70, 105, 110, 97, 108]
def wTra : List Nat := [84, 114, 97, 110, 115, 105, 116, 105, 111, 110, 115]
/-- Ops: names and arities. -/
def flatO (P : List (List Nat × Nat)) : List (List Nat) := P.flatMap fun x => [x.1, [x.2]]
def arO (P : List (List Nat × Nat)) : Prop := ∀ x ∈ P, x.2 = 48 ∨ x.2 = 49
theorem flatO_add (P : List (List Nat × Nat)) (n : List Nat) (d : Nat) : flatO (P ++ [(n, d)]) = flatO P ++ [n] ++ [[d]] := by simp [flatO]
theorem arO_add {P : List (List Nat × Nat)} (h : arO P) (n : List Nat) {d : Nat} (hd : d = 48 ∨ d = 49) : arO (P ++ [(n, d)]) := by
  intro x hx
  rcases List.mem_append.1 hx with hx | hx
  · exact h x hx
  · simp at hx; subst hx; exact hd
def ruleL (L : List (List Nat)) : Prop := (∃ a b, L = [a, b]) ∨ ∃ a b c, L = [a, b, c]
/-- What a line's pieces may be, by what comes next. -/
def fineL (pl : Nat) (L : List (List Nat)) : Prop := L = [] ∨
  (pl = 0 ∧ ∃ P, arO P ∧ L = wOps :: flatO P) ∨ (pl = 1 ∧ ∃ n, L = [wAut, n]) ∨ (pl = 2 ∧ ∃ M, L = wSta :: M) ∨ (pl = 3 ∧ ∃ M, L = wFin :: wSta :: M) ∨ (pl = 4 ∧ L = [wTra]) ∨ (pl = 5 ∧ ruleL L)
def nextL (pl : Nat) (L : List (List Nat)) : Nat := if L = [] then pl else min (pl + 1) 5
def shortL (L : List (List Nat)) : Prop := ∀ x ∈ L, 0 < x.length ∧ x.length ≤ 16
theorem shortL_end {D : List (List Nat)} {c : List Nat} (h : shortL D) (hc : c.length ≤ 16) : shortL (endC D c) := by
  intro x hx
  unfold endC at hx
  rcases List.mem_append.1 hx with hx | hx
  · exact h x hx
  · split at hx
    · cases hx
    · rename_i hne
      simp at hx; subst hx
      exact ⟨List.length_pos_iff.2 hne, hc⟩
/-- What has been read of a line at a place. -/
def CurP (p r pl : Nat) (D : List (List Nat)) (c : List Nat) : Prop :=
  match p with
  | 1 => pl = 0 ∧ D = [] ∧ c = wOps.take r
  | 2 => pl = 0 ∧ D = [] ∧ c = []
  | 3 => pl = 0 ∧ c ≠ [] ∧ c.length ≤ 16 ∧ ∃ P, arO P ∧ D ++ [c] = wOps :: flatO P
  | 4 => pl = 0 ∧ c = [] ∧ ∃ P, arO P ∧ D = wOps :: flatO P
  | 5 => pl = 0 ∧ c.length = r ∧ ∃ P, arO P ∧ D = wOps :: flatO P
  | 6 => pl = 0 ∧ c = [] ∧ ∃ P n, arO P ∧ D = wOps :: flatO P ++ [n]
  | 7 => pl = 1 ∧ D = [] ∧ c = wAut.take r
  | 8 => pl = 1 ∧ D = [] ∧ c = []
  | 9 => pl = 1 ∧ D = [] ∧ c = wAut
  | 10 => pl = 1 ∧ D = [wAut] ∧ c = []
  | 11 => pl = 1 ∧ D = [wAut] ∧ c.length = r
  | 12 => pl = 2 ∧ D = [] ∧ c = wSta.take r
  | 13 => c = [] ∧ ((pl = 1 ∧ ∃ n, D = [wAut, n]) ∨ (pl = 2 ∧ D = []))
  | 14 => pl = 2 ∧ D = [] ∧ c = wSta
  | 15 => pl = 2 ∧ c = [] ∧ ∃ M, D = wSta :: M
  | 16 => pl = 2 ∧ c.length = r ∧ ∃ M, D = wSta :: M
  | 17 => pl = 3 ∧ ((r ≤ 5 ∧ D = [] ∧ c = wFin.take r) ∨ (6 ≤ r ∧ D = [wFin] ∧ c = wSta.take (r - 6)))
  | 18 => pl = 3 ∧ D = [] ∧ c = []
  | 19 => pl = 3 ∧ D = [wFin] ∧ c = wSta
  | 20 => pl = 3 ∧ c = [] ∧ ∃ M, D = wFin :: wSta :: M
  | 21 => pl = 3 ∧ c.length = r ∧ ∃ M, D = wFin :: wSta :: M
  | 22 => pl = 4 ∧ D = [] ∧ c = wTra.take r
  | 23 => pl = 4 ∧ D = [] ∧ c = []
  | 24 => pl = 5 ∧ D = [] ∧ c = []
  | 25 => (pl = 4 ∧ ((D = [] ∧ c = wTra) ∨ (D = [wTra] ∧ c = []))) ∨ (pl = 5 ∧ c = [] ∧ (D = [] ∨ ruleL D))
  | 26 => pl = 5 ∧ D = [] ∧ c.length = r
  | 27 => pl = 5 ∧ c = [] ∧ ∃ a, D = [a]
  | 28 => pl = 5 ∧ c.length = r ∧ ∃ a, D = [a]
  | 29 => pl = 5 ∧ c = [] ∧ ((∃ a, D = [a]) ∨ ∃ a b, D = [a, b])
  | 30 => pl = 5 ∧ c = [] ∧ ((∃ a, D = [a]) ∨ ∃ a b, D = [a, b])
  | 31 => pl = 5 ∧ c.length = r ∧ ((∃ a, D = [a]) ∨ ∃ a b, D = [a, b])
  | _ => False
theorem ne_of_len {c : List Nat} {r : Nat} (h : c.length = r) (hr : 1 ≤ r) : c ≠ [] := by
  rintro rfl; simp at h; omega

/-- A line feed. -/
theorem cur_feed {p r pl : Nat} {D : List (List Nat)} {c : List Nat} (hr : nameOf p = p → 1 ≤ r) (hw : wordOf p ≠ [] → r = 0) (h : CurP p r pl D c) (hf : feedOf p ≠ 0) : fineL pl (endC D c) ∧ CurP (feedOf p) 0 (nextL pl (endC D c)) [] [] := by
  match p, h with
  | 1, ⟨h1, h2, h3⟩ => obtain rfl := hw (by decide); subst h1 h2 h3; exact ⟨.inl rfl, rfl, rfl, rfl⟩
  | 2, ⟨h1, h2, h3⟩ => subst h1 h2 h3; exact ⟨.inl rfl, rfl, rfl, rfl⟩
  | 3, ⟨h1, h2, _, P, hP, e⟩ => subst h1; rw [endC_ne _ h2, e]; exact ⟨.inr (.inl ⟨rfl, P, hP, rfl⟩), by simp [CurP, nextL, feedOf]⟩
  | 4, ⟨h1, h2, P, hP, e⟩ => subst h1 h2 e; rw [endC_nil]; exact ⟨.inr (.inl ⟨rfl, P, hP, rfl⟩), by simp [CurP, nextL, feedOf]⟩
  | 7, ⟨h1, h2, h3⟩ => obtain rfl := hw (by decide); subst h1 h2 h3; exact ⟨.inl rfl, rfl, rfl, rfl⟩
  | 8, ⟨h1, h2, h3⟩ => subst h1 h2 h3; exact ⟨.inl rfl, rfl, rfl, rfl⟩
  | 11, ⟨h1, h2, h3⟩ => subst h1 h2; rw [endC_ne _ (ne_of_len h3 (hr rfl))]; exact ⟨.inr (.inr (.inl ⟨rfl, c, rfl⟩)), by simp [CurP, nextL, feedOf]⟩
  | 12, ⟨h1, h2, h3⟩ => obtain rfl := hw (by decide); subst h1 h2 h3; exact ⟨.inl rfl, rfl, rfl, rfl⟩
  | 13, ⟨h1, k⟩ =>
    subst h1; rw [endC_nil]
    rcases k with ⟨rfl, n, rfl⟩ | ⟨rfl, rfl⟩
    · exact ⟨.inr (.inr (.inl ⟨rfl, n, rfl⟩)), by simp [CurP, nextL, feedOf]⟩
    · exact ⟨.inl rfl, by simp [CurP, nextL, feedOf]⟩
  | 14, ⟨h1, h2, h3⟩ => subst h1 h2 h3; exact ⟨.inr (.inr (.inr (.inl ⟨rfl, [], by simp [endC, wSta]⟩))), by simp [CurP, nextL, feedOf, endC, wSta]⟩
  | 15, ⟨h1, h2, M, e⟩ => subst h1 h2 e; rw [endC_nil]; exact ⟨.inr (.inr (.inr (.inl ⟨rfl, M, rfl⟩))), by simp [CurP, nextL, feedOf]⟩
  | 16, ⟨h1, h2, M, e⟩ => subst h1 e; rw [endC_ne _ (ne_of_len h2 (hr rfl))]; exact ⟨.inr (.inr (.inr (.inl ⟨rfl, M ++ [c], rfl⟩))), by simp [CurP, nextL, feedOf]⟩
  | 17, ⟨h1, k⟩ =>
    obtain rfl := hw (by decide)
    rcases k with ⟨_, h2, h3⟩ | ⟨h, _⟩
    · subst h1 h2 h3; exact ⟨.inl rfl, by simp [CurP, nextL, feedOf, endC, wFin]⟩
    · omega
  | 18, ⟨h1, h2, h3⟩ => subst h1 h2 h3; exact ⟨.inl rfl, by simp [CurP, nextL, feedOf, endC, wFin]⟩
  | 19, ⟨h1, h2, h3⟩ => subst h1 h2 h3; exact ⟨.inr (.inr (.inr (.inr (.inl ⟨rfl, [], by simp [endC, wSta]⟩)))), by simp [CurP, nextL, feedOf, endC]⟩
  | 20, ⟨h1, h2, M, e⟩ => subst h1 h2 e; rw [endC_nil]; exact ⟨.inr (.inr (.inr (.inr (.inl ⟨rfl, M, rfl⟩)))), by simp [CurP, nextL, feedOf]⟩
  | 21, ⟨h1, h2, M, e⟩ => subst h1 e; rw [endC_ne _ (ne_of_len h2 (hr rfl))]; exact ⟨.inr (.inr (.inr (.inr (.inl ⟨rfl, M ++ [c], rfl⟩)))), by simp [CurP, nextL, feedOf]⟩
  | 22, ⟨h1, h2, h3⟩ => obtain rfl := hw (by decide); subst h1 h2 h3; exact ⟨.inl rfl, rfl, rfl, rfl⟩
  | 23, ⟨h1, h2, h3⟩ => subst h1 h2 h3; exact ⟨.inl rfl, rfl, rfl, rfl⟩
  | 24, ⟨h1, h2, h3⟩ => subst h1 h2 h3; exact ⟨.inl rfl, rfl, rfl, rfl⟩
  | 25, k =>
    rcases k with ⟨rfl, ⟨rfl, rfl⟩ | ⟨rfl, rfl⟩⟩ | ⟨rfl, rfl, k⟩
    · exact ⟨.inr (.inr (.inr (.inr (.inr (.inl ⟨rfl, by simp [endC, wTra]⟩))))), by simp [CurP, nextL, feedOf, endC, wTra]⟩
    · exact ⟨.inr (.inr (.inr (.inr (.inr (.inl ⟨rfl, by simp [endC]⟩))))), by simp [CurP, nextL, feedOf, endC]⟩
    · rw [endC_nil]
      rcases k with rfl | k
      · exact ⟨.inl rfl, by simp [CurP, nextL, feedOf]⟩
      · refine ⟨.inr (.inr (.inr (.inr (.inr (.inr ⟨rfl, k⟩))))), ?_⟩
        have hne : D ≠ [] := by rintro rfl; rcases k with ⟨a, b, e⟩ | ⟨a, b, c, e⟩ <;> cases e
        simp [CurP, nextL, feedOf, hne]
  | 31, ⟨h1, h2, k⟩ =>
    subst h1; rw [endC_ne _ (ne_of_len h2 (hr rfl))]
    refine ⟨.inr (.inr (.inr (.inr (.inr (.inr ⟨rfl, ?_⟩))))), by simp [CurP, nextL, feedOf]⟩
    rcases k with ⟨a, rfl⟩ | ⟨a, b, rfl⟩
    · exact .inl ⟨a, c, rfl⟩
    · exact .inr ⟨a, b, c, rfl⟩
  | 5, _ | 6, _ | 9, _ | 10, _ | 26, _ | 27, _ | 28, _ | 29, _ | 30, _ => exact absurd rfl hf

/-- A blank. -/
theorem cur_blank {p r pl : Nat} {D : List (List Nat)} {c : List Nat} (hr : nameOf p = p → 1 ≤ r) (hw : wordOf p ≠ [] → r = 0) (h : CurP p r pl D c) (hf : blankOf p ≠ 0) : CurP (blankOf p) 0 pl (endC D c) [] := by
  match p, h with
  | 1, ⟨h1, h2, h3⟩ => obtain rfl := hw (by decide); subst h1 h2 h3; exact ⟨rfl, rfl, rfl⟩
  | 2, ⟨h1, h2, h3⟩ => subst h1 h2 h3; exact ⟨rfl, rfl, rfl⟩
  | 3, ⟨h1, h2, _, P, hP, e⟩ => subst h1; rw [endC_ne _ h2, e]; exact ⟨rfl, rfl, P, hP, rfl⟩
  | 4, ⟨h1, h2, P, hP, e⟩ => subst h1 h2 e; rw [endC_nil]; exact ⟨rfl, rfl, P, hP, rfl⟩
  | 7, ⟨h1, h2, h3⟩ => obtain rfl := hw (by decide); subst h1 h2 h3; exact ⟨rfl, rfl, rfl⟩
  | 8, ⟨h1, h2, h3⟩ => subst h1 h2 h3; exact ⟨rfl, rfl, rfl⟩
  | 9, ⟨h1, h2, h3⟩ => subst h1 h2 h3; exact ⟨rfl, by simp [endC, wAut], rfl⟩
  | 10, ⟨h1, h2, h3⟩ => subst h1 h2 h3; exact ⟨rfl, by simp [endC], rfl⟩
  | 11, ⟨h1, h2, h3⟩ => subst h1 h2; rw [endC_ne _ (ne_of_len h3 (hr rfl))]; exact ⟨rfl, .inl ⟨rfl, c, rfl⟩⟩
  | 12, ⟨h1, h2, h3⟩ => obtain rfl := hw (by decide); subst h1 h2 h3; exact ⟨rfl, .inr ⟨rfl, rfl⟩⟩
  | 13, ⟨h1, k⟩ => subst h1; rw [endC_nil]; exact ⟨rfl, k⟩
  | 14, ⟨h1, h2, h3⟩ => subst h1 h2 h3; exact ⟨rfl, rfl, [], by simp [endC, wSta]⟩
  | 15, ⟨h1, h2, M, e⟩ => subst h1 h2 e; rw [endC_nil]; exact ⟨rfl, rfl, M, rfl⟩
  | 16, ⟨h1, h2, M, e⟩ => subst h1 e; rw [endC_ne _ (ne_of_len h2 (hr rfl))]; exact ⟨rfl, rfl, M ++ [c], rfl⟩
  | 17, ⟨h1, k⟩ =>
    obtain rfl := hw (by decide)
    rcases k with ⟨_, h2, h3⟩ | ⟨h, _⟩
    · subst h1 h2 h3; exact ⟨rfl, rfl, rfl⟩
    · omega
  | 18, ⟨h1, h2, h3⟩ => subst h1 h2 h3; exact ⟨rfl, rfl, rfl⟩
  | 19, ⟨h1, h2, h3⟩ => subst h1 h2 h3; exact ⟨rfl, rfl, [], by simp [endC, wSta]⟩
  | 20, ⟨h1, h2, M, e⟩ => subst h1 h2 e; rw [endC_nil]; exact ⟨rfl, rfl, M, rfl⟩
  | 21, ⟨h1, h2, M, e⟩ => subst h1 e; rw [endC_ne _ (ne_of_len h2 (hr rfl))]; exact ⟨rfl, rfl, M ++ [c], rfl⟩
  | 22, ⟨h1, h2, h3⟩ => obtain rfl := hw (by decide); subst h1 h2 h3; exact ⟨rfl, rfl, rfl⟩
  | 23, ⟨h1, h2, h3⟩ => subst h1 h2 h3; exact ⟨rfl, rfl, rfl⟩
  | 24, ⟨h1, h2, h3⟩ => subst h1 h2 h3; exact .inr ⟨rfl, rfl, .inl rfl⟩
  | 25, k =>
    rcases k with ⟨rfl, ⟨rfl, rfl⟩ | ⟨rfl, rfl⟩⟩ | ⟨rfl, rfl, k⟩
    · exact .inl ⟨rfl, .inr ⟨by simp [endC, wTra], rfl⟩⟩
    · exact .inl ⟨rfl, .inr ⟨by simp [endC], rfl⟩⟩
    · rw [endC_nil]; exact .inr ⟨rfl, rfl, k⟩
  | 29, ⟨h1, h2, k⟩ => subst h1 h2; rw [endC_nil]; exact ⟨rfl, rfl, k⟩
  | 30, ⟨h1, h2, k⟩ => subst h1 h2; rw [endC_nil]; exact ⟨rfl, rfl, k⟩
  | 31, ⟨h1, h2, k⟩ =>
    subst h1; rw [endC_ne _ (ne_of_len h2 (hr rfl))]
    refine .inr ⟨rfl, rfl, .inr ?_⟩
    rcases k with ⟨a, rfl⟩ | ⟨a, b, rfl⟩
    · exact .inl ⟨a, c, rfl⟩
    · exact .inr ⟨a, b, c, rfl⟩
  | 5, _ | 6, _ | 26, _ | 27, _ | 28, _ => exact absurd rfl hf

/-- A byte of a name. -/
theorem cur_name {p r b pl : Nat} {D : List (List Nat)} {c : List Nat} (h : CurP p r pl D c) (hf : (alongN p r).1 ≠ 0) : CurP (alongN p r).1 (alongN p r).2 pl D (c ++ [b]) := by
  have stay : ∀ p, nameOf p = p → (alongN p r).1 ≠ 0 → alongN p r = (p, r + 1) := by
    intro p hp hn
    unfold alongN at hn ⊢
    rw [if_neg (by simp [hp])] at hn ⊢
    split
    · rename_i h; rw [if_pos h] at hn; exact absurd rfl hn
    · rfl
  match p, h with
  | 4, ⟨h1, h2, P, hP, e⟩ => subst h1 h2; exact ⟨rfl, rfl, P, hP, e⟩
  | 5, ⟨h1, h2, P, hP, e⟩ => rw [stay 5 rfl hf]; exact ⟨h1, by simp [h2], P, hP, e⟩
  | 10, ⟨h1, h2, h3⟩ => subst h3; exact ⟨h1, h2, rfl⟩
  | 11, ⟨h1, h2, h3⟩ => rw [stay 11 rfl hf]; exact ⟨h1, h2, by simp [h3]⟩
  | 15, ⟨h1, h2, h3⟩ => subst h2; exact ⟨h1, rfl, h3⟩
  | 16, ⟨h1, h2, h3⟩ => rw [stay 16 rfl hf]; exact ⟨h1, by simp [h2], h3⟩
  | 20, ⟨h1, h2, h3⟩ => subst h2; exact ⟨h1, rfl, h3⟩
  | 21, ⟨h1, h2, h3⟩ => rw [stay 21 rfl hf]; exact ⟨h1, by simp [h2], h3⟩
  | 24, ⟨h1, h2, h3⟩ => subst h3; exact ⟨h1, h2, rfl⟩
  | 26, ⟨h1, h2, h3⟩ => rw [stay 26 rfl hf]; exact ⟨h1, h2, by simp [h3]⟩
  | 27, ⟨h1, h2, h3⟩ => subst h2; exact ⟨h1, rfl, h3⟩
  | 28, ⟨h1, h2, h3⟩ => rw [stay 28 rfl hf]; exact ⟨h1, by simp [h2], h3⟩
  | 30, ⟨h1, h2, h3⟩ => subst h2; exact ⟨h1, rfl, h3⟩
  | 31, ⟨h1, h2, h3⟩ => rw [stay 31 rfl hf]; exact ⟨h1, by simp [h2], h3⟩
  | 1, _ | 2, _ | 3, _ | 6, _ | 7, _ | 8, _ | 9, _ | 12, _ | 13, _ | 14, _ | 17, _ | 18, _ | 19, _ | 22, _ | 23, _ | 25, _ | 29, _ => exact absurd rfl hf

/-- A sign: 0 and 1 are bytes of names, the others aren't. -/
theorem cur_sign {p r b pl : Nat} {D : List (List Nat)} {c : List Nat} (hr : nameOf p = p → 1 ≤ r) (h : CurP p r pl D c) (hf : (signsOf p).contains b = true) :
    (b = 48 ∨ b = 49) ∧ CurP (pastOf p) 0 pl D (c ++ [b]) ∨ (b = 58 ∨ b = 40 ∨ b = 41) ∧ CurP (pastOf p) 0 pl (endC D c) [] := by
  match p, h with
  | 5, ⟨h1, h2, P, hP, e⟩ =>
    subst h1 e
    refine .inr ⟨.inl (by simpa [signsOf] using hf), rfl, rfl, P, c, hP, ?_⟩
    rw [endC_ne _ (ne_of_len h2 (hr rfl))]
  | 6, ⟨h1, h2, P, n, hP, e⟩ =>
    subst h1 h2 e
    have hb : b = 48 ∨ b = 49 := by simpa [signsOf] using hf
    exact .inl ⟨hb, rfl, by simp, by simp, P ++ [(n, b)], arO_add hP n hb, by simp [flatO]⟩
  | 26, ⟨h1, h2, h3⟩ =>
    subst h1 h2
    refine .inr ⟨.inr (.inl (by simpa [signsOf] using hf)), rfl, rfl, c, ?_⟩
    rw [endC_ne _ (ne_of_len h3 (hr rfl))]; rfl
  | 27, ⟨h1, h2, a, e⟩ =>
    subst h1 h2 e
    exact .inr ⟨.inr (.inr (by simpa [signsOf] using hf)), rfl, rfl, .inl ⟨a, by simp [endC]⟩⟩
  | 28, ⟨h1, h2, a, e⟩ =>
    subst h1 e
    refine .inr ⟨.inr (.inr (by simpa [signsOf] using hf)), rfl, rfl, .inr ⟨a, c, ?_⟩⟩
    rw [endC_ne _ (ne_of_len h2 (hr rfl))]; rfl
  | 1, _ | 2, _ | 3, _ | 4, _ | 7, _ | 8, _ | 9, _ | 10, _ | 11, _ | 12, _ | 13, _ | 14, _ | 15, _ | 16, _ | 17, _ | 18, _ | 19, _ | 20, _ | 21, _ | 22, _ | 23, _ | 24, _ | 25, _ | 29, _ | 30, _ | 31, _ => cases hf

theorem take_one {w : List Nat} {r : Nat} (h : r < w.length) : w.take r ++ [w.getD r 0] = w.take (r + 1) := by
  rw [List.take_add_one, List.getElem?_eq_getElem h]
  simp [h]
/-- A byte of a word. -/
theorem cur_word {p r pl : Nat} {D : List (List Nat)} {c : List Nat} (hw : wordOf p ≠ []) (hr : r < (wordOf p).length) (h : CurP p r pl D c) :
    isNm ((wordOf p).getD r 0) = true ∧ CurP (alongW p r).1 (alongW p r).2 pl D (c ++ [(wordOf p).getD r 0]) ∨
    isNm ((wordOf p).getD r 0) = false ∧ (wordOf p).getD r 0 ≠ 10 ∧ CurP (alongW p r).1 (alongW p r).2 pl (endC D c) [] := by
  have one : ∀ q (w : List Nat), wordOf q = w → r < w.length → (∀ j, j < w.length → isNm (w.getD j 0) = true) → (∀ j, j < w.length → CurP q j pl D (w.take j)) → CurP (pastOf q) 0 pl D w → c = w.take r → isNm ((wordOf q).getD r 0) = true ∧ CurP (alongW q r).1 (alongW q r).2 pl D (c ++ [(wordOf q).getD r 0]) := by
    intro q w e hr hn h1 h2 hc
    subst e
    refine ⟨hn r hr, ?_⟩
    rw [hc, take_one hr]
    unfold alongW
    split
    · rename_i hl
      rw [hl, List.take_length]
      exact h2
    · exact h1 (r + 1) (by omega)
  match p, h with
  | 1, ⟨h1, h2, h3⟩ => exact .inl (one 1 wOps rfl hr (by decide) (fun j hj => ⟨h1, h2, rfl⟩) ⟨h1, by decide, by decide, [], by simp [arO], by rw [h2]; rfl⟩ h3)
  | 7, ⟨h1, h2, h3⟩ => exact .inl (one 7 wAut rfl hr (by decide) (fun j hj => ⟨h1, h2, rfl⟩) ⟨h1, h2, rfl⟩ h3)
  | 12, ⟨h1, h2, h3⟩ => exact .inl (one 12 wSta rfl hr (by decide) (fun j hj => ⟨h1, h2, rfl⟩) ⟨h1, h2, rfl⟩ h3)
  | 22, ⟨h1, h2, h3⟩ => exact .inl (one 22 wTra rfl hr (by decide) (fun j hj => ⟨h1, h2, rfl⟩) (.inl ⟨h1, .inl ⟨h2, rfl⟩⟩) h3)
  | 17, ⟨h1, k⟩ =>
    have hr' : r < 12 := hr
    rcases k with ⟨h2, h3, h4⟩ | ⟨h2, h3, h4⟩
    · by_cases h5 : r = 5
      · subst h5 h3 h4
        exact .inr ⟨by decide, by decide, h1, .inr ⟨by decide, by decide, rfl⟩⟩
      · left
        have hlt : r < 5 := by omega
        have e : (wordOf 17).getD r 0 = wFin.getD r 0 := by
          match r, hlt with
          | 0, _ | 1, _ | 2, _ | 3, _ | 4, _ => rfl
        have n : isNm ((wordOf 17).getD r 0) = true := by
          match r, hlt with
          | 0, _ | 1, _ | 2, _ | 3, _ | 4, _ => rfl
        have ea : alongW 17 r = (17, r + 1) := by
          match r, hlt with
          | 0, _ | 1, _ | 2, _ | 3, _ | 4, _ => rfl
        refine ⟨n, ?_⟩
        rw [ea, e, h4, take_one (w := wFin) (by show r < 5; omega)]
        exact ⟨h1, .inl ⟨by omega, h3, rfl⟩⟩
    · left
      obtain ⟨k, rfl⟩ : ∃ k, r = 6 + k := ⟨r - 6, by omega⟩
      have hk : k < 6 := by omega
      rw [Nat.add_sub_cancel_left] at h4
      have e : (wordOf 17).getD (6 + k) 0 = wSta.getD k 0 := by
        match k, hk with
        | 0, _ | 1, _ | 2, _ | 3, _ | 4, _ | 5, _ => rfl
      have n : isNm ((wordOf 17).getD (6 + k) 0) = true := by
        match k, hk with
        | 0, _ | 1, _ | 2, _ | 3, _ | 4, _ | 5, _ => rfl
      refine ⟨n, ?_⟩
      rw [e, h4, take_one (w := wSta) hk]
      by_cases h5 : k = 5
      · subst h5; exact ⟨h1, h3, rfl⟩
      · have ea : alongW 17 (6 + k) = (17, 6 + (k + 1)) := by
          have hk' : k < 5 := by omega
          match k, hk' with
          | 0, _ | 1, _ | 2, _ | 3, _ | 4, _ => rfl
        rw [ea]
        exact ⟨h1, .inr ⟨by simp, h3, by show _ = List.take (6 + (k + 1) - 6) wSta; rw [Nat.add_sub_cancel_left]⟩⟩
  | 29, ⟨h1, h2, k⟩ =>
    subst h2
    have hr' : r < 2 := hr
    right
    rw [endC_nil]
    match r, hr' with
    | 0, _ => exact ⟨rfl, by decide, h1, rfl, k⟩
    | 1, _ => exact ⟨rfl, by decide, h1, rfl, k⟩
  | 2, _ | 3, _ | 4, _ | 5, _ | 6, _ | 8, _ | 9, _ | 10, _ | 11, _ | 13, _ | 14, _ | 15, _ | 16, _ | 18, _ | 19, _ | 20, _ | 21, _ | 23, _ | 24, _ | 25, _ | 26, _ | 27, _ | 28, _ | 30, _ | 31, _ => exact absurd rfl hw
end Go.Proofs.YtmagchclmmphaaaDoor
namespace Go.Proofs.YtmagchclmmphaaaDoor

def fdB (b : Nat) : Bool := b != 10
/-- Lines that a file may begin with, and what comes next. -/
inductive Good : List (List Nat) → Nat → Prop
  | nil : Good [] 0
  | add {Ls : List (List Nat)} {pl : Nat} (l : List Nat) : Good Ls pl → fineL pl (runsF isNm [] l) → shortL (runsF isNm [] l) → Good (Ls ++ [l]) (nextL pl (runsF isNm [] l))
/-- What has been read of a file. -/
def InvL (q : Nat × Nat) (u : List Nat) : Prop := ∃ pl Ls c D cur, RunS fdB u Ls c ∧ RunS isNm c D cur ∧ Good Ls pl ∧ CurP q.1 q.2 pl D cur ∧ shortL D

theorem ok_word {p r : Nat} (h : okS (p, r) = true) (hw : wordOf p ≠ []) : r < (wordOf p).length := by
  simp only [okS, Bool.and_eq_true] at h
  have := h.2
  rw [if_pos hw] at this
  simpa using this
theorem ok_name {p r : Nat} (h : okS (p, r) = true) (hn : nameOf p = p) : 1 ≤ r ∧ r ≤ 16 := by
  have hb := ok_bound h
  have hw : wordOf p = [] := by
    have : ∀ p, p < 32 → 1 ≤ p → nameOf p = p → wordOf p = [] := by decide
    exact this p hb.2.1 hb.1 hn
  simp only [okS, Bool.and_eq_true] at h
  have := h.2
  rw [if_neg (by simp [hw]), if_pos hn] at this
  simpa using this
theorem cur_len {p r pl : Nat} {D : List (List Nat)} {c : List Nat} (hs : okS (p, r) = true) (h : CurP p r pl D c) : c.length ≤ 16 := by
  have len : ∀ (w : List Nat), w.length ≤ 16 → (w.take r).length ≤ 16 := fun w hw => by rw [List.length_take]; omega
  match p, h with
  | 1, ⟨_, _, e⟩ => rw [e]; exact len wOps (by decide)
  | 7, ⟨_, _, e⟩ => rw [e]; exact len wAut (by decide)
  | 12, ⟨_, _, e⟩ => rw [e]; exact len wSta (by decide)
  | 22, ⟨_, _, e⟩ => rw [e]; exact len wTra (by decide)
  | 17, ⟨_, .inl ⟨_, _, e⟩⟩ => rw [e]; exact len wFin (by decide)
  | 17, ⟨_, .inr ⟨_, _, e⟩⟩ => rw [e, List.length_take]; exact Nat.le_trans (Nat.min_le_right _ _) (by decide)
  | 3, ⟨_, _, e, _⟩ => exact e
  | 9, ⟨_, _, e⟩ => rw [e]; decide
  | 14, ⟨_, _, e⟩ => rw [e]; decide
  | 19, ⟨_, _, e⟩ => rw [e]; decide
  | 5, ⟨_, e, _⟩ => rw [e]; exact (ok_name hs rfl).2
  | 11, ⟨_, _, e⟩ => rw [e]; exact (ok_name hs rfl).2
  | 16, ⟨_, e, _⟩ => rw [e]; exact (ok_name hs rfl).2
  | 21, ⟨_, e, _⟩ => rw [e]; exact (ok_name hs rfl).2
  | 26, ⟨_, _, e⟩ => rw [e]; exact (ok_name hs rfl).2
  | 28, ⟨_, e, _⟩ => rw [e]; exact (ok_name hs rfl).2
  | 31, ⟨_, e, _⟩ => rw [e]; exact (ok_name hs rfl).2
  | 25, k =>
    rcases k with ⟨_, ⟨_, e⟩ | ⟨_, e⟩⟩ | ⟨_, e, _⟩ <;> rw [e] <;> decide
  | 2, ⟨_, _, e⟩ => rw [e]; decide
  | 8, ⟨_, _, e⟩ => rw [e]; decide
  | 18, ⟨_, _, e⟩ => rw [e]; decide
  | 23, ⟨_, _, e⟩ => rw [e]; decide
  | 24, ⟨_, _, e⟩ => rw [e]; decide
  | 10, ⟨_, _, e⟩ => rw [e]; decide
  | 4, ⟨_, e, _⟩ => rw [e]; decide
  | 6, ⟨_, e, _⟩ => rw [e]; decide
  | 13, ⟨e, _⟩ => rw [e]; decide
  | 15, ⟨_, e, _⟩ => rw [e]; decide
  | 20, ⟨_, e, _⟩ => rw [e]; decide
  | 27, ⟨_, e, _⟩ => rw [e]; decide
  | 29, ⟨_, e, _⟩ => rw [e]; decide
  | 30, ⟨_, e, _⟩ => rw [e]; decide

theorem shortL_nil : shortL [] := fun _ h => by cases h
/-- A line feed ends the line. -/
theorem InvL.feed {p r : Nat} {u : List Nat} (hs : okS (p, r) = true) (hw : wordOf p ≠ [] → r = 0) (h : InvL (p, r) u) (hf : feedOf p ≠ 0) : InvL (feedOf p, 0) (u ++ [10]) ∧ ∃ pl, Good (runsF fdB [] u) pl ∧ CurP (feedOf p) 0 pl [] [] := by
  obtain ⟨pl, Ls, c, D, cur, h1, h2, h3, h4, h5⟩ := h
  have hl := cur_len hs h4
  obtain ⟨hfi, hcu⟩ := cur_feed (fun h => (ok_name hs h).1) hw h4 hf
  have hsh := shortL_end h5 hl
  rw [← h2.all] at hfi hcu hsh
  have g : Good (endC Ls c) (nextL pl (runsF isNm [] c)) := by
    by_cases hc : c = []
    · subst hc
      rw [endC_nil]
      simpa [nextL, runsF, endC] using h3
    · rw [endC_ne _ hc]
      exact .add c h3 hfi hsh
  refine ⟨⟨_, _, [], [], [], h1.off rfl, RunS.nil _, g, hcu, shortL_nil⟩, _, by rw [h1.all]; exact g, hcu⟩
theorem InvL.next {q : Nat × Nat} {u : List Nat} {b : Nat} (hs : okS q = true) (h : InvL q u) (hn : (stepF q b).1 ≠ 0) : InvL (stepF q b) (u ++ [b]) := by
  obtain ⟨p, r⟩ := q
  have name : ∀ {pl : Nat} {Ls D : List (List Nat)} {c cur : List Nat} {q' : Nat × Nat}, RunS fdB u Ls c → RunS isNm c D cur → Good Ls pl → shortL D → isNm b = true → CurP q'.1 q'.2 pl D (cur ++ [b]) → InvL q' (u ++ [b]) := by
    intro pl Ls D c cur q' h1 h2 h3 h5 hb hc
    have h10 : fdB b = true := by
      unfold fdB
      rw [bne_iff_ne]; rintro rfl; revert hb; decide
    exact ⟨pl, Ls, c ++ [b], D, cur ++ [b], h1.on h10, h2.on hb, h3, hc, h5⟩
  have off : ∀ {pl : Nat} {Ls D : List (List Nat)} {c cur : List Nat} {q' : Nat × Nat}, RunS fdB u Ls c → RunS isNm c D cur → Good Ls pl → shortL D → cur.length ≤ 16 → isNm b = false → b ≠ 10 → CurP q'.1 q'.2 pl (endC D cur) [] → InvL q' (u ++ [b]) := by
    intro pl Ls D c cur q' h1 h2 h3 h5 hl hb hb2 hc
    exact ⟨pl, Ls, c ++ [b], endC D cur, [], h1.on (by unfold fdB; simpa using hb2), h2.off hb, h3, hc, shortL_end h5 hl⟩
  rcases step_kinds (p, r) b hn with ⟨a1, a2, a3⟩ | ⟨a0, ⟨a1, a⟩ | ⟨a1, a⟩ | ⟨a1, a⟩ | ⟨a1, a⟩⟩
  · obtain ⟨pl, Ls, c, D, cur, h1, h2, h3, h4, h5⟩ := h
    rw [a3]
    have := cur_word a1 (ok_word hs a1) h4
    simp only at a2
    rw [a2] at this
    rcases this with ⟨k1, k2⟩ | ⟨k1, k2, k3⟩
    · exact name h1 h2 h3 h5 k1 k2
    · exact off h1 h2 h3 h5 (cur_len hs h4) k1 k2 k3
  · rw [a] at hn ⊢
    subst a1
    exact (h.feed hs (fun x => a0.resolve_left x) hn).1
  · rw [a] at hn ⊢
    obtain ⟨pl, Ls, c, D, cur, h1, h2, h3, h4, h5⟩ := h
    refine off h1 h2 h3 h5 (cur_len hs h4) ?_ ?_ (cur_blank (fun h => (ok_name hs h).1) (fun x => a0.resolve_left x) h4 hn)
    · rcases a1 with rfl | rfl <;> decide
    · rcases a1 with rfl | rfl <;> decide
  · rw [a] at hn ⊢
    obtain ⟨pl, Ls, c, D, cur, h1, h2, h3, h4, h5⟩ := h
    rcases cur_sign (fun h => (ok_name hs h).1) h4 a1 with ⟨k1, k2⟩ | ⟨k1, k2⟩
    · exact name h1 h2 h3 h5 (by rcases k1 with rfl | rfl <;> decide) k2
    · exact off h1 h2 h3 h5 (cur_len hs h4) (by rcases k1 with rfl | rfl | rfl <;> decide) (by rcases k1 with rfl | rfl | rfl <;> decide) k2
  · rw [a] at hn ⊢
    obtain ⟨pl, Ls, c, D, cur, h1, h2, h3, h4, h5⟩ := h
    exact name h1 h2 h3 h5 a1 (cur_name h4 hn)
theorem InvL.go {q : Nat × Nat} {u : List Nat} (v : List Nat) (hs : okS q = true) (h : InvL q u) (hl : (goF q v).2 = v.length) : InvL (goF q v).1 (u ++ v) := by
  induction v generalizing q u with
  | nil => simpa [goF] using h
  | cons b t ih =>
    by_cases hn : (stepF q b).1 = 0
    · rw [goF_stop t hn] at hl; simp at hl
    · rw [goF_on t hn] at hl ⊢
      have := ih (step_ok hs hn) (h.next hs hn) (by simpa using hl)
      simpa using this
/-- A file's lines. -/
theorem good_of {u : List Nat} (hl : (goF (1, 0) u).2 = u.length) (hf : isF (goF (1, 0) u).1 = true) : Good (runsF fdB [] u) 5 := by
  have h0 : InvL (1, 0) [] := ⟨0, [], [], [], [], RunS.nil _, RunS.nil _, .nil, ⟨rfl, rfl, rfl⟩, shortL_nil⟩
  have h := h0.go u (by decide) hl
  rw [List.nil_append] at h
  have hok : okS (goF (1, 0) u).1 = true := goF_ok (by decide) u
  generalize (goF (1, 0) u).1 = q at *
  obtain ⟨p, r⟩ := q
  unfold isF at hf
  rw [beq_iff_eq] at hf
  have hn : (stepF (p, r) 10).1 ≠ 0 := by rw [hf]; decide
  rcases step_kinds (p, r) 10 hn with ⟨a1, a2, a3⟩ | ⟨a0, ⟨a1, a⟩ | ⟨a1, a⟩ | ⟨a1, a⟩ | ⟨a1, a⟩⟩
  · have k : ∀ p, p < 32 → ∀ r, r < (wordOf p).length → (wordOf p).getD r 0 ≠ 10 := by decide
    exact absurd a2 (k p (ok_bound hok).2.1 r (ok_word hok a1))
  · rw [a] at hf
    obtain ⟨_, pl, g, k⟩ := h.feed hok (fun x => a0.resolve_left x) (by rw [show feedOf p = 24 from hf]; decide)
    rw [show feedOf p = 24 from hf] at k
    rw [k.1] at g
    exact g
  · omega
  · have k : ∀ p, p < 32 → ((signsOf p).contains 10) = false := by decide
    simp only at a1
    rw [k p (ok_bound hok).2.1] at a1
    cases a1
  · exact absurd a1 (by decide)

/-- Runs are no longer than what they are of. -/
theorem runs_len (h : Nat → Bool) (t c : List Nat) : (runsF h c t).flatten.length ≤ c.length + t.length := by
  induction t generalizing c with
  | nil => unfold runsF endC; split <;> simp
  | cons b t ih =>
    unfold runsF
    split
    · have := ih (c ++ [b]); simp at this ⊢; omega
    · have := ih []
      unfold endC
      split <;> simp at this ⊢ <;> omega
theorem runs_pos (h : Nat → Bool) (t c : List Nat) : ∀ x ∈ runsF h c t, 0 < x.length := by
  have e : ∀ c x, x ∈ endC [] c → 0 < x.length := by
    intro c x hx
    unfold endC at hx
    split at hx
    · cases hx
    · rename_i hc; simp at hx; subst hx; exact List.length_pos_iff.2 hc
  induction t generalizing c with
  | nil => exact e c
  | cons b t ih =>
    unfold runsF
    split
    · exact ih _
    · intro x hx
      rcases List.mem_append.1 hx with hx | hx
      · exact e c x hx
      · exact ih _ x hx
/-- Runs lie apart: n of them take n - 1 bytes besides their own. -/
theorem runs_room (h : Nat → Bool) (t c : List Nat) : (runsF h c t).flatten.length + (runsF h c t).length ≤ c.length + t.length + 1 := by
  have e : ∀ c : List Nat, (endC [] c).flatten.length = c.length ∧ (endC [] c).length ≤ 1 := by
    intro c
    unfold endC
    split
    · rename_i hc; subst hc; exact ⟨rfl, Nat.zero_le _⟩
    · simp
  induction t generalizing c with
  | nil =>
    have := e c
    unfold runsF
    rw [List.length_nil]; omega
  | cons b t ih =>
    unfold runsF
    split
    · have := ih (c ++ [b])
      rw [List.length_append, List.length_singleton] at this
      rw [List.length_cons]; omega
    · have h1 := ih []
      have h2 := e c
      rw [List.flatten_append, List.length_append, List.length_append, List.length_cons]
      rw [List.length_nil] at h1
      omega
theorem flat_le {L : List (List Nat)} (h : ∀ x ∈ L, 0 < x.length) : L.length ≤ L.flatten.length := by
  induction L with
  | nil => simp
  | cons a t ih =>
    have h1 := h a (by simp)
    have h2 := ih (fun x hx => h x (by simp [hx]))
    rw [List.flatten_cons, List.length_append, List.length_cons]; omega
theorem runs_half (h : Nat → Bool) (t : List Nat) : 2 * (runsF h [] t).length ≤ t.length + 1 := by
  have h1 := runs_room h t []
  have h2 := flat_le (runs_pos h t [])
  rw [List.length_nil] at h1; omega
theorem runs_count (h : Nat → Bool) (t : List Nat) : (runsF h [] t).length ≤ t.length := by
  have h1 := runs_len h t []
  have h2 := flat_le (runs_pos h t [])
  rw [List.length_nil] at h1; omega
end Go.Proofs.YtmagchclmmphaaaDoor
namespace Go.Proofs.YtmagchclmmphaaaDoor

/-! ### The canonical text goes through the places, and its lines are what they should be -/
structure XI (q : Nat × Nat) (u : List Nat) (LP : List (List (List Nat))) (c : List Nat) (D : List (List Nat)) (cur : List Nat) : Prop where
  go : goF (1, 0) u = (q, u.length)
  ls : ∃ Ls, RunS fdB u Ls c ∧ Ls.map (runsF isNm []) = LP
  ps : RunS isNm c D cur
theorem goF_one {q q' : Nat × Nat} {u : List Nat} {b : Nat} (h : goF (1, 0) u = (q, u.length)) (hs : stepF q b = q') (hq : q'.1 ≠ 0) : goF (1, 0) (u ++ [b]) = (q', (u ++ [b]).length) := by
  rw [goF_app [b] (by rw [h]), h]
  simp only
  rw [goF_on [] (by rw [hs]; exact hq), hs]
  simp [goF]
theorem fd_of_nm {b : Nat} (h : isNm b = true) : fdB b = true := by
  unfold fdB; rw [bne_iff_ne]; rintro rfl; revert h; decide
theorem XI.nm {q q' : Nat × Nat} {u c cur : List Nat} {LP : List (List (List Nat))} {D : List (List Nat)} {b : Nat} (h : XI q u LP c D cur) (hb : isNm b = true) (hs : stepF q b = q') (hq : q'.1 ≠ 0) : XI q' (u ++ [b]) LP (c ++ [b]) D (cur ++ [b]) := by
  obtain ⟨Ls, h1, h2⟩ := h.ls
  exact ⟨goF_one h.go hs hq, ⟨Ls, h1.on (fd_of_nm hb), h2⟩, h.ps.on hb⟩
theorem XI.off {q q' : Nat × Nat} {u c cur : List Nat} {LP : List (List (List Nat))} {D : List (List Nat)} {b : Nat} (h : XI q u LP c D cur) (hb : isNm b = false) (h10 : b ≠ 10) (hs : stepF q b = q') (hq : q'.1 ≠ 0) : XI q' (u ++ [b]) LP (c ++ [b]) (endC D cur) [] := by
  obtain ⟨Ls, h1, h2⟩ := h.ls
  exact ⟨goF_one h.go hs hq, ⟨Ls, h1.on (by unfold fdB; simpa using h10), h2⟩, h.ps.off hb⟩
/-- Inside a line, whose pieces so far are E. -/
def XE (q : Nat × Nat) (u : List Nat) (LP : List (List (List Nat))) (E : List (List Nat)) : Prop := ∃ c D cur, c ≠ [] ∧ endC D cur = E ∧ XI q u LP c D cur
/-- .. at the end of a piece that may go on. -/
def XC (q : Nat × Nat) (u : List Nat) (LP : List (List (List Nat))) (D : List (List Nat)) (cur : List Nat) : Prop := ∃ c, c ≠ [] ∧ XI q u LP c D cur
/-- At a line's beginning. -/
def XK (q : Nat × Nat) (u : List Nat) (LP : List (List (List Nat))) : Prop := XI q u LP [] [] []
theorem XC.e {q : Nat × Nat} {u cur : List Nat} {LP : List (List (List Nat))} {D : List (List Nat)} (h : XC q u LP D cur) : XE q u LP (endC D cur) := by
  obtain ⟨c, hc, h⟩ := h
  exact ⟨c, D, cur, hc, rfl, h⟩
theorem XE.off {q q' : Nat × Nat} {u : List Nat} {LP : List (List (List Nat))} {E : List (List Nat)} {b : Nat} (h : XE q u LP E) (hb : isNm b = false) (h10 : b ≠ 10) (hs : stepF q b = q') (hq : q'.1 ≠ 0) : XC q' (u ++ [b]) LP E [] := by
  obtain ⟨c, D, cur, hc, rfl, h⟩ := h
  exact ⟨c ++ [b], by simp, h.off hb h10 hs hq⟩
theorem XE.feed {q q' : Nat × Nat} {u : List Nat} {LP : List (List (List Nat))} {E : List (List Nat)} (h : XE q u LP E) (hs : stepF q 10 = q') (hq : q'.1 ≠ 0) : XK q' (u ++ [10]) (LP ++ [E]) := by
  obtain ⟨c, D, cur, hc, rfl, h⟩ := h
  obtain ⟨Ls, h1, h2⟩ := h.ls
  refine ⟨goF_one h.go hs hq, ⟨endC Ls c, h1.off rfl, ?_⟩, RunS.nil _⟩
  rw [endC_ne _ hc, List.map_append, h2, List.map_singleton, h.ps.all]
theorem XC.run {q q' : Nat × Nat} {u cur : List Nat} {LP : List (List (List Nat))} {D : List (List Nat)} (n : List Nat) (hn : ∀ b ∈ n, isNm b = true) (hg : goF q n = (q', n.length)) (h : XC q u LP D cur) : XC q' (u ++ n) LP D (cur ++ n) := by
  induction n generalizing q u cur with
  | nil =>
    have : q = q' := by simpa [goF] using congrArg Prod.fst hg
    subst this
    simpa using h
  | cons b t ih =>
    by_cases hz : (stepF q b).1 = 0
    · rw [goF_stop t hz] at hg; simp at hg
    · rw [goF_on t hz] at hg
      obtain ⟨c, hc, h⟩ := h
      have h1 : XC (stepF q b) (u ++ [b]) LP D (cur ++ [b]) := ⟨c ++ [b], by simp, h.nm (hn b (by simp)) rfl hz⟩
      have := ih (fun x hx => hn x (by simp [hx])) (by
        have e1 := congrArg Prod.fst hg
        have e2 := congrArg Prod.snd hg
        simp at e1 e2
        exact Prod.ext e1 e2) h1
      simpa using this
theorem XK.run {q q' : Nat × Nat} {u : List Nat} {LP : List (List (List Nat))} (n : List Nat) (h0 : n ≠ []) (hn : ∀ b ∈ n, isNm b = true) (hg : goF q n = (q', n.length)) (h : XK q u LP) : XC q' (u ++ n) LP [] n := by
  match n, h0 with
  | b :: t, _ =>
    by_cases hz : (stepF q b).1 = 0
    · rw [goF_stop t hz] at hg; simp at hg
    · rw [goF_on t hz] at hg
      have h1 : XC (stepF q b) (u ++ [b]) LP [] [b] := ⟨[b], by simp, by have := XI.nm h (hn b (by simp)) rfl hz; simpa using this⟩
      have := h1.run t (fun x hx => hn x (by simp [hx])) (by
        have e1 := congrArg Prod.fst hg
        have e2 := congrArg Prod.snd hg
        simp at e1 e2
        exact Prod.ext e1 e2)
      simpa using this
/-- A name. -/
def nmOk (n : List Nat) : Prop := n ≠ [] ∧ n.length ≤ 16 ∧ ∀ b ∈ n, isNm b = true
/-- A place at which a name is read. -/
def entry (p p' : Nat) : Bool := nameOf p == p' && p' != p && nameOf p' == p' && wordOf p == [] && wordOf p' == [] && p' != 0 && (signsOf p).all (fun c => !isNm c) && (signsOf p').all (fun c => !isNm c)
theorem step_nm {p r b : Nat} (hw : wordOf p = []) (hs : (signsOf p).all (fun c => !isNm c) = true) (hb : isNm b = true) : stepF (p, r) b = alongN p r := by
  unfold stepF
  rw [if_neg (by simp [hw]), if_neg (by simp [hw]), if_neg (by rintro rfl; revert hb; decide), if_neg (by rintro (rfl | rfl) <;> revert hb <;> decide)]
  rw [if_neg ?_, if_pos hb]
  intro hc
  have := List.all_eq_true.1 hs b (by simpa using hc)
  simp [hb] at this
theorem name_rest {p : Nat} (hw : wordOf p = []) (hs : (signsOf p).all (fun c => !isNm c) = true) (hp : nameOf p = p) (h0 : p ≠ 0) : ∀ (n : List Nat) (r : Nat), (∀ b ∈ n, isNm b = true) → r + n.length ≤ 16 → goF (p, r) n = ((p, r + n.length), n.length)
  | [], r, _, _ => rfl
  | b :: t, r, hn, hl => by
    have hs1 : stepF (p, r) b = (p, r + 1) := by
      rw [step_nm hw hs (hn b (by simp))]
      unfold alongN
      rw [if_neg (by simp [hp]), if_neg (by simp at hl; omega)]
    rw [goF_on t (by rw [hs1]; exact h0), hs1, name_rest hw hs hp h0 t (r + 1) (fun x hx => hn x (by simp [hx])) (by simp at hl; omega)]
    simp; omega
theorem name_go {p p' : Nat} (he : entry p p' = true) {n : List Nat} (hn : nmOk n) : goF (p, 0) n = ((p', n.length), n.length) := by
  unfold entry at he
  simp only [Bool.and_eq_true, beq_iff_eq, bne_iff_ne] at he
  obtain ⟨⟨⟨⟨⟨⟨⟨e1, e2⟩, e3⟩, e4⟩, e5⟩, e6⟩, e7⟩, e8⟩ := he
  obtain ⟨h0, hl, hb⟩ := hn
  match n, h0 with
  | b :: t, _ =>
    have hs1 : stepF (p, 0) b = (p', 1) := by
      rw [step_nm e4 e7 (hb b (by simp))]
      unfold alongN
      rw [if_pos (by rw [e1]; exact e2), e1]
    rw [goF_on t (by rw [hs1]; exact e6), hs1, name_rest e5 e8 e3 e6 t 1 (fun x hx => hb x (by simp [hx])) (by simp at hl; omega)]
    simp; omega

/-- A blank, then a name. -/
theorem XE.blName {q : Nat × Nat} {u : List Nat} {LP : List (List (List Nat))} {E : List (List Nat)} {p p' : Nat} (h : XE q u LP E) (hs : stepF q 32 = (p, 0)) (hp : p ≠ 0) (he : entry p p' = true) {n : List Nat} (hn : nmOk n) : XC (p', n.length) (u ++ [32] ++ n) LP E n := by
  have h1 := h.off (b := 32) (by decide) (by decide) hs hp
  have h2 := h1.run n hn.2.2 (name_go he hn)
  simpa using h2
theorem XC.e1 {q : Nat × Nat} {u cur : List Nat} {LP : List (List (List Nat))} {D : List (List Nat)} (h : XC q u LP D cur) (hc : cur ≠ []) : XE q u LP (D ++ [cur]) := by
  have := h.e
  rwa [endC_ne _ hc] at this
theorem bl_step {p p' r : Nat} (hw : wordOf p = []) (hb : blankOf p = p') : stepF (p, r) 32 = (p', 0) := by
  unfold stepF; rw [if_neg (by simp [hw]), if_neg (by simp [hw]), if_neg (by decide), if_pos (.inl rfl), hb]
theorem fd_step {p p' r : Nat} (hw : wordOf p = []) (hb : feedOf p = p') : stepF (p, r) 10 = (p', 0) := by
  unfold stepF; rw [if_neg (by simp [hw]), if_neg (by simp [hw]), if_pos rfl, hb]
theorem sg_step {p p' r b : Nat} (hw : wordOf p = []) (h1 : b ≠ 10) (h2 : b ≠ 32) (h3 : b ≠ 9) (hs : (signsOf p).contains b = true) (hb : pastOf p = p') : stepF (p, r) b = (p', 0) := by
  unfold stepF; rw [if_neg (by simp [hw]), if_neg (by simp [hw]), if_neg h1, if_neg (by rintro (h | h); exact h2 h; exact h3 h), if_pos hs, hb]

/-- An op. -/
theorem XE.op {u : List Nat} {LP : List (List (List Nat))} {E : List (List Nat)} (h : XE (3, 0) u LP E) {n : List Nat} (hn : nmOk n) {d : Nat} (hd : d = 48 ∨ d = 49) : XE (3, 0) (u ++ ([32] ++ n ++ [58, d])) LP (E ++ [n] ++ [[d]]) := by
  have h1 := h.blName (p := 4) (p' := 5) (by decide) (by decide) (by decide) hn
  have h2 := (h1.e1 hn.1).off (b := 58) (q' := (6, 0)) (by decide) (by decide) (sg_step (by decide) (by decide) (by decide) (by decide) (by decide) (by decide)) (by decide)
  have h3 := h2.run [d] (by intro b hb; rw [List.mem_singleton.1 hb]; rcases hd with rfl | rfl <;> decide) (q' := (3, 0)) (by rcases hd with rfl | rfl <;> decide)
  have h4 := h3.e1 (by simp)
  simpa using h4
theorem XE.ops {LP : List (List (List Nat))} : ∀ (P : List (List Nat × Nat)) {u : List Nat} {E : List (List Nat)}, XE (3, 0) u LP E → (∀ x ∈ P, nmOk x.1) → arO P → XE (3, 0) (u ++ P.flatMap fun x => [32] ++ x.1 ++ [58, x.2]) LP (E ++ flatO P)
  | [], u, E, h, _, _ => by simpa [flatO] using h
  | x :: P, u, E, h, hn, ha => by
    have h1 := h.op (hn x (by simp)) (ha x (by simp))
    have h2 := XE.ops P h1 (fun y hy => hn y (by simp [hy])) (fun y hy => ha y (by simp [hy]))
    simpa [flatO, List.append_assoc] using h2
/-- Names, a blank ahead of each: from place a, by b, to c. -/
theorem XE.names {LP : List (List (List Nat))} {a b c : Nat} (hwa : wordOf a = []) (hwc : wordOf c = []) (hba : blankOf a = b) (hbc : blankOf c = b) (hb0 : b ≠ 0) (he : entry b c = true) : ∀ (L : List (List Nat)) {r : Nat} {p : Nat} {u : List Nat} {E : List (List Nat)}, (p = a ∨ p = c) → XE (p, r) u LP E → (∀ x ∈ L, nmOk x) → ∃ p' r', (p' = a ∨ p' = c) ∧ XE (p', r') (u ++ L.flatMap fun x => [32] ++ x) LP (E ++ L)
  | [], r, p, u, E, hp, h, _ => ⟨p, r, hp, by simpa using h⟩
  | x :: L, r, p, u, E, hp, h, hn => by
    have hs : stepF (p, r) 32 = (b, 0) := by
      rcases hp with rfl | rfl
      · exact bl_step hwa hba
      · exact bl_step hwc hbc
    have h1 := (h.blName hs hb0 he (hn x (by simp))).e1 (hn x (by simp)).1
    obtain ⟨p', r', h2, h3⟩ := XE.names hwa hwc hba hbc hb0 he L (.inr rfl) h1 (fun y hy => hn y (by simp [hy]))
    exact ⟨p', r', h2, by simpa [List.append_assoc] using h3⟩
/-- A rule's pieces. -/
def ruP (r : List Nat × List Nat × List Nat) : List (List Nat) := if r.2.1 = [] then [r.1, r.2.2] else [r.1, r.2.1, r.2.2]
def ruN (r : List Nat × List Nat × List Nat) : List Nat := r.1 ++ [40] ++ r.2.1 ++ [41, 32, 45, 62, 32] ++ r.2.2 ++ [10]
theorem XK.rule {u : List Nat} {LP : List (List (List Nat))} (h : XK (24, 0) u LP) {r : List Nat × List Nat × List Nat} (h1 : nmOk r.1) (h2 : r.2.1 = [] ∨ nmOk r.2.1) (h3 : nmOk r.2.2) : XK (24, 0) (u ++ ruN r) (LP ++ [ruP r]) := by
  obtain ⟨a, b, c⟩ := r
  simp only at h1 h2 h3
  have k1 := h.run a h1.1 h1.2.2 (name_go (p := 24) (p' := 26) (by decide) h1)
  have k2 := (k1.e1 h1.1).off (b := 40) (q' := (27, 0)) (by decide) (by decide) (sg_step (by decide) (by decide) (by decide) (by decide) (by decide) (by decide)) (by decide)
  have tail : ∀ {E : List (List Nat)} {v : List Nat}, XC (29, 0) v LP E [] → XK (24, 0) (v ++ [32, 45, 62, 32] ++ c ++ [10]) (LP ++ [E ++ [c]]) := by
    intro E v k
    have t1 := (k.e).off (b := 32) (q' := (29, 0)) (by decide) (by decide) (by decide) (by decide)
    rw [endC_nil] at t1
    have t2 := (t1.e).off (b := 45) (q' := (29, 1)) (by decide) (by decide) (by decide) (by decide)
    rw [endC_nil] at t2
    have t3 := (t2.e).off (b := 62) (q' := (30, 0)) (by decide) (by decide) (by decide) (by decide)
    rw [endC_nil] at t3
    have t4 := (t3.e).off (b := 32) (q' := (30, 0)) (by decide) (by decide) (by decide) (by decide)
    rw [endC_nil] at t4
    have t5 := (t4.run c h3.2.2 (name_go (p := 30) (p' := 31) (by decide) h3)).e1 (by simpa using h3.1)
    have t6 := t5.feed (q' := (24, 0)) (fd_step (by decide) (by decide)) (by decide)
    simpa using t6
  unfold ruN ruP
  simp only
  rcases h2 with rfl | h2
  · have k3 := (k2.e).off (b := 41) (q' := (29, 0)) (by decide) (by decide) (sg_step (by decide) (by decide) (by decide) (by decide) (by decide) (by decide)) (by decide)
    rw [endC_nil] at k3
    have := tail k3
    simpa using this
  · have k3 := (k2.run b h2.2.2 (name_go (p := 27) (p' := 28) (by decide) h2)).e1 (by simpa using h2.1)
    have k4 := k3.off (b := 41) (q' := (29, 0)) (by decide) (by decide) (sg_step (by decide) (by decide) (by decide) (by decide) (by decide) (by decide)) (by decide)
    have := tail k4
    rw [if_neg h2.1]
    simpa using this
theorem XK.rules : ∀ (R : List (List Nat × List Nat × List Nat)) {u : List Nat} {LP : List (List (List Nat))}, XK (24, 0) u LP → (∀ r ∈ R, nmOk r.1 ∧ (r.2.1 = [] ∨ nmOk r.2.1) ∧ nmOk r.2.2) → XK (24, 0) (u ++ R.flatMap ruN) (LP ++ R.map ruP)
  | [], u, LP, h, _ => by simpa using h
  | r :: R, u, LP, h, hr => by
    have h0 := hr r (by simp)
    have h1 := h.rule h0.1 h0.2.1 h0.2.2
    have h2 := XK.rules R h1 (fun x hx => hr x (by simp [hx]))
    simpa [List.append_assoc] using h2

/-- A file's text and its lines' pieces. -/
def fileN (ti : List Nat) (P : List (List Nat × Nat)) (S F : List (List Nat)) (R : List (List Nat × List Nat × List Nat)) : List Nat :=
  wOps ++ (P.flatMap fun x => [32] ++ x.1 ++ [58, x.2]) ++ [10] ++ wAut ++ [32] ++ ti ++ [10] ++ wSta ++ (S.flatMap fun x => [32] ++ x) ++ [10] ++ wFin ++ [32] ++ wSta ++ (F.flatMap fun x => [32] ++ x) ++ [10] ++ wTra ++ [10] ++ R.flatMap ruN
def fileP (ti : List Nat) (P : List (List Nat × Nat)) (S F : List (List Nat)) (R : List (List Nat × List Nat × List Nat)) : List (List (List Nat)) :=
  [wOps :: flatO P, [wAut, ti], wSta :: S, wFin :: wSta :: F, [wTra]] ++ R.map ruP
theorem file_goes {ti : List Nat} {P : List (List Nat × Nat)} {S F : List (List Nat)} {R : List (List Nat × List Nat × List Nat)} (ht : nmOk ti) (hP : ∀ x ∈ P, nmOk x.1) (ha : arO P) (hS : ∀ x ∈ S, nmOk x) (hF : ∀ x ∈ F, nmOk x) (hR : ∀ r ∈ R, nmOk r.1 ∧ (r.2.1 = [] ∨ nmOk r.2.1) ∧ nmOk r.2.2) : XK (24, 0) (fileN ti P S F R) (fileP ti P S F R) := by
  have k0 : XK (1, 0) [] [] := ⟨rfl, ⟨[], RunS.nil _, rfl⟩, RunS.nil _⟩
  have k1 := (k0.run wOps (by decide) (by decide) (q' := (3, 0)) (by decide)).e1 (by decide)
  have k2 := XE.ops P k1 hP ha
  have k3 := k2.feed (q' := (7, 0)) (by decide) (by decide)
  have k4 := (k3.run wAut (by decide) (by decide) (q' := (9, 0)) (by decide)).e1 (by decide)
  have k5 := (k4.blName (p := 10) (p' := 11) (by decide) (by decide) (by decide) ht).e1 ht.1
  have k6 := k5.feed (q' := (12, 0)) (fd_step (by decide) (by decide)) (by decide)
  have k7 := (k6.run wSta (by decide) (by decide) (q' := (14, 0)) (by decide)).e1 (by decide)
  obtain ⟨p8, r8, hp8, k8⟩ := XE.names (a := 14) (b := 15) (c := 16) (by decide) (by decide) (by decide) (by decide) (by decide) (by decide) S (.inl rfl) k7 hS
  have k9 := k8.feed (q' := (17, 0)) (by rcases hp8 with rfl | rfl <;> exact fd_step (by decide) (by decide)) (by decide)
  have k10 := (k9.run wFin (by decide) (by decide) (q' := (17, 5)) (by decide)).e1 (by decide)
  have k11 := k10.off (b := 32) (q' := (17, 6)) (by decide) (by decide) (by decide) (by decide)
  have k12 := (k11.run wSta (by decide) (q' := (19, 0)) (by decide)).e1 (by decide)
  obtain ⟨p13, r13, hp13, k13⟩ := XE.names (a := 19) (b := 20) (c := 21) (by decide) (by decide) (by decide) (by decide) (by decide) (by decide) F (.inl rfl) k12 hF
  have k14 := k13.feed (q' := (22, 0)) (by rcases hp13 with rfl | rfl <;> exact fd_step (by decide) (by decide)) (by decide)
  have k15 := (k14.run wTra (by decide) (by decide) (q' := (25, 0)) (by decide)).e1 (by decide)
  have k16 := k15.feed (q' := (24, 0)) (by decide) (by decide)
  have k17 := XK.rules R k16 hR
  unfold fileN fileP
  simpa [List.append_assoc] using k17
/-- .. so it is a file, and these are its lines. -/
theorem file_lines {ti : List Nat} {P : List (List Nat × Nat)} {S F : List (List Nat)} {R : List (List Nat × List Nat × List Nat)} (ht : nmOk ti) (hP : ∀ x ∈ P, nmOk x.1) (ha : arO P) (hS : ∀ x ∈ S, nmOk x) (hF : ∀ x ∈ F, nmOk x) (hR : ∀ r ∈ R, nmOk r.1 ∧ (r.2.1 = [] ∨ nmOk r.2.1) ∧ nmOk r.2.2) :
    goF (1, 0) (fileN ti P S F R) = ((24, 0), (fileN ti P S F R).length) ∧ (runsF fdB [] (fileN ti P S F R)).map (runsF isNm []) = fileP ti P S F R := by
  have k := file_goes ht hP ha hS hF hR
  refine ⟨k.go, ?_⟩
  obtain ⟨Ls, h1, h2⟩ := k.ls
  rw [h1.all, endC_nil, h2]
end Go.Proofs.YtmagchclmmphaaaDoor
namespace Go.Proofs.YtmagchclmmphaaaDoor

/-! ### A text laid otherwise -/
def blB (b : Nat) : Prop := b = 32 ∨ b = 9
def Bl (l : List Nat) : Prop := ∀ b ∈ l, blB b
/-- Lines of blanks. -/
inductive Blk : List Nat → Prop
  | nil : Blk []
  | add {t : List Nat} (l : List Nat) : Blk t → Bl l → Blk (t ++ (l ++ [10]))
/-- What lines say, those left out that say nothing. -/
def PL (Ls : List (List Nat)) : List (List (List Nat)) := (Ls.map (runsF isNm [])).filter fun L => !L.isEmpty
theorem PL_end (Ls : List (List Nat)) (c : List Nat) : PL (endC Ls c) = PL Ls ++ (if runsF isNm [] c = [] then [] else [runsF isNm [] c]) := by
  unfold endC PL
  by_cases hc : c = []
  · subst hc
    simp [runsF, endC]
  · rw [if_neg hc, List.map_append, List.filter_append]
    congr 1
    by_cases h : runsF isNm [] c = []
    · simp [h]
    · simp [h]
theorem Bl.nm {l : List Nat} (h : Bl l) : ∀ b ∈ l, isNm b = false := fun b hb => by rcases h b hb with rfl | rfl <;> rfl
theorem Bl.fd {l : List Nat} (h : Bl l) : ∀ b ∈ l, fdB b = true := fun b hb => by rcases h b hb with rfl | rfl <;> rfl
theorem RunS.ons {h : Nat → Bool} {D : List (List Nat)} : ∀ (l : List Nat) {u c : List Nat}, RunS h u D c → (∀ b ∈ l, h b = true) → RunS h (u ++ l) D (c ++ l)
  | [], u, c, r, _ => by simpa using r
  | b :: l, u, c, r, hb => by
    have := RunS.ons l (r.on (hb b (by simp))) (fun x hx => hb x (by simp [hx]))
    simpa using this
theorem RunS.offs {h : Nat → Bool} {D : List (List Nat)} : ∀ (l : List Nat) {u : List Nat}, RunS h u D [] → (∀ b ∈ l, h b = false) → RunS h (u ++ l) D []
  | [], u, r, _ => by simpa using r
  | b :: l, u, r, hb => by
    have h1 := r.off (hb b (by simp))
    rw [endC_nil] at h1
    have := RunS.offs l h1 (fun x hx => hb x (by simp [hx]))
    simpa using this
theorem RunS.runs {h : Nat → Bool} {u c : List Nat} {D : List (List Nat)} (r : RunS h u D c) (l : List Nat) (hb : ∀ b ∈ l, h b = false) : runsF h [] (u ++ l) = endC D c := by
  match l, hb with
  | [], _ => rw [List.append_nil]; exact r.all
  | b :: l, hb =>
    have h1 := (r.off (hb b (by simp))).offs l (fun x hx => hb x (by simp [hx]))
    have := h1.all
    rw [endC_nil] at this
    simpa using this
theorem RunS.ex (h : Nat → Bool) (u : List Nat) : ∃ D c x, RunS h u D c ∧ u = x ++ c := by
  have key : ∀ (v u : List Nat) (D : List (List Nat)) (c x : List Nat), RunS h u D c → u = x ++ c → ∃ D c x, RunS h (u ++ v) D c ∧ u ++ v = x ++ c := by
    intro v
    induction v with
    | nil => intro u D c x r e; exact ⟨D, c, x, by simpa using r, by simpa using e⟩
    | cons b v ih =>
      intro u D c x r e
      cases hb : h b with
      | true =>
        have := ih (u ++ [b]) D (c ++ [b]) x (r.on hb) (by rw [e, List.append_assoc])
        simpa using this
      | false =>
        have := ih (u ++ [b]) _ [] (u ++ [b]) (r.off hb) (by simp)
        simpa using this
  have := key u [] [] [] [] (RunS.nil h) rfl
  simpa using this
theorem RunS.one {h : Nat → Bool} {u c c' : List Nat} {D D' : List (List Nat)} {b : Nat} (hb : h b = true) (r : RunS h u D c) (r' : RunS h u D' c') : c = c' := by
  have e := (r [b]).symm.trans (r' [b])
  have k : ∀ c : List Nat, runsF h c [b] = [c ++ [b]] := fun c => by
    rw [runsF, if_pos hb]
    simp [runsF, endC]
  rw [k, k] at e
  have := (List.append_inj' e rfl).2
  simp at this
  exact this
theorem RunS.suffix {h : Nat → Bool} {u c : List Nat} {D : List (List Nat)} {b : Nat} (hb : h b = true) (r : RunS h u D c) : ∃ x, u = x ++ c := by
  obtain ⟨D', c', x, r', e⟩ := RunS.ex h u
  rw [RunS.one hb r r']
  exact ⟨x, e⟩

theorem inv_of {q : Nat × Nat} {u : List Nat} (h : goF (1, 0) u = (q, u.length)) : InvL q u := by
  have h0 : InvL (1, 0) [] := ⟨0, [], [], [], [], RunS.nil _, RunS.nil _, .nil, ⟨rfl, rfl, rfl⟩, shortL_nil⟩
  have := h0.go u (by decide) (by rw [h])
  rw [h] at this
  simpa using this
/-- A text, and how far it is laid otherwise. -/
structure Lk (q : Nat × Nat) (u v : List Nat) (D : List (List Nat)) (cur : List Nat) : Prop where
  gu : goF (1, 0) u = (q, u.length)
  gv : goF (1, 0) v = (q, v.length)
  ls : ∃ Ls c Ls' c', RunS fdB u Ls c ∧ RunS isNm c D cur ∧ RunS fdB v Ls' c' ∧ RunS isNm c' D cur ∧ PL Ls = PL Ls'
theorem Lk.nm {q q' : Nat × Nat} {u v cur : List Nat} {D : List (List Nat)} {b : Nat} (h : Lk q u v D cur) (hb : isNm b = true) (hs : stepF q b = q') (hq : q'.1 ≠ 0) : Lk q' (u ++ [b]) (v ++ [b]) D (cur ++ [b]) := by
  obtain ⟨g1, g2, Ls, c, Ls', c', r1, r2, r3, r4, e⟩ := h
  have hf := fd_of_nm hb
  exact ⟨goF_one g1 hs hq, goF_one g2 hs hq, Ls, c ++ [b], Ls', c' ++ [b], r1.on hf, r2.on hb, r3.on hf, r4.on hb, e⟩
theorem Lk.off {q q' : Nat × Nat} {u v cur : List Nat} {D : List (List Nat)} {b : Nat} (h : Lk q u v D cur) (hb : isNm b = false) (h10 : b ≠ 10) (hs : stepF q b = q') (hq : q'.1 ≠ 0) : Lk q' (u ++ [b]) (v ++ [b]) (endC D cur) [] := by
  obtain ⟨g1, g2, Ls, c, Ls', c', r1, r2, r3, r4, e⟩ := h
  have hf : fdB b = true := by unfold fdB; simpa using h10
  exact ⟨goF_one g1 hs hq, goF_one g2 hs hq, Ls, c ++ [b], Ls', c' ++ [b], r1.on hf, r2.off hb, r3.on hf, r4.off hb, e⟩
theorem go_blanks {q : Nat × Nat} (hq : q.1 ≠ 0) (h32 : stepF q 32 = q) (h9 : stepF q 9 = q) : ∀ (l : List Nat) {v : List Nat}, Bl l → goF (1, 0) v = (q, v.length) → goF (1, 0) (v ++ l) = (q, (v ++ l).length)
  | [], v, _, g => by simpa using g
  | b :: l, v, hb, g => by
    have hs : stepF q b = q := by rcases hb b (by simp) with rfl | rfl <;> assumption
    have := go_blanks hq h32 h9 l (fun x hx => hb x (by simp [hx])) (goF_one g hs hq)
    simpa using this
/-- More blanks where blanks may stand. -/
theorem Lk.more {q : Nat × Nat} {u v : List Nat} {D : List (List Nat)} (h : Lk q u v D []) (l : List Nat) (hl : Bl l) (hq : q.1 ≠ 0) (h32 : stepF q 32 = q) (h9 : stepF q 9 = q) : Lk q u (v ++ l) D [] := by
  obtain ⟨g1, g2, Ls, c, Ls', c', r1, r2, r3, r4, e⟩ := h
  exact ⟨g1, go_blanks hq h32 h9 l hl g2, Ls, c, Ls', c' ++ l, r1, r2, r3.ons l hl.fd, r4.offs l hl.nm, e⟩
/-- One more of the first text where blanks may stand. -/
theorem Lk.less {q : Nat × Nat} {u v : List Nat} {D : List (List Nat)} (h : Lk q u v D []) (hq : q.1 ≠ 0) (h32 : stepF q 32 = q) : Lk q (u ++ [32]) v D [] := by
  obtain ⟨g1, g2, Ls, c, Ls', c', r1, r2, r3, r4, e⟩ := h
  have r2' := r2.off (b := 32) rfl
  rw [endC_nil] at r2'
  exact ⟨goF_one g1 h32 hq, g2, Ls, c ++ [32], Ls', c', r1.on rfl, r2', r3, r4, e⟩
/-- A line's end: blanks, a line feed. -/
theorem Lk.feed {p r : Nat} {u v cur : List Nat} {D : List (List Nat)} (hok : okS (p, r) = true) (h : Lk (p, r) u v D cur) (hw : wordOf p = [] ∨ r = 0) (hf : feedOf p ≠ 0) (l : List Nat) (hl : Bl l) : Lk (feedOf p, 0) (u ++ [10]) (v ++ (l ++ [10])) [] [] := by
  have hp := (ok_bound hok).2.1
  have t1 : ∀ p, p < 32 → feedOf p ≠ 0 → stepF (p, 0) 10 = (feedOf p, 0) ∧ blankOf p ≠ 0 ∧ stepF (p, 0) 32 = (blankOf p, 0) ∧ stepF (p, 0) 9 = (blankOf p, 0) ∧ stepF (blankOf p, 0) 32 = (blankOf p, 0) ∧ stepF (blankOf p, 0) 9 = (blankOf p, 0) ∧ stepF (blankOf p, 0) 10 = (feedOf p, 0) := by decide
  have t2 : ∀ b, b = 10 ∨ b = 32 ∨ b = 9 → stepF (p, r) b = stepF (p, 0) b := by
    intro b hb
    rcases hw with hw | rfl
    · have k : ∀ p, p < 32 → wordOf p = [] → ∀ b, b = 10 ∨ b = 32 ∨ b = 9 → stepF (p, r) b = stepF (p, 0) b := by
        intro p _ hw b hb
        unfold stepF
        simp only [hw, ne_eq, not_true_eq_false, false_and, if_false]
        rcases hb with rfl | rfl | rfl <;> simp
      exact k p hp hw b hb
    · rfl
  obtain ⟨s1, s2, s3, s4, s5, s6, s7⟩ := t1 p hp hf
  obtain ⟨g1, g2, Ls, c, Ls', c', r1, r2, r3, r4, e⟩ := h
  have gv : goF (1, 0) (v ++ (l ++ [10])) = ((feedOf p, 0), (v ++ (l ++ [10])).length) := by
    rw [← List.append_assoc]
    match l, hl with
    | [], _ =>
      rw [List.append_nil]
      exact goF_one g2 ((t2 10 (.inl rfl)).trans s1) hf
    | b :: l, hl =>
      have hb : stepF (p, r) b = (blankOf p, 0) := by
        rcases hl b (by simp) with rfl | rfl
        · exact (t2 32 (by omega)).trans s3
        · exact (t2 9 (by omega)).trans s4
      have k := go_blanks (q := (blankOf p, 0)) s2 s5 s6 l (fun x hx => hl x (by simp [hx])) (goF_one g2 hb s2)
      rw [List.append_assoc] at k
      exact goF_one k s7 hf
  have rv : RunS fdB (v ++ (l ++ [10])) (endC Ls' (c' ++ l)) [] := by
    rw [← List.append_assoc]
    exact (r3.ons l hl.fd).off rfl
  refine ⟨goF_one g1 ((t2 10 (.inl rfl)).trans s1) hf, gv, _, [], _, [], r1.off rfl, RunS.nil _, rv, RunS.nil _, ?_⟩
  rw [PL_end, PL_end, e, r2.all, r4.runs l hl.nm]
/-- Lines of blanks. -/
theorem Lk.lines {p : Nat} {u v : List Nat} (hp : stepF (p, 0) 10 = (p, 0) ∧ p ≠ 0 ∧ blankOf p ≠ 0 ∧ stepF (p, 0) 32 = (blankOf p, 0) ∧ stepF (p, 0) 9 = (blankOf p, 0) ∧ stepF (blankOf p, 0) 32 = (blankOf p, 0) ∧ stepF (blankOf p, 0) 9 = (blankOf p, 0) ∧ stepF (blankOf p, 0) 10 = (p, 0))
    {t : List Nat} (ht : Blk t) (h : Lk (p, 0) u v [] []) : Lk (p, 0) u (v ++ t) [] [] ∧ (t ≠ [] → ∃ Ls', RunS fdB (v ++ t) Ls' []) := by
  obtain ⟨s1, s2, s3, s4, s5, s6, s7, s8⟩ := hp
  induction ht with
  | nil => exact ⟨by simpa using h, fun q => absurd rfl q⟩
  | @add t l _ hl ih =>
    obtain ⟨g1, g2, Ls, c, Ls', c', r1, r2, r3, r4, e⟩ := ih.1
    have gv : goF (1, 0) (v ++ t ++ (l ++ [10])) = ((p, 0), (v ++ t ++ (l ++ [10])).length) := by
      rw [← List.append_assoc (v ++ t)]
      match l, hl with
      | [], _ =>
        rw [List.append_nil]
        exact goF_one g2 s1 s2
      | b :: l, hl =>
        have hb : stepF (p, 0) b = (blankOf p, 0) := by rcases hl b (by simp) with rfl | rfl <;> assumption
        have k := go_blanks (q := (blankOf p, 0)) s3 s6 s7 l (fun x hx => hl x (by simp [hx])) (goF_one g2 hb s3)
        rw [List.append_assoc] at k
        exact goF_one k s8 s2
    have rv : RunS fdB (v ++ t ++ (l ++ [10])) (endC Ls' (c' ++ l)) [] := by
      rw [← List.append_assoc (v ++ t)]
      exact (r3.ons l hl.fd).off rfl
    rw [← List.append_assoc v]
    have hc : runsF isNm [] (c' ++ l) = [] := by rw [r4.runs l hl.nm]; rfl
    exact ⟨⟨g1, gv, Ls, c, _, [], r1, r2, rv, RunS.nil _, by rw [PL_end, hc, ← e]; simp⟩, fun _ => ⟨_, rv⟩⟩

/-- What a byte is laid as. -/
inductive Img (u : List Nat) : Nat → List Nat → Prop
  | feed (l t : List Nat) : Bl l → Blk t → Img u 10 (l ++ [10] ++ t)
  | word (x : List Nat) : u = x ++ wFin → Img u 32 [32]
  | arrow (x l : List Nat) : (u = x ++ [41] ∨ u = x ++ [62]) → Bl l → Img u 32 l
  | blank (l : List Nat) : (∀ x, u ≠ x ++ wFin) → Bl l → Img u 32 ([32] ++ l)
  | byte (b : Nat) : b ≠ 10 → b ≠ 32 → Img u b [b]
/-- How far a text is laid otherwise, with what its last byte says. -/
def LkX (q : Nat × Nat) (u v : List Nat) : Prop := ∃ D cur, Lk q u v D cur ∧ ((∃ x, u = x ++ [41]) → q = (29, 0) ∧ cur = []) ∧ ((∃ x, u = x ++ [62]) → q = (30, 0) ∧ cur = [])
theorem last_ne {u : List Nat} {a b : Nat} (h : a ≠ b) : ¬ ∃ x, u ++ [a] = x ++ [b] := by
  rintro ⟨x, e⟩
  have := (List.append_inj' e rfl).2
  simp at this
  exact h this
theorem lkx_of {q : Nat × Nat} {u v cur : List Nat} {D : List (List Nat)} {b : Nat} (h : Lk q (u ++ [b]) v D cur) (h1 : b ≠ 41) (h2 : b ≠ 62) : LkX q (u ++ [b]) v :=
  ⟨D, cur, h, fun q => absurd q (last_ne h1), fun q => absurd q (last_ne h2)⟩
theorem LkX.step {q : Nat × Nat} {u v img : List Nat} {b : Nat} (h : LkX q u v) (hn : (stepF q b).1 ≠ 0) (hi : Img u b img) : LkX (stepF q b) (u ++ [b]) (v ++ img) := by
  obtain ⟨D, cur, h, ha, hg⟩ := h
  have hok : okS q = true := by have := goF_ok (s := (1, 0)) (by decide) u; rwa [h.gu] at this
  obtain ⟨p, r⟩ := q
  have hp := (ok_bound hok).2.1
  have bls : ∀ p, p < 32 → blankOf p ≠ 0 → stepF (blankOf p, 0) 32 = (blankOf p, 0) ∧ stepF (blankOf p, 0) 9 = (blankOf p, 0) := by decide
  have blank : ∀ l, Bl l → stepF (p, r) 32 = (blankOf p, 0) → b = 32 → LkX (stepF (p, r) 32) (u ++ [32]) (v ++ ([32] ++ l)) := by
    intro l hl a e
    rw [e, a] at hn
    have k := (h.off rfl (by decide) a hn).more l hl hn (bls p hp hn).1 (bls p hp hn).2
    rw [List.append_assoc] at k
    rw [a]
    exact lkx_of k (by decide) (by decide)
  cases hi with
  | feed l t hl ht =>
    rcases step_kinds (p, r) 10 hn with ⟨a1, a2, a3⟩ | ⟨a0, ⟨_, a⟩ | ⟨a1, _⟩ | ⟨a1, _⟩ | ⟨a1, _⟩⟩
    · have k : ∀ p, p < 32 → ∀ r, r < (wordOf p).length → (wordOf p).getD r 0 ≠ 10 := by decide
      exact absurd a2 (k p hp r (ok_word hok a1))
    · rw [a] at hn
      have k := h.feed hok a0 hn l hl
      have t3 : ∀ p, p < 32 → feedOf p ≠ 0 → stepF (feedOf p, 0) 10 = (feedOf p, 0) ∧ feedOf p ≠ 0 ∧ blankOf (feedOf p) ≠ 0 ∧ stepF (feedOf p, 0) 32 = (blankOf (feedOf p), 0) ∧ stepF (feedOf p, 0) 9 = (blankOf (feedOf p), 0) ∧ stepF (blankOf (feedOf p), 0) 32 = (blankOf (feedOf p), 0) ∧ stepF (blankOf (feedOf p), 0) 9 = (blankOf (feedOf p), 0) ∧ stepF (blankOf (feedOf p), 0) 10 = (feedOf p, 0) := by decide
      have k2 := (k.lines (t3 p hp hn) ht).1
      rw [List.append_assoc] at k2
      rw [a]
      exact lkx_of k2 (by decide) (by decide)
    · omega
    · have k : ∀ p, p < 32 → ((signsOf p).contains 10) = false := by decide
      simp only at a1
      rw [k p hp] at a1
      cases a1
    · exact absurd a1 (by decide)
  | word x e =>
    exact lkx_of (h.off rfl (by decide) rfl hn) (by decide) (by decide)
  | arrow x l e hl =>
    have e' : (p, r) = (29, 0) ∧ cur = [] ∨ (p, r) = (30, 0) ∧ cur = [] := by
      rcases e with e | e
      · exact .inl (ha ⟨x, e⟩)
      · exact .inr (hg ⟨x, e⟩)
    rcases e' with ⟨e1, rfl⟩ | ⟨e1, rfl⟩
    · rw [e1] at h ⊢
      have k := (h.less (by decide) rfl).more _ hl (by decide) rfl rfl
      exact lkx_of k (by decide) (by decide)
    · rw [e1] at h ⊢
      have k := (h.less (by decide) rfl).more _ hl (by decide) rfl rfl
      exact lkx_of k (by decide) (by decide)
  | blank l hx hl =>
    rcases step_kinds (p, r) 32 hn with ⟨a1, a2, a3⟩ | ⟨a0, ⟨a1, _⟩ | ⟨_, a⟩ | ⟨a1, _⟩ | ⟨a1, _⟩⟩
    · have k : ∀ p, p < 32 → ∀ r, r < (wordOf p).length → (wordOf p).getD r 0 = 32 → p = 17 ∧ r = 5 := by decide
      obtain ⟨rfl, rfl⟩ := k p hp r (ok_word hok a1) a2
      obtain ⟨pl, Ls, c, D', cur', r1, r2, _, hc, _⟩ := inv_of h.gu
      obtain ⟨_, k⟩ := hc
      rcases k with ⟨_, _, k⟩ | ⟨k, _⟩
      · obtain ⟨y, e1⟩ := r1.suffix (b := 65) rfl
        obtain ⟨z, e2⟩ := r2.suffix (b := 65) rfl
        refine absurd ?_ (hx (y ++ z))
        rw [e1, e2, k, List.append_assoc]; rfl
      · exact absurd k (by decide)
    · omega
    · exact blank l hl a rfl
    · have k : ∀ p, p < 32 → ((signsOf p).contains 32) = false := by decide
      simp only at a1
      rw [k p hp] at a1
      cases a1
    · exact absurd a1 (by decide)
  | byte b h10 h32 =>
    cases hb : isNm b with
    | true =>
      refine lkx_of (h.nm hb rfl hn) ?_ ?_
      · rintro rfl; revert hb; decide
      · rintro rfl; revert hb; decide
    | false =>
      have k := h.off hb h10 rfl hn
      refine ⟨_, _, k, fun q => ⟨?_, rfl⟩, fun q => ⟨?_, rfl⟩⟩
      · obtain ⟨x, e⟩ := q
        obtain rfl : b = 41 := by have := (List.append_inj' e rfl).2; simpa using this
        rcases step_kinds (p, r) 41 hn with ⟨a1, a2, a3⟩ | ⟨a0, ⟨a1, _⟩ | ⟨a1, _⟩ | ⟨a1, a⟩ | ⟨a1, _⟩⟩
        · have k : ∀ p, p < 32 → ∀ r, r < (wordOf p).length → (wordOf p).getD r 0 ≠ 41 := by decide
          exact absurd a2 (k p hp r (ok_word hok a1))
        · omega
        · omega
        · rw [a]
          have k : ∀ p, p < 32 → (signsOf p).contains 41 = true → pastOf p = 29 := by decide
          simp only at a1 ⊢
          rw [k p hp a1]
        · exact absurd a1 (by decide)
      · obtain ⟨x, e⟩ := q
        obtain rfl : b = 62 := by have := (List.append_inj' e rfl).2; simpa using this
        rcases step_kinds (p, r) 62 hn with ⟨a1, a2, a3⟩ | ⟨a0, ⟨a1, _⟩ | ⟨a1, _⟩ | ⟨a1, a⟩ | ⟨a1, _⟩⟩
        · have k : ∀ p, p < 32 → ∀ r, r < (wordOf p).length → (wordOf p).getD r 0 = 62 → p = 29 ∧ r = 1 := by decide
          obtain ⟨rfl, rfl⟩ := k p hp r (ok_word hok a1) a2
          rw [a3]; rfl
        · omega
        · omega
        · have k : ∀ p, p < 32 → ((signsOf p).contains 62) = false := by decide
          simp only at a1
          rw [k p hp] at a1
          cases a1
        · exact absurd a1 (by decide)
end Go.Proofs.YtmagchclmmphaaaDoor
