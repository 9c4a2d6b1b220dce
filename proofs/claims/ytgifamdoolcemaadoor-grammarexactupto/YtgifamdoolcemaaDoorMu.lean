import Derived.Test.YtgifamdoolcemaaDoorMt
namespace Go.Proofs.YtgifamdoolcemaaDoor

def lineF (sec : Nat) (l : List Nat) : Bool × Bool × Bool :=
  if l.all blk = true then (true, false, true)
  else if sec = 5 then ((ruleF l).1, false, (ruleF l).2)
  else if l.length < (wordL sec).length then (false, false, decide ((wordL sec).take l.length = l))
  else if l.take (wordL sec).length ≠ wordL sec then (false, false, false)
  else ((restF sec (l.drop (wordL sec).length)).1, (restF sec (l.drop (wordL sec).length)).1, (restF sec (l.drop (wordL sec).length)).2)

/-! ### Rules -/
def Stop (y A : List Nat) : Prop := y = [] ∨ isNm (y.headD 0) = false ∨ A.length = 16
theorem nmLen_app {A y : List Nat} (hA : nmF A = true ∨ A = []) (hy : Stop y A) : nmLen (A ++ y) = A.length := by
  have ha : A.all isNm = true := by
    rcases hA with h | h
    · exact ((nm_iff A).1 h).2.2
    · subst h; rfl
  have h16 : A.length ≤ 16 := by
    rcases hA with h | h
    · exact ((nm_iff A).1 h).2.1
    · subst h; simp
  refine nmLen_at (by simp) h16 (by simpa using ha) ?_
  rcases hy with h | h | h
  · left; simp [h]
  · cases y with
    | nil => left; simp
    | cons b y => right; right; exact ⟨b, by simp, h⟩
  · exact .inr (.inl h)
theorem skip_app {g y : List Nat} (hg : g.all blk = true) (hy : y = [] ∨ blk (y.headD 0) = false) : skipF (g ++ y) = y := by
  unfold skipF
  rw [List.dropWhile_append_of_pos (List.all_eq_true.1 hg)]
  cases y with
  | nil => rfl
  | cons b y =>
    rcases hy with h | h
    · cases h
    · rw [List.dropWhile_cons, if_neg (by rw [show blk b = false from h]; simp)]
theorem E1 {A y : List Nat} (hA : nmF A = true) (hy : Stop y A) : ruleF (A ++ y) = ruleF1 y := by
  unfold ruleF
  rw [nmLen_app (.inl hA) hy, if_neg (by have := nm_len hA; omega)]
  simp
theorem E2 {B y : List Nat} (hB : nmF B = true ∨ B = []) (hy : Stop y B) : ruleF1 (40 :: (B ++ y)) = ruleF2 y := by
  unfold ruleF1
  rw [if_neg (by simp), if_neg (by simp)]
  simp only [List.drop_succ_cons, List.drop_zero]
  rw [nmLen_app hB hy]
  simp
theorem E3 {g y : List Nat} (hg : g.all blk = true) (hy : y = [] ∨ blk (y.headD 0) = false) : ruleF2 (41 :: (g ++ y)) = ruleF3 y := by
  unfold ruleF2
  rw [if_neg (by simp), if_neg (by simp)]
  simp only [List.drop_succ_cons, List.drop_zero]
  rw [skip_app hg hy]
theorem E4 {g y : List Nat} (hg : g.all blk = true) (hy : y = [] ∨ blk (y.headD 0) = false) : ruleF3 (45 :: 62 :: (g ++ y)) = ruleF4 y := by
  unfold ruleF3
  rw [if_neg (by simp), if_neg (by simp)]
  simp only [List.drop_succ_cons, List.drop_zero]
  rw [skip_app hg hy]
theorem E5 {C y : List Nat} (hC : nmF C = true) (hy : Stop y C) : ruleF4 (C ++ y) = (y.all blk, y.all blk) := by
  unfold ruleF4
  rw [if_neg (by have := nm_ne hC; simp [this]), nmLen_app (.inl hC) hy, decide_eq_true (nm_len hC)]
  simp

/-- What a rule's beginning looks like. -/
inductive UInv : List Nat → Nat × Nat → Prop
  | u0 : UInv [] (24, 0)
  | ub (x : List Nat) : x ≠ [] → x.all blk = true → UInv x (25, 0)
  | u1 (A : List Nat) : nmF A = true → UInv A (26, A.length)
  | u2 (A : List Nat) : nmF A = true → UInv (A ++ 40 :: []) (27, 0)
  | u3 (A B : List Nat) : nmF A = true → nmF B = true → UInv (A ++ 40 :: B) (28, B.length)
  | u4 (A B g : List Nat) : nmF A = true → (nmF B = true ∨ B = []) → g.all blk = true → UInv (A ++ 40 :: (B ++ 41 :: g)) (29, 0)
  | u5 (A B g : List Nat) : nmF A = true → (nmF B = true ∨ B = []) → g.all blk = true → UInv (A ++ 40 :: (B ++ 41 :: (g ++ [45]))) (29, 1)
  | u6 (A B g h : List Nat) : nmF A = true → (nmF B = true ∨ B = []) → g.all blk = true → h.all blk = true → UInv (A ++ 40 :: (B ++ 41 :: (g ++ 45 :: 62 :: h))) (30, 0)
  | u7 (A B g h C : List Nat) : nmF A = true → (nmF B = true ∨ B = []) → g.all blk = true → h.all blk = true → nmF C = true → UInv (A ++ 40 :: (B ++ 41 :: (g ++ 45 :: 62 :: (h ++ C)))) (31, C.length)
  | u8 (A B g h C k : List Nat) : nmF A = true → (nmF B = true ∨ B = []) → g.all blk = true → h.all blk = true → nmF C = true → k ≠ [] → k.all blk = true → UInv (A ++ 40 :: (B ++ 41 :: (g ++ 45 :: 62 :: (h ++ (C ++ k))))) (25, 0)

theorem nm_grow {n : List Nat} {b : Nat} (h : nmF n = true) (hb : isNm b = true) (hl : n.length ≠ 16) : nmF (n ++ [b]) = true := by
  rw [nm_snoc (.inl h), hb, decide_eq_true (by have := ((nm_iff _).1 h).2.1; omega)]
  rfl
theorem nm_one {b : Nat} (h : isNm b = true) : nmF [b] = true := by simp [nmF, h]
theorem all_snoc {g : List Nat} {b : Nat} (h : g.all blk = true) (hb : blk b = true) : (g ++ [b]).all blk = true := by rw [List.all_append, h]; simp [hb]
theorem stop_at {b : Nat} {A y : List Nat} (h : isNm b = false ∨ A.length = 16) : Stop (b :: y) A := .inr (h.imp id id)
theorem stop40 (y A : List Nat) : Stop (40 :: y) A := .inr (.inl rfl)
theorem stop41 (y A : List Nat) : Stop (41 :: y) A := .inr (.inl rfl)
theorem nb45 (y : List Nat) : (45 :: y) = [] ∨ blk ((45 :: y).headD 0) = false := .inr rfl
theorem nm_nb {C y : List Nat} (hC : nmF C = true) : (C ++ y) = [] ∨ blk ((C ++ y).headD 0) = false := by
  cases C with
  | nil => cases hC
  | cons c C => exact .inr (nm_not_blk (nm_all hC c (by simp)))

/-- A rule's beginning, a byte more. -/
theorem U_next {x : List Nat} {e : Nat × Nat} {b : Nat} (h : UInv x e) (hb : b ≠ 10) : ((stepF e b).1 ≠ 0 ∧ UInv (x ++ [b]) (stepF e b)) ∨ ((stepF e b).1 = 0 ∧ (x ++ [b]).all blk = false ∧ (ruleF (x ++ [b])).2 = false) := by
  have nall : ∀ {l : List Nat} {c : Nat}, c ∈ l → blk c = false → l.all blk = false := fun hm hc => by
    rw [List.all_eq_false]
    exact ⟨_, hm, by rw [hc]; simp⟩
  have hnm0 : ∀ {A : List Nat}, nmF A = true → ∃ c ∈ A, blk c = false := fun {A} hA => by
    cases A with
    | nil => cases hA
    | cons c A => exact ⟨c, by simp, nm_not_blk (nm_all hA c (by simp))⟩
  cases h with
  | u0 =>
    rcases k_gap 24 25 26 b rfl hb rfl rfl rfl (by omega) with ⟨h1, h2⟩ | ⟨h1, h2, h3⟩ | ⟨h1, h2, h3⟩
    · rw [h2]; exact .inl ⟨by simp, .ub _ (by simp) (by simp [h1])⟩
    · rw [h3]; exact .inl ⟨by simp, .u1 [b] (nm_one h2)⟩
    · refine .inr ⟨h3, nall (c := b) (by simp) h1, ?_⟩
      have : nmLen ([] ++ [b]) = 0 := nmLen_app (A := []) (.inr rfl) (stop_at (.inl h2))
      unfold ruleF
      rw [this, if_pos rfl]
  | ub _ hx hbl =>
    rcases k_blank 25 25 b rfl hb rfl rfl rfl (by omega) with ⟨h1, h2⟩ | ⟨h1, h2⟩
    · rw [h2]; exact .inl ⟨by simp, .ub _ (by simp) (all_snoc hbl h1)⟩
    · refine .inr ⟨h2, nall (c := b) (by simp) h1, ?_⟩
      cases x with
      | nil => exact absurd rfl hx
      | cons c x =>
        have hc : blk c = true := by simp at hbl; exact hbl.1
        have : nmLen ([] ++ (c :: (x ++ [b]))) = 0 := nmLen_app (A := []) (.inr rfl) (stop_at (.inl (blk_not_nm hc)))
        unfold ruleF
        rw [List.cons_append]
        rw [List.nil_append] at this
        rw [this, if_pos rfl]
  | u1 A hA =>
    obtain ⟨c, hc, hcb⟩ := hnm0 hA
    rcases k_sign 26 27 40 x.length b rfl hb rfl rfl rfl rfl rfl with ⟨h1, h2⟩ | ⟨h1, h2, h3, h4⟩ | ⟨h1, h2, h3⟩
    · subst h1; rw [h2]; exact .inl ⟨by simp, .u2 x hA⟩
    · rw [h4]
      refine .inl ⟨by simp, ?_⟩
      have := UInv.u1 (x ++ [b]) (nm_grow hA h2 h3)
      simpa using this
    · refine .inr ⟨h3, nall (c := c) (by simp [hc]) hcb, ?_⟩
      rw [E1 hA (stop_at h2)]
      unfold ruleF1
      rw [if_neg (by simp), if_pos (by simpa using h1)]
  | u2 A hA =>
    obtain ⟨c, hc, hcb⟩ := hnm0 hA
    rcases k27 b hb with ⟨h1, h2⟩ | ⟨h1, h2, h3⟩ | ⟨h1, h2, h3⟩
    · subst h1; rw [h2]
      refine .inl ⟨by simp, ?_⟩
      have := UInv.u4 A [] [] hA (.inr rfl) rfl
      simpa using this
    · rw [h3]
      refine .inl ⟨by simp, ?_⟩
      have := UInv.u3 A [b] hA (nm_one h2)
      simpa using this
    · refine .inr ⟨h3, nall (c := c) (by simp [hc]) hcb, ?_⟩
      have e : A ++ 40 :: [] ++ [b] = A ++ 40 :: ([] ++ [b]) := by simp
      rw [e, E1 hA (stop40 _ _), E2 (.inr rfl) (stop_at (.inl h2))]
      unfold ruleF2
      rw [if_neg (by simp), if_pos (by simpa using h1)]
  | u3 A B hA hB =>
    obtain ⟨c, hc, hcb⟩ := hnm0 hA
    rcases k_sign 28 29 41 B.length b rfl hb rfl rfl rfl rfl rfl with ⟨h1, h2⟩ | ⟨h1, h2, h3, h4⟩ | ⟨h1, h2, h3⟩
    · subst h1; rw [h2]
      refine .inl ⟨by simp, ?_⟩
      have := UInv.u4 A B [] hA (.inl hB) rfl
      simpa using this
    · rw [h4]
      refine .inl ⟨by simp, ?_⟩
      have := UInv.u3 A (B ++ [b]) hA (nm_grow hB h2 h3)
      simpa using this
    · refine .inr ⟨h3, nall (c := c) (by simp [hc]) hcb, ?_⟩
      have e : A ++ 40 :: B ++ [b] = A ++ 40 :: (B ++ [b]) := by simp
      rw [e, E1 hA (stop40 _ _), E2 (.inl hB) (stop_at h2)]
      unfold ruleF2
      rw [if_neg (by simp), if_pos (by simpa using h1)]
  | u4 A B g hA hB hg =>
    obtain ⟨c, hc, hcb⟩ := hnm0 hA
    rcases k29a b hb with ⟨h1, h2⟩ | ⟨h1, h2⟩ | ⟨h1, h2, h3⟩
    · rw [h2]
      refine .inl ⟨by simp, ?_⟩
      have := UInv.u4 A B (g ++ [b]) hA hB (all_snoc hg h1)
      simpa using this
    · subst h1; rw [h2]
      refine .inl ⟨by simp, ?_⟩
      have := UInv.u5 A B g hA hB hg
      simpa using this
    · refine .inr ⟨h3, nall (c := c) (by simp [hc]) hcb, ?_⟩
      have e : A ++ 40 :: (B ++ 41 :: g) ++ [b] = A ++ 40 :: (B ++ 41 :: (g ++ [b])) := by simp
      rw [e, E1 hA (stop40 _ _), E2 hB (stop41 _ _), E3 (y := [b]) hg (.inr h1)]
      unfold ruleF3
      rw [if_neg (by simp [h2]), if_pos (by simp)]
  | u5 A B g hA hB hg =>
    obtain ⟨c, hc, hcb⟩ := hnm0 hA
    rcases k29b b with ⟨h1, h2⟩ | ⟨h1, h2⟩
    · subst h1; rw [h2]
      refine .inl ⟨by simp, ?_⟩
      have := UInv.u6 A B g [] hA hB hg rfl
      simpa using this
    · refine .inr ⟨h2, nall (c := c) (by simp [hc]) hcb, ?_⟩
      have e : A ++ 40 :: (B ++ 41 :: (g ++ [45])) ++ [b] = A ++ 40 :: (B ++ 41 :: (g ++ 45 :: [b])) := by simp
      rw [e, E1 hA (stop40 _ _), E2 hB (stop41 _ _), E3 hg (nb45 _)]
      unfold ruleF3
      rw [if_neg (by simp), if_pos (by simp [h1])]
  | u6 A B g h hA hB hg hh =>
    obtain ⟨c, hc, hcb⟩ := hnm0 hA
    rcases k_gap 30 30 31 b rfl hb rfl rfl rfl (by omega) with ⟨h1, h2⟩ | ⟨h1, h2, h3⟩ | ⟨h1, h2, h3⟩
    · rw [h2]
      refine .inl ⟨by simp, ?_⟩
      have := UInv.u6 A B g (h ++ [b]) hA hB hg (all_snoc hh h1)
      simpa using this
    · rw [h3]
      refine .inl ⟨by simp, ?_⟩
      have := UInv.u7 A B g h [b] hA hB hg hh (nm_one h2)
      simpa using this
    · refine .inr ⟨h3, nall (c := c) (by simp [hc]) hcb, ?_⟩
      have e : A ++ 40 :: (B ++ 41 :: (g ++ 45 :: 62 :: h)) ++ [b] = A ++ 40 :: (B ++ 41 :: (g ++ 45 :: 62 :: (h ++ [b]))) := by simp
      rw [e, E1 hA (stop40 _ _), E2 hB (stop41 _ _), E3 hg (nb45 _), E4 (y := [b]) hh (.inr h1)]
      have : nmLen ([] ++ [b]) = 0 := nmLen_app (A := []) (.inr rfl) (stop_at (.inl h2))
      rw [List.nil_append] at this
      unfold ruleF4
      rw [if_neg (by simp), this]
      simp
  | u7 A B g h C hA hB hg hh hC =>
    obtain ⟨c, hc, hcb⟩ := hnm0 hA
    rcases k_name 31 25 C.length b rfl hb rfl rfl rfl with ⟨h1, h2⟩ | ⟨h1, h2, h3⟩ | ⟨h1, h2, h3⟩
    · rw [h2]
      refine .inl ⟨by simp, ?_⟩
      have := UInv.u8 A B g h C [b] hA hB hg hh hC (by simp) (by simp [h1])
      simpa using this
    · rw [h3]
      refine .inl ⟨by simp, ?_⟩
      have := UInv.u7 A B g h (C ++ [b]) hA hB hg hh (nm_grow hC h1 h2)
      simpa using this
    · refine .inr ⟨h3, nall (c := c) (by simp [hc]) hcb, ?_⟩
      have e : A ++ 40 :: (B ++ 41 :: (g ++ 45 :: 62 :: (h ++ C))) ++ [b] = A ++ 40 :: (B ++ 41 :: (g ++ 45 :: 62 :: (h ++ (C ++ [b])))) := by simp
      rw [e, E1 hA (stop40 _ _), E2 hB (stop41 _ _), E3 hg (nb45 _), E4 hh (nm_nb hC), E5 hC (stop_at h2)]
      simp [h1]
  | u8 A B g h C k hA hB hg hh hC hk hkb =>
    obtain ⟨c, hc, hcb⟩ := hnm0 hA
    rcases k_blank 25 25 b rfl hb rfl rfl rfl (by omega) with ⟨h1, h2⟩ | ⟨h1, h2⟩
    · rw [h2]
      refine .inl ⟨by simp, ?_⟩
      have := UInv.u8 A B g h C (k ++ [b]) hA hB hg hh hC (by simp) (all_snoc hkb h1)
      simpa using this
    · refine .inr ⟨h2, nall (c := c) (by simp [hc]) hcb, ?_⟩
      have e : A ++ 40 :: (B ++ 41 :: (g ++ 45 :: 62 :: (h ++ (C ++ k)))) ++ [b] = A ++ 40 :: (B ++ 41 :: (g ++ 45 :: 62 :: (h ++ (C ++ (k ++ [b]))))) := by simp
      have hst : Stop (k ++ [b]) C := by
        cases k with
        | nil => exact absurd rfl hk
        | cons d k =>
          have hd : blk d = true := by simp at hkb; exact hkb.1
          exact stop_at (.inl (blk_not_nm hd))
      rw [e, E1 hA (stop40 _ _), E2 hB (stop41 _ _), E3 hg (nb45 _), E4 hh (nm_nb hC), E5 hC hst]
      simp [h1]

/-- What lineF says of a rule's beginning. -/
theorem U_val {x : List Nat} {e : Nat × Nat} (h : UInv x e) : (lineF 5 x = (true, false, true) ∧ stepF e 10 = (24, 0)) ∨ (lineF 5 x = (false, false, true) ∧ (stepF e 10).1 = 0) := by
  have hnb : ∀ {A y : List Nat}, nmF A = true → (A ++ y).all blk = false := fun {A y} hA => by
    cases A with
    | nil => cases hA
    | cons c A =>
      rw [List.all_eq_false]
      exact ⟨c, by simp, by rw [nm_not_blk (nm_all hA c (by simp))]; simp⟩
  have hl : ∀ {l : List Nat}, l.all blk = false → lineF 5 l = ((ruleF l).1, false, (ruleF l).2) := fun h => by unfold lineF; rw [if_neg (by rw [h]; simp), if_pos rfl]
  have hst0 : ∀ A : List Nat, Stop [] A := fun A => .inl rfl
  cases h with
  | u0 => exact .inl ⟨rfl, rfl⟩
  | ub _ hx hbl => exact .inl ⟨by unfold lineF; rw [if_pos hbl], rfl⟩
  | u1 A hA =>
    right
    have := hnb (y := []) hA
    rw [List.append_nil] at this
    refine ⟨?_, by rw [fol_feed 26 _ rfl]; rfl⟩
    rw [hl this]
    have e := E1 (y := []) hA (hst0 _)
    rw [List.append_nil] at e
    rw [e]; rfl
  | u2 A hA =>
    right
    refine ⟨?_, rfl⟩
    rw [hl (hnb hA), E1 hA (stop40 _ _)]
    have := E2 (B := []) (y := []) (.inr rfl) (hst0 _)
    rw [List.append_nil] at this
    rw [this]; rfl
  | u3 A B hA hB =>
    right
    refine ⟨?_, by rw [fol_feed 28 _ rfl]; rfl⟩
    rw [hl (hnb hA), E1 hA (stop40 _ _)]
    have := E2 (y := []) (.inl hB) (hst0 _)
    rw [List.append_nil] at this
    rw [this]; rfl
  | u4 A B g hA hB hg =>
    right
    refine ⟨?_, rfl⟩
    rw [hl (hnb hA), E1 hA (stop40 _ _), E2 hB (stop41 _ _)]
    have := E3 (y := []) hg (.inl rfl)
    rw [List.append_nil] at this
    rw [this]; rfl
  | u5 A B g hA hB hg =>
    right
    refine ⟨?_, rfl⟩
    rw [hl (hnb hA), E1 hA (stop40 _ _), E2 hB (stop41 _ _), E3 hg (nb45 _)]
    rfl
  | u6 A B g h hA hB hg hh =>
    right
    refine ⟨?_, rfl⟩
    rw [hl (hnb hA), E1 hA (stop40 _ _), E2 hB (stop41 _ _), E3 hg (nb45 _)]
    have := E4 (y := []) hh (.inl rfl)
    rw [List.append_nil] at this
    rw [this]; rfl
  | u7 A B g h C hA hB hg hh hC =>
    left
    refine ⟨?_, by rw [fol_feed 31 _ rfl]; rfl⟩
    have e5 := E5 (y := []) hC (hst0 _)
    have e4 := E4 (y := C) hh (by have := nm_nb (y := []) hC; rwa [List.append_nil] at this)
    rw [List.append_nil] at e5
    rw [hl (hnb hA), E1 hA (stop40 _ _), E2 hB (stop41 _ _), E3 hg (nb45 _), e4, e5]
    rfl
  | u8 A B g h C k hA hB hg hh hC hk hkb =>
    left
    refine ⟨?_, rfl⟩
    have hst : Stop k C := by
      cases k with
      | nil => exact absurd rfl hk
      | cons d k =>
        have hd : blk d = true := by simp at hkb; exact hkb.1
        exact stop_at (.inl (blk_not_nm hd))
    rw [hl (hnb hA), E1 hA (stop40 _ _), E2 hB (stop41 _ _), E3 hg (nb45 _), E4 hh (nm_nb hC), E5 hC hst, hkb]
end Go.Proofs.YtgifamdoolcemaaDoor
