import Derived.Test.YtgifamdoolcemaaDoorGp
namespace Go.Proofs.YtgifamdoolcemaaDoor
open Go.RowKit Go.Maps

/-- A text leads from one spot to another, whole. -/
def Full (s : Nat × Nat) (l : List Nat) (e : Nat × Nat) : Prop := goF s l = (e, l.length)
theorem Full.app {s e f : Nat × Nat} {l m : List Nat} (h1 : Full s l e) (h2 : Full e m f) : Full s (l ++ m) f := by
  unfold Full at *
  rw [goF_app m (by rw [h1]), h1, h2, List.length_append]
theorem Full.split {s f : Nat × Nat} {l m : List Nat} (h : Full s (l ++ m) f) : ∃ e, Full s l e ∧ Full e m f := by
  unfold Full at *
  have hl : (goF s l).2 = l.length := by
    rcases Nat.lt_or_eq_of_le (goF_le s l) with hlt | he
    · rw [goF_app_stop m hlt] at h
      have := congrArg Prod.snd h
      simp at this
      omega
    · exact he
  refine ⟨(goF s l).1, Prod.ext rfl hl, ?_⟩
  rw [goF_app m hl] at h
  have h1 := congrArg Prod.fst h
  have h2 := congrArg Prod.snd h
  simp at h1 h2
  exact Prod.ext h1 h2
theorem Full.one {s : Nat × Nat} {b : Nat} (h : (stepF s b).1 ≠ 0) : Full s [b] (stepF s b) := by unfold Full; rw [goF_on _ h]; rfl
theorem Full.cons {s f : Nat × Nat} {b : Nat} {m : List Nat} (h : Full s (b :: m) f) : (stepF s b).1 ≠ 0 ∧ Full (stepF s b) m f := by
  have hn : (stepF s b).1 ≠ 0 := fun e => by
    unfold Full at h
    rw [goF_stop m e] at h
    have := congrArg Prod.snd h
    simp at this
  unfold Full at *
  rw [goF_on m hn] at h
  have h1 := congrArg Prod.fst h
  have h2 := congrArg Prod.snd h
  simp at h1 h2
  exact ⟨hn, Prod.ext h1 h2⟩
theorem Full.ok {s e : Nat × Nat} {l : List Nat} (h : Full s l e) (hs : okS s = true) : okS e = true := by
  have := goF_ok hs l
  rw [h] at this
  exact this
theorem file_iff (s : ByteArray) : errF s = 0 ↔ ∃ e, Full (1, 0) (bts s) e ∧ isF e = true := by
  have hle := len_le s
  constructor
  · intro h
    unfold errF at h
    have hn : ¬ (lenF s < s.size ∨ isF (endF s) = false) := fun hc => by rw [if_pos hc] at h; cases h
    refine ⟨endF s, ?_, by cases hf : isF (endF s); exact absurd (.inr hf) hn; rfl⟩
    have : lenF s = s.size := by
      have : ¬ lenF s < s.size := fun hc => hn (.inl hc)
      omega
    exact Prod.ext rfl (by rw [bts_len]; exact this)
  · rintro ⟨e, h1, h2⟩
    have a1 : endF s = e := congrArg Prod.fst h1
    have a2 : lenF s = s.size := by rw [← bts_len]; exact congrArg Prod.snd h1
    unfold errF
    rw [a1, a2, h2]
    simp

set_option maxRecDepth 100000 in
/-- A gap ahead of a line feed, and a line of a gap, make no difference. -/
theorem gap_feed {s : Nat × Nat} {g : Nat} (hs : okS s = true) (hg : g = 32 ∨ g = 9) (h : (stepF s 10).1 ≠ 0) :
    (stepF s g).1 ≠ 0 ∧ stepF (stepF s g) 10 = stepF s 10 ∧ (stepF (stepF s 10) g).1 ≠ 0 ∧ stepF (stepF (stepF s 10) g) 10 = stepF s 10 := by
  have key : spots.all (fun s => (stepF s 10).1 == 0 || [32, 9].all fun g => (stepF s g).1 != 0 && stepF (stepF s g) 10 == stepF s 10 && (stepF (stepF s 10) g).1 != 0 && stepF (stepF (stepF s 10) g) 10 == stepF s 10) = true := by decide +kernel
  have k := all_spots key hs
  have hg' : g ∈ [32, 9] := by rcases hg with rfl | rfl <;> simp
  simp only [Bool.or_eq_true, beq_iff_eq, List.all_eq_true] at k
  have k2 := (k.resolve_left h) g hg'
  simp only [Bool.and_eq_true, bne_iff_ne, beq_iff_eq] at k2
  exact ⟨k2.1.1.1, k2.1.1.2, k2.1.2, k2.2⟩
theorem feed_file {e : Nat × Nat} (h : isF e = true) : (stepF e 10).1 ≠ 0 := by
  unfold isF at h
  rw [beq_iff_eq] at h
  rw [h]
  decide
theorem isF_of {e f : Nat × Nat} (h : stepF e 10 = stepF f 10) (hf : isF f = true) : isF e = true := by unfold isF at *; rw [h]; exact hf

/-- Where a line of a text ends. -/
def EndAt (l : List Nat) (k : Nat) : Prop := k = l.length ∨ l[k]? = some 10
theorem lines_one {l : List Nat} {k g : Nat} {e : Nat × Nat} (hl : Full (1, 0) l e) (hf : isF e = true) (hk : EndAt l k) (hg : g = 32 ∨ g = 9) : ∃ e', Full (1, 0) (l.take k ++ [g] ++ l.drop k) e' ∧ isF e' = true := by
  rw [← List.take_append_drop k l] at hl
  obtain ⟨a, h1, h2⟩ := hl.split
  have ha := h1.ok (by decide)
  rcases hk with rfl | hk
  · simp only [List.drop_length] at h2 ⊢
    have : a = e := congrArg Prod.fst h2
    subst this
    obtain ⟨g1, g2, _, _⟩ := gap_feed ha hg (feed_file hf)
    exact ⟨stepF a g, by rw [List.append_nil]; exact h1.app (Full.one g1), isF_of g2 hf⟩
  · obtain ⟨hkl, hk2⟩ := List.getElem?_eq_some_iff.1 hk
    rw [List.drop_eq_getElem_cons hkl, hk2] at h2 ⊢
    obtain ⟨n1, h3⟩ := h2.cons
    obtain ⟨g1, g2, _, _⟩ := gap_feed ha hg n1
    refine ⟨e, ?_, hf⟩
    have h4 : Full (stepF a g) (10 :: l.drop (k + 1)) e := by
      have h5 : Full (stepF a g) [10] (stepF (stepF a g) 10) := Full.one (by rw [g2]; exact n1)
      rw [g2] at h5
      exact h5.app h3
    exact (h1.app (Full.one g1)).app h4
theorem lines_two {l : List Nat} {k g : Nat} {e : Nat × Nat} (hl : Full (1, 0) l e) (hf : isF e = true) (hk : EndAt l k) (hg : g = 32 ∨ g = 9) : ∃ e', Full (1, 0) (l.take k ++ [10] ++ [g] ++ l.drop k) e' ∧ isF e' = true := by
  rw [← List.take_append_drop k l] at hl
  obtain ⟨a, h1, h2⟩ := hl.split
  have ha := h1.ok (by decide)
  rcases hk with rfl | hk
  · simp only [List.drop_length] at h2 ⊢
    have : a = e := congrArg Prod.fst h2
    subst this
    obtain ⟨_, _, g3, g4⟩ := gap_feed ha hg (feed_file hf)
    exact ⟨stepF (stepF a 10) g, by rw [List.append_nil]; exact (h1.app (Full.one (feed_file hf))).app (Full.one g3), isF_of g4 hf⟩
  · obtain ⟨hkl, hk2⟩ := List.getElem?_eq_some_iff.1 hk
    rw [List.drop_eq_getElem_cons hkl, hk2] at h2 ⊢
    obtain ⟨n1, h3⟩ := h2.cons
    obtain ⟨_, _, g3, g4⟩ := gap_feed ha hg n1
    refine ⟨e, ?_, hf⟩
    have h4 : Full (stepF (stepF a 10) g) (10 :: l.drop (k + 1)) e := by
      have h5 : Full (stepF (stepF a 10) g) [10] (stepF (stepF (stepF a 10) g) 10) := Full.one (by rw [g4]; exact n1)
      rw [g4] at h5
      exact h5.app h3
    exact ((h1.app (Full.one n1)).app (Full.one g3)).app h4
theorem lines_three {l : List Nat} {e : Nat × Nat} (hl : Full (1, 0) l e) (hf : isF e = true) : ∃ e', Full (1, 0) (l ++ [10]) e' ∧ isF e' = true := by
  have he := hl.ok (by decide)
  obtain ⟨_, _, g3, g4⟩ := gap_feed he (.inl rfl) (feed_file hf)
  refine ⟨stepF e 10, hl.app (Full.one (feed_file hf)), ?_⟩
  have k : spots.all (fun s => !isF s || isF (stepF s 10)) = true := by decide +kernel
  have := all_spots k he
  rw [hf] at this
  simpa using this

/-- The three texts of GrammarLines. -/
theorem lines_all (s : ByteArray) (k g : Nat) (hs : errF s = 0) (hk : EndAt (bts s) k) (hg : g = 32 ∨ g = 9) :
    errF (s.extract 0 k ++ strB [g] ++ s.extract k s.size) = 0 ∧ errF (s.extract 0 k ++ strB [10] ++ strB [g] ++ s.extract k s.size) = 0 ∧ errF (s ++ strB [10]) = 0 := by
  obtain ⟨e, h1, h2⟩ := (file_iff s).1 hs
  have e2 : bts (s.extract k s.size) = (bts s).drop k := by
    rw [bts_extract, List.take_of_length_le]
    rw [List.length_drop, bts_len]
    exact Nat.le_refl _
  have eg : bts (strB [g]) = [g] := bts_strB _ (by intro b hb; simp at hb; omega)
  have e10 : bts (strB [10]) = [10] := bts_strB _ (by intro b hb; simp at hb; omega)
  refine ⟨(file_iff _).2 ?_, (file_iff _).2 ?_, (file_iff _).2 ?_⟩
  · rw [bts_append, bts_append, bts_take, e2, eg]
    exact lines_one h1 h2 hk hg
  · rw [bts_append, bts_append, bts_append, bts_take, e2, eg, e10]
    exact lines_two h1 h2 hk hg
  · rw [bts_append, e10]
    exact lines_three h1 h2
end Go.Proofs.YtgifamdoolcemaaDoor
