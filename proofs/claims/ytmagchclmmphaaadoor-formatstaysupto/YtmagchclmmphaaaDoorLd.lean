import Derived.Test.YtmagchclmmphaaaDoorLc
namespace Go.Proofs.YtmagchclmmphaaaDoor

def fdB (b : Nat) : Bool := b != 10
/-- Lines that a file may begin with, and what comes next. -/
inductive Good : List (List Nat) → Nat → Prop
  | nil : Good [] 0
  | add {Ls : List (List Nat)} {pl : Nat} (l : List Nat) : Good Ls pl → fineL pl (runsF isNm [] l) → shortL (runsF isNm [] l) → Good (Ls ++ [l]) (nextL pl (runsF isNm [] l))
/-- What has been read of a file. -/
def InvL (q : Nat × Nat) (u : List Nat) : Prop := ∃ pl Ls c D cur, RunS fdB u Ls c ∧ RunS isNm c D cur ∧ Good Ls pl ∧ CurP q.1 q.2 pl D cur ∧ shortL D

theorem ok_word {p r : Nat} (h : okS (p, r) = true) (hw : wordOf p ≠ []) : r < (wordOf p).length := by
  simp only [okS, Bool.and_eq_true] at h
  have := h.2
  rw [if_pos hw] at this
  simpa using this
theorem ok_name {p r : Nat} (h : okS (p, r) = true) (hn : nameOf p = p) : 1 ≤ r ∧ r ≤ 16 := by
  have hb := ok_bound h
  have hw : wordOf p = [] := by
    have : ∀ p, p < 32 → 1 ≤ p → nameOf p = p → wordOf p = [] := by decide
    exact this p hb.2.1 hb.1 hn
  simp only [okS, Bool.and_eq_true] at h
  have := h.2
  rw [if_neg (by simp [hw]), if_pos hn] at this
  simpa using this
theorem cur_len {p r pl : Nat} {D : List (List Nat)} {c : List Nat} (hs : okS (p, r) = true) (h : CurP p r pl D c) : c.length ≤ 16 := by
  have len : ∀ (w : List Nat), w.length ≤ 16 → (w.take r).length ≤ 16 := fun w hw => by rw [List.length_take]; omega
  match p, h with
  | 1, ⟨_, _, e⟩ => rw [e]; exact len wOps (by decide)
  | 7, ⟨_, _, e⟩ => rw [e]; exact len wAut (by decide)
  | 12, ⟨_, _, e⟩ => rw [e]; exact len wSta (by decide)
  | 22, ⟨_, _, e⟩ => rw [e]; exact len wTra (by decide)
  | 17, ⟨_, .inl ⟨_, _, e⟩⟩ => rw [e]; exact len wFin (by decide)
  | 17, ⟨_, .inr ⟨_, _, e⟩⟩ => rw [e, List.length_take]; exact Nat.le_trans (Nat.min_le_right _ _) (by decide)
  | 3, ⟨_, _, e, _⟩ => exact e
  | 9, ⟨_, _, e⟩ => rw [e]; decide
  | 14, ⟨_, _, e⟩ => rw [e]; decide
  | 19, ⟨_, _, e⟩ => rw [e]; decide
  | 5, ⟨_, e, _⟩ => rw [e]; exact (ok_name hs rfl).2
  | 11, ⟨_, _, e⟩ => rw [e]; exact (ok_name hs rfl).2
  | 16, ⟨_, e, _⟩ => rw [e]; exact (ok_name hs rfl).2
  | 21, ⟨_, e, _⟩ => rw [e]; exact (ok_name hs rfl).2
  | 26, ⟨_, _, e⟩ => rw [e]; exact (ok_name hs rfl).2
  | 28, ⟨_, e, _⟩ => rw [e]; exact (ok_name hs rfl).2
  | 31, ⟨_, e, _⟩ => rw [e]; exact (ok_name hs rfl).2
  | 25, k =>
    rcases k with ⟨_, ⟨_, e⟩ | ⟨_, e⟩⟩ | ⟨_, e, _⟩ <;> rw [e] <;> decide
  | 2, ⟨_, _, e⟩ => rw [e]; decide
  | 8, ⟨_, _, e⟩ => rw [e]; decide
  | 18, ⟨_, _, e⟩ => rw [e]; decide
  | 23, ⟨_, _, e⟩ => rw [e]; decide
  | 24, ⟨_, _, e⟩ => rw [e]; decide
  | 10, ⟨_, _, e⟩ => rw [e]; decide
  | 4, ⟨_, e, _⟩ => rw [e]; decide
  | 6, ⟨_, e, _⟩ => rw [e]; decide
  | 13, ⟨e, _⟩ => rw [e]; decide
  | 15, ⟨_, e, _⟩ => rw [e]; decide
  | 20, ⟨_, e, _⟩ => rw [e]; decide
  | 27, ⟨_, e, _⟩ => rw [e]; decide
  | 29, ⟨_, e, _⟩ => rw [e]; decide
  | 30, ⟨_, e, _⟩ => rw [e]; decide

theorem shortL_nil : shortL [] := fun _ h => by cases h
/-- A line feed ends the line. -/
theorem InvL.feed {p r : Nat} {u : List Nat} (hs : okS (p, r) = true) (hw : wordOf p ≠ [] → r = 0) (h : InvL (p, r) u) (hf : feedOf p ≠ 0) : InvL (feedOf p, 0) (u ++ [10]) ∧ ∃ pl, Good (runsF fdB [] u) pl ∧ CurP (feedOf p) 0 pl [] [] := by
  obtain ⟨pl, Ls, c, D, cur, h1, h2, h3, h4, h5⟩ := h
  have hl := cur_len hs h4
  obtain ⟨hfi, hcu⟩ := cur_feed (fun h => (ok_name hs h).1) hw h4 hf
  have hsh := shortL_end h5 hl
  rw [← h2.all] at hfi hcu hsh
  have g : Good (endC Ls c) (nextL pl (runsF isNm [] c)) := by
    by_cases hc : c = []
    · subst hc
      rw [endC_nil]
      simpa [nextL, runsF, endC] using h3
    · rw [endC_ne _ hc]
      exact .add c h3 hfi hsh
  refine ⟨⟨_, _, [], [], [], h1.off rfl, RunS.nil _, g, hcu, shortL_nil⟩, _, by rw [h1.all]; exact g, hcu⟩
theorem InvL.next {q : Nat × Nat} {u : List Nat} {b : Nat} (hs : okS q = true) (h : InvL q u) (hn : (stepF q b).1 ≠ 0) : InvL (stepF q b) (u ++ [b]) := by
  obtain ⟨p, r⟩ := q
  have name : ∀ {pl : Nat} {Ls D : List (List Nat)} {c cur : List Nat} {q' : Nat × Nat}, RunS fdB u Ls c → RunS isNm c D cur → Good Ls pl → shortL D → isNm b = true → CurP q'.1 q'.2 pl D (cur ++ [b]) → InvL q' (u ++ [b]) := by
    intro pl Ls D c cur q' h1 h2 h3 h5 hb hc
    have h10 : fdB b = true := by
      unfold fdB
      rw [bne_iff_ne]; rintro rfl; revert hb; decide
    exact ⟨pl, Ls, c ++ [b], D, cur ++ [b], h1.on h10, h2.on hb, h3, hc, h5⟩
  have off : ∀ {pl : Nat} {Ls D : List (List Nat)} {c cur : List Nat} {q' : Nat × Nat}, RunS fdB u Ls c → RunS isNm c D cur → Good Ls pl → shortL D → cur.length ≤ 16 → isNm b = false → b ≠ 10 → CurP q'.1 q'.2 pl (endC D cur) [] → InvL q' (u ++ [b]) := by
    intro pl Ls D c cur q' h1 h2 h3 h5 hl hb hb2 hc
    exact ⟨pl, Ls, c ++ [b], endC D cur, [], h1.on (by unfold fdB; simpa using hb2), h2.off hb, h3, hc, shortL_end h5 hl⟩
  rcases step_kinds (p, r) b hn with ⟨a1, a2, a3⟩ | ⟨a0, ⟨a1, a⟩ | ⟨a1, a⟩ | ⟨a1, a⟩ | ⟨a1, a⟩⟩
  · obtain ⟨pl, Ls, c, D, cur, h1, h2, h3, h4, h5⟩ := h
    rw [a3]
    have := cur_word a1 (ok_word hs a1) h4
    simp only at a2
    rw [a2] at this
    rcases this with ⟨k1, k2⟩ | ⟨k1, k2, k3⟩
    · exact name h1 h2 h3 h5 k1 k2
    · exact off h1 h2 h3 h5 (cur_len hs h4) k1 k2 k3
  · rw [a] at hn ⊢
    subst a1
    exact (h.feed hs (fun x => a0.resolve_left x) hn).1
  · rw [a] at hn ⊢
    obtain ⟨pl, Ls, c, D, cur, h1, h2, h3, h4, h5⟩ := h
    refine off h1 h2 h3 h5 (cur_len hs h4) ?_ ?_ (cur_blank (fun h => (ok_name hs h).1) (fun x => a0.resolve_left x) h4 hn)
    · rcases a1 with rfl | rfl <;> decide
    · rcases a1 with rfl | rfl <;> decide
  · rw [a] at hn ⊢
    obtain ⟨pl, Ls, c, D, cur, h1, h2, h3, h4, h5⟩ := h
    rcases cur_sign (fun h => (ok_name hs h).1) h4 a1 with ⟨k1, k2⟩ | ⟨k1, k2⟩
    · exact name h1 h2 h3 h5 (by rcases k1 with rfl | rfl <;> decide) k2
    · exact off h1 h2 h3 h5 (cur_len hs h4) (by rcases k1 with rfl | rfl | rfl <;> decide) (by rcases k1 with rfl | rfl | rfl <;> decide) k2
  · rw [a] at hn ⊢
    obtain ⟨pl, Ls, c, D, cur, h1, h2, h3, h4, h5⟩ := h
    exact name h1 h2 h3 h5 a1 (cur_name h4 hn)
theorem InvL.go {q : Nat × Nat} {u : List Nat} (v : List Nat) (hs : okS q = true) (h : InvL q u) (hl : (goF q v).2 = v.length) : InvL (goF q v).1 (u ++ v) := by
  induction v generalizing q u with
  | nil => simpa [goF] using h
  | cons b t ih =>
    by_cases hn : (stepF q b).1 = 0
    · rw [goF_stop t hn] at hl; simp at hl
    · rw [goF_on t hn] at hl ⊢
      have := ih (step_ok hs hn) (h.next hs hn) (by simpa using hl)
      simpa using this
/-- A file's lines. -/
theorem good_of {u : List Nat} (hl : (goF (1, 0) u).2 = u.length) (hf : isF (goF (1, 0) u).1 = true) : Good (runsF fdB [] u) 5 := by
  have h0 : InvL (1, 0) [] := ⟨0, [], [], [], [], RunS.nil _, RunS.nil _, .nil, ⟨rfl, rfl, rfl⟩, shortL_nil⟩
  have h := h0.go u (by decide) hl
  rw [List.nil_append] at h
  have hok : okS (goF (1, 0) u).1 = true := goF_ok (by decide) u
  generalize (goF (1, 0) u).1 = q at *
  obtain ⟨p, r⟩ := q
  unfold isF at hf
  rw [beq_iff_eq] at hf
  have hn : (stepF (p, r) 10).1 ≠ 0 := by rw [hf]; decide
  rcases step_kinds (p, r) 10 hn with ⟨a1, a2, a3⟩ | ⟨a0, ⟨a1, a⟩ | ⟨a1, a⟩ | ⟨a1, a⟩ | ⟨a1, a⟩⟩
  · have k : ∀ p, p < 32 → ∀ r, r < (wordOf p).length → (wordOf p).getD r 0 ≠ 10 := by decide
    exact absurd a2 (k p (ok_bound hok).2.1 r (ok_word hok a1))
  · rw [a] at hf
    obtain ⟨_, pl, g, k⟩ := h.feed hok (fun x => a0.resolve_left x) (by rw [show feedOf p = 24 from hf]; decide)
    rw [show feedOf p = 24 from hf] at k
    rw [k.1] at g
    exact g
  · omega
  · have k : ∀ p, p < 32 → ((signsOf p).contains 10) = false := by decide
    simp only at a1
    rw [k p (ok_bound hok).2.1] at a1
    cases a1
  · exact absurd a1 (by decide)

/-- Runs are no longer than what they are of. -/
theorem runs_len (h : Nat → Bool) (t c : List Nat) : (runsF h c t).flatten.length ≤ c.length + t.length := by
  induction t generalizing c with
  | nil => unfold runsF endC; split <;> simp
  | cons b t ih =>
    unfold runsF
    split
    · have := ih (c ++ [b]); simp at this ⊢; omega
    · have := ih []
      unfold endC
      split <;> simp at this ⊢ <;> omega
theorem runs_pos (h : Nat → Bool) (t c : List Nat) : ∀ x ∈ runsF h c t, 0 < x.length := by
  have e : ∀ c x, x ∈ endC [] c → 0 < x.length := by
    intro c x hx
    unfold endC at hx
    split at hx
    · cases hx
    · rename_i hc; simp at hx; subst hx; exact List.length_pos_iff.2 hc
  induction t generalizing c with
  | nil => exact e c
  | cons b t ih =>
    unfold runsF
    split
    · exact ih _
    · intro x hx
      rcases List.mem_append.1 hx with hx | hx
      · exact e c x hx
      · exact ih _ x hx
/-- Runs lie apart: n of them take n - 1 bytes besides their own. -/
theorem runs_room (h : Nat → Bool) (t c : List Nat) : (runsF h c t).flatten.length + (runsF h c t).length ≤ c.length + t.length + 1 := by
  have e : ∀ c : List Nat, (endC [] c).flatten.length = c.length ∧ (endC [] c).length ≤ 1 := by
    intro c
    unfold endC
    split
    · rename_i hc; subst hc; exact ⟨rfl, Nat.zero_le _⟩
    · simp
  induction t generalizing c with
  | nil =>
    have := e c
    unfold runsF
    rw [List.length_nil]; omega
  | cons b t ih =>
    unfold runsF
    split
    · have := ih (c ++ [b])
      rw [List.length_append, List.length_singleton] at this
      rw [List.length_cons]; omega
    · have h1 := ih []
      have h2 := e c
      rw [List.flatten_append, List.length_append, List.length_append, List.length_cons]
      rw [List.length_nil] at h1
      omega
theorem flat_le {L : List (List Nat)} (h : ∀ x ∈ L, 0 < x.length) : L.length ≤ L.flatten.length := by
  induction L with
  | nil => simp
  | cons a t ih =>
    have h1 := h a (by simp)
    have h2 := ih (fun x hx => h x (by simp [hx]))
    rw [List.flatten_cons, List.length_append, List.length_cons]; omega
theorem runs_half (h : Nat → Bool) (t : List Nat) : 2 * (runsF h [] t).length ≤ t.length + 1 := by
  have h1 := runs_room h t []
  have h2 := flat_le (runs_pos h t [])
  rw [List.length_nil] at h1; omega
theorem runs_count (h : Nat → Bool) (t : List Nat) : (runsF h [] t).length ≤ t.length := by
  have h1 := runs_len h t []
  have h2 := flat_le (runs_pos h t [])
  rw [List.length_nil] at h1; omega
end Go.Proofs.YtmagchclmmphaaaDoor
