import Derived.Test.YtmagchclmmphaaaGreatDoorLR
import Derived.Test.YtmagchclmmphaaaGreatDoorVF
import Derived.Test.YtmagchclmmphaaaGreatDoorPX
namespace Go.Proofs.YtmagchclmmphaaaGreatDoor

/-! ### A text laid otherwise -/
def blB (b : Nat) : Prop := b = 32 ∨ b = 9
def Bl (l : List Nat) : Prop := ∀ b ∈ l, blB b
/-- Lines of blanks. -/
inductive Blk : List Nat → Prop
  | nil : Blk []
  | add {t : List Nat} (l : List Nat) : Blk t → Bl l → Blk (t ++ (l ++ [10]))
/-- What lines say, those left out that say nothing. -/
def PL (Ls : List (List Nat)) : List (List (List Nat)) := (Ls.map (runsF isNm [])).filter fun L => !L.isEmpty
theorem PL_end (Ls : List (List Nat)) (c : List Nat) : PL (endC Ls c) = PL Ls ++ (if runsF isNm [] c = [] then [] else [runsF isNm [] c]) := by
  unfold endC PL
  by_cases hc : c = []
  · subst hc
    simp [runsF, endC]
  · rw [if_neg hc, List.map_append, List.filter_append]
    congr 1
    by_cases h : runsF isNm [] c = []
    · simp [h]
    · simp [h]
theorem Bl.nm {l : List Nat} (h : Bl l) : ∀ b ∈ l, isNm b = false := fun b hb => by rcases h b hb with rfl | rfl <;> rfl
theorem Bl.fd {l : List Nat} (h : Bl l) : ∀ b ∈ l, fdB b = true := fun b hb => by rcases h b hb with rfl | rfl <;> rfl
theorem RunS.ons {h : Nat → Bool} {D : List (List Nat)} : ∀ (l : List Nat) {u c : List Nat}, RunS h u D c → (∀ b ∈ l, h b = true) → RunS h (u ++ l) D (c ++ l)
  | [], u, c, r, _ => by simpa using r
  | b :: l, u, c, r, hb => by
    have := RunS.ons l (r.on (hb b (by simp))) (fun x hx => hb x (by simp [hx]))
    simpa using this
theorem RunS.offs {h : Nat → Bool} {D : List (List Nat)} : ∀ (l : List Nat) {u : List Nat}, RunS h u D [] → (∀ b ∈ l, h b = false) → RunS h (u ++ l) D []
  | [], u, r, _ => by simpa using r
  | b :: l, u, r, hb => by
    have h1 := r.off (hb b (by simp))
    rw [endC_nil] at h1
    have := RunS.offs l h1 (fun x hx => hb x (by simp [hx]))
    simpa using this
theorem RunS.runs {h : Nat → Bool} {u c : List Nat} {D : List (List Nat)} (r : RunS h u D c) (l : List Nat) (hb : ∀ b ∈ l, h b = false) : runsF h [] (u ++ l) = endC D c := by
  match l, hb with
  | [], _ => rw [List.append_nil]; exact r.all
  | b :: l, hb =>
    have h1 := (r.off (hb b (by simp))).offs l (fun x hx => hb x (by simp [hx]))
    have := h1.all
    rw [endC_nil] at this
    simpa using this
theorem RunS.ex (h : Nat → Bool) (u : List Nat) : ∃ D c x, RunS h u D c ∧ u = x ++ c := by
  have key : ∀ (v u : List Nat) (D : List (List Nat)) (c x : List Nat), RunS h u D c → u = x ++ c → ∃ D c x, RunS h (u ++ v) D c ∧ u ++ v = x ++ c := by
    intro v
    induction v with
    | nil => intro u D c x r e; exact ⟨D, c, x, by simpa using r, by simpa using e⟩
    | cons b v ih =>
      intro u D c x r e
      cases hb : h b with
      | true =>
        have := ih (u ++ [b]) D (c ++ [b]) x (r.on hb) (by rw [e, List.append_assoc])
        simpa using this
      | false =>
        have := ih (u ++ [b]) _ [] (u ++ [b]) (r.off hb) (by simp)
        simpa using this
  have := key u [] [] [] [] (RunS.nil h) rfl
  simpa using this
theorem RunS.one {h : Nat → Bool} {u c c' : List Nat} {D D' : List (List Nat)} {b : Nat} (hb : h b = true) (r : RunS h u D c) (r' : RunS h u D' c') : c = c' := by
  have e := (r [b]).symm.trans (r' [b])
  have k : ∀ c : List Nat, runsF h c [b] = [c ++ [b]] := fun c => by
    rw [runsF, if_pos hb]
    simp [runsF, endC]
  rw [k, k] at e
  have := (List.append_inj' e rfl).2
  simp at this
  exact this
theorem RunS.suffix {h : Nat → Bool} {u c : List Nat} {D : List (List Nat)} {b : Nat} (hb : h b = true) (r : RunS h u D c) : ∃ x, u = x ++ c := by
  obtain ⟨D', c', x, r', e⟩ := RunS.ex h u
  rw [RunS.one hb r r']
  exact ⟨x, e⟩

theorem inv_of {q : Nat × Nat} {u : List Nat} (h : goF (1, 0) u = (q, u.length)) : InvL q u := by
  have h0 : InvL (1, 0) [] := ⟨0, [], [], [], [], RunS.nil _, RunS.nil _, .nil, ⟨rfl, rfl, rfl⟩, shortL_nil⟩
  have := h0.go u (by decide) (by rw [h])
  rw [h] at this
  simpa using this
/-- A text, and how far it is laid otherwise. -/
structure Lk (q : Nat × Nat) (u v : List Nat) (D : List (List Nat)) (cur : List Nat) : Prop where
  gu : goF (1, 0) u = (q, u.length)
  gv : goF (1, 0) v = (q, v.length)
  ls : ∃ Ls c Ls' c', RunS fdB u Ls c ∧ RunS isNm c D cur ∧ RunS fdB v Ls' c' ∧ RunS isNm c' D cur ∧ PL Ls = PL Ls'
theorem Lk.nm {q q' : Nat × Nat} {u v cur : List Nat} {D : List (List Nat)} {b : Nat} (h : Lk q u v D cur) (hb : isNm b = true) (hs : stepF q b = q') (hq : q'.1 ≠ 0) : Lk q' (u ++ [b]) (v ++ [b]) D (cur ++ [b]) := by
  obtain ⟨g1, g2, Ls, c, Ls', c', r1, r2, r3, r4, e⟩ := h
  have hf := fd_of_nm hb
  exact ⟨goF_one g1 hs hq, goF_one g2 hs hq, Ls, c ++ [b], Ls', c' ++ [b], r1.on hf, r2.on hb, r3.on hf, r4.on hb, e⟩
theorem Lk.off {q q' : Nat × Nat} {u v cur : List Nat} {D : List (List Nat)} {b : Nat} (h : Lk q u v D cur) (hb : isNm b = false) (h10 : b ≠ 10) (hs : stepF q b = q') (hq : q'.1 ≠ 0) : Lk q' (u ++ [b]) (v ++ [b]) (endC D cur) [] := by
  obtain ⟨g1, g2, Ls, c, Ls', c', r1, r2, r3, r4, e⟩ := h
  have hf : fdB b = true := by unfold fdB; simpa using h10
  exact ⟨goF_one g1 hs hq, goF_one g2 hs hq, Ls, c ++ [b], Ls', c' ++ [b], r1.on hf, r2.off hb, r3.on hf, r4.off hb, e⟩
theorem go_blanks {q : Nat × Nat} (hq : q.1 ≠ 0) (h32 : stepF q 32 = q) (h9 : stepF q 9 = q) : ∀ (l : List Nat) {v : List Nat}, Bl l → goF (1, 0) v = (q, v.length) → goF (1, 0) (v ++ l) = (q, (v ++ l).length)
  | [], v, _, g => by simpa using g
  | b :: l, v, hb, g => by
    have hs : stepF q b = q := by rcases hb b (by simp) with rfl | rfl <;> assumption
    have := go_blanks hq h32 h9 l (fun x hx => hb x (by simp [hx])) (goF_one g hs hq)
    simpa using this
/-- More blanks where blanks may stand. -/
theorem Lk.more {q : Nat × Nat} {u v : List Nat} {D : List (List Nat)} (h : Lk q u v D []) (l : List Nat) (hl : Bl l) (hq : q.1 ≠ 0) (h32 : stepF q 32 = q) (h9 : stepF q 9 = q) : Lk q u (v ++ l) D [] := by
  obtain ⟨g1, g2, Ls, c, Ls', c', r1, r2, r3, r4, e⟩ := h
  exact ⟨g1, go_blanks hq h32 h9 l hl g2, Ls, c, Ls', c' ++ l, r1, r2, r3.ons l hl.fd, r4.offs l hl.nm, e⟩
/-- One more of the first text where blanks may stand. -/
theorem Lk.less {q : Nat × Nat} {u v : List Nat} {D : List (List Nat)} (h : Lk q u v D []) (hq : q.1 ≠ 0) (h32 : stepF q 32 = q) : Lk q (u ++ [32]) v D [] := by
  obtain ⟨g1, g2, Ls, c, Ls', c', r1, r2, r3, r4, e⟩ := h
  have r2' := r2.off (b := 32) rfl
  rw [endC_nil] at r2'
  exact ⟨goF_one g1 h32 hq, g2, Ls, c ++ [32], Ls', c', r1.on rfl, r2', r3, r4, e⟩
/-- A line's end: blanks, a line feed. -/
theorem Lk.feed {p r : Nat} {u v cur : List Nat} {D : List (List Nat)} (hok : okS (p, r) = true) (h : Lk (p, r) u v D cur) (hw : wordOf p = [] ∨ r = 0) (hf : feedOf p ≠ 0) (l : List Nat) (hl : Bl l) : Lk (feedOf p, 0) (u ++ [10]) (v ++ (l ++ [10])) [] [] := by
  have hp := (ok_bound hok).2.1
  have t1 : ∀ p, p < 32 → feedOf p ≠ 0 → stepF (p, 0) 10 = (feedOf p, 0) ∧ blankOf p ≠ 0 ∧ stepF (p, 0) 32 = (blankOf p, 0) ∧ stepF (p, 0) 9 = (blankOf p, 0) ∧ stepF (blankOf p, 0) 32 = (blankOf p, 0) ∧ stepF (blankOf p, 0) 9 = (blankOf p, 0) ∧ stepF (blankOf p, 0) 10 = (feedOf p, 0) := by decide
  have t2 : ∀ b, b = 10 ∨ b = 32 ∨ b = 9 → stepF (p, r) b = stepF (p, 0) b := by
    intro b hb
    rcases hw with hw | rfl
    · have k : ∀ p, p < 32 → wordOf p = [] → ∀ b, b = 10 ∨ b = 32 ∨ b = 9 → stepF (p, r) b = stepF (p, 0) b := by
        intro p _ hw b hb
        unfold stepF
        simp only [hw, ne_eq, not_true_eq_false, false_and, if_false]
        rcases hb with rfl | rfl | rfl <;> simp
      exact k p hp hw b hb
    · rfl
  obtain ⟨s1, s2, s3, s4, s5, s6, s7⟩ := t1 p hp hf
  obtain ⟨g1, g2, Ls, c, Ls', c', r1, r2, r3, r4, e⟩ := h
  have gv : goF (1, 0) (v ++ (l ++ [10])) = ((feedOf p, 0), (v ++ (l ++ [10])).length) := by
    rw [← List.append_assoc]
    match l, hl with
    | [], _ =>
      rw [List.append_nil]
      exact goF_one g2 ((t2 10 (.inl rfl)).trans s1) hf
    | b :: l, hl =>
      have hb : stepF (p, r) b = (blankOf p, 0) := by
        rcases hl b (by simp) with rfl | rfl
        · exact (t2 32 (by omega)).trans s3
        · exact (t2 9 (by omega)).trans s4
      have k := go_blanks (q := (blankOf p, 0)) s2 s5 s6 l (fun x hx => hl x (by simp [hx])) (goF_one g2 hb s2)
      rw [List.append_assoc] at k
      exact goF_one k s7 hf
  have rv : RunS fdB (v ++ (l ++ [10])) (endC Ls' (c' ++ l)) [] := by
    rw [← List.append_assoc]
    exact (r3.ons l hl.fd).off rfl
  refine ⟨goF_one g1 ((t2 10 (.inl rfl)).trans s1) hf, gv, _, [], _, [], r1.off rfl, RunS.nil _, rv, RunS.nil _, ?_⟩
  rw [PL_end, PL_end, e, r2.all, r4.runs l hl.nm]
/-- Lines of blanks. -/
theorem Lk.lines {p : Nat} {u v : List Nat} (hp : stepF (p, 0) 10 = (p, 0) ∧ p ≠ 0 ∧ blankOf p ≠ 0 ∧ stepF (p, 0) 32 = (blankOf p, 0) ∧ stepF (p, 0) 9 = (blankOf p, 0) ∧ stepF (blankOf p, 0) 32 = (blankOf p, 0) ∧ stepF (blankOf p, 0) 9 = (blankOf p, 0) ∧ stepF (blankOf p, 0) 10 = (p, 0))
    {t : List Nat} (ht : Blk t) (h : Lk (p, 0) u v [] []) : Lk (p, 0) u (v ++ t) [] [] ∧ (t ≠ [] → ∃ Ls', RunS fdB (v ++ t) Ls' []) := by
  obtain ⟨s1, s2, s3, s4, s5, s6, s7, s8⟩ := hp
  induction ht with
  | nil => exact ⟨by simpa using h, fun q => absurd rfl q⟩
  | @add t l _ hl ih =>
    obtain ⟨g1, g2, Ls, c, Ls', c', r1, r2, r3, r4, e⟩ := ih.1
    have gv : goF (1, 0) (v ++ t ++ (l ++ [10])) = ((p, 0), (v ++ t ++ (l ++ [10])).length) := by
      rw [← List.append_assoc (v ++ t)]
      match l, hl with
      | [], _ =>
        rw [List.append_nil]
        exact goF_one g2 s1 s2
      | b :: l, hl =>
        have hb : stepF (p, 0) b = (blankOf p, 0) := by rcases hl b (by simp) with rfl | rfl <;> assumption
        have k := go_blanks (q := (blankOf p, 0)) s3 s6 s7 l (fun x hx => hl x (by simp [hx])) (goF_one g2 hb s3)
        rw [List.append_assoc] at k
        exact goF_one k s8 s2
    have rv : RunS fdB (v ++ t ++ (l ++ [10])) (endC Ls' (c' ++ l)) [] := by
      rw [← List.append_assoc (v ++ t)]
      exact (r3.ons l hl.fd).off rfl
    rw [← List.append_assoc v]
    have hc : runsF isNm [] (c' ++ l) = [] := by rw [r4.runs l hl.nm]; rfl
    exact ⟨⟨g1, gv, Ls, c, _, [], r1, r2, rv, RunS.nil _, by rw [PL_end, hc, ← e]; simp⟩, fun _ => ⟨_, rv⟩⟩

/-- What a byte is laid as. -/
inductive Img (u : List Nat) : Nat → List Nat → Prop
  | feed (l t : List Nat) : Bl l → Blk t → Img u 10 (l ++ [10] ++ t)
  | word (x : List Nat) : u = x ++ wFin → Img u 32 [32]
  | arrow (x l : List Nat) : (u = x ++ [41] ∨ u = x ++ [62]) → Bl l → Img u 32 l
  | blank (l : List Nat) : (∀ x, u ≠ x ++ wFin) → Bl l → Img u 32 ([32] ++ l)
  | byte (b : Nat) : b ≠ 10 → b ≠ 32 → Img u b [b]
/-- How far a text is laid otherwise, with what its last byte says. -/
def LkX (q : Nat × Nat) (u v : List Nat) : Prop := ∃ D cur, Lk q u v D cur ∧ ((∃ x, u = x ++ [41]) → q = (29, 0) ∧ cur = []) ∧ ((∃ x, u = x ++ [62]) → q = (30, 0) ∧ cur = [])
theorem last_ne {u : List Nat} {a b : Nat} (h : a ≠ b) : ¬ ∃ x, u ++ [a] = x ++ [b] := by
  rintro ⟨x, e⟩
  have := (List.append_inj' e rfl).2
  simp at this
  exact h this
theorem lkx_of {q : Nat × Nat} {u v cur : List Nat} {D : List (List Nat)} {b : Nat} (h : Lk q (u ++ [b]) v D cur) (h1 : b ≠ 41) (h2 : b ≠ 62) : LkX q (u ++ [b]) v :=
  ⟨D, cur, h, fun q => absurd q (last_ne h1), fun q => absurd q (last_ne h2)⟩
theorem LkX.step {q : Nat × Nat} {u v img : List Nat} {b : Nat} (h : LkX q u v) (hn : (stepF q b).1 ≠ 0) (hi : Img u b img) : LkX (stepF q b) (u ++ [b]) (v ++ img) := by
  obtain ⟨D, cur, h, ha, hg⟩ := h
  have hok : okS q = true := by have := goF_ok (s := (1, 0)) (by decide) u; rwa [h.gu] at this
  obtain ⟨p, r⟩ := q
  have hp := (ok_bound hok).2.1
  have bls : ∀ p, p < 32 → blankOf p ≠ 0 → stepF (blankOf p, 0) 32 = (blankOf p, 0) ∧ stepF (blankOf p, 0) 9 = (blankOf p, 0) := by decide
  have blank : ∀ l, Bl l → stepF (p, r) 32 = (blankOf p, 0) → b = 32 → LkX (stepF (p, r) 32) (u ++ [32]) (v ++ ([32] ++ l)) := by
    intro l hl a e
    rw [e, a] at hn
    have k := (h.off rfl (by decide) a hn).more l hl hn (bls p hp hn).1 (bls p hp hn).2
    rw [List.append_assoc] at k
    rw [a]
    exact lkx_of k (by decide) (by decide)
  cases hi with
  | feed l t hl ht =>
    rcases step_kinds (p, r) 10 hn with ⟨a1, a2, a3⟩ | ⟨a0, ⟨_, a⟩ | ⟨a1, _⟩ | ⟨a1, _⟩ | ⟨a1, _⟩⟩
    · have k : ∀ p, p < 32 → ∀ r, r < (wordOf p).length → (wordOf p).getD r 0 ≠ 10 := by decide
      exact absurd a2 (k p hp r (ok_word hok a1))
    · rw [a] at hn
      have k := h.feed hok a0 hn l hl
      have t3 : ∀ p, p < 32 → feedOf p ≠ 0 → stepF (feedOf p, 0) 10 = (feedOf p, 0) ∧ feedOf p ≠ 0 ∧ blankOf (feedOf p) ≠ 0 ∧ stepF (feedOf p, 0) 32 = (blankOf (feedOf p), 0) ∧ stepF (feedOf p, 0) 9 = (blankOf (feedOf p), 0) ∧ stepF (blankOf (feedOf p), 0) 32 = (blankOf (feedOf p), 0) ∧ stepF (blankOf (feedOf p), 0) 9 = (blankOf (feedOf p), 0) ∧ stepF (blankOf (feedOf p), 0) 10 = (feedOf p, 0) := by decide
      have k2 := (k.lines (t3 p hp hn) ht).1
      rw [List.append_assoc] at k2
      rw [a]
      exact lkx_of k2 (by decide) (by decide)
    · omega
    · have k : ∀ p, p < 32 → ((signsOf p).contains 10) = false := by decide
      simp only at a1
      rw [k p hp] at a1
      cases a1
    · exact absurd a1 (by decide)
  | word x e =>
    exact lkx_of (h.off rfl (by decide) rfl hn) (by decide) (by decide)
  | arrow x l e hl =>
    have e' : (p, r) = (29, 0) ∧ cur = [] ∨ (p, r) = (30, 0) ∧ cur = [] := by
      rcases e with e | e
      · exact .inl (ha ⟨x, e⟩)
      · exact .inr (hg ⟨x, e⟩)
    rcases e' with ⟨e1, rfl⟩ | ⟨e1, rfl⟩
    · rw [e1] at h ⊢
      have k := (h.less (by decide) rfl).more _ hl (by decide) rfl rfl
      exact lkx_of k (by decide) (by decide)
    · rw [e1] at h ⊢
      have k := (h.less (by decide) rfl).more _ hl (by decide) rfl rfl
      exact lkx_of k (by decide) (by decide)
  | blank l hx hl =>
    rcases step_kinds (p, r) 32 hn with ⟨a1, a2, a3⟩ | ⟨a0, ⟨a1, _⟩ | ⟨_, a⟩ | ⟨a1, _⟩ | ⟨a1, _⟩⟩
    · have k : ∀ p, p < 32 → ∀ r, r < (wordOf p).length → (wordOf p).getD r 0 = 32 → p = 17 ∧ r = 5 := by decide
      obtain ⟨rfl, rfl⟩ := k p hp r (ok_word hok a1) a2
      obtain ⟨pl, Ls, c, D', cur', r1, r2, _, hc, _⟩ := inv_of h.gu
      obtain ⟨_, k⟩ := hc
      rcases k with ⟨_, _, k⟩ | ⟨k, _⟩
      · obtain ⟨y, e1⟩ := r1.suffix (b := 65) rfl
        obtain ⟨z, e2⟩ := r2.suffix (b := 65) rfl
        refine absurd ?_ (hx (y ++ z))
        rw [e1, e2, k, List.append_assoc]; rfl
      · exact absurd k (by decide)
    · omega
    · exact blank l hl a rfl
    · have k : ∀ p, p < 32 → ((signsOf p).contains 32) = false := by decide
      simp only at a1
      rw [k p hp] at a1
      cases a1
    · exact absurd a1 (by decide)
  | byte b h10 h32 =>
    cases hb : isNm b with
    | true =>
      refine lkx_of (h.nm hb rfl hn) ?_ ?_
      · rintro rfl; revert hb; decide
      · rintro rfl; revert hb; decide
    | false =>
      have k := h.off hb h10 rfl hn
      refine ⟨_, _, k, fun q => ⟨?_, rfl⟩, fun q => ⟨?_, rfl⟩⟩
      · obtain ⟨x, e⟩ := q
        obtain rfl : b = 41 := by have := (List.append_inj' e rfl).2; simpa using this
        rcases step_kinds (p, r) 41 hn with ⟨a1, a2, a3⟩ | ⟨a0, ⟨a1, _⟩ | ⟨a1, _⟩ | ⟨a1, a⟩ | ⟨a1, _⟩⟩
        · have k : ∀ p, p < 32 → ∀ r, r < (wordOf p).length → (wordOf p).getD r 0 ≠ 41 := by decide
          exact absurd a2 (k p hp r (ok_word hok a1))
        · omega
        · omega
        · rw [a]
          have k : ∀ p, p < 32 → (signsOf p).contains 41 = true → pastOf p = 29 := by decide
          simp only at a1 ⊢
          rw [k p hp a1]
        · exact absurd a1 (by decide)
      · obtain ⟨x, e⟩ := q
        obtain rfl : b = 62 := by have := (List.append_inj' e rfl).2; simpa using this
        rcases step_kinds (p, r) 62 hn with ⟨a1, a2, a3⟩ | ⟨a0, ⟨a1, _⟩ | ⟨a1, _⟩ | ⟨a1, a⟩ | ⟨a1, _⟩⟩
        · have k : ∀ p, p < 32 → ∀ r, r < (wordOf p).length → (wordOf p).getD r 0 = 62 → p = 29 ∧ r = 1 := by decide
          obtain ⟨rfl, rfl⟩ := k p hp r (ok_word hok a1) a2
          rw [a3]; rfl
        · omega
        · omega
        · have k : ∀ p, p < 32 → ((signsOf p).contains 62) = false := by decide
          simp only at a1
          rw [k p hp] at a1
          cases a1
        · exact absurd a1 (by decide)
end Go.Proofs.YtmagchclmmphaaaGreatDoor
namespace Go.Proofs.YtmagchclmmphaaaGreatDoor
open Go.RowKit Go.Maps
attribute [local go_sem] Oper.semAt_some

theorem cnew1 (w : World) (s : ByteArray) : ∀ j u, [Value.string s][j]? = some u → (w.alloc (.cells #[.string s] 9)).cell? ((⟨w.heap.size, 0, none⟩ : Addr).add j) = some u := by
  intro j u hj
  cases j with
  | zero =>
    obtain rfl : Value.string s = u := by simpa using hj
    exact cell_of (World.alloc_heap_new w _) rfl
  | succ j => simp at hj
/-- Words that have been read: those that are whole, and what has been read of the next. -/
def WdI (s : ByteArray) (k : Nat) (L : List ByteArray) (c : ByteArray) : Prop := RunS nbB ((bts s).take k) (L.map bts) (bts c)
theorem wd_on {s c : ByteArray} {k b : Nat} {L : List ByteArray} (h : WdI s k L c) (hk : k < s.size) (hb : (bts s)[k]'(by rw [bts_len]; exact hk) = b) (hn : nbB b = true) : WdI s (k + 1) L (c ++ s.extract k (k + 1)) := by
  have hl : k < (bts s).length := by rw [bts_len]; exact hk
  unfold WdI
  have e : bts (s.extract k (k + 1)) = [b] := by
    rw [bts_extract, List.drop_eq_getElem_cons hl, show k + 1 - k = 1 by omega, hb]; rfl
  rw [bts_append, e, List.take_succ_eq_append_getElem hl, hb]
  exact RunS.on h hn
theorem wd_off {s c : ByteArray} {k b : Nat} {L : List ByteArray} (h : WdI s k L c) (hk : k < s.size) (hb : (bts s)[k]'(by rw [bts_len]; exact hk) = b) (hn : nbB b = false) (hc : c ≠ ⟨#[]⟩) : WdI s (k + 1) (L ++ [c]) ⟨#[]⟩ := by
  have hl : k < (bts s).length := by rw [bts_len]; exact hk
  unfold WdI
  rw [List.take_succ_eq_append_getElem hl, hb, List.map_append]
  have := RunS.off h hn
  rw [endC_ne _ (fun q => hc (bts_nil.1 q))] at this
  exact this
theorem wd_off0 {s : ByteArray} {k b : Nat} {L : List ByteArray} (h : WdI s k L ⟨#[]⟩) (hk : k < s.size) (hb : (bts s)[k]'(by rw [bts_len]; exact hk) = b) (hn : nbB b = false) : WdI s (k + 1) L ⟨#[]⟩ := by
  have hl : k < (bts s).length := by rw [bts_len]; exact hk
  unfold WdI at h ⊢
  rw [List.take_succ_eq_append_getElem hl, hb]
  have := RunS.off h hn
  rw [show bts ⟨#[]⟩ = [] from rfl, endC_nil] at this
  exact this
theorem wd_end {s c : ByteArray} {L : List ByteArray} (h : WdI s s.size L c) : runsF nbB [] (bts s) = if c = ⟨#[]⟩ then L.map bts else (L ++ [c]).map bts := by
  unfold WdI at h
  rw [List.take_of_length_le (by rw [bts_len]; exact Nat.le_refl _)] at h
  have := h.all
  rw [this]
  split
  · rename_i q
    rw [q, show bts ⟨#[]⟩ = [] from rfl, endC_nil]
  · rename_i q
    rw [endC_ne _ (fun z => q (bts_nil.1 z)), List.map_append]; rfl

/-- A line's words, in a row of one's own. -/
def WdR (B : Nat) (s : ByteArray) (v : Value) (W : World) : Prop := ∃ L : List ByteArray, L.map bts = runsF nbB [] (bts s) ∧ W.ownsRow B 9 1 v L.length (strV L)

set_option maxRecDepth 100000 in
set_option maxHeartbeats 2000000 in
/-- The document's words of a line. -/
theorem words_any (w : World) (s : ByteArray) (hs : s.size ≤ 134217728) :
    Calls Tryz.prog 38 #[.string s] w fun e w' => ∃ v, e = .returned v ∧ WdR w.heap.size s v w' ∧ Below w.heap.size w w' := by
  obtain ⟨i9, hi9, hz90, hz91, hz92⟩ := info_parts info9
  go_enter Tryz.func38, Tryz.ntmps38
  go_wp2_with fail
  go_loopw [3, 4, 5] (fun v t i wr => ∃ (k : Nat) (L : List ByteArray) (c : ByteArray), k ≤ s.size ∧ i = .int .i64 k ∧ t = .string c ∧ c.size ≤ k ∧ L.length ≤ k ∧ Hid (WdI s k L c ∧ wr.ownsRow w.heap.size 9 1 v L.length (strV L) ∧ Below w.heap.size w wr)) (fun _ _ i _ => s.size - (intOf i).toNat)
  case atStart => exact ⟨0, [], ⟨#[]⟩, Nat.zero_le _, rfl, rfl, Nat.le_refl _, Nat.le_refl _, hide ⟨RunS.nil _, ⟨rfl, .inl ⟨rfl, rfl⟩⟩, Below.refl _ _⟩⟩
  case round =>
    obtain ⟨k, L, c, hk, rfl, rfl, hcz, hLz, HH⟩ := hrel
    have hsz := HH.out.2.2.size
    by_cases hlt : k < s.size
    · have i1 : (k : Int) < (s.size : Int) := by omega
      have hix := rf.idx_b s k hlt
      obtain ⟨b, hb⟩ : ∃ b, (bts s)[k]'(by rw [bts_len]; exact hlt) = b := ⟨_, rfl⟩
      rw [hb] at hix
      have HB := hide hb
      clear hb
      by_cases h32 : b = 32
      · have j1 : ((b : Int) == 32) = true := by rw [beq_iff_eq]; omega
        have hnb : nbB b = false := by rw [h32]; rfl
        by_cases hc : c = ⟨#[]⟩
        · subst hc
          go_wp2
          refine ⟨⟨k + 1, L, ⟨#[]⟩, by omega, by go_num, rfl, Nat.zero_le _, by omega, hide ⟨wd_off0 HH.out.1 hlt HB.out hnb, HH.out.2⟩⟩, by simp [intOf]; omega⟩
        · have e0 : (c.toList == []) = false := by rw [str_empty]; exact decide_eq_false hc
          have HW := hide (wd_off HH.out.1 hlt HB.out hnb hc)
          clear hc
          go_wp2_with (at_builtin; refine wpList_append_own_at _ rfl _ _ _ rfl w.heap.size 9 i9 _ 1 16 Tryz.underlying23 hi9 hz90 hz91 hz92 rfl (by omega) u3 L.length (strV L) rfl (owns_below HH.out.2.1 ((Below.refl _ wr).alloc (Nat.le_refl _) _)) ⟨wr.heap.size, 0, none⟩ 1 1 [.string c] rfl rfl (cnew1 wr c) (rf.strV_one [c]) (by unfold maxLen; omega) (by omega) (by simp; omega) ?_; intro v' w2 ho hgr hnil hloc)
          have hb0 := HH.out.2.1.lt
          refine ⟨⟨k + 1, L ++ [c], ⟨#[]⟩, by omega, by go_num, rfl, Nat.zero_le _, by simp; omega, hide ⟨HW.out, by simpa [strV] using ho, ((HH.out.2.2.alloc hsz _).grown hgr (by simp; omega) (fun k hk => (hb0 k hk).1))⟩⟩, by simp [intOf]; omega⟩
      · have j1 : ((b : Int) == 32) = false := by rw [beq_eq_false_iff_ne]; omega
        by_cases h9 : b = 9
        · have j2 : ((b : Int) == 9) = true := by rw [beq_iff_eq]; omega
          have hnb : nbB b = false := by rw [h9]; rfl
          by_cases hc : c = ⟨#[]⟩
          · subst hc
            go_wp2
            refine ⟨⟨k + 1, L, ⟨#[]⟩, by omega, by go_num, rfl, Nat.zero_le _, by omega, hide ⟨wd_off0 HH.out.1 hlt HB.out hnb, HH.out.2⟩⟩, by simp [intOf]; omega⟩
          · have e0 : (c.toList == []) = false := by rw [str_empty]; exact decide_eq_false hc
            have HW := hide (wd_off HH.out.1 hlt HB.out hnb hc)
            clear hc
            go_wp2_with (at_builtin; refine wpList_append_own_at _ rfl _ _ _ rfl w.heap.size 9 i9 _ 1 16 Tryz.underlying23 hi9 hz90 hz91 hz92 rfl (by omega) u3 L.length (strV L) rfl (owns_below HH.out.2.1 ((Below.refl _ wr).alloc (Nat.le_refl _) _)) ⟨wr.heap.size, 0, none⟩ 1 1 [.string c] rfl rfl (cnew1 wr c) (rf.strV_one [c]) (by unfold maxLen; omega) (by omega) (by simp; omega) ?_; intro v' w2 ho hgr hnil hloc)
            have hb0 := HH.out.2.1.lt
            refine ⟨⟨k + 1, L ++ [c], ⟨#[]⟩, by omega, by go_num, rfl, Nat.zero_le _, by simp; omega, hide ⟨HW.out, by simpa [strV] using ho, ((HH.out.2.2.alloc hsz _).grown hgr (by simp; omega) (fun k hk => (hb0 k hk).1))⟩⟩, by simp [intOf]; omega⟩
        · have j2 : ((b : Int) == 9) = false := by rw [beq_eq_false_iff_ne]; omega
          have hnb : nbB b = true := by unfold nbB; simp [h32, h9]
          have HW := hide (wd_on HH.out.1 hlt HB.out hnb)
          have hxz : (c ++ s.extract k (k + 1)).size ≤ k + 1 := by rw [ByteArray.size_append, ByteArray.size_extract]; omega
          go_wp2
          refine ⟨⟨k + 1, L, _, by omega, by go_num, rfl, hxz, by omega, hide ⟨HW.out, HH.out.2⟩⟩, by simp [intOf]; omega⟩
    · obtain rfl : k = s.size := by omega
      have i1 : ¬ (s.size : Int) < (s.size : Int) := by omega
      have HW := hide (wd_end HH.out.1)
      by_cases hc : c = ⟨#[]⟩
      · have HW2 := hide (show L.map bts = runsF nbB [] (bts s) by rw [HW.out, if_pos hc])
        clear HW
        subst hc
        go_wp2
        go_ret
        exact ⟨_, rfl, ⟨L, HW2.out, HH.out.2.1⟩, HH.out.2.2⟩
      · have e0 : (c.toList == []) = false := by rw [str_empty]; exact decide_eq_false hc
        have HW2 := hide (show runsF nbB [] (bts s) = (L ++ [c]).map bts by rw [HW.out, if_neg hc])
        clear hc
        go_wp2_with (at_builtin; refine wpList_append_own_at _ rfl _ _ _ rfl w.heap.size 9 i9 _ 1 16 Tryz.underlying23 hi9 hz90 hz91 hz92 rfl (by omega) u3 L.length (strV L) rfl (owns_below HH.out.2.1 ((Below.refl _ wr).alloc (Nat.le_refl _) _)) ⟨wr.heap.size, 0, none⟩ 1 1 [.string c] rfl rfl (cnew1 wr c) (rf.strV_one [c]) (by unfold maxLen; omega) (by omega) (by simp; omega) ?_; intro v' w2 ho hgr hnil hloc)
        have hb0 := HH.out.2.1.lt
        go_ret
        exact ⟨_, rfl, ⟨L ++ [c], HW2.out.symm, by simpa [strV] using ho⟩, (HH.out.2.2.alloc hsz _).grown hgr (by simp; omega) (fun k hk => (hb0 k hk).1)⟩
end Go.Proofs.YtmagchclmmphaaaGreatDoor
namespace Go.Proofs.YtmagchclmmphaaaGreatDoor
open Go.RowKit Go.Maps
attribute [local go_sem] Oper.semAt_some

def wneL (l : List Nat) : Bool := decide (runsF nbB [] l ≠ [])
theorem wneL_nil : wneL [] = false := by unfold wneL; simp [runsF, endC]
/-- Lines that have been read. -/
def LnI (T : ByteArray) (k f : Nat) (X : List ByteArray) : Prop := ∃ D, RunS fdB ((bts T).take k) D (bts (T.extract f k)) ∧ X.map bts = D.filter wneL
theorem ln_on {T : ByteArray} {k f b : Nat} {X : List ByteArray} (h : LnI T k f X) (hf : f ≤ k) (hk : k < T.size) (hb : (bts T)[k]'(by rw [bts_len]; exact hk) = b) (hn : b ≠ 10) : LnI T (k + 1) f X := by
  have hl : k < (bts T).length := by rw [bts_len]; exact hk
  obtain ⟨D, r, e⟩ := h
  refine ⟨D, ?_, e⟩
  have e2 : bts (T.extract f (k + 1)) = bts (T.extract f k) ++ [b] := by
    rw [bts_extract, bts_extract, show k + 1 - f = (k - f) + 1 by omega, List.take_add_one, List.getElem?_drop, show f + (k - f) = k by omega, List.getElem?_eq_getElem hl, hb]; rfl
  rw [e2, List.take_succ_eq_append_getElem hl, hb]
  exact r.on (fd_of hn)
theorem ln_off {T : ByteArray} {k f : Nat} {X : List ByteArray} (h : LnI T k f X) (hk : k < T.size) (hb : (bts T)[k]'(by rw [bts_len]; exact hk) = 10) : LnI T (k + 1) (k + 1) (X ++ (if wneL (bts (T.extract f k)) then [T.extract f k] else [])) := by
  have hl : k < (bts T).length := by rw [bts_len]; exact hk
  obtain ⟨D, r, e⟩ := h
  have r2 := r.off (b := 10) rfl
  refine ⟨endC D (bts (T.extract f k)), ?_, ?_⟩
  · rw [List.take_succ_eq_append_getElem hl, hb, (ext_nil T (k + 1) (k + 1) (Nat.le_refl _) hk).2 rfl]
    exact r2
  · unfold endC
    rw [List.map_append, e, List.filter_append]
    congr 1
    by_cases hc : bts (T.extract f k) = []
    · rw [hc, wneL_nil]; simp
    · rw [if_neg hc]
      by_cases hw : wneL (bts (T.extract f k)) = true
      · rw [hw]; simp [hw]
      · have : wneL (bts (T.extract f k)) = false := by simpa using hw
        rw [this]; simp [this]
theorem ln_end {s : ByteArray} {f : Nat} {X : List ByteArray} (h : LnI (s ++ ⟨#[10]⟩) (s ++ (⟨#[10]⟩ : ByteArray)).size f X) : X = linesR s := by
  obtain ⟨D, r, e⟩ := h
  rw [List.take_of_length_le (by rw [bts_len]; exact Nat.le_refl _), bts_append, show bts ⟨#[10]⟩ = [10] from rfl] at r
  obtain ⟨D0, c0, _, r0, _⟩ := RunS.ex fdB (bts s)
  have r1 := r0.off (b := 10) rfl
  have hc := RunS.one (b := 65) rfl r r1
  rw [hc] at r
  have h1 := r.all
  have h2 := r1.all
  rw [h1, endC_nil, endC_nil, ← r0.all] at h2
  rw [h2, ← lines_runs] at e
  have e3 : ((lines s).map bts).filter wneL = ((lines s).filter wneB).map bts := by
    rw [List.filter_map]
    rfl
  rw [e3] at e
  exact (List.map_inj_right (fun a b q => bts_inj q)).1 e

set_option maxRecDepth 100000 in
set_option maxHeartbeats 2000000 in
/-- The document's lines of a text. -/
theorem rlines_any (w : World) (s : ByteArray) (hs : s.size ≤ 129999999) :
    Calls Tryz.prog 37 #[.string s] w fun e w' => ∃ v, e = .returned v ∧ w'.ownsRow w.heap.size 9 1 v (linesR s).length (strV (linesR s)) ∧ Below w.heap.size w w' := by
  obtain ⟨i9, hi9, hz90, hz91, hz92⟩ := info_parts info9
  obtain ⟨T, hT⟩ : ∃ T, s ++ (⟨#[10]⟩ : ByteArray) = T := ⟨_, rfl⟩
  have hTz : T.size = s.size + 1 := by rw [← hT, ByteArray.size_append]; rfl
  have HE := hide (fun (f : Nat) (X : List ByteArray) (h : LnI T T.size f X) => show X = linesR s by subst hT; exact ln_end h)
  go_enter Tryz.func37, Tryz.ntmps37
  go_wp2_with fail
  go_loopw [3, 4, 5] (fun v fr i wr => ∃ (k f : Nat) (X : List ByteArray), k ≤ T.size ∧ f ≤ k ∧ i = .int .i64 k ∧ fr = .int .i64 f ∧ X.length ≤ k ∧ Hid (LnI T k f X ∧ wr.ownsRow w.heap.size 9 1 v X.length (strV X) ∧ Below w.heap.size w wr)) (fun _ _ i _ => T.size - (intOf i).toNat)
  case atStart => exact ⟨0, 0, [], Nat.zero_le _, Nat.le_refl _, rfl, rfl, Nat.le_refl _, hide ⟨⟨[], by rw [(ext_nil T 0 0 (Nat.le_refl _) (Nat.zero_le _)).2 rfl]; exact RunS.nil _, rfl⟩, ⟨rfl, .inl ⟨rfl, rfl⟩⟩, Below.refl _ _⟩⟩
  case round =>
    obtain ⟨k, f, X, hk, hf, rfl, rfl, hXz, HH⟩ := hrel
    have hsz := HH.out.2.2.size
    clear hT
    by_cases hlt : k < T.size
    · have i1 : (k : Int) < (T.size : Int) := by omega
      have i2 : (f : Int) ≤ (k : Int) := by omega
      have i3 : (0 : Int) ≤ (f : Int) := by omega
      have i4 : (k : Int) ≤ (T.size : Int) := by omega
      have hix := rf.idx_b T k hlt
      obtain ⟨b, hb⟩ : ∃ b, (bts T)[k]'(by rw [bts_len]; exact hlt) = b := ⟨_, rfl⟩
      rw [hb] at hix
      by_cases h10 : b = 10
      · have j1 : ((b : Int) == 10) = true := by rw [beq_iff_eq]; omega
        have HO := hide (ln_off HH.out.1 hlt (hb.trans h10))
        have hez : (T.extract f k).size ≤ 134217728 := by rw [ByteArray.size_extract]; omega
        obtain ⟨Y, hY⟩ : ∃ Y, T.extract f k = Y := ⟨_, rfl⟩
        have T1 := words_any wr Y (by rw [← hY]; exact hez)
        rw [hY] at HO
        clear hb
        go_wp2_with fail
        refine T1.mono ?_
        rintro e w1 ⟨v1, rfl, ⟨L, hL, hv⟩, d1⟩
        obtain ⟨av, cv, rfl, _⟩ := row_len hv
        have D1 := hide d1
        have HL := hide hL
        clear T1 d1 hv hL
        by_cases hL0 : 0 < L.length
        · have j2 : (0 : Int) < (L.length : Int) := by omega
          have hw : wneL (bts Y) = true := by
            unfold wneL
            rw [← HL.out]
            have : L ≠ [] := fun q => by rw [q] at hL0; simp at hL0
            simp [this]
          rw [hw] at HO
          have hb0 := HH.out.2.1.lt
          have HW1 := hide (owns_below HH.out.2.1 (show Below wr.heap.size wr w1 from D1.out))
          go_wp2_with (at_builtin; refine wpList_append_own_at _ rfl _ _ _ rfl w.heap.size 9 i9 _ 1 16 Tryz.underlying23 hi9 hz90 hz91 hz92 rfl (by omega) u3 X.length (strV X) rfl (owns_below HW1.out ((Below.refl _ w1).alloc (Nat.le_refl _) _)) ⟨w1.heap.size, 0, none⟩ 1 1 [.string Y] rfl rfl (cnew1 w1 Y) (rf.strV_one [Y]) (by unfold maxLen; omega) (by omega) (by have := D1.out.size; simp; omega) ?_; intro v' w2 ho hgr hnil hloc)
          have hs1 := D1.out.size
          refine ⟨⟨k + 1, k + 1, X ++ [Y], by omega, by omega, by go_num, by go_num, by simp; omega, hide ⟨HO.out, by simpa [strV] using ho, ?_⟩⟩, by simp [intOf]; omega⟩
          exact ((HH.out.2.2.trans (D1.out.mono hsz)).alloc (by omega) _).grown hgr (by simp; omega) (fun k hk => (hb0 k hk).1)
        · have j2 : ¬ (0 : Int) < (L.length : Int) := by omega
          have hw : wneL (bts Y) = false := by
            unfold wneL
            rw [← HL.out]
            have : L = [] := List.eq_nil_of_length_eq_zero (by omega)
            simp [this]
          rw [hw] at HO
          go_wp2_with fail
          refine ⟨⟨k + 1, k + 1, X, by omega, by omega, by go_num, by go_num, by omega, hide ⟨by have := HO.out; simpa using this, owns_below HH.out.2.1 D1.out, HH.out.2.2.trans (D1.out.mono hsz)⟩⟩, by simp [intOf]; omega⟩
      · have j1 : ((b : Int) == 10) = false := by rw [beq_eq_false_iff_ne]; omega
        have HO := hide (ln_on HH.out.1 hf hlt hb h10)
        clear hb
        go_wp2_with fail
        refine ⟨⟨k + 1, f, X, by omega, by omega, by go_num, rfl, by omega, hide ⟨HO.out, HH.out.2⟩⟩, by simp [intOf]; omega⟩
    · obtain rfl : k = T.size := by omega
      have i1 : ¬ (T.size : Int) < (T.size : Int) := by omega
      have hX := HE.out f X HH.out.1
      go_wp2
      go_ret
      exact ⟨_, rfl, by rw [← hX]; exact HH.out.2.1, HH.out.2.2⟩
end Go.Proofs.YtmagchclmmphaaaGreatDoor
namespace Go.Proofs.YtmagchclmmphaaaGreatDoor
open Go.RowKit Go.Maps
attribute [local go_sem] Oper.semAt_some

/-- A row that was grown: the others stand as they were. -/
def Grw (w w' : World) (v v' : Value) : Prop := Only w w' (fun k => v.ownBlock = some k) ∧ (v'.ownBlock = v.ownBlock ∨ ∃ k, v'.ownBlock = some k ∧ w.heap.size ≤ k)
theorem sadd_plc {α : Type} [DecidableEq α] {l : List α} {s : α} : sadd l s = if 0 ≤ plcF l s then l else l ++ [s] := by
  unfold sadd
  by_cases h : s ∈ l
  · rw [if_pos h, if_pos (plcF_neg.2 h)]
  · rw [if_neg h, if_neg (fun q => h (plcF_neg.1 q))]

theorem opOI_mem {O : List OpT} {x : OpT} : opOI x ∈ O.map opOI ↔ x ∈ O := by
  constructor
  · intro h
    obtain ⟨y, hy, e⟩ := List.mem_map.1 h
    unfold opOI at e
    simp only [Prod.mk.injEq] at e
    have : y = x := Prod.ext e.1 (by have := e.2; omega)
    rw [← this]; exact hy
  · exact fun h => List.mem_map_of_mem h
theorem cnew2 (w : World) (s : ByteArray) (a : Int) : ∀ j u, [Value.string s, Value.int .i64 a][j]? = some u → (w.alloc (.cells #[.string s, .int .i64 a] 41)).cell? ((⟨w.heap.size, 0, none⟩ : Addr).add j) = some u := by
  intro j u hj
  rw [Addr.add_lit, Nat.zero_add]
  refine cell_of (World.alloc_heap_new w _) ?_
  match j, hj with
  | 0, hj => exact hj
  | 1, hj => exact hj

set_option maxRecDepth 100000 in
set_option maxHeartbeats 2000000 in
/-- The document's with. -/
theorem with_any (w : World) (B : Nat) (v : Value) (L : List ByteArray) (s : ByteArray) (hv : Hid (w.ownsRow B 9 1 v L.length (strV L))) (hB : Hid (B ≤ w.heap.size)) (hl : L.length ≤ 4194304) :
    Calls Tryz.prog 40 #[v, .string s] w fun e w' => ∃ v', e = .returned v' ∧ w'.ownsRow B 9 1 v' (sadd L s).length (strV (sadd L s)) ∧ Grw w w' v v' := by
  obtain ⟨i9, hi9, hz90, hz91, hz92⟩ := info_parts info9
  obtain ⟨av, cv, rfl, qv⟩ := rdS_of hv.out
  have T1 := rplace_any w av cv L s (hide qv) hl
  have HS := hide (sadd_plc (l := L) (s := s))
  obtain ⟨y, hy⟩ : ∃ y, plcF L s = y := ⟨_, rfl⟩
  rw [hy] at T1 HS
  clear hy qv
  by_cases h : 0 ≤ y
  · go_enter Tryz.func40, Tryz.ntmps40
    go_wp2_with (go_at_call 42; refine T1.mono ?_; rintro e w1 ⟨rfl, hw1⟩; obtain rfl := hw1.symm; clear hw1)
    go_ret
    refine ⟨_, rfl, ?_, Only.ofBelow (Below.refl _ _), .inl rfl⟩
    rw [HS.out, if_pos h]; exact hv.out
  · go_enter Tryz.func40, Tryz.ntmps40
    go_wp2_with (first
      | (go_at_call 42; refine T1.mono ?_; rintro e w1 ⟨rfl, hw1⟩; obtain rfl := hw1.symm; clear hw1)
      | (at_builtin; refine wpList_append_own_at _ rfl _ _ _ rfl B 9 i9 _ 1 16 Tryz.underlying23 hi9 hz90 hz91 hz92 rfl (by omega) (.slice av L.length cv) L.length (strV L) rfl (owns_below hv.out ((Below.refl _ w).alloc (Nat.le_refl _) _)) ⟨w.heap.size, 0, none⟩ 1 1 [.string s] rfl rfl (cnew1 w s) (rf.strV_one [s]) (by unfold maxLen; omega) (by omega) (by have := hB.out; simp; omega) ?_; intro v' w2 ho hgr hnil hloc))
    go_ret
    refine ⟨_, rfl, ?_, ?_, ?_⟩
    · rw [HS.out, if_neg (by omega)]; simpa [strV] using ho
    · exact (Only.ofBelow ((Below.refl _ w).alloc (Nat.le_refl _) _)).andNew (Only.grown hgr (fun k hk => hk)) (fun k _ hk => hk)
    · rcases hloc with q | q
      · exact .inl q
      · exact .inr ⟨_, q, by simp⟩
set_option maxRecDepth 100000 in
set_option maxHeartbeats 2000000 in
/-- The document's withOp. -/
theorem withOp_any (w : World) (B : Nat) (v : Value) (O : List OpT) (x : OpT) (hv : Hid (w.ownsRow B 41 2 v O.length (O.flatMap kOps.cs))) (hB : Hid (B ≤ w.heap.size)) (hl : O.length ≤ 4194304) :
    Calls Tryz.prog 39 #[v, .agg #[.string x.1, .int .i64 (x.2 : Nat)]] w fun e w' => ∃ v', e = .returned v' ∧ w'.ownsRow B 41 2 v' (sadd O x).length ((sadd O x).flatMap kOps.cs) ∧ Grw w w' v v' := by
  obtain ⟨i4, hi4, hz40, hz41, hz42⟩ := info_parts info51
  obtain ⟨W0, hW0⟩ : ∃ W0, w.alloc (.cells #[.string x.1, .int .i64 (x.2 : Nat)] 41) = W0 := ⟨_, rfl⟩
  have d0 : Below w.heap.size w W0 := by rw [← hW0]; exact (Below.refl _ _).alloc (Nat.le_refl _) _
  have b0 : W0.heap[w.heap.size]? = some (.cells #[.string x.1, .int .i64 (x.2 : Nat)] 41 (0, 0)) := by rw [← hW0]; exact World.alloc_heap_new _ _
  have Hv := hide (owns_below hv.out d0)
  obtain ⟨av, cv, rfl, qv⟩ := rdO_of Hv.out
  have T1 := ropPlace_any W0 av cv (O.map opOI) (opOI x) (hide qv) (by rw [List.length_map]; exact hl)
  rw [List.length_map] at T1
  have HS : Hid (sadd O x = if 0 ≤ plcF (O.map opOI) (opOI x) then O else O ++ [x]) := hide (by
    rw [sadd_plc]
    have e : (0 ≤ plcF O x) ↔ (0 ≤ plcF (O.map opOI) (opOI x)) := by rw [plcF_neg, plcF_neg, opOI_mem]
    by_cases h : 0 ≤ plcF O x
    · rw [if_pos h, if_pos (e.1 h)]
    · rw [if_neg h, if_neg (fun q => h (e.2 q))])
  obtain ⟨y, hy⟩ : ∃ y, plcF (O.map opOI) (opOI x) = y := ⟨_, rfl⟩
  rw [hy] at T1 HS
  simp only [opOI] at T1
  have c0 : W0.cell? ⟨w.heap.size, 0, none⟩ = some (.string x.1) := cell_of b0 rfl
  have c1 : W0.cell? ⟨w.heap.size, 1, none⟩ = some (.int .i64 (x.2 : Nat)) := cell_of b0 rfl
  have HD := hide (And.intro d0 b0)
  clear hy qv d0 b0
  by_cases h : 0 ≤ y
  · go_enter Tryz.func39, Tryz.ntmps39
    go_wp2_with (go_at_call 61; refine T1.mono ?_; rintro e w1 ⟨rfl, d1⟩)
    go_ret
    refine ⟨_, rfl, ?_, Only.ofBelow (HD.out.1.trans (d1.mono HD.out.1.size)), .inl rfl⟩
    rw [HS.out, if_pos h]; exact owns_below Hv.out d1
  · go_enter Tryz.func39, Tryz.ntmps39
    go_wp2_with (first
      | (go_at_call 61; refine T1.mono ?_; rintro e w1 ⟨rfl, d1⟩; have D1 := hide d1; clear d1 c0 c1; have hb1 := (D1.out.block _ (Array.getElem?_eq_some_iff.1 HD.out.2).1).trans HD.out.2; have c0 : w1.cell? ⟨w.heap.size, 0, none⟩ = some (.string x.1) := cell_of hb1 rfl; have c1 : w1.cell? ⟨w.heap.size, 1, none⟩ = some (.int .i64 (x.2 : Nat)) := cell_of hb1 rfl; clear hb1)
      | (at_builtin; refine wpList_append_own_at _ rfl _ _ _ rfl B 41 i4 _ 2 24 Tryz.underlying22 hi4 hz40 hz41 hz42 rfl (by omega) (.slice av O.length cv) O.length (O.flatMap kOps.cs) rfl (owns_below (owns_below Hv.out D1.out) ((Below.refl _ w1).alloc (Nat.le_refl _) _)) ⟨w1.heap.size, 0, none⟩ 1 1 [.string x.1, .int .i64 (x.2 : Nat)] rfl rfl (cnew2 w1 _ _) (fun u hu => by simp at hu; rcases hu with rfl | rfl <;> rfl) (by unfold maxLen; omega) (by omega) (by have := hB.out; have := HD.out.1.size; have := D1.out.size; simp; omega) ?_; intro v' w2 ho hgr hnil hloc))
    go_ret
    have d1 := HD.out.1.trans (D1.out.mono HD.out.1.size)
    refine ⟨_, rfl, ?_, ?_, ?_⟩
    · rw [HS.out, if_neg (by omega)]; simpa [kOps] using ho
    · exact ((Only.ofBelow d1).andNew (Only.ofBelow (R := fun _ => False) ((Below.refl _ w1).alloc (Nat.le_refl _) _)) (fun _ _ q => q.elim)).andNew (Only.grown hgr (fun k hk => hk)) (fun k _ hk => hk)
    · rcases hloc with q | q
      · exact .inl q
      · exact .inr ⟨_, q, by have := d1.size; simp; omega⟩
end Go.Proofs.YtmagchclmmphaaaGreatDoor
