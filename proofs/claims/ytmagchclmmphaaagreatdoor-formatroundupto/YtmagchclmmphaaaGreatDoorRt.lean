import Derived.Test.YtmagchclmmphaaaGreatDoorLL
namespace Go.Proofs.YtmagchclmmphaaaGreatDoor

/-! ### The canonical text goes through the places, and its lines are what they should be -/
structure XI (q : Nat × Nat) (u : List Nat) (LP : List (List (List Nat))) (c : List Nat) (D : List (List Nat)) (cur : List Nat) : Prop where
  go : goF (1, 0) u = (q, u.length)
  ls : ∃ Ls, RunS fdB u Ls c ∧ Ls.map (runsF isNm []) = LP
  ps : RunS isNm c D cur
theorem goF_one {q q' : Nat × Nat} {u : List Nat} {b : Nat} (h : goF (1, 0) u = (q, u.length)) (hs : stepF q b = q') (hq : q'.1 ≠ 0) : goF (1, 0) (u ++ [b]) = (q', (u ++ [b]).length) := by
  rw [goF_app [b] (by rw [h]), h]
  simp only
  rw [goF_on [] (by rw [hs]; exact hq), hs]
  simp [goF]
theorem fd_of_nm {b : Nat} (h : isNm b = true) : fdB b = true := by
  unfold fdB; rw [bne_iff_ne]; rintro rfl; revert h; decide
theorem XI.nm {q q' : Nat × Nat} {u c cur : List Nat} {LP : List (List (List Nat))} {D : List (List Nat)} {b : Nat} (h : XI q u LP c D cur) (hb : isNm b = true) (hs : stepF q b = q') (hq : q'.1 ≠ 0) : XI q' (u ++ [b]) LP (c ++ [b]) D (cur ++ [b]) := by
  obtain ⟨Ls, h1, h2⟩ := h.ls
  exact ⟨goF_one h.go hs hq, ⟨Ls, h1.on (fd_of_nm hb), h2⟩, h.ps.on hb⟩
theorem XI.off {q q' : Nat × Nat} {u c cur : List Nat} {LP : List (List (List Nat))} {D : List (List Nat)} {b : Nat} (h : XI q u LP c D cur) (hb : isNm b = false) (h10 : b ≠ 10) (hs : stepF q b = q') (hq : q'.1 ≠ 0) : XI q' (u ++ [b]) LP (c ++ [b]) (endC D cur) [] := by
  obtain ⟨Ls, h1, h2⟩ := h.ls
  exact ⟨goF_one h.go hs hq, ⟨Ls, h1.on (by unfold fdB; simpa using h10), h2⟩, h.ps.off hb⟩
/-- Inside a line, whose pieces so far are E. -/
def XE (q : Nat × Nat) (u : List Nat) (LP : List (List (List Nat))) (E : List (List Nat)) : Prop := ∃ c D cur, c ≠ [] ∧ endC D cur = E ∧ XI q u LP c D cur
/-- .. at the end of a piece that may go on. -/
def XC (q : Nat × Nat) (u : List Nat) (LP : List (List (List Nat))) (D : List (List Nat)) (cur : List Nat) : Prop := ∃ c, c ≠ [] ∧ XI q u LP c D cur
/-- At a line's beginning. -/
def XK (q : Nat × Nat) (u : List Nat) (LP : List (List (List Nat))) : Prop := XI q u LP [] [] []
theorem XC.e {q : Nat × Nat} {u cur : List Nat} {LP : List (List (List Nat))} {D : List (List Nat)} (h : XC q u LP D cur) : XE q u LP (endC D cur) := by
  obtain ⟨c, hc, h⟩ := h
  exact ⟨c, D, cur, hc, rfl, h⟩
theorem XE.off {q q' : Nat × Nat} {u : List Nat} {LP : List (List (List Nat))} {E : List (List Nat)} {b : Nat} (h : XE q u LP E) (hb : isNm b = false) (h10 : b ≠ 10) (hs : stepF q b = q') (hq : q'.1 ≠ 0) : XC q' (u ++ [b]) LP E [] := by
  obtain ⟨c, D, cur, hc, rfl, h⟩ := h
  exact ⟨c ++ [b], by simp, h.off hb h10 hs hq⟩
theorem XE.feed {q q' : Nat × Nat} {u : List Nat} {LP : List (List (List Nat))} {E : List (List Nat)} (h : XE q u LP E) (hs : stepF q 10 = q') (hq : q'.1 ≠ 0) : XK q' (u ++ [10]) (LP ++ [E]) := by
  obtain ⟨c, D, cur, hc, rfl, h⟩ := h
  obtain ⟨Ls, h1, h2⟩ := h.ls
  refine ⟨goF_one h.go hs hq, ⟨endC Ls c, h1.off rfl, ?_⟩, RunS.nil _⟩
  rw [endC_ne _ hc, List.map_append, h2, List.map_singleton, h.ps.all]
theorem XC.run {q q' : Nat × Nat} {u cur : List Nat} {LP : List (List (List Nat))} {D : List (List Nat)} (n : List Nat) (hn : ∀ b ∈ n, isNm b = true) (hg : goF q n = (q', n.length)) (h : XC q u LP D cur) : XC q' (u ++ n) LP D (cur ++ n) := by
  induction n generalizing q u cur with
  | nil =>
    have : q = q' := by simpa [goF] using congrArg Prod.fst hg
    subst this
    simpa using h
  | cons b t ih =>
    by_cases hz : (stepF q b).1 = 0
    · rw [goF_stop t hz] at hg; simp at hg
    · rw [goF_on t hz] at hg
      obtain ⟨c, hc, h⟩ := h
      have h1 : XC (stepF q b) (u ++ [b]) LP D (cur ++ [b]) := ⟨c ++ [b], by simp, h.nm (hn b (by simp)) rfl hz⟩
      have := ih (fun x hx => hn x (by simp [hx])) (by
        have e1 := congrArg Prod.fst hg
        have e2 := congrArg Prod.snd hg
        simp at e1 e2
        exact Prod.ext e1 e2) h1
      simpa using this
theorem XK.run {q q' : Nat × Nat} {u : List Nat} {LP : List (List (List Nat))} (n : List Nat) (h0 : n ≠ []) (hn : ∀ b ∈ n, isNm b = true) (hg : goF q n = (q', n.length)) (h : XK q u LP) : XC q' (u ++ n) LP [] n := by
  match n, h0 with
  | b :: t, _ =>
    by_cases hz : (stepF q b).1 = 0
    · rw [goF_stop t hz] at hg; simp at hg
    · rw [goF_on t hz] at hg
      have h1 : XC (stepF q b) (u ++ [b]) LP [] [b] := ⟨[b], by simp, by have := XI.nm h (hn b (by simp)) rfl hz; simpa using this⟩
      have := h1.run t (fun x hx => hn x (by simp [hx])) (by
        have e1 := congrArg Prod.fst hg
        have e2 := congrArg Prod.snd hg
        simp at e1 e2
        exact Prod.ext e1 e2)
      simpa using this
/-- A name. -/
def nmOk (n : List Nat) : Prop := n ≠ [] ∧ n.length ≤ 16 ∧ ∀ b ∈ n, isNm b = true
/-- A place at which a name is read. -/
def entry (p p' : Nat) : Bool := nameOf p == p' && p' != p && nameOf p' == p' && wordOf p == [] && wordOf p' == [] && p' != 0 && (signsOf p).all (fun c => !isNm c) && (signsOf p').all (fun c => !isNm c)
theorem step_nm {p r b : Nat} (hw : wordOf p = []) (hs : (signsOf p).all (fun c => !isNm c) = true) (hb : isNm b = true) : stepF (p, r) b = alongN p r := by
  unfold stepF
  rw [if_neg (by simp [hw]), if_neg (by simp [hw]), if_neg (by rintro rfl; revert hb; decide), if_neg (by rintro (rfl | rfl) <;> revert hb <;> decide)]
  rw [if_neg ?_, if_pos hb]
  intro hc
  have := List.all_eq_true.1 hs b (by simpa using hc)
  simp [hb] at this
theorem name_rest {p : Nat} (hw : wordOf p = []) (hs : (signsOf p).all (fun c => !isNm c) = true) (hp : nameOf p = p) (h0 : p ≠ 0) : ∀ (n : List Nat) (r : Nat), (∀ b ∈ n, isNm b = true) → r + n.length ≤ 16 → goF (p, r) n = ((p, r + n.length), n.length)
  | [], r, _, _ => rfl
  | b :: t, r, hn, hl => by
    have hs1 : stepF (p, r) b = (p, r + 1) := by
      rw [step_nm hw hs (hn b (by simp))]
      unfold alongN
      rw [if_neg (by simp [hp]), if_neg (by simp at hl; omega)]
    rw [goF_on t (by rw [hs1]; exact h0), hs1, name_rest hw hs hp h0 t (r + 1) (fun x hx => hn x (by simp [hx])) (by simp at hl; omega)]
    simp; omega
theorem name_go {p p' : Nat} (he : entry p p' = true) {n : List Nat} (hn : nmOk n) : goF (p, 0) n = ((p', n.length), n.length) := by
  unfold entry at he
  simp only [Bool.and_eq_true, beq_iff_eq, bne_iff_ne] at he
  obtain ⟨⟨⟨⟨⟨⟨⟨e1, e2⟩, e3⟩, e4⟩, e5⟩, e6⟩, e7⟩, e8⟩ := he
  obtain ⟨h0, hl, hb⟩ := hn
  match n, h0 with
  | b :: t, _ =>
    have hs1 : stepF (p, 0) b = (p', 1) := by
      rw [step_nm e4 e7 (hb b (by simp))]
      unfold alongN
      rw [if_pos (by rw [e1]; exact e2), e1]
    rw [goF_on t (by rw [hs1]; exact e6), hs1, name_rest e5 e8 e3 e6 t 1 (fun x hx => hb x (by simp [hx])) (by simp at hl; omega)]
    simp; omega

/-- A blank, then a name. -/
theorem XE.blName {q : Nat × Nat} {u : List Nat} {LP : List (List (List Nat))} {E : List (List Nat)} {p p' : Nat} (h : XE q u LP E) (hs : stepF q 32 = (p, 0)) (hp : p ≠ 0) (he : entry p p' = true) {n : List Nat} (hn : nmOk n) : XC (p', n.length) (u ++ [32] ++ n) LP E n := by
  have h1 := h.off (b := 32) (by decide) (by decide) hs hp
  have h2 := h1.run n hn.2.2 (name_go he hn)
  simpa using h2
theorem XC.e1 {q : Nat × Nat} {u cur : List Nat} {LP : List (List (List Nat))} {D : List (List Nat)} (h : XC q u LP D cur) (hc : cur ≠ []) : XE q u LP (D ++ [cur]) := by
  have := h.e
  rwa [endC_ne _ hc] at this
theorem bl_step {p p' r : Nat} (hw : wordOf p = []) (hb : blankOf p = p') : stepF (p, r) 32 = (p', 0) := by
  unfold stepF; rw [if_neg (by simp [hw]), if_neg (by simp [hw]), if_neg (by decide), if_pos (.inl rfl), hb]
theorem fd_step {p p' r : Nat} (hw : wordOf p = []) (hb : feedOf p = p') : stepF (p, r) 10 = (p', 0) := by
  unfold stepF; rw [if_neg (by simp [hw]), if_neg (by simp [hw]), if_pos rfl, hb]
theorem sg_step {p p' r b : Nat} (hw : wordOf p = []) (h1 : b ≠ 10) (h2 : b ≠ 32) (h3 : b ≠ 9) (hs : (signsOf p).contains b = true) (hb : pastOf p = p') : stepF (p, r) b = (p', 0) := by
  unfold stepF; rw [if_neg (by simp [hw]), if_neg (by simp [hw]), if_neg h1, if_neg (by rintro (h | h); exact h2 h; exact h3 h), if_pos hs, hb]

/-- An op. -/
theorem XE.op {u : List Nat} {LP : List (List (List Nat))} {E : List (List Nat)} (h : XE (3, 0) u LP E) {n : List Nat} (hn : nmOk n) {d : Nat} (hd : d = 48 ∨ d = 49) : XE (3, 0) (u ++ ([32] ++ n ++ [58, d])) LP (E ++ [n] ++ [[d]]) := by
  have h1 := h.blName (p := 4) (p' := 5) (by decide) (by decide) (by decide) hn
  have h2 := (h1.e1 hn.1).off (b := 58) (q' := (6, 0)) (by decide) (by decide) (sg_step (by decide) (by decide) (by decide) (by decide) (by decide) (by decide)) (by decide)
  have h3 := h2.run [d] (by intro b hb; rw [List.mem_singleton.1 hb]; rcases hd with rfl | rfl <;> decide) (q' := (3, 0)) (by rcases hd with rfl | rfl <;> decide)
  have h4 := h3.e1 (by simp)
  simpa using h4
theorem XE.ops {LP : List (List (List Nat))} : ∀ (P : List (List Nat × Nat)) {u : List Nat} {E : List (List Nat)}, XE (3, 0) u LP E → (∀ x ∈ P, nmOk x.1) → arO P → XE (3, 0) (u ++ P.flatMap fun x => [32] ++ x.1 ++ [58, x.2]) LP (E ++ flatO P)
  | [], u, E, h, _, _ => by simpa [flatO] using h
  | x :: P, u, E, h, hn, ha => by
    have h1 := h.op (hn x (by simp)) (ha x (by simp))
    have h2 := XE.ops P h1 (fun y hy => hn y (by simp [hy])) (fun y hy => ha y (by simp [hy]))
    simpa [flatO, List.append_assoc] using h2
/-- Names, a blank ahead of each: from place a, by b, to c. -/
theorem XE.names {LP : List (List (List Nat))} {a b c : Nat} (hwa : wordOf a = []) (hwc : wordOf c = []) (hba : blankOf a = b) (hbc : blankOf c = b) (hb0 : b ≠ 0) (he : entry b c = true) : ∀ (L : List (List Nat)) {r : Nat} {p : Nat} {u : List Nat} {E : List (List Nat)}, (p = a ∨ p = c) → XE (p, r) u LP E → (∀ x ∈ L, nmOk x) → ∃ p' r', (p' = a ∨ p' = c) ∧ XE (p', r') (u ++ L.flatMap fun x => [32] ++ x) LP (E ++ L)
  | [], r, p, u, E, hp, h, _ => ⟨p, r, hp, by simpa using h⟩
  | x :: L, r, p, u, E, hp, h, hn => by
    have hs : stepF (p, r) 32 = (b, 0) := by
      rcases hp with rfl | rfl
      · exact bl_step hwa hba
      · exact bl_step hwc hbc
    have h1 := (h.blName hs hb0 he (hn x (by simp))).e1 (hn x (by simp)).1
    obtain ⟨p', r', h2, h3⟩ := XE.names hwa hwc hba hbc hb0 he L (.inr rfl) h1 (fun y hy => hn y (by simp [hy]))
    exact ⟨p', r', h2, by simpa [List.append_assoc] using h3⟩
/-- A rule's pieces. -/
def ruP (r : List Nat × List Nat × List Nat) : List (List Nat) := if r.2.1 = [] then [r.1, r.2.2] else [r.1, r.2.1, r.2.2]
def ruN (r : List Nat × List Nat × List Nat) : List Nat := r.1 ++ [40] ++ r.2.1 ++ [41, 32, 45, 62, 32] ++ r.2.2 ++ [10]
theorem XK.rule {u : List Nat} {LP : List (List (List Nat))} (h : XK (24, 0) u LP) {r : List Nat × List Nat × List Nat} (h1 : nmOk r.1) (h2 : r.2.1 = [] ∨ nmOk r.2.1) (h3 : nmOk r.2.2) : XK (24, 0) (u ++ ruN r) (LP ++ [ruP r]) := by
  obtain ⟨a, b, c⟩ := r
  simp only at h1 h2 h3
  have k1 := h.run a h1.1 h1.2.2 (name_go (p := 24) (p' := 26) (by decide) h1)
  have k2 := (k1.e1 h1.1).off (b := 40) (q' := (27, 0)) (by decide) (by decide) (sg_step (by decide) (by decide) (by decide) (by decide) (by decide) (by decide)) (by decide)
  have tail : ∀ {E : List (List Nat)} {v : List Nat}, XC (29, 0) v LP E [] → XK (24, 0) (v ++ [32, 45, 62, 32] ++ c ++ [10]) (LP ++ [E ++ [c]]) := by
    intro E v k
    have t1 := (k.e).off (b := 32) (q' := (29, 0)) (by decide) (by decide) (by decide) (by decide)
    rw [endC_nil] at t1
    have t2 := (t1.e).off (b := 45) (q' := (29, 1)) (by decide) (by decide) (by decide) (by decide)
    rw [endC_nil] at t2
    have t3 := (t2.e).off (b := 62) (q' := (30, 0)) (by decide) (by decide) (by decide) (by decide)
    rw [endC_nil] at t3
    have t4 := (t3.e).off (b := 32) (q' := (30, 0)) (by decide) (by decide) (by decide) (by decide)
    rw [endC_nil] at t4
    have t5 := (t4.run c h3.2.2 (name_go (p := 30) (p' := 31) (by decide) h3)).e1 (by simpa using h3.1)
    have t6 := t5.feed (q' := (24, 0)) (fd_step (by decide) (by decide)) (by decide)
    simpa using t6
  unfold ruN ruP
  simp only
  rcases h2 with rfl | h2
  · have k3 := (k2.e).off (b := 41) (q' := (29, 0)) (by decide) (by decide) (sg_step (by decide) (by decide) (by decide) (by decide) (by decide) (by decide)) (by decide)
    rw [endC_nil] at k3
    have := tail k3
    simpa using this
  · have k3 := (k2.run b h2.2.2 (name_go (p := 27) (p' := 28) (by decide) h2)).e1 (by simpa using h2.1)
    have k4 := k3.off (b := 41) (q' := (29, 0)) (by decide) (by decide) (sg_step (by decide) (by decide) (by decide) (by decide) (by decide) (by decide)) (by decide)
    have := tail k4
    rw [if_neg h2.1]
    simpa using this
theorem XK.rules : ∀ (R : List (List Nat × List Nat × List Nat)) {u : List Nat} {LP : List (List (List Nat))}, XK (24, 0) u LP → (∀ r ∈ R, nmOk r.1 ∧ (r.2.1 = [] ∨ nmOk r.2.1) ∧ nmOk r.2.2) → XK (24, 0) (u ++ R.flatMap ruN) (LP ++ R.map ruP)
  | [], u, LP, h, _ => by simpa using h
  | r :: R, u, LP, h, hr => by
    have h0 := hr r (by simp)
    have h1 := h.rule h0.1 h0.2.1 h0.2.2
    have h2 := XK.rules R h1 (fun x hx => hr x (by simp [hx]))
    simpa [List.append_assoc] using h2

/-- A file's text and its lines' pieces. -/
def fileN (ti : List Nat) (P : List (List Nat × Nat)) (S F : List (List Nat)) (R : List (List Nat × List Nat × List Nat)) : List Nat :=
  wOps ++ (P.flatMap fun x => [32] ++ x.1 ++ [58, x.2]) ++ [10] ++ wAut ++ [32] ++ ti ++ [10] ++ wSta ++ (S.flatMap fun x => [32] ++ x) ++ [10] ++ wFin ++ [32] ++ wSta ++ (F.flatMap fun x => [32] ++ x) ++ [10] ++ wTra ++ [10] ++ R.flatMap ruN
def fileP (ti : List Nat) (P : List (List Nat × Nat)) (S F : List (List Nat)) (R : List (List Nat × List Nat × List Nat)) : List (List (List Nat)) :=
  [wOps :: flatO P, [wAut, ti], wSta :: S, wFin :: wSta :: F, [wTra]] ++ R.map ruP
theorem file_goes {ti : List Nat} {P : List (List Nat × Nat)} {S F : List (List Nat)} {R : List (List Nat × List Nat × List Nat)} (ht : nmOk ti) (hP : ∀ x ∈ P, nmOk x.1) (ha : arO P) (hS : ∀ x ∈ S, nmOk x) (hF : ∀ x ∈ F, nmOk x) (hR : ∀ r ∈ R, nmOk r.1 ∧ (r.2.1 = [] ∨ nmOk r.2.1) ∧ nmOk r.2.2) : XK (24, 0) (fileN ti P S F R) (fileP ti P S F R) := by
  have k0 : XK (1, 0) [] [] := ⟨rfl, ⟨[], RunS.nil _, rfl⟩, RunS.nil _⟩
  have k1 := (k0.run wOps (by decide) (by decide) (q' := (3, 0)) (by decide)).e1 (by decide)
  have k2 := XE.ops P k1 hP ha
  have k3 := k2.feed (q' := (7, 0)) (by decide) (by decide)
  have k4 := (k3.run wAut (by decide) (by decide) (q' := (9, 0)) (by decide)).e1 (by decide)
  have k5 := (k4.blName (p := 10) (p' := 11) (by decide) (by decide) (by decide) ht).e1 ht.1
  have k6 := k5.feed (q' := (12, 0)) (fd_step (by decide) (by decide)) (by decide)
  have k7 := (k6.run wSta (by decide) (by decide) (q' := (14, 0)) (by decide)).e1 (by decide)
  obtain ⟨p8, r8, hp8, k8⟩ := XE.names (a := 14) (b := 15) (c := 16) (by decide) (by decide) (by decide) (by decide) (by decide) (by decide) S (.inl rfl) k7 hS
  have k9 := k8.feed (q' := (17, 0)) (by rcases hp8 with rfl | rfl <;> exact fd_step (by decide) (by decide)) (by decide)
  have k10 := (k9.run wFin (by decide) (by decide) (q' := (17, 5)) (by decide)).e1 (by decide)
  have k11 := k10.off (b := 32) (q' := (17, 6)) (by decide) (by decide) (by decide) (by decide)
  have k12 := (k11.run wSta (by decide) (q' := (19, 0)) (by decide)).e1 (by decide)
  obtain ⟨p13, r13, hp13, k13⟩ := XE.names (a := 19) (b := 20) (c := 21) (by decide) (by decide) (by decide) (by decide) (by decide) (by decide) F (.inl rfl) k12 hF
  have k14 := k13.feed (q' := (22, 0)) (by rcases hp13 with rfl | rfl <;> exact fd_step (by decide) (by decide)) (by decide)
  have k15 := (k14.run wTra (by decide) (by decide) (q' := (25, 0)) (by decide)).e1 (by decide)
  have k16 := k15.feed (q' := (24, 0)) (by decide) (by decide)
  have k17 := XK.rules R k16 hR
  unfold fileN fileP
  simpa [List.append_assoc] using k17
/-- .. so it is a file, and these are its lines. -/
theorem file_lines {ti : List Nat} {P : List (List Nat × Nat)} {S F : List (List Nat)} {R : List (List Nat × List Nat × List Nat)} (ht : nmOk ti) (hP : ∀ x ∈ P, nmOk x.1) (ha : arO P) (hS : ∀ x ∈ S, nmOk x) (hF : ∀ x ∈ F, nmOk x) (hR : ∀ r ∈ R, nmOk r.1 ∧ (r.2.1 = [] ∨ nmOk r.2.1) ∧ nmOk r.2.2) :
    goF (1, 0) (fileN ti P S F R) = ((24, 0), (fileN ti P S F R).length) ∧ (runsF fdB [] (fileN ti P S F R)).map (runsF isNm []) = fileP ti P S F R := by
  have k := file_goes ht hP ha hS hF hR
  refine ⟨k.go, ?_⟩
  obtain ⟨Ls, h1, h2⟩ := k.ls
  rw [h1.all, endC_nil, h2]
end Go.Proofs.YtmagchclmmphaaaGreatDoor
