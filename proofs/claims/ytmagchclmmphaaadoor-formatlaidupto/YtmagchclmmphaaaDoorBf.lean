import Derived.Test.YtmagchclmmphaaaDoorGm
namespace Go.Proofs.YtmagchclmmphaaaDoor

/-! ### Shorter, or as long and lesser -/
def ltL : List Nat → List Nat → Prop
  | a :: u, b :: v => a < b ∨ (a = b ∧ ltL u v)
  | _, _ => False
def slt (u v : List Nat) : Prop := u.length < v.length ∨ (u.length = v.length ∧ ltL u v)
def sle (u v : List Nat) : Prop := u = v ∨ slt u v
theorem ltL_irr (u : List Nat) : ¬ ltL u u := by
  induction u with
  | nil => exact fun h => h
  | cons a u ih => rintro (h | ⟨_, h⟩); exact Nat.lt_irrefl _ h; exact ih h
theorem ltL_trans {u v w : List Nat} (h1 : ltL u v) (h2 : ltL v w) : ltL u w := by
  induction u generalizing v w with
  | nil => exact absurd h1 (by unfold ltL; exact fun h => h)
  | cons a u ih =>
    match v, w, h1, h2 with
    | b :: v, c :: w, h1, h2 =>
      rcases h1 with h1 | ⟨rfl, h1⟩ <;> rcases h2 with h2 | ⟨rfl, h2⟩
      · exact .inl (Nat.lt_trans h1 h2)
      · exact .inl h1
      · exact .inl h2
      · exact .inr ⟨rfl, ih h1 h2⟩
theorem slt_irr (u : List Nat) : ¬ slt u u := by rintro (h | ⟨_, h⟩); exact Nat.lt_irrefl _ h; exact ltL_irr _ h
theorem slt_trans {u v w : List Nat} (h1 : slt u v) (h2 : slt v w) : slt u w := by
  rcases h1 with h1 | ⟨e1, h1⟩ <;> rcases h2 with h2 | ⟨e2, h2⟩
  · exact .inl (by omega)
  · exact .inl (by omega)
  · exact .inl (by omega)
  · exact .inr ⟨by omega, ltL_trans h1 h2⟩
theorem sle_trans {u v w : List Nat} (h1 : sle u v) (h2 : sle v w) : sle u w := by
  rcases h1 with rfl | h1
  · exact h2
  · rcases h2 with rfl | h2
    · exact .inr h1
    · exact .inr (slt_trans h1 h2)
theorem sle_anti {u v : List Nat} (h1 : sle u v) (h2 : sle v u) : u = v := by
  rcases h1 with h1 | h1
  · exact h1
  · rcases h2 with h2 | h2
    · exact h2.symm
    · exact absurd (slt_trans h1 h2) (slt_irr _)
theorem ltL_snoc {u v : List Nat} (a b : Nat) (hl : u.length = v.length) (h : ltL u v) : ltL (u ++ [a]) (v ++ [b]) := by
  induction u generalizing v with
  | nil => exact absurd h (by unfold ltL; exact fun h => h)
  | cons x u ih =>
    match v, h, hl with
    | y :: v, h, hl =>
      rcases h with h | ⟨rfl, h⟩
      · exact .inl h
      · exact .inr ⟨rfl, ih (by simpa using hl) h⟩
theorem ltL_last (u : List Nat) {a b : Nat} (h : a < b) : ltL (u ++ [a]) (u ++ [b]) := by
  induction u with
  | nil => exact .inl h
  | cons x u ih => exact .inr ⟨rfl, ih⟩
theorem slt_snoc {u v : List Nat} (a b : Nat) (h : slt u v) : slt (u ++ [a]) (v ++ [b]) := by
  rcases h with h | ⟨e, h⟩
  · exact .inl (by simpa using h)
  · exact .inr ⟨by simpa using e, ltL_snoc a b e h⟩
theorem slt_last (u : List Nat) {a b : Nat} (h : a < b) : slt (u ++ [a]) (u ++ [b]) := .inr ⟨by simp, ltL_last u h⟩
theorem sle_snoc {u v : List Nat} (a : Nat) (h : sle u v) : sle (u ++ [a]) (v ++ [a]) := by
  rcases h with rfl | h
  · exact .inl rfl
  · exact .inr (slt_snoc a a h)
theorem slt_nil (u : List Nat) (a : Nat) : slt [] (u ++ [a]) := .inl (by simp)
theorem sle_app (u v : List Nat) : sle u (u ++ v) := by
  cases v with
  | nil => exact .inl (by simp)
  | cons b v => exact .inr (.inl (by simp))

/-! ### compF is the least of all ways to a file -/
theorem compF_least {v : List Nat} : ∀ {s : Nat × Nat}, okS s = true → (goF s v).2 = v.length → isF (goF s v).1 = true → sle (compF s) v := by
  induction v with
  | nil => intro s _ _ h; exact .inl (compF_file h)
  | cons b v ih =>
    intro s hs h1 h2
    cases hf : isF s
    · by_cases hn : (stepF s b).1 = 0
      · rw [goF_stop v hn] at h1; simp at h1
      · rw [goF_on v hn] at h1 h2
        have h := ih (step_ok hs hn) (by simpa using h1) h2
        obtain ⟨e, _⟩ := compF_cons hs hf
        obtain ⟨k1, k2⟩ := compF_best hs hf hn
        have hl : (compF (stepF s b)).length ≤ v.length := by rcases h with h | h | h; rw [h]; exact Nat.le_refl _; omega; omega
        by_cases hlt : (compF s).length < (b :: v).length
        · exact .inr (.inl hlt)
        · simp only [List.length_cons] at hlt
          have hb := k2 (by omega)
          rcases Nat.lt_or_eq_of_le hb with hb | hb
          · rw [e]
            refine .inr (.inr ⟨?_, .inl hb⟩)
            rw [← e]; simp only [List.length_cons]; omega
          · rw [hb] at e
            rw [e]
            rcases h with h | h | h
            · exact .inl (by rw [h])
            · exact .inr (.inl (by simpa using h))
            · exact .inr (.inr ⟨by simpa using h.1, .inr ⟨rfl, h.2⟩⟩)
    · rw [compF_file hf]; exact .inr (.inl (by simp))

/-! ### The search -/
structure Mk where
  sp : Nat × Nat
  bt : Nat
  fr : Nat
  way : List Nat

theorem step_lt {s : Nat × Nat} {b : Nat} (h : (stepF s b).1 ≠ 0) : b < 256 := by
  have hw : ∀ p, p < 32 → ∀ c ∈ wordOf p, c < 256 := by decide
  have hg : ∀ p, p < 32 → ∀ c ∈ signsOf p, c < 256 := by decide
  rcases step_kinds s b h with ⟨a1, a2, _⟩ | ⟨_, ⟨a, _⟩ | ⟨a, _⟩ | ⟨a, _⟩ | ⟨a, _⟩⟩
  · by_cases hp : s.1 < 32
    · by_cases hr : s.2 < (wordOf s.1).length
      · rw [List.getD_eq_getElem?_getD, List.getElem?_eq_getElem hr] at a2
        simp only [Option.getD_some] at a2
        exact a2 ▸ hw _ hp _ (List.getElem_mem hr)
      · rw [List.getD_eq_getElem?_getD, List.getElem?_eq_none (by omega)] at a2
        simp at a2; omega
    · exfalso
      apply a1
      unfold wordOf
      split <;> first | omega | rfl
  · omega
  · omega
  · by_cases hp : s.1 < 32
    · exact hg _ hp _ (by simpa using a)
    · exfalso
      have : signsOf s.1 = [] := by unfold signsOf; split <;> first | omega | rfl
      rw [this] at a; simp at a
  · simp only [isNm, Bool.or_eq_true, Bool.and_eq_true, Nat.ble_eq, Nat.beq_eq] at a
    omega

/-- The bytes that may follow. -/
def folF (s : Nat × Nat) : List Nat := (List.range 256).filter fun b => (stepF s b).1 != 0
theorem mem_fol {s : Nat × Nat} {b : Nat} : b ∈ folF s ↔ (stepF s b).1 ≠ 0 := by
  unfold folF
  rw [List.mem_filter, List.mem_range, bne_iff_ne]
  exact ⟨fun h => h.2, fun h => ⟨step_lt h, h⟩⟩

/-- What the search holds: it looks at mark i, and of the bytes behind it has done those of D. -/
structure Bfs (s0 : Nat × Nat) (M : List Mk) (i : Nat) (D : List Nat) : Prop where
  first : ∃ m, M[0]? = some m ∧ m.sp = s0 ∧ m.way = []
  lnk : ∀ (j : Nat) (m : Mk), M[j]? = some m → 0 < j → m.fr < j ∧ m.fr ≤ i ∧ (m.fr = i → m.bt ∈ D) ∧ ∃ m', M[m.fr]? = some m' ∧ m.way = m'.way ++ [m.bt] ∧ m.sp = stepF m'.sp m.bt ∧ (stepF m'.sp m.bt).1 ≠ 0
  oks : ∀ m : Mk, m ∈ M → okS m.sp = true
  nod : (M.map Mk.sp).Nodup
  srt : ∀ (j k : Nat) (m m' : Mk), j < k → M[j]? = some m → M[k]? = some m' → slt m.way m'.way
  don : ∀ (j : Nat) (m : Mk), M[j]? = some m → j < i → isF m.sp = false ∧ ∀ b, (stepF m.sp b).1 ≠ 0 → ∃ m' ∈ M, m'.sp = stepF m.sp b ∧ sle m'.way (m.way ++ [b])
  cur : ∀ m : Mk, M[i]? = some m → ∀ b ∈ D, ∃ m' ∈ M, m'.sp = stepF m.sp b ∧ sle m'.way (m.way ++ [b])

theorem Bfs.start {s0 : Nat × Nat} (h : okS s0 = true) : Bfs s0 [⟨s0, 0, 0, []⟩] 0 [] where
  first := ⟨_, rfl, rfl, rfl⟩
  lnk := fun j m hm hj => by cases j with | zero => omega | succ j => simp at hm
  oks := fun m hm => by simp at hm; subst hm; exact h
  nod := by simp
  srt := fun j k m m' hjk h1 h2 => by cases k with | zero => omega | succ k => simp at h2
  don := fun j m _ hj => absurd hj (Nat.not_lt_zero _)
  cur := fun m _ b hb => by cases hb

/-- All that is there is less than what would come next. -/
theorem Bfs.less {s0 : Nat × Nat} {M : List Mk} {i : Nat} {D : List Nat} (h : Bfs s0 M i D) {m : Mk} (hm : M[i]? = some m) {b : Nat} (hb : ∀ x ∈ D, x < b) {j : Nat} {m' : Mk} (hj : M[j]? = some m') : slt m'.way (m.way ++ [b]) := by
  cases j with
  | zero =>
    obtain ⟨f, h1, _, h3⟩ := h.first
    rw [h1] at hj
    cases hj
    rw [h3]
    exact slt_nil _ _
  | succ j =>
    obtain ⟨l1, l2, l3, p, hp, hw, _, _⟩ := h.lnk _ _ hj (by omega)
    rw [hw]
    rcases Nat.lt_or_eq_of_le l2 with l | l
    · exact slt_snoc _ _ (h.srt _ _ _ _ l hp hm)
    · rw [l, hm] at hp
      cases hp
      exact slt_last _ (hb _ (l3 l))

/-- A byte whose spot is there. -/
theorem Bfs.old {s0 : Nat × Nat} {M : List Mk} {i : Nat} {D : List Nat} (h : Bfs s0 M i D) {m : Mk} (hm : M[i]? = some m) {b : Nat} (hb : ∀ x ∈ D, x < b) (ho : stepF m.sp b ∈ M.map Mk.sp) : Bfs s0 M i (D ++ [b]) where
  first := h.first
  lnk := fun j m' hj h0 => by
    obtain ⟨l1, l2, l3, l4⟩ := h.lnk j m' hj h0
    exact ⟨l1, l2, fun e => List.mem_append.2 (.inl (l3 e)), l4⟩
  oks := h.oks
  nod := h.nod
  srt := h.srt
  don := h.don
  cur := fun m' hm' x hx => by
    rw [hm] at hm'
    cases hm'
    rcases List.mem_append.1 hx with hx | hx
    · exact h.cur m hm x hx
    · simp at hx
      subst hx
      obtain ⟨q, hq, e⟩ := List.mem_map.1 ho
      obtain ⟨j, hj⟩ := List.mem_iff_getElem?.1 hq
      exact ⟨q, hq, e, .inr (h.less hm hb hj)⟩

theorem snoc_get {M : List Mk} {a m : Mk} {j : Nat} (h : (M ++ [a])[j]? = some m) : M[j]? = some m ∨ (j = M.length ∧ m = a) := by
  rcases Nat.lt_trichotomy j M.length with hj | hj | hj
  · rw [List.getElem?_append_left hj] at h; exact .inl h
  · subst hj; simp at h; exact .inr ⟨rfl, h.symm⟩
  · rw [List.getElem?_eq_none (by simp; omega)] at h; cases h
theorem get_snoc {M : List Mk} {m : Mk} (a : Mk) {j : Nat} (h : M[j]? = some m) : (M ++ [a])[j]? = some m := by
  obtain ⟨hj, _⟩ := List.getElem?_eq_some_iff.1 h
  rw [List.getElem?_append_left hj]; exact h

/-- A byte whose spot is new. -/
theorem Bfs.new {s0 : Nat × Nat} {M : List Mk} {i : Nat} {D : List Nat} (h : Bfs s0 M i D) {m : Mk} (hm : M[i]? = some m) {b : Nat} (hb : ∀ x ∈ D, x < b) (hs : (stepF m.sp b).1 ≠ 0) (ho : stepF m.sp b ∉ M.map Mk.sp) :
    Bfs s0 (M ++ [⟨stepF m.sp b, b, i, m.way ++ [b]⟩]) i (D ++ [b]) := by
  have hi : i < M.length := (List.getElem?_eq_some_iff.1 hm).1
  refine ⟨?_, ?_, ?_, ?_, ?_, ?_, ?_⟩
  · obtain ⟨f, h1, h2⟩ := h.first
    exact ⟨f, get_snoc _ h1, h2⟩
  · intro j m' hj h0
    rcases snoc_get hj with hj | ⟨rfl, rfl⟩
    · obtain ⟨l1, l2, l3, p, hp, l4⟩ := h.lnk j m' hj h0
      exact ⟨l1, l2, fun e => List.mem_append.2 (.inl (l3 e)), p, get_snoc _ hp, l4⟩
    · exact ⟨hi, Nat.le_refl _, fun _ => by simp, m, get_snoc _ hm, rfl, rfl, hs⟩
  · intro m' hm'
    rcases List.mem_append.1 hm' with hm' | hm'
    · exact h.oks m' hm'
    · simp at hm'
      subst hm'
      exact step_ok (h.oks m (List.mem_of_getElem? hm)) hs
  · rw [List.map_append, List.nodup_append]
    refine ⟨h.nod, by simp, ?_⟩
    intro a ha c hc e
    simp at hc
    exact ho (by rw [← hc, ← e]; exact ha)
  · intro j k m1 m2 hjk h1 h2
    rcases snoc_get h2 with h2 | ⟨rfl, rfl⟩
    · rcases snoc_get h1 with h1 | ⟨e, _⟩
      · exact h.srt j k m1 m2 hjk h1 h2
      · have := (List.getElem?_eq_some_iff.1 h2).1; omega
    · rcases snoc_get h1 with h1 | ⟨e, _⟩
      · exact h.less hm hb h1
      · omega
  · intro j m' hj hji
    rcases snoc_get hj with hj | ⟨e, _⟩
    · obtain ⟨d1, d2⟩ := h.don j m' hj hji
      refine ⟨d1, fun x hx => ?_⟩
      obtain ⟨q, hq, e⟩ := d2 x hx
      exact ⟨q, List.mem_append.2 (.inl hq), e⟩
    · omega
  · intro m' hm' x hx
    rw [get_snoc _ hm] at hm'
    cases hm'
    rcases List.mem_append.1 hx with hx | hx
    · obtain ⟨q, hq, e⟩ := h.cur m hm x hx
      exact ⟨q, List.mem_append.2 (.inl hq), e⟩
    · simp at hx
      subst hx
      exact ⟨⟨stepF m.sp x, x, i, m.way ++ [x]⟩, List.mem_append.2 (.inr (List.mem_singleton.2 rfl)), rfl, .inl rfl⟩

theorem Bfs.closed {s0 : Nat × Nat} {M : List Mk} {i : Nat} {D : List Nat} (h : Bfs s0 M i D) (hi : M.length ≤ i) : False := by
  have aux : ∀ (v : List Nat) (x : Nat × Nat), x ∈ M.map Mk.sp → (goF x v).2 = v.length → isF (goF x v).1 = true → False := by
    intro v
    induction v with
    | nil =>
      intro x hx _ hf
      obtain ⟨m, hm, rfl⟩ := List.mem_map.1 hx
      obtain ⟨j, hj⟩ := List.mem_iff_getElem?.1 hm
      have hjl := (List.getElem?_eq_some_iff.1 hj).1
      have := (h.don j m hj (by omega)).1
      rw [show (goF m.sp []).1 = m.sp from rfl, this] at hf
      cases hf
    | cons b v ih =>
      intro x hx h1 h2
      obtain ⟨m, hm, rfl⟩ := List.mem_map.1 hx
      obtain ⟨j, hj⟩ := List.mem_iff_getElem?.1 hm
      have hjl := (List.getElem?_eq_some_iff.1 hj).1
      by_cases hn : (stepF m.sp b).1 = 0
      · rw [goF_stop v hn] at h1; simp at h1
      · rw [goF_on v hn] at h1 h2
        obtain ⟨q, hq, e, _⟩ := (h.don j m hj (by omega)).2 b hn
        exact ih _ (e ▸ List.mem_map_of_mem hq) (by simpa using h1) h2
  obtain ⟨m, hm, rfl, _⟩ := h.first
  have hmm := List.mem_of_getElem? hm
  have := compF_goes (h.oks m hmm)
  exact aux _ _ (List.mem_map_of_mem hmm) this.1 this.2

/-- The next mark. -/
theorem Bfs.next {s0 : Nat × Nat} {M : List Mk} {i : Nat} {D : List Nat} (h : Bfs s0 M i D) {m : Mk} (hm : M[i]? = some m) (hf : isF m.sp = false) (hD : D = folF m.sp) : Bfs s0 M (i + 1) [] ∧ i + 1 < M.length := by
  have hb : Bfs s0 M (i + 1) [] := by
    refine ⟨h.first, ?_, h.oks, h.nod, h.srt, ?_, fun m' _ b hb => by cases hb⟩
    · intro j m' hj h0
      obtain ⟨l1, l2, l3, l4⟩ := h.lnk j m' hj h0
      exact ⟨l1, by omega, fun e => by omega, l4⟩
    · intro j m' hj hji
      by_cases e : j = i
      · subst e
        rw [hm] at hj
        cases hj
        exact ⟨hf, fun b hb => h.cur m hm b (by rw [hD]; exact mem_fol.2 hb)⟩
      · exact h.don j m' hj (by omega)
  refine ⟨hb, ?_⟩
  apply Nat.lt_of_not_le
  exact fun hle => hb.closed hle

theorem nodup_le {l m : List (Nat × Nat)} (h : l.Nodup) (hs : ∀ x ∈ l, x ∈ m) : l.length ≤ m.length := by
  induction l generalizing m with
  | nil => exact Nat.zero_le _
  | cons x l ih =>
    have hx := hs x (by simp)
    have := ih (m := m.erase x) (List.nodup_cons.1 h).2 (fun y hy => (List.mem_erase_of_ne (fun (e : y = x) => (List.nodup_cons.1 h).1 (e ▸ hy))).2 (hs y (by simp [hy])))
    rw [List.length_erase_of_mem hx] at this
    have := List.length_pos_of_mem hx
    simp only [List.length_cons]; omega
theorem Bfs.size {s0 : Nat × Nat} {M : List Mk} {i : Nat} {D : List Nat} (h : Bfs s0 M i D) : M.length ≤ 544 := by
  have h1 := nodup_le (m := spots) h.nod (fun x hx => by obtain ⟨m, hm, rfl⟩ := List.mem_map.1 hx; exact mem_spots (h.oks m hm))
  have h2 : spots.length ≤ 544 := by decide +kernel
  rw [List.length_map] at h1
  omega

theorem Bfs.goes {s0 : Nat × Nat} {M : List Mk} {i : Nat} {D : List Nat} (h : Bfs s0 M i D) : ∀ (n j : Nat) (m : Mk), j ≤ n → M[j]? = some m → goF s0 m.way = (m.sp, m.way.length) := by
  intro n
  induction n with
  | zero =>
    intro j m hj hm
    obtain rfl : j = 0 := by omega
    obtain ⟨f, h1, h2, h3⟩ := h.first
    rw [h1] at hm
    cases hm
    rw [h3, ← h2]; rfl
  | succ n ih =>
    intro j m hj hm
    by_cases h0 : j = 0
    · exact ih j m (by omega) hm
    · obtain ⟨l1, _, _, p, hp, hw, hsp, hn⟩ := h.lnk j m hm (by omega)
      have e := ih m.fr p (by omega) hp
      rw [hw, goF_app _ (by rw [e]), e, goF_on _ hn, hsp]
      simp [goF]

/-- The first mark that is a file was come to by the least way. -/
theorem Bfs.ends {s0 : Nat × Nat} {M : List Mk} {i : Nat} {D : List Nat} (h : Bfs s0 M i D) {m : Mk} (hm : M[i]? = some m) (hf : isF m.sp = true) : m.way = compF s0 := by
  obtain ⟨f, f1, f2, f3⟩ := h.first
  have ok0 : okS s0 = true := f2 ▸ h.oks f (List.mem_of_getElem? f1)
  have hg := h.goes i i m (Nat.le_refl _) hm
  refine sle_anti ?_ (compF_least ok0 (by rw [hg]) (by rw [hg]; exact hf))
  have aux : ∀ (v pre : List Nat) (q : Mk), q ∈ M → sle q.way pre → (goF q.sp v).2 = v.length → isF (goF q.sp v).1 = true → sle m.way (pre ++ v) := by
    intro v
    induction v with
    | nil =>
      intro pre q hq hs _ hfq
      obtain ⟨j, hj⟩ := List.mem_iff_getElem?.1 hq
      rw [List.append_nil]
      by_cases hji : j < i
      · have := (h.don j q hj hji).1
        rw [show (goF q.sp []).1 = q.sp from rfl, this] at hfq
        cases hfq
      · refine sle_trans ?_ hs
        rcases Nat.lt_or_eq_of_le (Nat.le_of_not_lt hji) with hij | hij
        · exact .inr (h.srt i j m q hij hm hj)
        · subst hij; rw [hm] at hj; cases hj; exact .inl rfl
    | cons b v ih =>
      intro pre q hq hs h1 h2
      obtain ⟨j, hj⟩ := List.mem_iff_getElem?.1 hq
      by_cases hji : j < i
      · by_cases hn : (stepF q.sp b).1 = 0
        · rw [goF_stop v hn] at h1; simp at h1
        · rw [goF_on v hn] at h1 h2
          obtain ⟨q', hq', e, hs'⟩ := (h.don j q hj hji).2 b hn
          have := ih (pre ++ [b]) q' hq' (sle_trans hs' (sle_snoc b hs)) (by rw [e]; simpa using h1) (by rw [e]; exact h2)
          simpa using this
      · have h3 : sle m.way q.way := by
          rcases Nat.lt_or_eq_of_le (Nat.le_of_not_lt hji) with hij | hij
          · exact .inr (h.srt i j m q hij hm hj)
          · subst hij; rw [hm] at hj; cases hj; exact .inl rfl
        exact sle_trans h3 (sle_trans hs (sle_app _ _))
  have hc := compF_goes ok0
  have := aux (compF s0) [] f (List.mem_of_getElem? f1) (by rw [f3]; exact .inl rfl) (by rw [f2]; exact hc.1) (by rw [f2]; exact hc.2)
  simpa using this

end Go.Proofs.YtmagchclmmphaaaDoor
