import Derived.Test.YtmagchclmmphaaaGreatDoorLR
import Derived.Test.YtmagchclmmphaaaGreatDoorCV
namespace Go.Proofs.YtmagchclmmphaaaGreatDoor

/-! ### The document's words of a file's lines -/
def nbB (b : Nat) : Bool := b != 32 && b != 9
abbrev RuS := Nat × List Nat × List Nat × List Nat
def ru0 : RuS := (0, [], [], [])
/-- A byte of a rule's line. -/
def ruF (s : RuS) (x : Nat) : RuS :=
  if x = 40 then (1, s.2.1, s.2.2.1, s.2.2.2) else if x = 41 then (2, s.2.1, s.2.2.1, s.2.2.2)
  else if x = 32 ∨ x = 9 ∨ x = 45 ∨ x = 62 then s
  else if s.1 = 0 then (s.1, s.2.1 ++ [x], s.2.2.1, s.2.2.2) else if s.1 = 1 then (s.1, s.2.1, s.2.2.1 ++ [x], s.2.2.2) else (s.1, s.2.1, s.2.2.1, s.2.2.2 ++ [x])
def opW (x : List Nat × Nat) : List Nat := x.1 ++ [58, x.2]
def ne2 (D : List (List Nat)) (c : List Nat) : Prop := D ≠ [] ∨ c ≠ []
theorem ne2_end {D : List (List Nat)} {c : List Nat} (h : ne2 D c) : ne2 (endC D c) [] := by
  left
  unfold endC
  rcases h with h | h
  · simp [h]
  · simp [h]
theorem ne2_app (D : List (List Nat)) (c : List Nat) (b : Nat) : ne2 D (c ++ [b]) := .inr (by simp)
/-- What has been read of a line, by words, at a place. -/
def CurX (p pl : Nat) (D : List (List Nat)) (c : List Nat) (D2 : List (List Nat)) (c2 : List Nat) (ru : RuS) : Prop :=
  match p with
  | 1 => D2 = D ∧ c2 = c
  | 2 => D2 = [] ∧ c2 = []
  | 3 => c2 ≠ [] ∧ ∃ P, arO P ∧ D ++ [c] = wOps :: flatO P ∧ D2 ++ [c2] = wOps :: P.map opW
  | 4 => c2 = [] ∧ ∃ P, arO P ∧ D = wOps :: flatO P ∧ D2 = wOps :: P.map opW
  | 5 => c2 = c ∧ ∃ P, arO P ∧ D = wOps :: flatO P ∧ D2 = wOps :: P.map opW
  | 6 => ∃ P n, arO P ∧ D = wOps :: flatO P ++ [n] ∧ D2 = wOps :: P.map opW ∧ c2 = n ++ [58]
  | 24 => D2 = [] ∧ c2 = [] ∧ ru = ru0
  | 25 => (pl = 4 ∧ D2 = D ∧ c2 = c) ∨ (pl = 5 ∧ D = [] ∧ D2 = [] ∧ c2 = [] ∧ ru = ru0) ∨ (pl = 5 ∧ ne2 D2 c2 ∧ ((∃ a b, D = [a, b] ∧ ru = (2, a, [], b)) ∨ ∃ a b c, D = [a, b, c] ∧ ru = (2, a, b, c)))
  | 26 => ne2 D2 c2 ∧ D = [] ∧ ru = (0, c, [], [])
  | 27 => ne2 D2 c2 ∧ ∃ a, D = [a] ∧ ru = (1, a, [], [])
  | 28 => ne2 D2 c2 ∧ ∃ a, D = [a] ∧ ru = (1, a, c, [])
  | 29 => ne2 D2 c2 ∧ ((∃ a, D = [a] ∧ ru = (2, a, [], [])) ∨ ∃ a b, D = [a, b] ∧ ru = (2, a, b, []))
  | 30 => ne2 D2 c2 ∧ ((∃ a, D = [a] ∧ ru = (2, a, [], [])) ∨ ∃ a b, D = [a, b] ∧ ru = (2, a, b, []))
  | 31 => ne2 D2 c2 ∧ ((∃ a, D = [a] ∧ ru = (2, a, [], c)) ∨ ∃ a b, D = [a, b] ∧ ru = (2, a, b, c))
  | _ => D2 = D ∧ c2 = c
/-- What a line says, by words and by letters. -/
def lineW (pl : Nat) (L W : List (List Nat)) (ru : RuS) : Prop := (L = [] ∧ W = []) ∨ (L ≠ [] ∧ W ≠ [] ∧
  ((pl = 0 ∧ ∃ P, arO P ∧ L = wOps :: flatO P ∧ W = wOps :: P.map opW) ∨ (0 < pl ∧ pl < 5 ∧ W = L) ∨ (pl = 5 ∧ ((∃ a b, L = [a, b] ∧ ru = (2, a, [], b)) ∨ ∃ a b c, L = [a, b, c] ∧ ru = (2, a, b, c)))))

theorem ruF_blank (s : RuS) {b : Nat} (h : b = 32 ∨ b = 9) : ruF s b = s := by
  unfold ruF
  rcases h with rfl | rfl <;> simp
theorem ruF_name (k : Nat) (x y z : List Nat) {b : Nat} (h : isNm b = true) : ruF (k, x, y, z) b = if k = 0 then (k, x ++ [b], y, z) else if k = 1 then (k, x, y ++ [b], z) else (k, x, y, z ++ [b]) := by
  have n : ∀ m, isNm m = false → b ≠ m := fun m hm e => by rw [e, hm] at h; cases h
  unfold ruF
  rw [if_neg (n 40 (by decide)), if_neg (n 41 (by decide)), if_neg]
  rintro (e | e | e | e)
  · exact n 32 (by decide) e
  · exact n 9 (by decide) e
  · exact n 45 (by decide) e
  · exact n 62 (by decide) e

/-- A blank. -/
theorem x_blank {p r pl : Nat} {D D2 : List (List Nat)} {c c2 : List Nat} {ru : RuS} (hr : nameOf p = p → 1 ≤ r) (hw : wordOf p ≠ [] → r = 0) (h : CurP p r pl D c) (hx : CurX p pl D c D2 c2 ru) (hf : blankOf p ≠ 0) : CurX (blankOf p) pl (endC D c) [] (endC D2 c2) [] ru := by
  match p, h, hx with
  | 1, ⟨_, h2, h3⟩, ⟨e1, e2⟩ => obtain rfl := hw (by decide); subst e1 e2 h2 h3; exact ⟨rfl, rfl⟩
  | 2, ⟨_, h2, h3⟩, ⟨e1, e2⟩ => subst e1 e2; exact ⟨rfl, rfl⟩
  | 3, ⟨_, h2, _⟩, ⟨hn, P, hP, e1, e2⟩ => exact ⟨rfl, P, hP, by rw [endC_ne _ h2]; exact e1, by rw [endC_ne _ hn]; exact e2⟩
  | 4, ⟨_, h2, _⟩, ⟨e, P, hP, e1, e2⟩ => subst h2 e; exact ⟨rfl, P, hP, by rw [endC_nil]; exact e1, by rw [endC_nil]; exact e2⟩
  | 7, _, ⟨e1, e2⟩ | 8, _, ⟨e1, e2⟩ | 9, _, ⟨e1, e2⟩ | 10, _, ⟨e1, e2⟩ | 11, _, ⟨e1, e2⟩ | 12, _, ⟨e1, e2⟩ | 13, _, ⟨e1, e2⟩ | 14, _, ⟨e1, e2⟩ | 15, _, ⟨e1, e2⟩ | 16, _, ⟨e1, e2⟩ | 17, _, ⟨e1, e2⟩ | 18, _, ⟨e1, e2⟩ | 19, _, ⟨e1, e2⟩ | 20, _, ⟨e1, e2⟩ | 21, _, ⟨e1, e2⟩ | 22, _, ⟨e1, e2⟩ | 23, _, ⟨e1, e2⟩ => subst e1 e2; exact ⟨rfl, rfl⟩
  | 24, ⟨h1, h2, h3⟩, ⟨e1, e2, e3⟩ => subst e1 e2 e3 h2 h3; exact .inr (.inl ⟨h1, rfl, rfl, rfl, rfl⟩)
  | 25, h, .inl ⟨e0, e1, e2⟩ => subst e1 e2; exact .inl ⟨e0, rfl, rfl⟩
  | 25, h, .inr (.inl ⟨e0, e1, e2, e3, e4⟩) =>
    subst e1 e2 e3 e4
    have hc : c = [] := by rcases h with ⟨h, _⟩ | ⟨_, h, _⟩; · omega
                           · exact h
    subst hc
    exact .inr (.inl ⟨e0, rfl, rfl, rfl, rfl⟩)
  | 25, h, .inr (.inr ⟨e0, e1, e2⟩) =>
    have hc : c = [] := by rcases h with ⟨h, _⟩ | ⟨_, h, _⟩; · omega
                           · exact h
    subst hc
    rw [endC_nil]
    exact .inr (.inr ⟨e0, ne2_end e1, e2⟩)
  | 29, ⟨_, h2, _⟩, ⟨e1, e2⟩ => subst h2; rw [endC_nil]; exact ⟨ne2_end e1, e2⟩
  | 30, ⟨_, h2, _⟩, ⟨e1, e2⟩ => subst h2; rw [endC_nil]; exact ⟨ne2_end e1, e2⟩
  | 31, ⟨h1, h2, _⟩, ⟨e1, e2⟩ =>
    rw [endC_ne _ (ne_of_len h2 (hr rfl))]
    refine .inr (.inr ⟨h1, ne2_end e1, ?_⟩)
    rcases e2 with ⟨a, rfl, e⟩ | ⟨a, b, rfl, e⟩
    · exact .inl ⟨a, c, rfl, e⟩
    · exact .inr ⟨a, b, c, rfl, e⟩
  | 5, _, _ | 6, _, _ | 26, _, _ | 27, _, _ | 28, _, _ => exact absurd rfl hf
/-- A byte of a name. -/
theorem x_name {p r b pl : Nat} {D D2 : List (List Nat)} {c c2 : List Nat} {ru : RuS} (hb : isNm b = true) (h : CurP p r pl D c) (hx : CurX p pl D c D2 c2 ru) (hf : (alongN p r).1 ≠ 0) : CurX (alongN p r).1 pl D (c ++ [b]) D2 (c2 ++ [b]) (ruF ru b) := by
  have stay : ∀ p, nameOf p = p → (alongN p r).1 ≠ 0 → (alongN p r).1 = p := by
    intro p hp hn
    unfold alongN at hn ⊢
    rw [if_neg (by simp [hp])] at hn ⊢
    split
    · rename_i h; rw [if_pos h] at hn; exact absurd rfl hn
    · rfl
  match p, h, hx with
  | 4, ⟨_, h2, _⟩, ⟨e, P, hP, e1, e2⟩ => subst h2 e; exact ⟨rfl, P, hP, e1, e2⟩
  | 5, _, ⟨e, P, hP, e1, e2⟩ => subst e; rw [stay 5 rfl hf]; exact ⟨rfl, P, hP, e1, e2⟩
  | 10, _, ⟨e1, e2⟩ => subst e1 e2; exact ⟨rfl, rfl⟩
  | 11, _, ⟨e1, e2⟩ => subst e1 e2; rw [stay 11 rfl hf]; exact ⟨rfl, rfl⟩
  | 15, _, ⟨e1, e2⟩ => subst e1 e2; exact ⟨rfl, rfl⟩
  | 16, _, ⟨e1, e2⟩ => subst e1 e2; rw [stay 16 rfl hf]; exact ⟨rfl, rfl⟩
  | 20, _, ⟨e1, e2⟩ => subst e1 e2; exact ⟨rfl, rfl⟩
  | 21, _, ⟨e1, e2⟩ => subst e1 e2; rw [stay 21 rfl hf]; exact ⟨rfl, rfl⟩
  | 24, ⟨_, h2, h3⟩, ⟨e1, e2, e3⟩ => subst h2 h3 e1 e2 e3; exact ⟨ne2_app _ _ _, rfl, by rw [ru0, ruF_name _ _ _ _ hb]; rfl⟩
  | 26, _, ⟨e0, e1, e2⟩ => subst e1 e2; rw [stay 26 rfl hf]; exact ⟨ne2_app _ _ _, rfl, by rw [ruF_name _ _ _ _ hb]; rfl⟩
  | 27, ⟨_, h2, _⟩, ⟨e0, a, e1, e2⟩ => subst h2 e1 e2; exact ⟨ne2_app _ _ _, a, rfl, by rw [ruF_name _ _ _ _ hb]; rfl⟩
  | 28, _, ⟨e0, a, e1, e2⟩ => subst e1 e2; rw [stay 28 rfl hf]; exact ⟨ne2_app _ _ _, a, rfl, by rw [ruF_name _ _ _ _ hb]; rfl⟩
  | 30, ⟨_, h2, _⟩, ⟨e0, .inl ⟨a, e1, e2⟩⟩ => subst h2 e1 e2; exact ⟨ne2_app _ _ _, .inl ⟨a, rfl, by rw [ruF_name _ _ _ _ hb]; rfl⟩⟩
  | 30, ⟨_, h2, _⟩, ⟨e0, .inr ⟨a, d, e1, e2⟩⟩ => subst h2 e1 e2; exact ⟨ne2_app _ _ _, .inr ⟨a, d, rfl, by rw [ruF_name _ _ _ _ hb]; rfl⟩⟩
  | 31, _, ⟨e0, .inl ⟨a, e1, e2⟩⟩ => subst e1 e2; rw [stay 31 rfl hf]; exact ⟨ne2_app _ _ _, .inl ⟨a, rfl, by rw [ruF_name _ _ _ _ hb]; rfl⟩⟩
  | 31, _, ⟨e0, .inr ⟨a, d, e1, e2⟩⟩ => subst e1 e2; rw [stay 31 rfl hf]; exact ⟨ne2_app _ _ _, .inr ⟨a, d, rfl, by rw [ruF_name _ _ _ _ hb]; rfl⟩⟩
  | 1, _, _ | 2, _, _ | 3, _, _ | 6, _, _ | 7, _, _ | 8, _, _ | 9, _, _ | 12, _, _ | 13, _, _ | 14, _, _ | 17, _, _ | 18, _, _ | 19, _, _ | 22, _, _ | 23, _, _ | 25, _, _ | 29, _, _ => exact absurd rfl hf
/-- A sign. -/
theorem x_sign {p r b pl : Nat} {D D2 : List (List Nat)} {c c2 : List Nat} {ru : RuS} (hr : nameOf p = p → 1 ≤ r) (h : CurP p r pl D c) (hx : CurX p pl D c D2 c2 ru) (hf : (signsOf p).contains b = true) :
    ((b = 48 ∨ b = 49) → CurX (pastOf p) pl D (c ++ [b]) D2 (c2 ++ [b]) (ruF ru b)) ∧ ((b = 58 ∨ b = 40 ∨ b = 41) → CurX (pastOf p) pl (endC D c) [] D2 (c2 ++ [b]) (ruF ru b)) := by
  match p, h, hx with
  | 5, ⟨h1, h2, _⟩, ⟨e, P, hP, e1, e2⟩ =>
    obtain rfl : b = 58 := by simpa [signsOf] using hf
    subst e
    exact ⟨fun q => by omega, fun _ => ⟨P, c2, hP, by rw [endC_ne _ (ne_of_len h2 (hr rfl)), e1], e2, rfl⟩⟩
  | 6, ⟨_, h2, _⟩, ⟨P, n, hP, e1, e2, e3⟩ =>
    subst h2 e1 e2 e3
    have hb : b = 48 ∨ b = 49 := by simpa [signsOf] using hf
    exact ⟨fun q => ⟨by simp, P ++ [(n, b)], arO_add hP n hb, by simp [flatO], by simp [opW]⟩, fun q => by omega⟩
  | 26, ⟨_, h2, h3⟩, ⟨e0, e1, e2⟩ =>
    obtain rfl : b = 40 := by simpa [signsOf] using hf
    subst e1 e2
    exact ⟨fun q => by omega, fun _ => ⟨ne2_app _ _ _, c, by rw [endC_ne _ (ne_of_len h3 (hr rfl))]; rfl, rfl⟩⟩
  | 27, ⟨_, h2, _⟩, ⟨e0, a, e1, e2⟩ =>
    obtain rfl : b = 41 := by simpa [signsOf] using hf
    subst h2 e1 e2
    exact ⟨fun q => by omega, fun _ => ⟨ne2_app _ _ _, .inl ⟨a, by rw [endC_nil], rfl⟩⟩⟩
  | 28, ⟨_, h2, _⟩, ⟨e0, a, e1, e2⟩ =>
    obtain rfl : b = 41 := by simpa [signsOf] using hf
    subst e1 e2
    exact ⟨fun q => by omega, fun _ => ⟨ne2_app _ _ _, .inr ⟨a, c, by rw [endC_ne _ (ne_of_len h2 (hr rfl))]; rfl, rfl⟩⟩⟩
  | 1, _, _ | 2, _, _ | 3, _, _ | 4, _, _ | 7, _, _ | 8, _, _ | 9, _, _ | 10, _, _ | 11, _, _ | 12, _, _ | 13, _, _ | 14, _, _ | 15, _, _ | 16, _, _ | 17, _, _ | 18, _, _ | 19, _, _ | 20, _, _ | 21, _, _ | 22, _, _ | 23, _, _ | 24, _, _ | 25, _, _ | 29, _, _ | 30, _, _ | 31, _, _ => cases hf
/-- A byte of a word: of a name's kind, a blank, or of the arrow. -/
theorem x_word {p r pl : Nat} {D D2 : List (List Nat)} {c c2 : List Nat} {ru : RuS} (hw : wordOf p ≠ []) (hr : r < (wordOf p).length) (h : CurP p r pl D c) (hx : CurX p pl D c D2 c2 ru) :
    (isNm ((wordOf p).getD r 0) = true → CurX (alongW p r).1 pl D (c ++ [(wordOf p).getD r 0]) D2 (c2 ++ [(wordOf p).getD r 0]) (ruF ru ((wordOf p).getD r 0))) ∧
    ((wordOf p).getD r 0 = 32 → CurX (alongW p r).1 pl (endC D c) [] (endC D2 c2) [] ru) ∧
    (((wordOf p).getD r 0 = 45 ∨ (wordOf p).getD r 0 = 62) → CurX (alongW p r).1 pl (endC D c) [] D2 (c2 ++ [(wordOf p).getD r 0]) ru) ∧
    (isNm ((wordOf p).getD r 0) = true ∨ (wordOf p).getD r 0 = 32 ∨ (wordOf p).getD r 0 = 45 ∨ (wordOf p).getD r 0 = 62) := by
  have kinds : ∀ q, q < 32 → wordOf q ≠ [] → ∀ j, j < (wordOf q).length → (isNm ((wordOf q).getD j 0) = true ∨ (wordOf q).getD j 0 = 32 ∨ (wordOf q).getD j 0 = 45 ∨ (wordOf q).getD j 0 = 62) := by decide
  match p, h, hx with
  | 1, ⟨_, h2, h3⟩, ⟨e1, e2⟩ =>
    subst e1 e2 h2
    have hr' : r < 3 := hr
    refine ⟨fun _ => ?_, fun q => ?_, fun q => ?_, kinds 1 (by omega) hw r hr⟩
    · rw [h3]
      match r, hr' with
      | 0, _ => exact ⟨rfl, rfl⟩
      | 1, _ => exact ⟨rfl, rfl⟩
      | 2, _ => exact ⟨by simp, [], by simp [arO], rfl, rfl⟩
    · match r, hr' with
      | 0, _ | 1, _ | 2, _ => simp [wordOf] at q
    · match r, hr' with
      | 0, _ | 1, _ | 2, _ => simp [wordOf] at q
  | 7, _, ⟨e1, e2⟩ =>
    subst e1 e2
    have hr' : r < 9 := hr
    refine ⟨fun _ => ?_, fun q => ?_, fun q => ?_, kinds 7 (by omega) hw r hr⟩
    · unfold alongW; split <;> exact ⟨rfl, rfl⟩
    · match r, hr' with
      | 0, _ | 1, _ | 2, _ | 3, _ | 4, _ | 5, _ | 6, _ | 7, _ | 8, _ => simp [wordOf] at q
    · match r, hr' with
      | 0, _ | 1, _ | 2, _ | 3, _ | 4, _ | 5, _ | 6, _ | 7, _ | 8, _ => simp [wordOf] at q
  | 12, _, ⟨e1, e2⟩ =>
    subst e1 e2
    have hr' : r < 6 := hr
    refine ⟨fun _ => ?_, fun q => ?_, fun q => ?_, kinds 12 (by omega) hw r hr⟩
    · unfold alongW; split <;> exact ⟨rfl, rfl⟩
    · match r, hr' with
      | 0, _ | 1, _ | 2, _ | 3, _ | 4, _ | 5, _ => simp [wordOf] at q
    · match r, hr' with
      | 0, _ | 1, _ | 2, _ | 3, _ | 4, _ | 5, _ => simp [wordOf] at q
  | 17, _, ⟨e1, e2⟩ =>
    subst e1 e2
    have hr' : r < 12 := hr
    refine ⟨fun _ => ?_, fun q => ?_, fun q => ?_, kinds 17 (by omega) hw r hr⟩
    · unfold alongW; split <;> exact ⟨rfl, rfl⟩
    · unfold alongW; split <;> exact ⟨rfl, rfl⟩
    · match r, hr' with
      | 0, _ | 1, _ | 2, _ | 3, _ | 4, _ | 5, _ | 6, _ | 7, _ | 8, _ | 9, _ | 10, _ | 11, _ => simp [wordOf] at q
  | 22, ⟨h1, _⟩, ⟨e1, e2⟩ =>
    subst e1 e2
    have hr' : r < 11 := hr
    refine ⟨fun _ => ?_, fun q => ?_, fun q => ?_, kinds 22 (by omega) hw r hr⟩
    · unfold alongW; split
      · exact .inl ⟨h1, rfl, rfl⟩
      · exact ⟨rfl, rfl⟩
    · match r, hr' with
      | 0, _ | 1, _ | 2, _ | 3, _ | 4, _ | 5, _ | 6, _ | 7, _ | 8, _ | 9, _ | 10, _ => simp [wordOf] at q
    · match r, hr' with
      | 0, _ | 1, _ | 2, _ | 3, _ | 4, _ | 5, _ | 6, _ | 7, _ | 8, _ | 9, _ | 10, _ => simp [wordOf] at q
  | 29, ⟨_, h2, _⟩, ⟨e0, e1⟩ =>
    subst h2
    have hr' : r < 2 := hr
    refine ⟨fun q => ?_, fun q => ?_, fun q => ?_, kinds 29 (by omega) hw r hr⟩
    · match r, hr' with
      | 0, _ | 1, _ => exact absurd q (by decide)
    · match r, hr' with
      | 0, _ | 1, _ => exact absurd q (by decide)
    · rw [endC_nil]
      unfold alongW; split <;> exact ⟨ne2_app _ _ _, e1⟩
  | 2, _, _ | 3, _, _ | 4, _, _ | 5, _, _ | 6, _, _ | 8, _, _ | 9, _, _ | 10, _, _ | 11, _, _ | 13, _, _ | 14, _, _ | 15, _, _ | 16, _, _ | 18, _, _ | 19, _, _ | 20, _, _ | 21, _, _ | 23, _, _ | 24, _, _ | 25, _, _ | 26, _, _ | 27, _, _ | 28, _, _ | 30, _, _ | 31, _, _ => exact absurd rfl hw
/-- A line feed. -/
theorem x_feed {p r pl : Nat} {D D2 : List (List Nat)} {c c2 : List Nat} {ru : RuS} (hr : nameOf p = p → 1 ≤ r) (hw : wordOf p ≠ [] → r = 0) (h : CurP p r pl D c) (hx : CurX p pl D c D2 c2 ru) (hf : feedOf p ≠ 0) : lineW pl (endC D c) (endC D2 c2) ru ∧ CurX (feedOf p) (nextL pl (endC D c)) [] [] [] [] ru0 := by
  have same : ∀ L : List (List Nat), 0 < pl → pl < 5 → lineW pl L L ru := fun L h1 h2 => by
    by_cases hL : L = []
    · exact .inl ⟨hL, hL⟩
    · exact .inr ⟨hL, hL, .inr (.inl ⟨h1, h2, rfl⟩)⟩
  match p, h, hx with
  | 1, ⟨h1, h2, h3⟩, ⟨e1, e2⟩ => obtain rfl := hw (by decide); subst e1 e2 h2 h3; exact ⟨.inl ⟨rfl, rfl⟩, rfl, rfl⟩
  | 2, ⟨h1, h2, h3⟩, ⟨e1, e2⟩ => subst e1 e2 h2 h3; exact ⟨.inl ⟨rfl, rfl⟩, rfl, rfl⟩
  | 3, ⟨h1, h2, _⟩, ⟨hn, P, hP, e1, e2⟩ => rw [endC_ne _ h2, endC_ne _ hn, e1, e2]; exact ⟨.inr ⟨by simp, by simp, .inl ⟨h1, P, hP, rfl, rfl⟩⟩, rfl, rfl⟩
  | 4, ⟨h1, h2, _⟩, ⟨e, P, hP, e1, e2⟩ => subst h2 e; rw [endC_nil, endC_nil, e1, e2]; exact ⟨.inr ⟨by simp, by simp, .inl ⟨h1, P, hP, rfl, rfl⟩⟩, rfl, rfl⟩
  | 7, ⟨h1, _⟩, ⟨e1, e2⟩ | 8, ⟨h1, _⟩, ⟨e1, e2⟩ | 11, ⟨h1, _⟩, ⟨e1, e2⟩ => subst e1 e2; exact ⟨same _ (by omega) (by omega), rfl, rfl⟩
  | 12, ⟨h1, _⟩, ⟨e1, e2⟩ | 14, ⟨h1, _⟩, ⟨e1, e2⟩ | 15, ⟨h1, _⟩, ⟨e1, e2⟩ | 16, ⟨h1, _⟩, ⟨e1, e2⟩ => subst e1 e2; exact ⟨same _ (by omega) (by omega), rfl, rfl⟩
  | 13, ⟨_, k⟩, ⟨e1, e2⟩ =>
    subst e1 e2
    have : pl = 1 ∨ pl = 2 := by rcases k with ⟨k, _⟩ | ⟨k, _⟩ <;> simp [k]
    exact ⟨same _ (by omega) (by omega), rfl, rfl⟩
  | 17, ⟨h1, _⟩, ⟨e1, e2⟩ | 18, ⟨h1, _⟩, ⟨e1, e2⟩ | 19, ⟨h1, _⟩, ⟨e1, e2⟩ | 20, ⟨h1, _⟩, ⟨e1, e2⟩ | 21, ⟨h1, _⟩, ⟨e1, e2⟩ | 22, ⟨h1, _⟩, ⟨e1, e2⟩ | 23, ⟨h1, _⟩, ⟨e1, e2⟩ => subst e1 e2; exact ⟨same _ (by omega) (by omega), rfl, rfl⟩
  | 24, ⟨h1, h2, h3⟩, ⟨e1, e2, e3⟩ => subst e1 e2 e3 h2 h3; exact ⟨.inl ⟨rfl, rfl⟩, rfl, rfl, rfl⟩
  | 25, _, .inl ⟨e0, e1, e2⟩ => subst e1 e2; exact ⟨same _ (by omega) (by omega), rfl, rfl, rfl⟩
  | 25, h, .inr (.inl ⟨e0, e1, e2, e3, e4⟩) =>
    have hc : c = [] := by rcases h with ⟨h, _⟩ | ⟨_, h, _⟩; · omega
                           · exact h
    subst e1 e2 e3 e4 hc
    exact ⟨.inl ⟨rfl, rfl⟩, rfl, rfl, rfl⟩
  | 25, h, .inr (.inr ⟨e0, e1, e2⟩) =>
    have hc : c = [] := by rcases h with ⟨h, _⟩ | ⟨_, h, _⟩; · omega
                           · exact h
    subst hc
    rw [endC_nil]
    have hD : D ≠ [] := by rintro rfl; rcases e2 with ⟨a, b, e, _⟩ | ⟨a, b, d, e, _⟩ <;> cases e
    refine ⟨.inr ⟨hD, ?_, .inr (.inr ⟨e0, e2⟩)⟩, rfl, rfl, rfl⟩
    rcases ne2_end e1 with k | k
    · exact k
    · exact absurd rfl k
  | 31, ⟨h1, h2, _⟩, ⟨e1, e2⟩ =>
    rw [endC_ne _ (ne_of_len h2 (hr rfl))]
    refine ⟨.inr ⟨by simp, ?_, .inr (.inr ⟨h1, ?_⟩)⟩, rfl, rfl, rfl⟩
    · rcases ne2_end e1 with k | k
      · exact k
      · exact absurd rfl k
    · rcases e2 with ⟨a, rfl, e⟩ | ⟨a, b, rfl, e⟩
      · exact .inl ⟨a, c, rfl, e⟩
      · exact .inr ⟨a, b, c, rfl, e⟩
  | 5, _, _ | 6, _, _ | 9, _, _ | 10, _, _ | 26, _, _ | 27, _, _ | 28, _, _ | 29, _, _ | 30, _, _ => exact absurd rfl hf

/-- Lines that a file may begin with, with their words. -/
inductive GoodX : List (List Nat) → Nat → Prop
  | nil : GoodX [] 0
  | add {Ls : List (List Nat)} {pl : Nat} (l : List Nat) : GoodX Ls pl → fineL pl (runsF isNm [] l) → shortL (runsF isNm [] l) → lineW pl (runsF isNm [] l) (runsF nbB [] l) (l.foldl ruF ru0) → GoodX (Ls ++ [l]) (nextL pl (runsF isNm [] l))
def InvX (q : Nat × Nat) (u : List Nat) : Prop := ∃ pl Ls c D cur D2 cur2, RunS fdB u Ls c ∧ RunS isNm c D cur ∧ RunS nbB c D2 cur2 ∧ GoodX Ls pl ∧ CurP q.1 q.2 pl D cur ∧ CurX q.1 pl D cur D2 cur2 (c.foldl ruF ru0) ∧ shortL D
theorem InvX.feed {p r : Nat} {u : List Nat} (hs : okS (p, r) = true) (hw : wordOf p ≠ [] → r = 0) (h : InvX (p, r) u) (hf : feedOf p ≠ 0) : InvX (feedOf p, 0) (u ++ [10]) ∧ ∃ pl, GoodX (runsF fdB [] u) pl ∧ CurP (feedOf p) 0 pl [] [] := by
  obtain ⟨pl, Ls, c, D, cur, D2, cur2, h1, h2, h2', h3, h4, hx, h5⟩ := h
  have hl := cur_len hs h4
  obtain ⟨hfi, hcu⟩ := cur_feed (fun h => (ok_name hs h).1) hw h4 hf
  obtain ⟨hli, hcx⟩ := x_feed (fun h => (ok_name hs h).1) hw h4 hx hf
  have hsh := shortL_end h5 hl
  rw [← h2.all] at hfi hcu hsh hcx
  rw [← h2.all, ← h2'.all] at hli
  have g : GoodX (endC Ls c) (nextL pl (runsF isNm [] c)) := by
    by_cases hc : c = []
    · subst hc
      rw [endC_nil]
      simpa [nextL, runsF, endC] using h3
    · rw [endC_ne _ hc]
      exact .add c h3 hfi hsh hli
  refine ⟨⟨_, _, [], [], [], [], [], h1.off rfl, RunS.nil _, RunS.nil _, g, hcu, hcx, shortL_nil⟩, _, by rw [h1.all]; exact g, hcu⟩
theorem fd_of {b : Nat} (h : b ≠ 10) : fdB b = true := by unfold fdB; simpa using h
theorem nb_of {b : Nat} (h : isNm b = true) : nbB b = true := by
  unfold nbB
  rw [Bool.and_eq_true, bne_iff_ne, bne_iff_ne]
  exact ⟨by rintro rfl; revert h; decide, by rintro rfl; revert h; decide⟩
theorem nm_feed {b : Nat} (h : isNm b = true) : b ≠ 10 := by rintro rfl; revert h; decide
theorem InvX.next {q : Nat × Nat} {u : List Nat} {b : Nat} (hs : okS q = true) (h : InvX q u) (hn : (stepF q b).1 ≠ 0) : InvX (stepF q b) (u ++ [b]) := by
  obtain ⟨p, r⟩ := q
  rcases step_kinds (p, r) b hn with ⟨a1, a2, a3⟩ | ⟨a0, ⟨a1, a⟩ | ⟨a1, a⟩ | ⟨a1, a⟩ | ⟨a1, a⟩⟩
  · obtain ⟨pl, Ls, c, D, cur, D2, cur2, h1, h2, h2', h3, h4, hx, h5⟩ := h
    rw [a3]
    have k := cur_word a1 (ok_word hs a1) h4
    obtain ⟨x1, x2, x3, x4⟩ := x_word a1 (ok_word hs a1) h4 hx
    simp only at a2
    rw [a2] at k x1 x2 x3 x4
    rcases k with ⟨k1, k2⟩ | ⟨k1, k2, k3⟩
    · exact ⟨pl, Ls, c ++ [b], D, cur ++ [b], D2, cur2 ++ [b], h1.on (fd_of (nm_feed k1)), h2.on k1, h2'.on (nb_of k1), h3, k2, by rw [List.foldl_append]; exact x1 k1, h5⟩
    · rcases x4 with e | e | e
      · rw [k1] at e; cases e
      · subst e
        exact ⟨pl, Ls, c ++ [32], endC D cur, [], endC D2 cur2, [], h1.on rfl, h2.off k1, h2'.off rfl, h3, k3, by rw [List.foldl_append]; exact x2 rfl, shortL_end h5 (cur_len hs h4)⟩
      · refine ⟨pl, Ls, c ++ [b], endC D cur, [], D2, cur2 ++ [b], h1.on (fd_of k2), h2.off k1, h2'.on (by rcases e with rfl | rfl <;> rfl), h3, k3, ?_, shortL_end h5 (cur_len hs h4)⟩
        rw [List.foldl_append]
        have q := x3 e
        have e2 : ([b] : List Nat).foldl ruF (c.foldl ruF ru0) = c.foldl ruF ru0 := by
          show ruF _ b = _
          unfold ruF
          rcases e with rfl | rfl <;> simp
        rw [e2]; exact q
  · rw [a] at hn ⊢
    subst a1
    exact (h.feed hs (fun x => a0.resolve_left x) hn).1
  · rw [a] at hn ⊢
    obtain ⟨pl, Ls, c, D, cur, D2, cur2, h1, h2, h2', h3, h4, hx, h5⟩ := h
    refine ⟨pl, Ls, c ++ [b], endC D cur, [], endC D2 cur2, [], h1.on (fd_of (by omega)), h2.off (by rcases a1 with rfl | rfl <;> rfl), h2'.off (by rcases a1 with rfl | rfl <;> rfl), h3, cur_blank (fun h => (ok_name hs h).1) (fun x => a0.resolve_left x) h4 hn, ?_, shortL_end h5 (cur_len hs h4)⟩
    rw [List.foldl_append]
    show CurX _ _ _ _ _ _ (ruF _ b)
    rw [ruF_blank _ a1]
    exact x_blank (fun h => (ok_name hs h).1) (fun x => a0.resolve_left x) h4 hx hn
  · rw [a] at hn ⊢
    obtain ⟨pl, Ls, c, D, cur, D2, cur2, h1, h2, h2', h3, h4, hx, h5⟩ := h
    obtain ⟨x1, x2⟩ := x_sign (fun h => (ok_name hs h).1) h4 hx a1
    rcases cur_sign (fun h => (ok_name hs h).1) h4 a1 with ⟨k1, k2⟩ | ⟨k1, k2⟩
    · have hb : isNm b = true := by rcases k1 with rfl | rfl <;> rfl
      exact ⟨pl, Ls, c ++ [b], D, cur ++ [b], D2, cur2 ++ [b], h1.on (fd_of (nm_feed hb)), h2.on hb, h2'.on (nb_of hb), h3, k2, by rw [List.foldl_append]; exact x1 k1, h5⟩
    · exact ⟨pl, Ls, c ++ [b], endC D cur, [], D2, cur2 ++ [b], h1.on (fd_of (by omega)), h2.off (by rcases k1 with rfl | rfl | rfl <;> rfl), h2'.on (by rcases k1 with rfl | rfl | rfl <;> rfl), h3, k2, by rw [List.foldl_append]; exact x2 k1, shortL_end h5 (cur_len hs h4)⟩
  · rw [a] at hn ⊢
    obtain ⟨pl, Ls, c, D, cur, D2, cur2, h1, h2, h2', h3, h4, hx, h5⟩ := h
    exact ⟨pl, Ls, c ++ [b], D, cur ++ [b], D2, cur2 ++ [b], h1.on (fd_of (nm_feed a1)), h2.on a1, h2'.on (nb_of a1), h3, cur_name h4 hn, by rw [List.foldl_append]; exact x_name a1 h4 hx hn, h5⟩
theorem InvX.go {q : Nat × Nat} {u : List Nat} (v : List Nat) (hs : okS q = true) (h : InvX q u) (hl : (goF q v).2 = v.length) : InvX (goF q v).1 (u ++ v) := by
  induction v generalizing q u with
  | nil => simpa [goF] using h
  | cons b t ih =>
    by_cases hn : (stepF q b).1 = 0
    · rw [goF_stop t hn] at hl; simp at hl
    · rw [goF_on t hn] at hl ⊢
      have := ih (step_ok hs hn) (h.next hs hn) (by simpa using hl)
      simpa using this
/-- A file's lines, with their words. -/
theorem goodX_of {u : List Nat} (hl : (goF (1, 0) u).2 = u.length) (hf : isF (goF (1, 0) u).1 = true) : GoodX (runsF fdB [] u) 5 := by
  have h0 : InvX (1, 0) [] := ⟨0, [], [], [], [], [], [], RunS.nil _, RunS.nil _, RunS.nil _, .nil, ⟨rfl, rfl, rfl⟩, ⟨rfl, rfl⟩, shortL_nil⟩
  have h := h0.go u (by decide) hl
  rw [List.nil_append] at h
  have hok : okS (goF (1, 0) u).1 = true := goF_ok (by decide) u
  generalize (goF (1, 0) u).1 = q at *
  obtain ⟨p, r⟩ := q
  unfold isF at hf
  rw [beq_iff_eq] at hf
  have hn : (stepF (p, r) 10).1 ≠ 0 := by rw [hf]; decide
  rcases step_kinds (p, r) 10 hn with ⟨a1, a2, a3⟩ | ⟨a0, ⟨a1, a⟩ | ⟨a1, a⟩ | ⟨a1, a⟩ | ⟨a1, a⟩⟩
  · have k : ∀ p, p < 32 → ∀ r, r < (wordOf p).length → (wordOf p).getD r 0 ≠ 10 := by decide
    exact absurd a2 (k p (ok_bound hok).2.1 r (ok_word hok a1))
  · rw [a] at hf
    obtain ⟨_, pl, g, k⟩ := h.feed hok (fun x => a0.resolve_left x) (by rw [show feedOf p = 24 from hf]; decide)
    rw [show feedOf p = 24 from hf] at k
    rw [k.1] at g
    exact g
  · omega
  · have k : ∀ p, p < 32 → ((signsOf p).contains 10) = false := by decide
    simp only at a1
    rw [k p (ok_bound hok).2.1] at a1
    cases a1
  · exact absurd a1 (by decide)
end Go.Proofs.YtmagchclmmphaaaGreatDoor
namespace Go.Proofs.YtmagchclmmphaaaGreatDoor
open Go.RowKit Go.Maps

/-! ### The document's lines of a file, and what they say -/
def wneB (x : ByteArray) : Bool := decide (runsF nbB [] (bts x) ≠ [])
def lineX (pl : Nat) (x : ByteArray) : Prop := fineL pl (runsF isNm [] (bts x)) ∧ shortL (runsF isNm [] (bts x)) ∧ runsF isNm [] (bts x) ≠ [] ∧ lineW pl (runsF isNm [] (bts x)) (runsF nbB [] (bts x)) ((bts x).foldl ruF ru0)
theorem goodX_lines {Ls : List (List Nat)} {pl : Nat} (h : GoodX Ls pl) : ∀ LB : List ByteArray, LB.map bts = Ls → pl = min (LB.filter wneB).length 5 ∧ (∀ k (h : k < (LB.filter wneB).length), lineX (min k 5) (LB.filter wneB)[k]) ∧ (LB.map pieces).foldl takeF start = ((LB.filter wneB).map pieces).foldl takeF start := by
  induction h with
  | nil =>
    intro LB e
    obtain rfl : LB = [] := by simpa using e
    exact ⟨rfl, fun k h => by simp at h, rfl⟩
  | @add Ls pl l _ h1 h2 h3 ih =>
    intro LB e
    obtain ⟨LB', L2, rfl, e1, e2⟩ := List.map_eq_append_iff.1 e
    obtain ⟨x, rfl, rfl⟩ : ∃ x, L2 = [x] ∧ bts x = l := by
      match L2, e2 with
      | [x], e2 => exact ⟨x, rfl, by simpa using e2⟩
    obtain ⟨i1, i2, i3⟩ := ih LB' e1
    by_cases hn : runsF isNm [] (bts x) = []
    · have hw : runsF nbB [] (bts x) = [] := by
        rcases h3 with ⟨_, q⟩ | ⟨q, _⟩
        · exact q
        · exact absurd hn q
      have hx : wneB x = false := by unfold wneB; rw [hw]; simp
      have hp : pieces x = [] := by
        have := pieces_runs x
        rw [hn] at this
        simpa using this
      have ef : (LB' ++ [x]).filter wneB = LB'.filter wneB := by rw [List.filter_append]; simp [hx]
      simp only [ef]
      refine ⟨by rw [hn]; simpa [nextL] using i1, i2, ?_⟩
      rw [List.map_append, List.foldl_append, i3]
      simp [hp, takeF]
    · have hw : runsF nbB [] (bts x) ≠ [] := by
        rcases h3 with ⟨q, _⟩ | ⟨_, q, _⟩
        · exact absurd q hn
        · exact q
      have hx : wneB x = true := by unfold wneB; simp [hw]
      have ef : (LB' ++ [x]).filter wneB = LB'.filter wneB ++ [x] := by rw [List.filter_append]; simp [hx]
      simp only [ef]
      refine ⟨?_, fun k hk => ?_, ?_⟩
      · unfold nextL
        rw [if_neg hn, List.length_append, List.length_singleton]
        omega
      · rw [List.length_append, List.length_singleton] at hk
        by_cases hlt : k < (LB'.filter wneB).length
        · rw [List.getElem_append_left hlt]; exact i2 k hlt
        · obtain rfl : k = (LB'.filter wneB).length := by omega
          rw [List.getElem_append_right (Nat.le_refl _)]
          simp only [Nat.sub_self, List.getElem_cons_zero]
          rw [← i1]
          exact ⟨h1, h2, hn, h3⟩
      · rw [List.map_append, List.foldl_append, i3, List.map_append, List.foldl_append]
/-- The document's lines of a text. -/
def linesR (s : ByteArray) : List ByteArray := (lines s).filter wneB
theorem linesR_of (s : ByteArray) (h : errF s = 0) : 5 ≤ (linesR s).length ∧ (∀ k (h : k < (linesR s).length), lineX (min k 5) (linesR s)[k]) ∧ contF s = ((linesR s).map pieces).foldl takeF start := by
  have hc : lenF s = s.size ∧ isF (endF s) = true := by
    unfold errF at h
    split at h
    · cases h
    · rename_i hn
      have := len_le s
      refine ⟨by omega, ?_⟩
      cases hq : isF (endF s)
      · exact absurd (.inr hq) hn
      · rfl
  have hg := goodX_of (u := bts s) (by rw [bts_len]; exact hc.1) hc.2
  rw [← lines_runs] at hg
  obtain ⟨a, b, c⟩ := goodX_lines hg (lines s) rfl
  exact ⟨by unfold linesR; omega, b, c⟩

theorem bts_at (s : ByteArray) (k : Nat) : (bts s)[k]? = (s.data[k]?).map (·.toNat) := by
  unfold bts
  rw [List.getElem?_map, Array.getElem?_toList]
/-- A word of the symbols' line. -/
def opWB (v : ByteArray) : OpT := (v.extract 0 (v.size - 2), (v.data[v.size - 1]?.getD 48 - 48).toNat)
theorem ops_words : ∀ (P : List (List Nat × Nat)) (M V : List ByteArray), arO P → M.map bts = flatO P → V.map bts = P.map opW → (pairsB M).map opB = V.map opWB ∧ ∀ v ∈ V, 2 ≤ v.size ∧ ∃ d : UInt8, v.data[v.size - 1]? = some d ∧ (d.toNat = 48 ∨ d.toNat = 49)
  | [], M, V, _, h1, h2 => by
    obtain rfl : M = [] := by simpa [flatO] using h1
    obtain rfl : V = [] := by simpa using h2
    exact ⟨rfl, fun v hv => by cases hv⟩
  | p :: P, M, V, ha, h1, h2 => by
    match M, h1 with
    | [], h1 => simp [flatO] at h1
    | [_], h1 => simp [flatO] at h1
    | x :: y :: t, h1 =>
      obtain ⟨v, V, rfl, hv, h2⟩ := List.map_eq_cons_iff.1 h2
      have h1' : bts x = p.1 ∧ bts y = [p.2] ∧ t.map bts = flatO P := by simp [flatO] at h1; exact ⟨h1.1, h1.2.1, by simpa [flatO] using h1.2.2⟩
      obtain ⟨i1, i2⟩ := ops_words P t V (fun z hz => ha z (by simp [hz])) h1'.2.2 h2
      have hsz : v.size = p.1.length + 2 := by rw [← bts_len, hv, opW]; simp
      have hb : v.extract 0 (v.size - 2) = x := by
        apply bts_inj
        rw [bts_extract, hv, h1'.1, hsz, opW]
        simp
      have hy : (y.data[0]?).map (·.toNat) = some p.2 := by rw [← bts_at, h1'.2.1]; rfl
      have hd : (v.data[v.size - 1]?).map (·.toNat) = some p.2 := by
        rw [← bts_at, hv, hsz, opW, List.getElem?_append_right (by omega), show p.1.length + 2 - 1 - p.1.length = 1 by omega]; rfl
      obtain ⟨c, hc, ec⟩ := Option.map_eq_some_iff.1 hy
      obtain ⟨d, hd, ed⟩ := Option.map_eq_some_iff.1 hd
      have ecd : c = d := UInt8.toNat_inj.1 (ec.trans ed.symm)
      refine ⟨?_, fun z hz => ?_⟩
      · rw [pairsB, List.map_cons, List.map_cons, i1]
        congr 1
        unfold opB opWB arB
        rw [hb, hc, hd, ecd]
      · rcases List.mem_cons.1 hz with rfl | hz
        · exact ⟨by omega, d, hd, by rw [ed]; exact ha p (by simp)⟩
        · exact i2 z hz

/-- The first line. -/
theorem line_ops {x : ByteArray} (h : lineX 0 x) {V : List ByteArray} (hV : V.map bts = runsF nbB [] (bts x)) : ∃ g V', V = g :: V' ∧ takeF start (pieces x) = { start with pl := 1, O := (V'.map opWB).foldl sadd [] } ∧ ∀ v ∈ V', 2 ≤ v.size ∧ ∃ d : UInt8, v.data[v.size - 1]? = some d ∧ (d.toNat = 48 ∨ d.toNat = 49) := by
  obtain ⟨_, _, hn, hw⟩ := h
  rcases hw with ⟨q, _⟩ | ⟨_, _, ⟨_, P, hP, e1, e2⟩ | ⟨q, _⟩ | ⟨q, _⟩⟩
  · exact absurd q hn
  · rw [e2] at hV
    rw [← pieces_runs] at e1
    obtain ⟨g, V', rfl, _, hV⟩ := List.map_eq_cons_iff.1 hV
    obtain ⟨k, M, ek, _, hM⟩ := List.map_eq_cons_iff.1 e1
    obtain ⟨i1, i2⟩ := ops_words P M V' hP hM hV
    refine ⟨g, V', rfl, ?_, i2⟩
    rw [ek]
    simp only [takeF, start]
    rw [i1]
  · omega
  · omega
theorem words_same {pl : Nat} {x : ByteArray} (h : lineX pl x) (h0 : 0 < pl) (h5 : pl < 5) {V : List ByteArray} (hV : V.map bts = runsF nbB [] (bts x)) : V = pieces x := by
  obtain ⟨_, _, hn, hw⟩ := h
  rcases hw with ⟨q, _⟩ | ⟨_, _, ⟨q, _⟩ | ⟨_, _, q⟩ | ⟨q, _⟩⟩
  · exact absurd q hn
  · omega
  · rw [q, ← pieces_runs] at hV
    exact (List.map_inj_right (fun a b e => bts_inj e)).1 hV
  · omega
theorem line_title {x : ByteArray} {a : AS} (h : lineX 1 x) (ha : a.pl = 1) {V : List ByteArray} (hV : V.map bts = runsF nbB [] (bts x)) : ∃ g t, V = [g, t] ∧ takeF a (pieces x) = { a with pl := 2, ti := t } := by
  have e := words_same h (by omega) (by omega) hV
  subst e
  rcases h.1 with q | ⟨q, _⟩ | ⟨_, n, q⟩ | ⟨q, _⟩ | ⟨q, _⟩ | ⟨q, _⟩ | ⟨q, _⟩
  · exact absurd q h.2.2.1
  · omega
  · rw [← pieces_runs] at q
    obtain ⟨g, M, e1, _, q⟩ := List.map_eq_cons_iff.1 q
    obtain ⟨t, M, rfl, _, q⟩ := List.map_eq_cons_iff.1 q
    obtain rfl : M = [] := by simpa using q
    refine ⟨g, t, e1, ?_⟩
    rw [e1]
    simp [takeF, ha]
  all_goals omega
theorem line_states {x : ByteArray} {a : AS} (h : lineX 2 x) (ha : a.pl = 2) {V : List ByteArray} (hV : V.map bts = runsF nbB [] (bts x)) : ∃ g M, V = g :: M ∧ takeF a (pieces x) = { a with pl := 3, S := M.foldl sadd a.S } := by
  have e := words_same h (by omega) (by omega) hV
  subst e
  rcases h.1 with q | ⟨q, _⟩ | ⟨q, _⟩ | ⟨_, M, q⟩ | ⟨q, _⟩ | ⟨q, _⟩ | ⟨q, _⟩
  · exact absurd q h.2.2.1
  · omega
  · omega
  · rw [← pieces_runs] at q
    obtain ⟨g, M, e1, _, q⟩ := List.map_eq_cons_iff.1 q
    refine ⟨g, M, e1, ?_⟩
    rw [e1]
    simp [takeF, ha]
  all_goals omega
theorem line_final {x : ByteArray} {a : AS} (h : lineX 3 x) (ha : a.pl = 3) {V : List ByteArray} (hV : V.map bts = runsF nbB [] (bts x)) : ∃ g k M, V = g :: k :: M ∧ takeF a (pieces x) = { a with pl := 4, S := M.foldl sadd a.S, N := M.map (posOf (M.foldl sadd a.S)) } := by
  have e := words_same h (by omega) (by omega) hV
  subst e
  rcases h.1 with q | ⟨q, _⟩ | ⟨q, _⟩ | ⟨q, _⟩ | ⟨_, M, q⟩ | ⟨q, _⟩ | ⟨q, _⟩
  · exact absurd q h.2.2.1
  · omega
  · omega
  · omega
  · rw [← pieces_runs] at q
    obtain ⟨g, M, e1, _, q⟩ := List.map_eq_cons_iff.1 q
    obtain ⟨k, M, rfl, _, q⟩ := List.map_eq_cons_iff.1 q
    refine ⟨g, k, M, e1, ?_⟩
    rw [e1]
    simp [takeF, ha]
  all_goals omega
theorem line_trans {x : ByteArray} {a : AS} (h : lineX 4 x) (ha : a.pl = 4) : takeF a (pieces x) = { a with pl := 5 } := by
  have hp : pieces x ≠ [] := fun e => h.2.2.1 (by rw [← pieces_runs, e]; rfl)
  obtain ⟨g, M, e⟩ := List.exists_cons_of_ne_nil hp
  rw [e]
  simp [takeF, ha]
/-- A rule is taken. -/
def addRu (a : AS) (x : RuT) : AS := { a with O := sadd a.O (opR x), S := sadd (if x.2.1 = ⟨#[]⟩ then a.S else sadd a.S x.2.1) x.2.2, R := sadd a.R x }
theorem line_rule {x : ByteArray} (h : lineX 5 x) : ∃ r : RuT, (bts x).foldl ruF ru0 = (2, bts r.1, bts r.2.1, bts r.2.2) ∧ r.1.size ≤ 16 ∧ r.2.1.size ≤ 16 ∧ r.2.2.size ≤ 16 ∧ ∀ a : AS, a.pl = 5 → takeF a (pieces x) = addRu a r := by
  obtain ⟨_, hs, hn, hw⟩ := h
  have sz : ∀ y ∈ pieces x, 0 < y.size ∧ y.size ≤ 16 := fun y hy => by
    have := hs (bts y) (by rw [← pieces_runs]; exact List.mem_map_of_mem hy)
    rwa [bts_len] at this
  rcases hw with ⟨q, _⟩ | ⟨_, _, ⟨q, _⟩ | ⟨_, q, _⟩ | ⟨_, ⟨a, b, e1, e2⟩ | ⟨a, b, c, e1, e2⟩⟩⟩
  · exact absurd q hn
  · omega
  · omega
  · rw [← pieces_runs] at e1
    obtain ⟨s1, M, ep, h1, q⟩ := List.map_eq_cons_iff.1 e1
    obtain ⟨s3, M, rfl, h3, q⟩ := List.map_eq_cons_iff.1 q
    obtain rfl : M = [] := by simpa using q
    refine ⟨(s1, ⟨#[]⟩, s3), by rw [e2, h1, h3]; rfl, (sz s1 (by simp [ep])).2, Nat.zero_le _, (sz s3 (by simp [ep])).2, fun a ha => ?_⟩
    rw [ep]
    simp [takeF, ha, addRu, opR]
  · rw [← pieces_runs] at e1
    obtain ⟨s1, M, ep, h1, q⟩ := List.map_eq_cons_iff.1 e1
    obtain ⟨s2, M, rfl, h2, q⟩ := List.map_eq_cons_iff.1 q
    obtain ⟨s3, M, rfl, h3, q⟩ := List.map_eq_cons_iff.1 q
    obtain rfl : M = [] := by simpa using q
    have hne : s2 ≠ ⟨#[]⟩ := fun e => by have := (sz s2 (by simp [ep])).1; rw [e] at this; simp [ByteArray.size] at this
    refine ⟨(s1, s2, s3), by rw [e2, h1, h2, h3], (sz s1 (by simp [ep])).2, (sz s2 (by simp [ep])).2, (sz s3 (by simp [ep])).2, fun a ha => ?_⟩
    rw [ep]
    simp [takeF, ha, addRu, opR, hne]

/-! ### The final states, in the order of the states -/
theorem up_eq : ∀ (A B : List Nat), A.Pairwise (· < ·) → B.Pairwise (· < ·) → (∀ x, x ∈ A ↔ x ∈ B) → A = B
  | [], [], _, _, _ => rfl
  | [], b :: B, _, _, h => absurd ((h b).2 (by simp)) (by simp)
  | a :: A, [], _, _, h => absurd ((h a).1 (by simp)) (by simp)
  | a :: A, b :: B, hA, hB, h => by
    rw [List.pairwise_cons] at hA hB
    have e : a = b := by
      rcases List.mem_cons.1 ((h a).1 (by simp)) with q | q
      · exact q
      · rcases List.mem_cons.1 ((h b).2 (by simp)) with r | r
        · exact r.symm
        · have := hB.1 a q; have := hA.1 b r; omega
    subst e
    congr 1
    refine up_eq A B hA.2 hB.2 fun x => ⟨fun q => ?_, fun q => ?_⟩
    · rcases List.mem_cons.1 ((h x).1 (by simp [q])) with r | r
      · have := hA.1 x q; omega
      · exact r
    · rcases List.mem_cons.1 ((h x).2 (by simp [q])) with r | r
      · have := hB.1 x q; omega
      · exact r
theorem compact_all {zs : List Int} {x : Int} (h : x ∈ zs) : x ∈ Lib.compact zs := by
  have hi : zs.findIdx (fun y => decide (y = x)) < zs.length := List.findIdx_lt_length_of_exists ⟨x, h, by simp⟩
  have he := List.findIdx_getElem (p := fun y => decide (y = x)) (w := hi)
  obtain ⟨j, hj⟩ : ∃ j, zs.findIdx (fun y => decide (y = x)) = j := ⟨_, rfl⟩
  simp only [hj] at hi he
  have e : zs[j] = x := of_decide_eq_true he
  unfold Lib.compact Lib.compactUpTo
  refine List.mem_map.2 ⟨j, List.mem_filter.2 ⟨List.mem_range.2 hi, ?_⟩, by simp [hi, e]⟩
  by_cases h0 : j < 1
  · exact Lib.keeps_lt_one _ j h0
  · have hlt : j - 1 < zs.findIdx (fun y => decide (y = x)) := by omega
    have hne := List.not_of_lt_findIdx hlt
    have h1 : j - 1 < zs.length := by omega
    unfold Lib.keeps
    simp [hi, h1, e] at hne ⊢
    right
    intro q
    exact hne q.symm
theorem finN_iff (a : AS) (n : Nat) : n ∈ finN a ↔ n ∈ a.N := by
  refine ⟨finN_mem, fun h => ?_⟩
  unfold finN riseL
  exact List.mem_map.2 ⟨(n : Int), compact_all (List.mem_mergeSort.2 (List.mem_map.2 ⟨n, h, rfl⟩)), by simp⟩
theorem finN_up (a : AS) : (finN a).Pairwise (· < ·) := by
  have h := riseL_lt (a.N.map Int.ofNat)
  rw [← fin_up, List.pairwise_map] at h
  exact h.imp fun q => by simpa using q
theorem names_filter (S : List ByteArray) (p : ByteArray → Bool) : namesAt ((List.range S.length).filter fun i => p (S[i]?.getD ⟨#[]⟩)) S = S.filter p := by
  have e : S = (List.range S.length).map fun i => S[i]?.getD ⟨#[]⟩ := by
    apply List.ext_getElem
    · simp
    · intro i h1 h2
      simp [h1]
  unfold namesAt
  conv => rhs; rw [e, List.filter_map]
  rfl
theorem fin_filter {a : AS} {M : List ByteArray} (_hn : a.S.Nodup) (hN : ∀ i, i ∈ a.N ↔ i < a.S.length ∧ a.S[i]?.getD ⟨#[]⟩ ∈ M) : namesAt (finN a) a.S = a.S.filter (memS M) := by
  rw [← names_filter]
  congr 1
  refine up_eq _ _ (finN_up a) ?_ fun i => ?_
  · exact (List.pairwise_lt_range).filter _
  · rw [finN_iff, hN, List.mem_filter, List.mem_range, memS_iff]
theorem fold_pre {α : Type} [DecidableEq α] : ∀ (L l : List α), l <+: L.foldl sadd l
  | [], _ => List.prefix_refl _
  | s :: L, l => (sadd_pre l s).trans (fold_pre L (sadd l s))
theorem addRu_pre (a : AS) (x : RuT) : a.S <+: (addRu a x).S ∧ (addRu a x).N = a.N ∧ (addRu a x).ti = a.ti ∧ (addRu a x).pl = a.pl := by
  refine ⟨?_, rfl, rfl, rfl⟩
  show a.S <+: sadd (if x.2.1 = ⟨#[]⟩ then a.S else sadd a.S x.2.1) x.2.2
  split
  · exact sadd_pre _ _
  · exact (sadd_pre _ _).trans (sadd_pre _ _)
theorem foldRu_pre : ∀ (L : List RuT) (a : AS), a.S <+: (L.foldl addRu a).S ∧ (L.foldl addRu a).N = a.N ∧ (L.foldl addRu a).ti = a.ti ∧ (L.foldl addRu a).pl = a.pl
  | [], a => ⟨List.prefix_refl _, rfl, rfl, rfl⟩
  | x :: L, a => by
    obtain ⟨h1, h2, h3, h4⟩ := addRu_pre a x
    obtain ⟨k1, k2, k3, k4⟩ := foldRu_pre L (addRu a x)
    exact ⟨h1.trans k1, k2.trans h2, k3.trans h3, k4.trans h4⟩
theorem fin_N {S S3 M : List ByteArray} (hp : S3 <+: S) (hn : S.Nodup) (hM : ∀ m ∈ M, m ∈ S3) (i : Nat) : i ∈ M.map (posOf S3) ↔ i < S.length ∧ S[i]?.getD ⟨#[]⟩ ∈ M := by
  have at3 : ∀ m ∈ M, posOf S3 m < S.length ∧ S[posOf S3 m]? = some m := fun m hm => by
    obtain ⟨hi, he⟩ := posOf_get (hM m hm)
    obtain ⟨t, rfl⟩ := hp
    refine ⟨by rw [List.length_append]; omega, ?_⟩
    rw [List.getElem?_append_left hi, List.getElem?_eq_getElem hi, he]
  constructor
  · intro h
    obtain ⟨m, hm, rfl⟩ := List.mem_map.1 h
    obtain ⟨h1, h2⟩ := at3 m hm
    exact ⟨h1, by rw [h2]; exact hm⟩
  · rintro ⟨h1, h2⟩
    rw [List.getElem?_eq_getElem h1] at h2
    have hm : S[i] ∈ M := h2
    obtain ⟨k1, k2⟩ := at3 _ hm
    refine List.mem_map.2 ⟨S[i], hm, ?_⟩
    rw [List.getElem?_eq_getElem k1] at k2
    have e : S[posOf S3 S[i]] = S[i] := Option.some.inj k2
    exact (List.getElem_inj hn).1 e
end Go.Proofs.YtmagchclmmphaaaGreatDoor
