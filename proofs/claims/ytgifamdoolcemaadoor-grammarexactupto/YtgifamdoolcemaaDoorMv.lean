import Derived.Test.YtgifamdoolcemaaDoorMu
namespace Go.Proofs.YtgifamdoolcemaaDoor

inductive WInv (sec : Nat) : List Nat → Nat × Nat → Prop
  | w0 : WInv sec [] (Ls sec)
  | wb (x : List Nat) : x ≠ [] → x.all blk = true → WInv sec x (Em sec)
  | ww (j : Nat) : 0 < j → j < (wordL sec).length → WInv sec ((wordL sec).take j) ((Ls sec).1, j)
  | wr (r : List Nat) (e : Nat × Nat) : RInv sec r e → WInv sec (wordL sec ++ r) e

theorem word_facts {sec : Nat} (h : sec ≤ 4) : 1 < (wordL sec).length ∧ blk ((wordL sec).getD 0 0) = false ∧ ∀ b ∈ wordL sec, b ≠ 10 := by
  match sec, h with
  | 0, _ => exact ⟨by decide, by decide, by decide⟩
  | 1, _ => exact ⟨by decide, by decide, by decide⟩
  | 2, _ => exact ⟨by decide, by decide, by decide⟩
  | 3, _ => exact ⟨by decide, by decide, by decide⟩
  | 4, _ => exact ⟨by decide, by decide, by decide⟩
theorem take_getD {l : List Nat} {j : Nat} (h : j < l.length) : l.take (j + 1) = l.take j ++ [l.getD j 0] := by
  rw [List.take_succ_eq_append_getElem h]
  simp [List.getD_eq_getElem?_getD, List.getElem?_eq_getElem h]
theorem word_nb {sec : Nat} (h : sec ≤ 4) {j : Nat} (hj : 0 < j) (y : List Nat) : ((wordL sec).take j ++ y).all blk = false := by
  obtain ⟨h1, h2, _⟩ := word_facts h
  rw [List.all_eq_false]
  refine ⟨(wordL sec).getD 0 0, List.mem_append.2 (.inl ?_), by rw [h2]; simp⟩
  obtain ⟨m, rfl⟩ : ∃ m, j = m + 1 := ⟨j - 1, by omega⟩
  cases hw : wordL sec with
  | nil => rw [hw] at h1; simp at h1
  | cons c w => simp
/-- A line that is no empty one, by its head. -/
theorem line_head {sec : Nat} {l : List Nat} (h : sec ≤ 4) (hnb : l.all blk = false) (hl : l ≠ []) (hh : l.headD 0 ≠ (wordL sec).getD 0 0) : (lineF sec l).2.2 = false := by
  obtain ⟨h1, _, _⟩ := word_facts h
  unfold lineF
  rw [if_neg (by rw [hnb]; simp), if_neg (by omega)]
  cases l with
  | nil => exact absurd rfl hl
  | cons b l =>
    cases hw : wordL sec with
    | nil => rw [hw] at h1; simp at h1
    | cons c w =>
      rw [hw] at hh
      simp only [List.headD_cons, List.getD_cons_zero] at hh
      split
      · simp [Ne.symm hh]
      · rw [if_pos]
        simp [hh]

theorem W_next {sec : Nat} {x : List Nat} {e : Nat × Nat} {b : Nat} (hsec : sec ≤ 4) (h : WInv sec x e) (hb : b ≠ 10) : ((stepF e b).1 ≠ 0 ∧ WInv sec (x ++ [b]) (stepF e b)) ∨ ((stepF e b).1 = 0 ∧ (lineF sec (x ++ [b])).2.2 = false) := by
  obtain ⟨f1, f2, f3⟩ := word_facts hsec
  have hEm0 : (Em sec).1 ≠ 0 := by match sec, hsec with | 0, _ => decide | 1, _ => decide | 2, _ => decide | 3, _ => decide | 4, _ => decide
  have hLs0 : (Ls sec).1 ≠ 0 := by match sec, hsec with | 0, _ => decide | 1, _ => decide | 2, _ => decide | 3, _ => decide | 4, _ => decide
  have hEn0 : (En sec).1 ≠ 0 := by match sec, hsec with | 0, _ => decide | 1, _ => decide | 2, _ => decide | 3, _ => decide | 4, _ => decide
  cases h with
  | w0 =>
    rcases k_line sec b hsec hb with ⟨h1, h2⟩ | ⟨h1, h2, h3⟩ | ⟨h1, h2, h3⟩
    · rw [h2]; exact .inl ⟨hEm0, .wb _ (by simp) (by simp [h1])⟩
    · rw [h3]
      refine .inl ⟨hLs0, ?_⟩
      have := WInv.ww (sec := sec) 1 (by omega) f1
      rw [take_getD (by omega), h2] at this
      simpa using this
    · refine .inr ⟨h3, line_head hsec (by simp [h1]) (by simp) ?_⟩
      simpa using Ne.symm h2
  | wb _ hx hbl =>
    have hk : (blk b = true ∧ stepF (Em sec) b = Em sec) ∨ (blk b = false ∧ (stepF (Em sec) b).1 = 0) := by
      match sec, hsec with
      | 0, _ => exact k_blank 2 2 b rfl hb rfl rfl rfl (by omega)
      | 1, _ => exact k_blank 8 8 b rfl hb rfl rfl rfl (by omega)
      | 2, _ => exact k_blank 13 13 b rfl hb rfl rfl rfl (by omega)
      | 3, _ => exact k_blank 18 18 b rfl hb rfl rfl rfl (by omega)
      | 4, _ => exact k_blank 23 23 b rfl hb rfl rfl rfl (by omega)
    rcases hk with ⟨h1, h2⟩ | ⟨h1, h2⟩
    · rw [h2]; exact .inl ⟨hEm0, .wb _ (by simp) (all_snoc hbl h1)⟩
    · refine .inr ⟨h2, line_head hsec (by rw [List.all_append]; simp [h1]) (by simp) ?_⟩
      rw [headD_snoc hx]
      cases x with
      | nil => exact absurd rfl hx
      | cons c x =>
        simp only [List.headD_cons]
        intro e
        have hc : blk c = true := by simp at hbl; exact hbl.1
        rw [e, f2] at hc
        cases hc
  | ww j hj hjl =>
    rcases k_word sec j b hsec hjl hj with ⟨h1, h2⟩ | ⟨h1, h2⟩
    · rw [h2]
      have ht := take_getD hjl
      rw [h1] at ht
      by_cases hl : j + 1 = (wordL sec).length
      · rw [if_pos hl]
        refine .inl ⟨hEn0, ?_⟩
        have := WInv.wr (sec := sec) [] (En sec) (.inl ⟨rfl, rfl⟩)
        rw [← ht, hl, List.take_length]
        simpa using this
      · rw [if_neg hl]
        refine .inl ⟨hLs0, ?_⟩
        rw [← ht]
        exact .ww (j + 1) (by omega) (by omega)
    · refine .inr ⟨h2, ?_⟩
      have hlen : ((wordL sec).take j ++ [b]).length = j + 1 := by simp; omega
      have hne : (wordL sec).take (j + 1) ≠ (wordL sec).take j ++ [b] := fun e => by
        rw [take_getD hjl] at e
        have := List.append_cancel_left e
        simp at this
        exact h1 (by simpa [List.getD_eq_getElem?_getD] using this)
      unfold lineF
      rw [if_neg (by rw [word_nb hsec hj]; simp), if_neg (by omega), hlen]
      split
      · simp [hne]
      · rw [if_pos]
        intro e
        have hjl2 : (wordL sec).length = j + 1 := by omega
        rw [hjl2, List.take_of_length_le (by omega)] at e
        exact hne (by rw [e, ← hjl2, List.take_length])
  | wr r e hr =>
    rcases R_next hsec hr hb with ⟨h1, h2⟩ | ⟨h1, h2⟩
    · refine .inl ⟨h1, ?_⟩
      rw [List.append_assoc]
      exact .wr _ _ h2
    · refine .inr ⟨h1, ?_⟩
      have hnb : (wordL sec ++ (r ++ [b])).all blk = false := by
        have := word_nb hsec (j := (wordL sec).length) (by omega) (r ++ [b])
        rwa [List.take_length] at this
      unfold lineF
      rw [List.append_assoc, if_neg (by rw [hnb]; simp), if_neg (by omega), if_neg (by simp), if_neg (by simp)]
      simpa using h2

/-- What lineF says of a line's beginning. -/
def LVal (sec : Nat) (v : Bool × Bool × Bool) (e : Nat × Nat) : Prop := (v = (true, false, true) ∧ stepF e 10 = Ls sec) ∨ (v = (true, true, true) ∧ sec ≤ 4 ∧ stepF e 10 = Ls (sec + 1)) ∨ (v = (false, false, true) ∧ (stepF e 10).1 = 0)
theorem W_val {sec : Nat} {x : List Nat} {e : Nat × Nat} (hsec : sec ≤ 4) (h : WInv sec x e) : LVal sec (lineF sec x) e := by
  obtain ⟨f1, f2, f3⟩ := word_facts hsec
  cases h with
  | w0 => exact .inl ⟨rfl, by match sec, hsec with | 0, _ => rfl | 1, _ => rfl | 2, _ => rfl | 3, _ => rfl | 4, _ => rfl⟩
  | wb _ hx hbl => exact .inl ⟨by unfold lineF; rw [if_pos hbl], by match sec, hsec with | 0, _ => rfl | 1, _ => rfl | 2, _ => rfl | 3, _ => rfl | 4, _ => rfl⟩
  | ww j hj hjl =>
    right; right
    have hnb := word_nb hsec hj []
    rw [List.append_nil] at hnb
    have hlen : ((wordL sec).take j).length = j := by simp; omega
    constructor
    · unfold lineF
      rw [if_neg (by rw [hnb]; simp), if_neg (by omega), hlen, if_pos hjl]
      simp
    · rcases k_word sec j 10 hsec hjl hj with ⟨h1, _⟩ | ⟨_, h2⟩
      · exact absurd h1 (f3 _ (by
          rw [List.getD_eq_getElem?_getD, List.getElem?_eq_getElem hjl]
          exact List.getElem_mem hjl))
      · exact h2
  | wr r _ hr =>
    have hnb := word_nb hsec (j := (wordL sec).length) (by omega) r
    rw [List.take_length] at hnb
    have e1 : lineF sec (wordL sec ++ r) = ((restF sec r).1, (restF sec r).1, (restF sec r).2) := by
      unfold lineF
      rw [if_neg (by rw [hnb]; simp), if_neg (by omega), if_neg (by simp), if_neg (by simp)]
      simp
    rw [e1]
    rcases R_val hsec hr with ⟨h1, h2⟩ | ⟨h1, h2⟩
    · right; left
      rw [h1]
      exact ⟨rfl, hsec, h2⟩
    · right; right
      rw [h1]
      exact ⟨rfl, h2⟩

/-- A line's beginning in its section. -/
def LInv (sec : Nat) (x : List Nat) (e : Nat × Nat) : Prop := (sec ≤ 4 ∧ WInv sec x e) ∨ (sec = 5 ∧ UInv x e)
theorem L_start {sec : Nat} (h : sec ≤ 5) : LInv sec [] (Ls sec) := by
  by_cases h5 : sec = 5
  · subst h5; exact .inr ⟨rfl, .u0⟩
  · exact .inl ⟨by omega, .w0⟩
theorem L_next {sec : Nat} {x : List Nat} {e : Nat × Nat} {b : Nat} (h : LInv sec x e) (hb : b ≠ 10) : ((stepF e b).1 ≠ 0 ∧ LInv sec (x ++ [b]) (stepF e b)) ∨ ((stepF e b).1 = 0 ∧ (lineF sec (x ++ [b])).2.2 = false) := by
  rcases h with ⟨hs, h⟩ | ⟨rfl, h⟩
  · exact (W_next hs h hb).imp (fun ⟨a, b⟩ => ⟨a, .inl ⟨hs, b⟩⟩) id
  · rcases U_next h hb with ⟨h1, h2⟩ | ⟨h1, h2, h3⟩
    · exact .inl ⟨h1, .inr ⟨rfl, h2⟩⟩
    · exact .inr ⟨h1, by unfold lineF; rw [if_neg (by rw [h2]; simp), if_pos rfl]; exact h3⟩
theorem L_val {sec : Nat} {x : List Nat} {e : Nat × Nat} (h : LInv sec x e) : LVal sec (lineF sec x) e := by
  rcases h with ⟨hs, h⟩ | ⟨rfl, h⟩
  · exact W_val hs h
  · rcases U_val h with ⟨h1, h2⟩ | ⟨h1, h2⟩
    · exact .inl ⟨h1, h2⟩
    · exact .inr (.inr ⟨h1, h2⟩)
end Go.Proofs.YtgifamdoolcemaaDoor
