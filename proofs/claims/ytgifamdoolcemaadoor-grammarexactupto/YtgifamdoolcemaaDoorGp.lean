import Derived.Test.YtgifamdoolcemaaDoorWo
import Derived.Lib.Strings
namespace Go.Proofs.YtgifamdoolcemaaDoor
open Go.RowKit Go.Maps

theorem bts_extract (s : ByteArray) (a b : Nat) : bts (s.extract a b) = ((bts s).drop a).take (b - a) := by
  unfold bts
  rw [Lib.extract_data, List.map_take, List.map_drop]
theorem bts_take (s : ByteArray) (n : Nat) : bts (s.extract 0 n) = (bts s).take n := by rw [bts_extract]; simp
theorem bts_append (a b : ByteArray) : bts (a ++ b) = bts a ++ bts b := by
  unfold bts
  simp [ByteArray.data_append]
theorem bts_strB (l : List Nat) (h : ∀ b ∈ l, b < 256) : bts (strB l) = l := by
  unfold bts strB
  simp only [List.map_map]
  conv => rhs; rw [← List.map_id l]
  apply List.map_congr_left
  intro b hb
  simp [Nat.mod_eq_of_lt (h b hb)]
theorem comp_256 {s : Nat × Nat} (hs : okS s = true) : ∀ b ∈ compF s, b < 256 := by
  have aux : ∀ n s, okS s = true → (compF s).length ≤ n → ∀ b ∈ compF s, b < 256 := by
    intro n
    induction n with
    | zero =>
      intro s _ hl b hb
      have e : compF s = [] := List.eq_nil_of_length_eq_zero (by omega)
      rw [e] at hb
      cases hb
    | succ n ih =>
      intro s hs hl b hb
      cases hf : isF s
      · obtain ⟨e, hn⟩ := compF_cons hs hf
        rw [e] at hl hb
        rcases List.mem_cons.1 hb with rfl | hb
        · exact step_lt hn
        · exact ih _ (step_ok hs hn) (by simpa using hl) b hb
      · rw [compF_file hf] at hb; cases hb
  exact aux _ s hs (Nat.le_refl _)
theorem comp_nil {s : Nat × Nat} (hs : okS s = true) : compF s = [] ↔ isF s = true := by
  constructor
  · intro h
    cases hf : isF s
    · rw [(compF_cons hs hf).1] at h; cases h
    · rfl
  · exact compF_file
set_option maxRecDepth 100000 in
theorem comp_len {s : Nat × Nat} (hs : okS s = true) : (compF s).length ≤ 48 := by
  have key : spots.all (fun s => Nat.ble (compF s).length 48) = true := by decide +kernel
  simpa using all_spots key hs

/-! ### GrammarEnds -/
theorem len_take (s : ByteArray) : lenF (s.extract 0 (lenF s)) = lenF s ∧ endF (s.extract 0 (lenF s)) = endF s ∧ (s.extract 0 (lenF s)).size = lenF s := by
  have h := goF_take (s := (1, 0)) (l := bts s)
  have hle := len_le s
  refine ⟨?_, ?_, by simp; omega⟩
  · unfold lenF at *
    rw [bts_take, h]
  · unfold endF lenF at *
    rw [bts_take, h]
theorem cer_take (s : ByteArray) : cerF (s.extract 0 (lenF s)) = 0 ∧ cmpB (s.extract 0 (lenF s)) = strB (compF (endF s)) := by
  obtain ⟨h1, h2, h3⟩ := len_take s
  unfold cerF cmpB
  rw [h1, h2, h3]
  simp
theorem ends_two (s : ByteArray) : lenF (s.extract 0 (lenF s) ++ strB (compF (endF s))) = lenF s + (strB (compF (endF s))).size ∧ errF (s.extract 0 (lenF s) ++ strB (compF (endF s))) = 0 := by
  have hb := bts_strB _ (comp_256 (end_ok s))
  obtain ⟨h1, h2, h3⟩ := len_take s
  have hg : goF (1, 0) (bts (s.extract 0 (lenF s))) = (endF s, lenF s) := Prod.ext h2 h1
  have hl : (bts (s.extract 0 (lenF s))).length = lenF s := by rw [bts_len, h3]
  obtain ⟨c1, c2⟩ := compF_goes (end_ok s)
  have ha := goF_app (compF (endF s)) (s := (1, 0)) (l := bts (s.extract 0 (lenF s))) (by rw [hg, hl])
  rw [hg, hl, c1] at ha
  have h4 : lenF (s.extract 0 (lenF s) ++ strB (compF (endF s))) = lenF s + (compF (endF s)).length := by
    unfold lenF at ha ⊢
    rw [bts_append, hb, ha]
  have h5 : endF (s.extract 0 (lenF s) ++ strB (compF (endF s))) = (goF (endF s) (compF (endF s))).1 := by
    unfold endF lenF at *
    rw [bts_append, hb, ha]
  refine ⟨by rw [h4, strB_size], ?_⟩
  unfold errF
  rw [h4, h5, c2, if_neg]
  rw [ByteArray.size_append, h3, strB_size]
  simp
theorem ends_three (s t : ByteArray) (h : lenF s < s.size) : lenF (s.extract 0 (lenF s + 1) ++ t) = lenF s ∧ errF (s.extract 0 (lenF s + 1) ++ t) = 30 := by
  have hl : lenF s < (bts s).length := by rw [bts_len]; exact h
  have hg : goF (1, 0) ((bts s).take (lenF s)) = (endF s, lenF s) := goF_take
  have hn : (stepF (endF s) (bts s)[lenF s]).1 = 0 := goF_next (s := (1, 0)) (l := bts s) hl
  have e : bts (s.extract 0 (lenF s + 1) ++ t) = (bts s).take (lenF s) ++ ((bts s)[lenF s] :: bts t) := by
    rw [bts_append, bts_take, List.take_succ_eq_append_getElem hl, List.append_assoc]; rfl
  have hlt : ((bts s).take (lenF s)).length = lenF s := by simp; omega
  have hgo : goF (1, 0) (bts (s.extract 0 (lenF s + 1) ++ t)) = (endF s, lenF s) := by
    rw [e, goF_app _ (by rw [hg, hlt]), hg, goF_stop _ hn, hlt]
    rfl
  have h1 : lenF (s.extract 0 (lenF s + 1) ++ t) = lenF s := by
    show (goF (1, 0) (bts (s.extract 0 (lenF s + 1) ++ t))).2 = _
    rw [hgo]
  refine ⟨h1, ?_⟩
  unfold errF
  rw [h1, if_pos]
  left
  have := congrArg List.length e
  rw [bts_len] at this
  rw [this]
  simp
  omega
theorem err_full (s : ByteArray) (h : lenF s = s.size) : errF s = if isF (endF s) then 0 else 30 := by
  unfold errF
  rw [h]
  cases isF (endF s) <;> simp
end Go.Proofs.YtgifamdoolcemaaDoor
