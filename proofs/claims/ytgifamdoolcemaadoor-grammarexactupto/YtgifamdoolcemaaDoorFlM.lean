import Derived.Test.YtgifamdoolcemaaDoorGp
namespace Go.Proofs.YtgifamdoolcemaaDoor
open Go.RowKit Go.Maps

theorem str_beq (a b : ByteArray) : (a.toList == b.toList) = decide (a = b) := by
  rw [Bool.eq_iff_iff, beq_iff_eq, decide_eq_true_iff, ByteArray.toList_eq, ByteArray.toList_eq]
  constructor
  · intro h
    cases a; cases b
    simp at h
    rw [h]
  · rintro rfl; rfl
theorem bts_inj {a b : ByteArray} (h : bts a = bts b) : a = b := by
  cases a with | mk a =>
  cases b with | mk b =>
  unfold bts at h
  simp only at h
  have : a.toList = b.toList := List.map_inj_right (fun x y hxy => UInt8.toNat_inj.1 hxy) |>.1 h
  rw [Array.toList_inj.1 this]

set_option maxRecDepth 100000 in
set_option maxHeartbeats 1000000 in
theorem byteOf_any (x : Nat) (w : World) (hx : x < 256) : Calls Tryd.prog 11 #[.int .u8 x] w fun e w' => e = .returned (.string (strB [x])) ∧ Below w.heap.size w w' := by
  have hcv := back_reads (w := w.alloc (.cells #[.int .u8 (x : Nat)] 5)) (v := .slice (some ⟨w.heap.size, 0, none⟩) 1 1) (l := [x]) ⟨some ⟨w.heap.size, 0, none⟩, 1, rfl, fun k hk => ⟨w.heap.size, 0, rfl, by
    have : k = 0 := by simp at hk; omega
    subst this
    exact cell_of (MapKept.heap_alloc _ _).1 rfl⟩⟩ (fun b hb => by simp at hb; omega)
  go_enter Tryd.func11, Tryd.ntmps11
  go_wp2
  go_ret
  exact ⟨rfl, (Below.refl _ _).alloc (Nat.le_refl _) _⟩

/-- A beginning, and one byte more. -/
theorem snoc_go (s : ByteArray) (x : Nat) (hx : x < 256) (h : lenF s = s.size) : goF (1, 0) (bts (s ++ strB [x])) = ((goF (endF s) [x]).1, s.size + (goF (endF s) [x]).2) := by
  have hb : bts (strB [x]) = [x] := bts_strB _ (by intro b hb; simp at hb; omega)
  have hg : goF (1, 0) (bts s) = (endF s, s.size) := Prod.ext rfl h
  rw [bts_append, hb, goF_app _ (by rw [hg, bts_len]), hg, bts_len]
theorem snoc_in (s : ByteArray) (x : Nat) (hx : x < 256) (h : lenF s = s.size) (hn : (stepF (endF s) x).1 ≠ 0) : lenF (s ++ strB [x]) = s.size + 1 ∧ endF (s ++ strB [x]) = stepF (endF s) x := by
  have := snoc_go s x hx h
  rw [goF_on _ hn] at this
  exact ⟨congrArg Prod.snd this, congrArg Prod.fst this⟩
theorem snoc_out (s : ByteArray) (x : Nat) (hx : x < 256) (h : lenF s = s.size) (hn : (stepF (endF s) x).1 = 0) : lenF (s ++ strB [x]) = s.size := by
  have := snoc_go s x hx h
  rw [goF_stop _ hn] at this
  exact congrArg Prod.snd this
theorem snoc_size (s : ByteArray) (x : Nat) : (s ++ strB [x]).size = s.size + 1 := by rw [ByteArray.size_append, strB_size]; rfl
theorem snoc_cmp (s : ByteArray) (x : Nat) (hx : x < 256) (h : lenF s = s.size) (hn : (stepF (endF s) x).1 ≠ 0) : cerF (s ++ strB [x]) = 0 ∧ cmpB (s ++ strB [x]) = strB (compF (stepF (endF s) x)) := by
  obtain ⟨h1, h2⟩ := snoc_in s x hx h hn
  unfold cerF cmpB
  rw [h1, h2, snoc_size]
  simp
theorem strB_head (b : Nat) (l : List Nat) (h : ∀ x ∈ b :: l, x < 256) : (strB (b :: l)).extract 0 1 = strB [b] ∧ (strB (b :: l)).extract 1 (strB (b :: l)).size = strB l := by
  constructor
  · apply bts_inj
    rw [bts_take, bts_strB _ h, bts_strB _ (by intro x hx; simp at hx; subst hx; exact h x (by simp))]
    rfl
  · apply bts_inj
    rw [bts_extract, bts_strB _ h, bts_strB _ (fun x hx => h x (by simp [hx])), strB_size]
    simp

/-- All that GrammarFollows asks of a beginning that is no file. -/
theorem fol_facts (s : ByteArray) (h : lenF s = s.size) (hz : s.size ≤ 1048576) (hf : isF (endF s) = false) :
    ∃ (nb : Nat) (rest t : ByteArray), t = strB (compF (endF s)) ∧ nb < 256 ∧ (stepF (endF s) nb).1 ≠ 0 ∧ 0 < t.size ∧ t.size = rest.size + 1 ∧ rest.size ≤ 48 ∧ t.extract 1 t.size = rest ∧
      (∀ W : World, (Instr.index 9 (.string t) (.int .i64 0)).run Tryd.prog W = .ok (.int .u8 (nb : Int)) W) ∧
      (∀ W, RowsAt W → 0 < W.heap.size → Calls Tryd.prog 9 #[.string (s ++ t.extract 0 1)] W fun e w' => e = .returned (.tuple #[.string rest, .int .i64 0]) ∧ Below W.heap.size W w') ∧
      ∀ x, x < 256 → (stepF (endF s) x).1 ≠ 0 → ∃ u : ByteArray, rest.size ≤ u.size ∧ (u.size = rest.size → nb ≤ x) ∧ u.size ≤ 48 ∧
        ∀ W, RowsAt W → 0 < W.heap.size → Calls Tryd.prog 9 #[.string (s ++ strB [x])] W fun e w' => e = .returned (.tuple #[.string u, .int .i64 0]) ∧ Below W.heap.size W w' := by
  have hok := end_ok s
  obtain ⟨e1, hn⟩ := compF_cons hok hf
  have h256 := comp_256 hok
  rw [e1] at h256
  obtain ⟨a1, a2⟩ := strB_head _ _ h256
  have hnb := step_lt hn
  have hcr : ∀ W, RowsAt W → 0 < W.heap.size → Calls Tryd.prog 9 #[.string (s ++ strB [nextB (endF s)])] W fun e w' => e = .returned (.tuple #[.string (strB (compF (stepF (endF s) (nextB (endF s))))), .int .i64 0]) ∧ Below W.heap.size W w' := fun W h1 h2 => by
    have := complete_any (s ++ strB [nextB (endF s)]) W h1 h2 (by rw [snoc_size]; omega)
    rw [(snoc_cmp s _ hnb h hn).1, (snoc_cmp s _ hnb h hn).2] at this
    exact this
  refine ⟨nextB (endF s), strB (compF (stepF (endF s) (nextB (endF s)))), _, rfl, hnb, hn, ?_, ?_, ?_, ?_, ?_, ?_, ?_⟩
  · rw [strB_size, e1]; simp
  · rw [strB_size, strB_size, e1]; rfl
  · rw [strB_size]; exact comp_len (step_ok hok hn)
  · rw [e1]; exact a2
  · intro W
    rw [e1]
    exact idx_w _ 0 _ (by rw [strB_size]; simp) (by rw [strB_get _ _ _ (by simpa using hnb)]; rfl) W
  · rw [e1, a1]; exact hcr
  · intro x hx hxn
    have hb := compF_best hok hf hxn
    rw [e1] at hb
    simp only [List.length_cons, Nat.add_le_add_iff_right, Nat.add_right_cancel_iff] at hb
    refine ⟨strB (compF (stepF (endF s) x)), ?_, ?_, ?_, fun W h1 h2 => ?_⟩
    · rw [strB_size, strB_size]; exact hb.1
    · rw [strB_size, strB_size]; exact fun h => hb.2 h.symm
    · rw [strB_size]; exact comp_len (step_ok hok hxn)
    · have := complete_any (s ++ strB [x]) W h1 h2 (by rw [snoc_size]; omega)
      rw [(snoc_cmp s x hx h hxn).1, (snoc_cmp s x hx h hxn).2] at this
      exact this
end Go.Proofs.YtgifamdoolcemaaDoor
