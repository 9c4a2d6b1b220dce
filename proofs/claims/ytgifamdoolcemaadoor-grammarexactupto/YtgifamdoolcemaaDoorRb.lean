import Derived.Test.YtgifamdoolcemaaDoorRa
namespace Go.Proofs.YtgifamdoolcemaaDoor
open Go.RowKit Go.Maps

def strSz : Value → Nat
  | .string s => s.size
  | _ => 0
theorem bts_tail (s : ByteArray) (k : Nat) : bts (s.extract k s.size) = (bts s).drop k := by
  rw [bts_extract, List.take_of_length_le]
  rw [List.length_drop, bts_len]
  exact Nat.le_refl _
theorem bts_empty (s : ByteArray) : (s.toList == []) = decide (bts s = []) := by
  rw [Bool.eq_iff_iff, beq_iff_eq, decide_eq_true_iff, ByteArray.toList_eq]
  unfold bts
  simp

set_option maxRecDepth 100000 in
set_option maxHeartbeats 1000000 in
theorem skip_any (s : ByteArray) (w : World) (_hs : s.size ≤ 4194304) : Calls Tryd.prog 30 #[.string s] w fun e w' => ∃ r, e = .returned (.string r) ∧ bts r = skipF (bts s) ∧ w' = w := by
  go_enter Tryd.func30, Tryd.ntmps30
  go_wp2
  go_loopw [0] (fun v wr => ∃ r : ByteArray, v = .string r ∧ r.size ≤ s.size ∧ Hid (skipF (bts r) = skipF (bts s)) ∧ wr = w) (fun v _ => strSz v)
  case atStart => exact ⟨s, rfl, Nat.le_refl _, hide rfl, rfl⟩
  case round =>
    obtain ⟨r, rfl, hr, HR, hwr⟩ := hrel
    obtain rfl := hwr.symm
    have hem := bts_empty r
    by_cases h0 : 0 < r.size
    · have hl : 0 < (bts r).length := by rw [bts_len]; exact h0
      have hne : decide (bts r = []) = false := decide_eq_false (fun e => by rw [e] at hl; simp at hl)
      rw [hne] at hem
      have hix := idx_b r 0 h0
      obtain ⟨b, hb⟩ : ∃ b, (bts r)[0]'hl = b := ⟨_, rfl⟩
      rw [hb] at hix
      have hix' : ∀ W : World, (Instr.index 9 (.string r) (.int .i64 0)).run Tryd.prog W = .ok (.int .u8 (b : Nat)) W := hix
      have hcons : bts r = b :: (bts r).drop 1 := by rw [← hb, List.getElem_cons_drop]; rfl
      have i1 : (1 : Int) ≤ (r.size : Int) := by omega
      have HC := hide hcons
      clear hix hb hcons hne hl
      cases hbl : blk b
      · have HE : Hid (bts r = skipF (bts s)) := hide (by rw [← HR.out, HC.out]; unfold skipF; rw [List.dropWhile_cons, hbl]; rfl)
        go_wp2_with (go_at_call 32; refine (blank_any b _).mono ?_; rintro e w' ⟨rfl, rfl⟩; rw [hbl])
        go_ret
        exact ⟨_, rfl, HE.out, rfl⟩
      · have HE : Hid (skipF (bts (r.extract 1 r.size)) = skipF (bts s)) := hide (by
          rw [← HR.out, bts_tail]
          conv => rhs; rw [HC.out]
          unfold skipF
          rw [List.dropWhile_cons, hbl]
          rfl)
        go_wp2_with (go_at_call 32; refine (blank_any b _).mono ?_; rintro e w' ⟨rfl, rfl⟩; rw [hbl])
        go_roundw
        case rel => exact ⟨_, rfl, by rw [ByteArray.size_extract]; omega, HE, trivial⟩
        case measure => simp [strSz]; omega
    · have h00 : bts r = [] := List.eq_nil_of_length_eq_zero (by rw [bts_len]; omega)
      have hne : decide (bts r = []) = true := decide_eq_true h00
      rw [hne] at hem
      have HE : Hid (bts r = skipF (bts s)) := hide (by rw [← HR.out, h00]; rfl)
      clear h00 hne
      go_wp2
      go_ret
      exact ⟨_, rfl, HE.out, rfl⟩

theorem nmLen_at {l : List Nat} {k : Nat} (hk : k ≤ l.length) (h16 : k ≤ 16) (h : (l.take k).all isNm = true) (hn : k = l.length ∨ k = 16 ∨ ∃ b, l[k]? = some b ∧ isNm b = false) : nmLen l = k := by
  have hge : k ≤ (l.takeWhile isNm).length := by
    have e : l.takeWhile isNm = l.take k ++ (l.drop k).takeWhile isNm := by
      conv => lhs; rw [← List.take_append_drop k l]
      rw [List.takeWhile_append_of_pos (List.all_eq_true.1 h)]
    rw [e]
    simp
    omega
  unfold nmLen
  rcases hn with e | e | ⟨b, hb, hbn⟩
  · have := (List.takeWhile_sublist isNm (l := l)).length_le
    omega
  · omega
  · have e : l.takeWhile isNm = l.take k := by
      obtain ⟨hkl, hb2⟩ := List.getElem?_eq_some_iff.1 hb
      conv => lhs; rw [← List.take_append_drop k l]
      rw [List.takeWhile_append_of_pos (List.all_eq_true.1 h), List.drop_eq_getElem_cons hkl, hb2, List.takeWhile_cons, hbn]
      simp
    rw [e]
    simp
    omega

set_option maxRecDepth 100000 in
set_option maxHeartbeats 1000000 in
theorem named_any (s : ByteArray) (w : World) (_hs : s.size ≤ 4194304) : Calls Tryd.prog 29 #[.string s] w fun e w' => ∃ r, e = .returned (.tuple #[.string r, .bool (decide (0 < nmLen (bts s)))]) ∧ bts r = (bts s).drop (nmLen (bts s)) ∧ w' = w := by
  have HL := hide (bts_len s)
  go_enter Tryd.func29, Tryd.ntmps29
  go_wp2
  go_loopw [4] (fun i wr => ∃ k : Nat, k ≤ s.size ∧ k ≤ 16 ∧ i = .int .i64 k ∧ Hid (((bts s).take k).all isNm = true) ∧ wr = w) (fun i _ => s.size - (intOf i).toNat)
  case atStart => exact ⟨0, Nat.zero_le _, Nat.zero_le _, rfl, hide rfl, rfl⟩
  case round =>
    obtain ⟨k, hk, h16, rfl, HA, hwr⟩ := hrel
    obtain rfl := hwr.symm
    have k0 : (0 : Int) ≤ (k : Int) := by omega
    have k1 : (k : Int) ≤ (s.size : Int) := by omega
    have fin : nmLen (bts s) = k → Hid ((decide (0 < nmLen (bts s)) = decide ((k : Int) > 0)) ∧ bts (s.extract k s.size) = (bts s).drop (nmLen (bts s))) := fun h => hide ⟨by rw [h, Bool.eq_iff_iff, decide_eq_true_iff, decide_eq_true_iff]; omega, by rw [h, bts_tail]⟩
    by_cases hlt : k < s.size
    · have hkl : k < (bts s).length := by rw [bts_len]; exact hlt
      obtain ⟨b, hb⟩ : ∃ b, (bts s)[k]'hkl = b := ⟨_, rfl⟩
      have i1 : (k : Int) < (s.size : Int) := by omega
      have i2 : decide (k < s.size) = true := decide_eq_true hlt
      have i3 : (k : Int) + 1 ≤ (s.size : Int) := by omega
      have i4 : (0 : Int) ≤ (k : Int) + 1 := by omega
      have hnm := name_any (s.extract 0 (k + 1))
      rw [bts_take] at hnm
      have hall := all_take (p := isNm) hkl hb HA.out
      by_cases hgo : k + 1 ≤ 16 ∧ isNm b = true
      · rw [nmF_true (by simp; omega) (by simp; omega) (hall.trans hgo.2)] at hnm
        have HN := hide (And.intro hgo.1 (hall.trans hgo.2))
        clear hgo hall hb fin
        go_wp2_with (go_at_call 40; refine (hnm _).mono ?_; rintro e w' ⟨rfl, rfl⟩)
        go_roundw
        case rel => exact ⟨k + 1, by omega, HN.out.1, by go_num, hide HN.out.2, trivial⟩
        case measure => simp [intOf]; omega
      · have hF : nmF ((bts s).take (k + 1)) = false := by
          by_cases h : k + 1 ≤ 16
          · refine nmF_false ?_
            rw [hall]
            cases hb' : isNm b
            · rfl
            · exact absurd ⟨h, hb'⟩ hgo
          · exact nmF_long (by simp; omega)
        rw [hF] at hnm
        have hk' := nmLen_at (by rw [bts_len]; exact hk) h16 HA.out (by
          by_cases h : k = 16
          · exact .inr (.inl h)
          · refine .inr (.inr ⟨b, by rw [List.getElem?_eq_getElem hkl, hb], ?_⟩)
            cases hb' : isNm b
            · rfl
            · exact absurd ⟨by omega, hb'⟩ hgo)
        have HF := fin hk'
        clear hgo hall hb fin hF hk'
        go_wp2_with (go_at_call 40; refine (hnm _).mono ?_; rintro e w' ⟨rfl, rfl⟩)
        go_ret2
        exact ⟨_, by rw [HF.out.1]; first | rfl | simp, HF.out.2, rfl⟩
    · have i1 : ¬ (k : Int) < (s.size : Int) := by omega
      have i2 : decide (k < s.size) = false := decide_eq_false hlt
      have hk' := nmLen_at (by rw [bts_len]; exact hk) h16 HA.out (.inl (by rw [bts_len]; omega))
      have HF := fin hk'
      clear fin hk'
      go_wp2
      go_ret2
      exact ⟨_, by rw [HF.out.1]; first | rfl | simp, HF.out.2, rfl⟩
end Go.Proofs.YtgifamdoolcemaaDoor
