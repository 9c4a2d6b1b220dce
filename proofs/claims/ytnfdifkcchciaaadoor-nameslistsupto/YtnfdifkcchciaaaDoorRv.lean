import Derived.Test.YtnfdifkcchciaaaDoorAdd
import Derived.Shelf.SlMaps.Clone
namespace Go.Proofs.YtnfdifkcchciaaaDoor
open Go.RowKit Go.Maps

theorem nameC_eq (c : Nat) : nameC c = decide ((97 ≤ c ∧ c ≤ 122) ∨ (65 ≤ c ∧ c ≤ 90) ∨ (48 ≤ c ∧ c ≤ 57) ∨ (95 ≤ c ∧ c ≤ 95) ∨ (39 ≤ c ∧ c ≤ 39)) := by
  rw [Bool.eq_iff_iff]
  simp only [nameC, inRow, loOf, hiOf, Bool.or_eq_true, Bool.and_eq_true, decide_eq_true_eq]
  omega

set_option maxRecDepth 100000 in
set_option maxHeartbeats 2000000 in
theorem rvalid_any (s : ByteArray) (w : World) :
    Calls Tryd.prog 25 #[.string s] w fun e w' => e = .returned (.bool (vld s)) ∧ w' = w := by
  by_cases h0 : s.size < 1
  · have e := vld_len s (by omega)
    have i0 : (s.size : Int) < 1 := by omega
    go_enter Tryd.func25, Tryd.ntmps25
    go_wp2
    go_ret
    exact ⟨by first | (rw [e]; rfl) | rfl, rfl⟩
  · by_cases h1 : 16 < s.size
    · have e := vld_len s (by omega)
      have i0 : ¬ (s.size : Int) < 1 := by omega
      have i1 : (s.size : Int) > 16 := by omega
      go_enter Tryd.func25, Tryd.ntmps25
      go_wp2
      go_ret
      exact ⟨by first | (rw [e]; rfl) | rfl, rfl⟩
    · have i0 : ¬ (s.size : Int) < 1 := by omega
      have i1 : ¬ (s.size : Int) > 16 := by omega
      go_enter Tryd.func25, Tryd.ntmps25
      go_wp2
      go_loopw [3] (fun i wr => ∃ k : Nat, k ≤ s.size ∧ i = .int .i64 k ∧ Hid (okTo s k) ∧ wr = w) (fun i _ => s.size - (intOf i).toNat)
      case atStart => exact ⟨0, Nat.zero_le _, rfl, hide (fun j _ hj => absurd hj (Nat.not_lt_zero _)), rfl⟩
      case round =>
        obtain ⟨k, hk, rfl, hok, hwr⟩ := hrel
        obtain rfl := hwr.symm
        clear hwr
        by_cases hlt : k < s.size
        · have hix := fun W => idx_at s k W hlt
          have i2 : (k : Int) < (s.size : Int) := by omega
          have HC : Hid (∀ c : Nat, c = s[k].toNat → (nameC c = true → okTo s (k + 1)) ∧ (nameC c = false → vld s = false)) := by
            intro c hc
            subst hc
            exact ⟨fun hn j hj hjk => if e : j = k then by subst e; exact hn else hok.out j hj (by omega), fun hn => vld_not s k hlt hn⟩
          have hcb := s[k].toNat_lt
          obtain ⟨c, hc⟩ : ∃ c, c = s[k].toNat := ⟨_, rfl⟩
          rw [← hc] at hix hcb
          have HD := hide (HC.out c hc)
          clear HC hc
          have hcls : (0 ≤ c ∧ c ≤ 38) ∨ (39 ≤ c ∧ c ≤ 39) ∨ (40 ≤ c ∧ c ≤ 47) ∨ (48 ≤ c ∧ c ≤ 57) ∨ (58 ≤ c ∧ c ≤ 64) ∨ (65 ≤ c ∧ c ≤ 90) ∨ (91 ≤ c ∧ c ≤ 94) ∨ (95 ≤ c ∧ c ≤ 95) ∨ (96 ≤ c ∧ c ≤ 96) ∨ (97 ≤ c ∧ c ≤ 122) ∨ (123 ≤ c ∧ c ≤ 255) := by omega
          rcases hcls with hc | hc | hc | hc | hc | hc | hc | hc | hc | hc | hc
          · have hn : nameC c = false := by rw [nameC_eq]; rw [decide_eq_false_iff_not]; omega
            have g97 : ¬ (c : Int) ≥ 97 := by omega
            have g65 : ¬ (c : Int) ≥ 65 := by omega
            have g48 : ¬ (c : Int) ≥ 48 := by omega
            have n95 : ((c : Int) != 95) = true := by rw [bne_iff_ne]; omega
            have n39 : ((c : Int) != 39) = true := by rw [bne_iff_ne]; omega
            have HN := hide (HD.out.2 hn)
            clear hc hn HD hok
            go_wp2
            go_ret
            exact ⟨by rw [HN.out]; rfl, rfl⟩
          · have hn : nameC c = true := by rw [nameC_eq]; rw [decide_eq_true_iff]; omega
            have g97 : ¬ (c : Int) ≥ 97 := by omega
            have g65 : ¬ (c : Int) ≥ 65 := by omega
            have g48 : ¬ (c : Int) ≥ 48 := by omega
            have n95 : ((c : Int) != 95) = true := by rw [bne_iff_ne]; omega
            have n39 : ((c : Int) != 39) = false := by rw [bne_eq_false_iff_eq]; omega
            have HN := hide (HD.out.1 hn)
            clear hc hn HD hok
            go_wp2
            go_roundw
            case rel => exact ⟨k + 1, by omega, by go_num, HN, by first | rfl | trivial⟩
            case measure => simp [intOf]; omega
          · have hn : nameC c = false := by rw [nameC_eq]; rw [decide_eq_false_iff_not]; omega
            have g97 : ¬ (c : Int) ≥ 97 := by omega
            have g65 : ¬ (c : Int) ≥ 65 := by omega
            have g48 : ¬ (c : Int) ≥ 48 := by omega
            have n95 : ((c : Int) != 95) = true := by rw [bne_iff_ne]; omega
            have n39 : ((c : Int) != 39) = true := by rw [bne_iff_ne]; omega
            have HN := hide (HD.out.2 hn)
            clear hc hn HD hok
            go_wp2
            go_ret
            exact ⟨by rw [HN.out]; rfl, rfl⟩
          · have hn : nameC c = true := by rw [nameC_eq]; rw [decide_eq_true_iff]; omega
            have g97 : ¬ (c : Int) ≥ 97 := by omega
            have g65 : ¬ (c : Int) ≥ 65 := by omega
            have g48 : (c : Int) ≥ 48 := by omega
            have l57 : (c : Int) ≤ 57 := by omega
            have n95 : ((c : Int) != 95) = true := by rw [bne_iff_ne]; omega
            have n39 : ((c : Int) != 39) = true := by rw [bne_iff_ne]; omega
            have HN := hide (HD.out.1 hn)
            clear hc hn HD hok
            go_wp2
            go_roundw
            case rel => exact ⟨k + 1, by omega, by go_num, HN, by first | rfl | trivial⟩
            case measure => simp [intOf]; omega
          · have hn : nameC c = false := by rw [nameC_eq]; rw [decide_eq_false_iff_not]; omega
            have g97 : ¬ (c : Int) ≥ 97 := by omega
            have g65 : ¬ (c : Int) ≥ 65 := by omega
            have g48 : (c : Int) ≥ 48 := by omega
            have l57 : ¬ (c : Int) ≤ 57 := by omega
            have n95 : ((c : Int) != 95) = true := by rw [bne_iff_ne]; omega
            have n39 : ((c : Int) != 39) = true := by rw [bne_iff_ne]; omega
            have HN := hide (HD.out.2 hn)
            clear hc hn HD hok
            go_wp2
            go_ret
            exact ⟨by rw [HN.out]; rfl, rfl⟩
          · have hn : nameC c = true := by rw [nameC_eq]; rw [decide_eq_true_iff]; omega
            have g97 : ¬ (c : Int) ≥ 97 := by omega
            have g65 : (c : Int) ≥ 65 := by omega
            have g48 : (c : Int) ≥ 48 := by omega
            have l90 : (c : Int) ≤ 90 := by omega
            have l57 : ¬ (c : Int) ≤ 57 := by omega
            have n95 : ((c : Int) != 95) = true := by rw [bne_iff_ne]; omega
            have n39 : ((c : Int) != 39) = true := by rw [bne_iff_ne]; omega
            have HN := hide (HD.out.1 hn)
            clear hc hn HD hok
            go_wp2
            go_roundw
            case rel => exact ⟨k + 1, by omega, by go_num, HN, by first | rfl | trivial⟩
            case measure => simp [intOf]; omega
          · have hn : nameC c = false := by rw [nameC_eq]; rw [decide_eq_false_iff_not]; omega
            have g97 : ¬ (c : Int) ≥ 97 := by omega
            have g65 : (c : Int) ≥ 65 := by omega
            have g48 : (c : Int) ≥ 48 := by omega
            have l90 : ¬ (c : Int) ≤ 90 := by omega
            have l57 : ¬ (c : Int) ≤ 57 := by omega
            have n95 : ((c : Int) != 95) = true := by rw [bne_iff_ne]; omega
            have n39 : ((c : Int) != 39) = true := by rw [bne_iff_ne]; omega
            have HN := hide (HD.out.2 hn)
            clear hc hn HD hok
            go_wp2
            go_ret
            exact ⟨by rw [HN.out]; rfl, rfl⟩
          · have hn : nameC c = true := by rw [nameC_eq]; rw [decide_eq_true_iff]; omega
            have g97 : ¬ (c : Int) ≥ 97 := by omega
            have g65 : (c : Int) ≥ 65 := by omega
            have g48 : (c : Int) ≥ 48 := by omega
            have l90 : ¬ (c : Int) ≤ 90 := by omega
            have l57 : ¬ (c : Int) ≤ 57 := by omega
            have n95 : ((c : Int) != 95) = false := by rw [bne_eq_false_iff_eq]; omega
            have n39 : ((c : Int) != 39) = true := by rw [bne_iff_ne]; omega
            have HN := hide (HD.out.1 hn)
            clear hc hn HD hok
            go_wp2
            go_roundw
            case rel => exact ⟨k + 1, by omega, by go_num, HN, by first | rfl | trivial⟩
            case measure => simp [intOf]; omega
          · have hn : nameC c = false := by rw [nameC_eq]; rw [decide_eq_false_iff_not]; omega
            have g97 : ¬ (c : Int) ≥ 97 := by omega
            have g65 : (c : Int) ≥ 65 := by omega
            have g48 : (c : Int) ≥ 48 := by omega
            have l90 : ¬ (c : Int) ≤ 90 := by omega
            have l57 : ¬ (c : Int) ≤ 57 := by omega
            have n95 : ((c : Int) != 95) = true := by rw [bne_iff_ne]; omega
            have n39 : ((c : Int) != 39) = true := by rw [bne_iff_ne]; omega
            have HN := hide (HD.out.2 hn)
            clear hc hn HD hok
            go_wp2
            go_ret
            exact ⟨by rw [HN.out]; rfl, rfl⟩
          · have hn : nameC c = true := by rw [nameC_eq]; rw [decide_eq_true_iff]; omega
            have g97 : (c : Int) ≥ 97 := by omega
            have g65 : (c : Int) ≥ 65 := by omega
            have g48 : (c : Int) ≥ 48 := by omega
            have l122 : (c : Int) ≤ 122 := by omega
            have l90 : ¬ (c : Int) ≤ 90 := by omega
            have l57 : ¬ (c : Int) ≤ 57 := by omega
            have n95 : ((c : Int) != 95) = true := by rw [bne_iff_ne]; omega
            have n39 : ((c : Int) != 39) = true := by rw [bne_iff_ne]; omega
            have HN := hide (HD.out.1 hn)
            clear hc hn HD hok
            go_wp2
            go_roundw
            case rel => exact ⟨k + 1, by omega, by go_num, HN, by first | rfl | trivial⟩
            case measure => simp [intOf]; omega
          · have hn : nameC c = false := by rw [nameC_eq]; rw [decide_eq_false_iff_not]; omega
            have g97 : (c : Int) ≥ 97 := by omega
            have g65 : (c : Int) ≥ 65 := by omega
            have g48 : (c : Int) ≥ 48 := by omega
            have l122 : ¬ (c : Int) ≤ 122 := by omega
            have l90 : ¬ (c : Int) ≤ 90 := by omega
            have l57 : ¬ (c : Int) ≤ 57 := by omega
            have n95 : ((c : Int) != 95) = true := by rw [bne_iff_ne]; omega
            have n39 : ((c : Int) != 39) = true := by rw [bne_iff_ne]; omega
            have HN := hide (HD.out.2 hn)
            clear hc hn HD hok
            go_wp2
            go_ret
            exact ⟨by rw [HN.out]; rfl, rfl⟩
        · have i2 : ¬ (k : Int) < (s.size : Int) := by omega
          have hke : k = s.size := by omega
          have HN := hide (vld_full s (by omega) (by omega) (by rw [← hke]; exact hok.out))
          clear hke hok
          go_wp2
          go_ret
          exact ⟨by rw [HN.out]; rfl, rfl⟩

end Go.Proofs.YtnfdifkcchciaaaDoor
