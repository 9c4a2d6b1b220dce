import Derived.Test.YtgifamdoolcemaaDoorLnF
import Derived.Test.YtgifamdoolcemaaDoorFlM
namespace Go.Proofs.YtgifamdoolcemaaDoor
open Go.RowKit Go.Maps

/-! ### What the document's answer reckons, on lists of bytes -/
def blk (c : Nat) : Bool := c == 32 || c == 9
def nmF (l : List Nat) : Bool := decide (1 ≤ l.length) && (decide (l.length ≤ 16) && l.all isNm)
def nmLen (l : List Nat) : Nat := min 16 (l.takeWhile isNm).length
def wordL : Nat → List Nat
  | 0 => wordOf 1 | 1 => wordOf 7 | 2 => wordOf 12 | 3 => wordOf 17 | _ => wordOf 22
def skipF (l : List Nat) : List Nat := l.dropWhile blk

set_option maxRecDepth 100000 in
set_option maxHeartbeats 1000000 in
theorem blank_any (c : Nat) (w : World) : Calls Tryd.prog 32 #[.int .u8 c] w fun e w' => e = .returned (.bool (blk c)) ∧ w' = w := by
  by_cases h1 : c = 32
  · have e : blk c = true := by subst h1; rfl
    have i1 : ((c : Int) == 32) = true := by rw [beq_iff_eq]; omega
    have HE := hide e
    clear e h1
    go_enter Tryd.func32, Tryd.ntmps32
    go_wp2
    go_ret
    exact ⟨by rw [HE.out]; first | rfl | simp, rfl⟩
  · have i1 : ((c : Int) == 32) = false := by rw [beq_eq_false_iff_ne]; omega
    by_cases h2 : c = 9
    · have e : blk c = true := by subst h2; rfl
      have i2 : ((c : Int) == 9) = true := by rw [beq_iff_eq]; omega
      have HE := hide e
      clear e h1 h2
      go_enter Tryd.func32, Tryd.ntmps32
      go_wp2
      go_ret
      exact ⟨by rw [HE.out]; first | rfl | simp, rfl⟩
    · have e : blk c = false := by simp [blk, h1, h2]
      have i2 : ((c : Int) == 9) = false := by rw [beq_eq_false_iff_ne]; omega
      have HE := hide e
      clear e h1 h2
      go_enter Tryd.func32, Tryd.ntmps32
      go_wp2
      go_ret
      exact ⟨by rw [HE.out]; first | rfl | simp, rfl⟩

theorem all_take {p : Nat → Bool} {l : List Nat} {k b : Nat} (hk : k < l.length) (hb : l[k] = b) (h : (l.take k).all p = true) : (l.take (k + 1)).all p = p b := by
  rw [List.take_succ_eq_append_getElem hk, List.all_append, h, hb]
  simp
theorem all_not {p : Nat → Bool} {l : List Nat} {k b : Nat} (hk : k < l.length) (hb : l[k] = b) (h : p b = false) : l.all p = false := by
  rw [List.all_eq_false]
  exact ⟨b, hb ▸ List.getElem_mem hk, by rw [h]; exact Bool.false_ne_true⟩

set_option maxRecDepth 100000 in
set_option maxHeartbeats 1000000 in
theorem blanks_any (s : ByteArray) (w : World) (hs : s.size ≤ 4194304) : Calls Tryd.prog 23 #[.string s] w fun e w' => e = .returned (.bool ((bts s).all blk)) ∧ w' = w := by
  have HL := hide (bts_len s)
  go_enter Tryd.func23, Tryd.ntmps23
  go_wp2
  go_loopw [3] (fun i wr => ∃ k : Nat, k ≤ s.size ∧ i = .int .i64 k ∧ Hid (((bts s).take k).all blk = true) ∧ wr = w) (fun i _ => s.size - (intOf i).toNat)
  case atStart => exact ⟨0, Nat.zero_le _, rfl, hide rfl, rfl⟩
  case round =>
    obtain ⟨k, hk, rfl, HA, hwr⟩ := hrel
    obtain rfl := hwr.symm
    by_cases hlt : k < s.size
    · have hkl : k < (bts s).length := by rw [bts_len]; exact hlt
      have hix := idx_b s k hlt
      obtain ⟨b, hb⟩ : ∃ b, (bts s)[k]'hkl = b := ⟨_, rfl⟩
      rw [hb] at hix
      have i1 : (k : Int) < (s.size : Int) := by omega
      cases hbl : blk b
      · have HE := hide (all_not hkl hb hbl)
        clear hb
        go_wp2_with (go_at_call 32; refine (blank_any b _).mono ?_; rintro e w' ⟨rfl, rfl⟩; rw [hbl])
        go_ret
        exact ⟨by rw [HE.out]; rfl, rfl⟩
      · have HN := hide ((all_take hkl hb HA.out).trans hbl)
        clear hb
        go_wp2_with (go_at_call 32; refine (blank_any b _).mono ?_; rintro e w' ⟨rfl, rfl⟩; rw [hbl])
        go_roundw
        case rel => exact ⟨k + 1, by omega, by go_num, HN, trivial⟩
        case measure => simp [intOf]; omega
    · have i1 : ¬ (k : Int) < (s.size : Int) := by omega
      have HE : Hid ((bts s).all blk = true) := hide (by have := HA.out; rwa [List.take_of_length_le (by have := HL.out; omega)] at this)
      go_wp2
      go_ret
      exact ⟨by rw [HE.out]; rfl, rfl⟩


set_option maxRecDepth 100000 in
set_option maxHeartbeats 1000000 in
theorem word_any (sec : Nat) (w : World) : Calls Tryd.prog 31 #[.int .i64 sec] w fun e w' => e = .returned (.string (strB (wordL sec))) ∧ w' = w := by
  have hc : sec = 0 ∨ sec = 1 ∨ sec = 2 ∨ sec = 3 ∨ 4 ≤ sec := by omega
  rcases hc with rfl | rfl | rfl | rfl | h
  · go_enter Tryd.func31, Tryd.ntmps31
    go_wp2
    go_ret
    exact ⟨rfl, rfl⟩
  · go_enter Tryd.func31, Tryd.ntmps31
    go_wp2
    go_ret
    exact ⟨rfl, rfl⟩
  · go_enter Tryd.func31, Tryd.ntmps31
    go_wp2
    go_ret
    exact ⟨rfl, rfl⟩
  · go_enter Tryd.func31, Tryd.ntmps31
    go_wp2
    go_ret
    exact ⟨rfl, rfl⟩
  · have i0 : ((sec : Int) == 0) = false := by rw [beq_eq_false_iff_ne]; omega
    have i1 : ((sec : Int) == 1) = false := by rw [beq_eq_false_iff_ne]; omega
    have i2 : ((sec : Int) == 2) = false := by rw [beq_eq_false_iff_ne]; omega
    have i3 : ((sec : Int) == 3) = false := by rw [beq_eq_false_iff_ne]; omega
    have HE : Hid (wordL sec = wordOf 22) := hide (by
      match sec, h with
      | n + 4, _ => rfl)
    clear h
    go_enter Tryd.func31, Tryd.ntmps31
    go_wp2
    go_ret
    exact ⟨by rw [HE.out]; rfl, rfl⟩


theorem nmF_true {l : List Nat} (h1 : 1 ≤ l.length) (h2 : l.length ≤ 16) (h : l.all isNm = true) : nmF l = true := by unfold nmF; rw [decide_eq_true h1, decide_eq_true h2, h]; rfl
theorem nmF_false {l : List Nat} (h : l.all isNm = false) : nmF l = false := by unfold nmF; rw [h]; simp
theorem nmF_short {l : List Nat} (h : ¬ 1 ≤ l.length) : nmF l = false := by unfold nmF; rw [decide_eq_false h]; rfl
theorem nmF_long {l : List Nat} (h : ¬ l.length ≤ 16) : nmF l = false := by unfold nmF; rw [decide_eq_false h]; simp

set_option maxRecDepth 100000 in
set_option maxHeartbeats 4000000 in
theorem name_any (s : ByteArray) (w : World) : Calls Tryd.prog 40 #[.string s] w fun e w' => e = .returned (.bool (nmF (bts s))) ∧ w' = w := by
  have HL := hide (bts_len s)
  by_cases h1 : s.size < 1
  · have HE := hide (nmF_short (l := bts s) (by rw [HL.out]; omega))
    have i1 : (s.size : Int) < 1 := by omega
    have i2 : decide ((s.size : Int) < 1) = true := decide_eq_true i1
    have i3 : s.size < 1 := h1
    go_enter Tryd.func40, Tryd.ntmps40
    go_wp2
    go_ret
    exact ⟨by rw [HE.out]; rfl, rfl⟩
  · by_cases h2 : s.size ≤ 16
    · have i1 : ¬ (s.size : Int) < 1 := by omega
      have i2 : ¬ (s.size : Int) > 16 := by omega
      go_enter Tryd.func40, Tryd.ntmps40
      go_wp2
      go_loopw [3] (fun i wr => ∃ k : Nat, k ≤ s.size ∧ i = .int .i64 k ∧ Hid (((bts s).take k).all isNm = true) ∧ wr = w) (fun i _ => s.size - (intOf i).toNat)
      case atStart => exact ⟨0, Nat.zero_le _, rfl, hide rfl, rfl⟩
      case round =>
        obtain ⟨k, hk, rfl, HA, hwr⟩ := hrel
        obtain rfl := hwr.symm
        by_cases hlt : k < s.size
        · have hkl : k < (bts s).length := by rw [bts_len]; exact hlt
          have hix := idx_b s k hlt
          obtain ⟨b, hb⟩ : ∃ b, (bts s)[k]'hkl = b := ⟨_, rfl⟩
          rw [hb] at hix
          have j1 : (k : Int) < (s.size : Int) := by omega
          have HB := hide hb
          clear hb
          have hc : b < 39 ∨ b = 39 ∨ (40 ≤ b ∧ b < 48) ∨ (48 ≤ b ∧ b ≤ 57) ∨ (58 ≤ b ∧ b < 65) ∨ (65 ≤ b ∧ b ≤ 90) ∨ (91 ≤ b ∧ b < 95) ∨ b = 95 ∨ b = 96 ∨ (97 ≤ b ∧ b ≤ 122) ∨ 122 < b := by omega
          rcases hc with h | h | h | h | h | h | h | h | h | h | h
          · have e : isNm b = false := by
              rw [Bool.eq_iff_iff]
              simp only [isNm, Bool.or_eq_true, Bool.and_eq_true, Nat.ble_eq, Nat.beq_eq, Bool.false_eq_true, iff_false]
              omega
            have HE := hide (nmF_false (all_not hkl HB.out e))
            clear e
            have : ¬ (b : Int) ≥ 97 := by omega
            have : decide (97 ≤ b) = false := decide_eq_false (by omega)
            have : decide (b ≤ 122) = true := decide_eq_true (by omega)
            have : ¬ (b : Int) ≥ 65 := by omega
            have : decide (65 ≤ b) = false := decide_eq_false (by omega)
            have : decide (b ≤ 90) = true := decide_eq_true (by omega)
            have : ¬ (b : Int) ≥ 48 := by omega
            have : decide (48 ≤ b) = false := decide_eq_false (by omega)
            have : decide (b ≤ 57) = true := decide_eq_true (by omega)
            have : ((b : Int) != 95) = true := by rw [bne_iff_ne]; omega
            have : ((b : Int) != 39) = true := by rw [bne_iff_ne]; omega
            clear h
            go_wp2
            go_ret
            exact ⟨by rw [HE.out]; rfl, rfl⟩
          · have e : isNm b = true := by
              rw [Bool.eq_iff_iff]
              simp only [isNm, Bool.or_eq_true, Bool.and_eq_true, Nat.ble_eq, Nat.beq_eq, iff_true]
              omega
            have HN := hide ((all_take hkl HB.out HA.out).trans e)
            clear e
            have : ¬ (b : Int) ≥ 97 := by omega
            have : decide (97 ≤ b) = false := decide_eq_false (by omega)
            have : decide (b ≤ 122) = true := decide_eq_true (by omega)
            have : ¬ (b : Int) ≥ 65 := by omega
            have : decide (65 ≤ b) = false := decide_eq_false (by omega)
            have : decide (b ≤ 90) = true := decide_eq_true (by omega)
            have : ¬ (b : Int) ≥ 48 := by omega
            have : decide (48 ≤ b) = false := decide_eq_false (by omega)
            have : decide (b ≤ 57) = true := decide_eq_true (by omega)
            have : ((b : Int) != 95) = true := by rw [bne_iff_ne]; omega
            have : ((b : Int) != 39) = false := by rw [bne_eq_false_iff_eq]; omega
            clear h
            go_wp2
            go_roundw
            case rel => exact ⟨k + 1, by omega, by go_num, HN, trivial⟩
            case measure => simp [intOf]; omega
          · have e : isNm b = false := by
              rw [Bool.eq_iff_iff]
              simp only [isNm, Bool.or_eq_true, Bool.and_eq_true, Nat.ble_eq, Nat.beq_eq, Bool.false_eq_true, iff_false]
              omega
            have HE := hide (nmF_false (all_not hkl HB.out e))
            clear e
            have : ¬ (b : Int) ≥ 97 := by omega
            have : decide (97 ≤ b) = false := decide_eq_false (by omega)
            have : decide (b ≤ 122) = true := decide_eq_true (by omega)
            have : ¬ (b : Int) ≥ 65 := by omega
            have : decide (65 ≤ b) = false := decide_eq_false (by omega)
            have : decide (b ≤ 90) = true := decide_eq_true (by omega)
            have : ¬ (b : Int) ≥ 48 := by omega
            have : decide (48 ≤ b) = false := decide_eq_false (by omega)
            have : decide (b ≤ 57) = true := decide_eq_true (by omega)
            have : ((b : Int) != 95) = true := by rw [bne_iff_ne]; omega
            have : ((b : Int) != 39) = true := by rw [bne_iff_ne]; omega
            clear h
            go_wp2
            go_ret
            exact ⟨by rw [HE.out]; rfl, rfl⟩
          · have e : isNm b = true := by
              rw [Bool.eq_iff_iff]
              simp only [isNm, Bool.or_eq_true, Bool.and_eq_true, Nat.ble_eq, Nat.beq_eq, iff_true]
              omega
            have HN := hide ((all_take hkl HB.out HA.out).trans e)
            clear e
            have : ¬ (b : Int) ≥ 97 := by omega
            have : decide (97 ≤ b) = false := decide_eq_false (by omega)
            have : decide (b ≤ 122) = true := decide_eq_true (by omega)
            have : ¬ (b : Int) ≥ 65 := by omega
            have : decide (65 ≤ b) = false := decide_eq_false (by omega)
            have : decide (b ≤ 90) = true := decide_eq_true (by omega)
            have : (b : Int) ≥ 48 := by omega
            have : (b : Int) ≤ 57 := by omega
            have : decide (48 ≤ b) = true := decide_eq_true (by omega)
            have : decide (b ≤ 57) = true := decide_eq_true (by omega)
            have : ((b : Int) != 95) = true := by rw [bne_iff_ne]; omega
            have : ((b : Int) != 39) = true := by rw [bne_iff_ne]; omega
            clear h
            go_wp2
            go_roundw
            case rel => exact ⟨k + 1, by omega, by go_num, HN, trivial⟩
            case measure => simp [intOf]; omega
          · have e : isNm b = false := by
              rw [Bool.eq_iff_iff]
              simp only [isNm, Bool.or_eq_true, Bool.and_eq_true, Nat.ble_eq, Nat.beq_eq, Bool.false_eq_true, iff_false]
              omega
            have HE := hide (nmF_false (all_not hkl HB.out e))
            clear e
            have : ¬ (b : Int) ≥ 97 := by omega
            have : decide (97 ≤ b) = false := decide_eq_false (by omega)
            have : decide (b ≤ 122) = true := decide_eq_true (by omega)
            have : ¬ (b : Int) ≥ 65 := by omega
            have : decide (65 ≤ b) = false := decide_eq_false (by omega)
            have : decide (b ≤ 90) = true := decide_eq_true (by omega)
            have : (b : Int) ≥ 48 := by omega
            have : ¬ (b : Int) ≤ 57 := by omega
            have : decide (48 ≤ b) = true := decide_eq_true (by omega)
            have : decide (b ≤ 57) = false := decide_eq_false (by omega)
            have : ((b : Int) != 95) = true := by rw [bne_iff_ne]; omega
            have : ((b : Int) != 39) = true := by rw [bne_iff_ne]; omega
            clear h
            go_wp2
            go_ret
            exact ⟨by rw [HE.out]; rfl, rfl⟩
          · have e : isNm b = true := by
              rw [Bool.eq_iff_iff]
              simp only [isNm, Bool.or_eq_true, Bool.and_eq_true, Nat.ble_eq, Nat.beq_eq, iff_true]
              omega
            have HN := hide ((all_take hkl HB.out HA.out).trans e)
            clear e
            have : ¬ (b : Int) ≥ 97 := by omega
            have : decide (97 ≤ b) = false := decide_eq_false (by omega)
            have : decide (b ≤ 122) = true := decide_eq_true (by omega)
            have : (b : Int) ≥ 65 := by omega
            have : (b : Int) ≤ 90 := by omega
            have : decide (65 ≤ b) = true := decide_eq_true (by omega)
            have : decide (b ≤ 90) = true := decide_eq_true (by omega)
            have : (b : Int) ≥ 48 := by omega
            have : ¬ (b : Int) ≤ 57 := by omega
            have : decide (48 ≤ b) = true := decide_eq_true (by omega)
            have : decide (b ≤ 57) = false := decide_eq_false (by omega)
            have : ((b : Int) != 95) = true := by rw [bne_iff_ne]; omega
            have : ((b : Int) != 39) = true := by rw [bne_iff_ne]; omega
            clear h
            go_wp2
            go_roundw
            case rel => exact ⟨k + 1, by omega, by go_num, HN, trivial⟩
            case measure => simp [intOf]; omega
          · have e : isNm b = false := by
              rw [Bool.eq_iff_iff]
              simp only [isNm, Bool.or_eq_true, Bool.and_eq_true, Nat.ble_eq, Nat.beq_eq, Bool.false_eq_true, iff_false]
              omega
            have HE := hide (nmF_false (all_not hkl HB.out e))
            clear e
            have : ¬ (b : Int) ≥ 97 := by omega
            have : decide (97 ≤ b) = false := decide_eq_false (by omega)
            have : decide (b ≤ 122) = true := decide_eq_true (by omega)
            have : (b : Int) ≥ 65 := by omega
            have : ¬ (b : Int) ≤ 90 := by omega
            have : decide (65 ≤ b) = true := decide_eq_true (by omega)
            have : decide (b ≤ 90) = false := decide_eq_false (by omega)
            have : (b : Int) ≥ 48 := by omega
            have : ¬ (b : Int) ≤ 57 := by omega
            have : decide (48 ≤ b) = true := decide_eq_true (by omega)
            have : decide (b ≤ 57) = false := decide_eq_false (by omega)
            have : ((b : Int) != 95) = true := by rw [bne_iff_ne]; omega
            have : ((b : Int) != 39) = true := by rw [bne_iff_ne]; omega
            clear h
            go_wp2
            go_ret
            exact ⟨by rw [HE.out]; rfl, rfl⟩
          · have e : isNm b = true := by
              rw [Bool.eq_iff_iff]
              simp only [isNm, Bool.or_eq_true, Bool.and_eq_true, Nat.ble_eq, Nat.beq_eq, iff_true]
              omega
            have HN := hide ((all_take hkl HB.out HA.out).trans e)
            clear e
            have : ¬ (b : Int) ≥ 97 := by omega
            have : decide (97 ≤ b) = false := decide_eq_false (by omega)
            have : decide (b ≤ 122) = true := decide_eq_true (by omega)
            have : (b : Int) ≥ 65 := by omega
            have : ¬ (b : Int) ≤ 90 := by omega
            have : decide (65 ≤ b) = true := decide_eq_true (by omega)
            have : decide (b ≤ 90) = false := decide_eq_false (by omega)
            have : (b : Int) ≥ 48 := by omega
            have : ¬ (b : Int) ≤ 57 := by omega
            have : decide (48 ≤ b) = true := decide_eq_true (by omega)
            have : decide (b ≤ 57) = false := decide_eq_false (by omega)
            have : ((b : Int) != 95) = false := by rw [bne_eq_false_iff_eq]; omega
            have : ((b : Int) != 39) = true := by rw [bne_iff_ne]; omega
            clear h
            go_wp2
            go_roundw
            case rel => exact ⟨k + 1, by omega, by go_num, HN, trivial⟩
            case measure => simp [intOf]; omega
          · have e : isNm b = false := by
              rw [Bool.eq_iff_iff]
              simp only [isNm, Bool.or_eq_true, Bool.and_eq_true, Nat.ble_eq, Nat.beq_eq, Bool.false_eq_true, iff_false]
              omega
            have HE := hide (nmF_false (all_not hkl HB.out e))
            clear e
            have : ¬ (b : Int) ≥ 97 := by omega
            have : decide (97 ≤ b) = false := decide_eq_false (by omega)
            have : decide (b ≤ 122) = true := decide_eq_true (by omega)
            have : (b : Int) ≥ 65 := by omega
            have : ¬ (b : Int) ≤ 90 := by omega
            have : decide (65 ≤ b) = true := decide_eq_true (by omega)
            have : decide (b ≤ 90) = false := decide_eq_false (by omega)
            have : (b : Int) ≥ 48 := by omega
            have : ¬ (b : Int) ≤ 57 := by omega
            have : decide (48 ≤ b) = true := decide_eq_true (by omega)
            have : decide (b ≤ 57) = false := decide_eq_false (by omega)
            have : ((b : Int) != 95) = true := by rw [bne_iff_ne]; omega
            have : ((b : Int) != 39) = true := by rw [bne_iff_ne]; omega
            clear h
            go_wp2
            go_ret
            exact ⟨by rw [HE.out]; rfl, rfl⟩
          · have e : isNm b = true := by
              rw [Bool.eq_iff_iff]
              simp only [isNm, Bool.or_eq_true, Bool.and_eq_true, Nat.ble_eq, Nat.beq_eq, iff_true]
              omega
            have HN := hide ((all_take hkl HB.out HA.out).trans e)
            clear e
            have : (b : Int) ≥ 97 := by omega
            have : (b : Int) ≤ 122 := by omega
            have : decide (97 ≤ b) = true := decide_eq_true (by omega)
            have : decide (b ≤ 122) = true := decide_eq_true (by omega)
            have : (b : Int) ≥ 65 := by omega
            have : ¬ (b : Int) ≤ 90 := by omega
            have : decide (65 ≤ b) = true := decide_eq_true (by omega)
            have : decide (b ≤ 90) = false := decide_eq_false (by omega)
            have : (b : Int) ≥ 48 := by omega
            have : ¬ (b : Int) ≤ 57 := by omega
            have : decide (48 ≤ b) = true := decide_eq_true (by omega)
            have : decide (b ≤ 57) = false := decide_eq_false (by omega)
            have : ((b : Int) != 95) = true := by rw [bne_iff_ne]; omega
            have : ((b : Int) != 39) = true := by rw [bne_iff_ne]; omega
            clear h
            go_wp2
            go_roundw
            case rel => exact ⟨k + 1, by omega, by go_num, HN, trivial⟩
            case measure => simp [intOf]; omega
          · have e : isNm b = false := by
              rw [Bool.eq_iff_iff]
              simp only [isNm, Bool.or_eq_true, Bool.and_eq_true, Nat.ble_eq, Nat.beq_eq, Bool.false_eq_true, iff_false]
              omega
            have HE := hide (nmF_false (all_not hkl HB.out e))
            clear e
            have : (b : Int) ≥ 97 := by omega
            have : ¬ (b : Int) ≤ 122 := by omega
            have : decide (97 ≤ b) = true := decide_eq_true (by omega)
            have : decide (b ≤ 122) = false := decide_eq_false (by omega)
            have : (b : Int) ≥ 65 := by omega
            have : ¬ (b : Int) ≤ 90 := by omega
            have : decide (65 ≤ b) = true := decide_eq_true (by omega)
            have : decide (b ≤ 90) = false := decide_eq_false (by omega)
            have : (b : Int) ≥ 48 := by omega
            have : ¬ (b : Int) ≤ 57 := by omega
            have : decide (48 ≤ b) = true := decide_eq_true (by omega)
            have : decide (b ≤ 57) = false := decide_eq_false (by omega)
            have : ((b : Int) != 95) = true := by rw [bne_iff_ne]; omega
            have : ((b : Int) != 39) = true := by rw [bne_iff_ne]; omega
            clear h
            go_wp2
            go_ret
            exact ⟨by rw [HE.out]; rfl, rfl⟩
        · have j1 : ¬ (k : Int) < (s.size : Int) := by omega
          have HE : Hid (nmF (bts s) = true) := hide (nmF_true (by rw [HL.out]; omega) (by rw [HL.out]; omega) (by have := HA.out; rwa [List.take_of_length_le (by have := HL.out; omega)] at this))
          go_wp2
          go_ret
          exact ⟨by rw [HE.out]; rfl, rfl⟩
    · have HE := hide (nmF_long (l := bts s) (by rw [HL.out]; omega))
      have i1 : ¬ (s.size : Int) < 1 := by omega
      have i2 : (s.size : Int) > 16 := by omega
      have i3 : decide (16 < s.size) = true := decide_eq_true (by omega)
      have i4 : decide (s.size < 1) = false := decide_eq_false (by omega)
      go_enter Tryd.func40, Tryd.ntmps40
      go_wp2
      go_ret
      exact ⟨by rw [HE.out]; rfl, rfl⟩

end Go.Proofs.YtgifamdoolcemaaDoor
