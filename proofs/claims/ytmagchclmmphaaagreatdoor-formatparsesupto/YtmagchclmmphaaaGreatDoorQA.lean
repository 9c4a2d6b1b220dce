import Derived.Test.YtmagchclmmphaaaGreatDoorCkP
import Derived.Lib.Strings
import Derived.Laws.DeepStrings4
namespace Go.Proofs.YtmagchclmmphaaaGreatDoor.rf
open Go.RowKit Go.Maps

theorem bts_extract (s : ByteArray) (a b : Nat) : bts (s.extract a b) = ((bts s).drop a).take (b - a) := by
  unfold bts
  rw [Lib.extract_data, List.map_take, List.map_drop]
theorem bts_take (s : ByteArray) (n : Nat) : bts (s.extract 0 n) = (bts s).take n := by rw [bts_extract]; simp
theorem bts_append (a b : ByteArray) : bts (a ++ b) = bts a ++ bts b := by
  unfold bts
  simp [ByteArray.data_append]
theorem bts_strB (l : List Nat) (h : ∀ b ∈ l, b < 256) : bts (strB l) = l := by
  unfold bts strB
  simp only [List.map_map]
  conv => rhs; rw [← List.map_id l]
  apply List.map_congr_left
  intro b hb
  simp [Nat.mod_eq_of_lt (h b hb)]
theorem idx_b (s : ByteArray) (k : Nat) (h : k < s.size) (W : World) : (Instr.index 9 (.string s) (.int .i64 (k : Int))).run Tryz.prog W = .ok (.int .u8 ((bts s)[k]'(by rw [bts_len]; exact h) : Nat)) W :=
  idx_w s k _ h (bts_get s k h).symm W
theorem below_drewN' {B : Nat} {w w' : World} (h : Below B w w') (q : Nat) : Below B w (w'.drewN q) := ⟨h.os, h.tape, h.output, h.size, h.block⟩
theorem str_beq (a b : ByteArray) : (a.toList == b.toList) = decide (a = b) := by
  rw [Bool.eq_iff_iff, beq_iff_eq, decide_eq_true_iff, ByteArray.toList_eq, ByteArray.toList_eq]
  constructor
  · intro h
    cases a; cases b
    simp at h
    rw [h]
  · rintro rfl; rfl
theorem bts_inj {a b : ByteArray} (h : bts a = bts b) : a = b := by
  cases a with | mk a =>
  cases b with | mk b =>
  unfold bts at h
  simp only at h
  have : a.toList = b.toList := List.map_inj_right (fun x y hxy => UInt8.toNat_inj.1 hxy) |>.1 h
  rw [Array.toList_inj.1 this]
end Go.Proofs.YtmagchclmmphaaaGreatDoor.rf
namespace Go.Proofs.YtmagchclmmphaaaGreatDoor.rf
open Go.RowKit Go.Maps

/-! ### What the document's answer reckons, on lists of bytes -/
def blk (c : Nat) : Bool := c == 32 || c == 9
def nmF (l : List Nat) : Bool := decide (1 ≤ l.length) && (decide (l.length ≤ 16) && l.all isNm)
def nmLen (l : List Nat) : Nat := min 16 (l.takeWhile isNm).length
def wordL : Nat → List Nat
  | 0 => wordOf 1 | 1 => wordOf 7 | 2 => wordOf 12 | 3 => wordOf 17 | _ => wordOf 22
def skipF (l : List Nat) : List Nat := l.dropWhile blk

set_option maxRecDepth 100000 in
set_option maxHeartbeats 1000000 in
theorem blank_any (c : Nat) (w : World) : Calls Tryz.prog 95 #[.int .u8 c] w fun e w' => e = .returned (.bool (blk c)) ∧ w' = w := by
  by_cases h1 : c = 32
  · have e : blk c = true := by subst h1; rfl
    have i1 : ((c : Int) == 32) = true := by rw [beq_iff_eq]; omega
    have HE := hide e
    clear e h1
    go_enter Tryz.func95, Tryz.ntmps95
    go_wp2
    go_ret
    exact ⟨by rw [HE.out]; first | rfl | simp, rfl⟩
  · have i1 : ((c : Int) == 32) = false := by rw [beq_eq_false_iff_ne]; omega
    by_cases h2 : c = 9
    · have e : blk c = true := by subst h2; rfl
      have i2 : ((c : Int) == 9) = true := by rw [beq_iff_eq]; omega
      have HE := hide e
      clear e h1 h2
      go_enter Tryz.func95, Tryz.ntmps95
      go_wp2
      go_ret
      exact ⟨by rw [HE.out]; first | rfl | simp, rfl⟩
    · have e : blk c = false := by simp [blk, h1, h2]
      have i2 : ((c : Int) == 9) = false := by rw [beq_eq_false_iff_ne]; omega
      have HE := hide e
      clear e h1 h2
      go_enter Tryz.func95, Tryz.ntmps95
      go_wp2
      go_ret
      exact ⟨by rw [HE.out]; first | rfl | simp, rfl⟩

theorem all_take {p : Nat → Bool} {l : List Nat} {k b : Nat} (hk : k < l.length) (hb : l[k] = b) (h : (l.take k).all p = true) : (l.take (k + 1)).all p = p b := by
  rw [List.take_succ_eq_append_getElem hk, List.all_append, h, hb]
  simp
theorem all_not {p : Nat → Bool} {l : List Nat} {k b : Nat} (hk : k < l.length) (hb : l[k] = b) (h : p b = false) : l.all p = false := by
  rw [List.all_eq_false]
  exact ⟨b, hb ▸ List.getElem_mem hk, by rw [h]; exact Bool.false_ne_true⟩

set_option maxRecDepth 100000 in
set_option maxHeartbeats 1000000 in
theorem blanks_any (s : ByteArray) (w : World) (hs : s.size ≤ 268435456) : Calls Tryz.prog 78 #[.string s] w fun e w' => e = .returned (.bool ((bts s).all blk)) ∧ w' = w := by
  have HL := hide (bts_len s)
  go_enter Tryz.func78, Tryz.ntmps78
  go_wp2
  go_loopw [3] (fun i wr => ∃ k : Nat, k ≤ s.size ∧ i = .int .i64 k ∧ Hid (((bts s).take k).all blk = true) ∧ wr = w) (fun i _ => s.size - (intOf i).toNat)
  case atStart => exact ⟨0, Nat.zero_le _, rfl, hide rfl, rfl⟩
  case round =>
    obtain ⟨k, hk, rfl, HA, hwr⟩ := hrel
    obtain rfl := hwr.symm
    by_cases hlt : k < s.size
    · have hkl : k < (bts s).length := by rw [bts_len]; exact hlt
      have hix := idx_b s k hlt
      obtain ⟨b, hb⟩ : ∃ b, (bts s)[k]'hkl = b := ⟨_, rfl⟩
      rw [hb] at hix
      have i1 : (k : Int) < (s.size : Int) := by omega
      cases hbl : blk b
      · have HE := hide (all_not hkl hb hbl)
        clear hb
        go_wp2_with (go_at_call 95; refine (blank_any b _).mono ?_; rintro e w' ⟨rfl, rfl⟩; rw [hbl])
        go_ret
        exact ⟨by rw [HE.out]; rfl, rfl⟩
      · have HN := hide ((all_take hkl hb HA.out).trans hbl)
        clear hb
        go_wp2_with (go_at_call 95; refine (blank_any b _).mono ?_; rintro e w' ⟨rfl, rfl⟩; rw [hbl])
        go_roundw
        case rel => exact ⟨k + 1, by omega, by go_num, HN, trivial⟩
        case measure => simp [intOf]; omega
    · have i1 : ¬ (k : Int) < (s.size : Int) := by omega
      have HE : Hid ((bts s).all blk = true) := hide (by have := HA.out; rwa [List.take_of_length_le (by have := HL.out; omega)] at this)
      go_wp2
      go_ret
      exact ⟨by rw [HE.out]; rfl, rfl⟩


set_option maxRecDepth 100000 in
set_option maxHeartbeats 1000000 in
theorem word_any (sec : Nat) (w : World) : Calls Tryz.prog 80 #[.int .i64 sec] w fun e w' => e = .returned (.string (strB (wordL sec))) ∧ w' = w := by
  have hc : sec = 0 ∨ sec = 1 ∨ sec = 2 ∨ sec = 3 ∨ 4 ≤ sec := by omega
  rcases hc with rfl | rfl | rfl | rfl | h
  · go_enter Tryz.func80, Tryz.ntmps80
    go_wp2
    go_ret
    exact ⟨rfl, rfl⟩
  · go_enter Tryz.func80, Tryz.ntmps80
    go_wp2
    go_ret
    exact ⟨rfl, rfl⟩
  · go_enter Tryz.func80, Tryz.ntmps80
    go_wp2
    go_ret
    exact ⟨rfl, rfl⟩
  · go_enter Tryz.func80, Tryz.ntmps80
    go_wp2
    go_ret
    exact ⟨rfl, rfl⟩
  · have i0 : ((sec : Int) == 0) = false := by rw [beq_eq_false_iff_ne]; omega
    have i1 : ((sec : Int) == 1) = false := by rw [beq_eq_false_iff_ne]; omega
    have i2 : ((sec : Int) == 2) = false := by rw [beq_eq_false_iff_ne]; omega
    have i3 : ((sec : Int) == 3) = false := by rw [beq_eq_false_iff_ne]; omega
    have HE : Hid (wordL sec = wordOf 22) := hide (by
      match sec, h with
      | n + 4, _ => rfl)
    clear h
    go_enter Tryz.func80, Tryz.ntmps80
    go_wp2
    go_ret
    exact ⟨by rw [HE.out]; rfl, rfl⟩


theorem nmF_true {l : List Nat} (h1 : 1 ≤ l.length) (h2 : l.length ≤ 16) (h : l.all isNm = true) : nmF l = true := by unfold nmF; rw [decide_eq_true h1, decide_eq_true h2, h]; rfl
theorem nmF_false {l : List Nat} (h : l.all isNm = false) : nmF l = false := by unfold nmF; rw [h]; simp
theorem nmF_short {l : List Nat} (h : ¬ 1 ≤ l.length) : nmF l = false := by unfold nmF; rw [decide_eq_false h]; rfl
theorem nmF_long {l : List Nat} (h : ¬ l.length ≤ 16) : nmF l = false := by unfold nmF; rw [decide_eq_false h]; simp

set_option maxRecDepth 100000 in
set_option maxHeartbeats 4000000 in
theorem name_any (s : ByteArray) (w : World) : Calls Tryz.prog 59 #[.string s] w fun e w' => e = .returned (.bool (nmF (bts s))) ∧ w' = w := by
  have HL := hide (bts_len s)
  by_cases h1 : s.size < 1
  · have HE := hide (nmF_short (l := bts s) (by rw [HL.out]; omega))
    have i1 : (s.size : Int) < 1 := by omega
    have i2 : decide ((s.size : Int) < 1) = true := decide_eq_true i1
    have i3 : s.size < 1 := h1
    go_enter Tryz.func59, Tryz.ntmps59
    go_wp2
    go_ret
    exact ⟨by rw [HE.out]; rfl, rfl⟩
  · by_cases h2 : s.size ≤ 16
    · have i1 : ¬ (s.size : Int) < 1 := by omega
      have i2 : ¬ (s.size : Int) > 16 := by omega
      go_enter Tryz.func59, Tryz.ntmps59
      go_wp2
      go_loopw [3] (fun i wr => ∃ k : Nat, k ≤ s.size ∧ i = .int .i64 k ∧ Hid (((bts s).take k).all isNm = true) ∧ wr = w) (fun i _ => s.size - (intOf i).toNat)
      case atStart => exact ⟨0, Nat.zero_le _, rfl, hide rfl, rfl⟩
      case round =>
        obtain ⟨k, hk, rfl, HA, hwr⟩ := hrel
        obtain rfl := hwr.symm
        by_cases hlt : k < s.size
        · have hkl : k < (bts s).length := by rw [bts_len]; exact hlt
          have hix := idx_b s k hlt
          obtain ⟨b, hb⟩ : ∃ b, (bts s)[k]'hkl = b := ⟨_, rfl⟩
          rw [hb] at hix
          have j1 : (k : Int) < (s.size : Int) := by omega
          have HB := hide hb
          clear hb
          have hc : b < 39 ∨ b = 39 ∨ (40 ≤ b ∧ b < 48) ∨ (48 ≤ b ∧ b ≤ 57) ∨ (58 ≤ b ∧ b < 65) ∨ (65 ≤ b ∧ b ≤ 90) ∨ (91 ≤ b ∧ b < 95) ∨ b = 95 ∨ b = 96 ∨ (97 ≤ b ∧ b ≤ 122) ∨ 122 < b := by omega
          rcases hc with h | h | h | h | h | h | h | h | h | h | h
          · have e : isNm b = false := by
              rw [Bool.eq_iff_iff]
              simp only [isNm, Bool.or_eq_true, Bool.and_eq_true, Nat.ble_eq, Nat.beq_eq, Bool.false_eq_true, iff_false]
              omega
            have HE := hide (nmF_false (all_not hkl HB.out e))
            clear e
            have : ¬ (b : Int) ≥ 97 := by omega
            have : decide (97 ≤ b) = false := decide_eq_false (by omega)
            have : decide (b ≤ 122) = true := decide_eq_true (by omega)
            have : ¬ (b : Int) ≥ 65 := by omega
            have : decide (65 ≤ b) = false := decide_eq_false (by omega)
            have : decide (b ≤ 90) = true := decide_eq_true (by omega)
            have : ¬ (b : Int) ≥ 48 := by omega
            have : decide (48 ≤ b) = false := decide_eq_false (by omega)
            have : decide (b ≤ 57) = true := decide_eq_true (by omega)
            have : ((b : Int) != 95) = true := by rw [bne_iff_ne]; omega
            have : ((b : Int) != 39) = true := by rw [bne_iff_ne]; omega
            clear h
            go_wp2
            go_ret
            exact ⟨by rw [HE.out]; rfl, rfl⟩
          · have e : isNm b = true := by
              rw [Bool.eq_iff_iff]
              simp only [isNm, Bool.or_eq_true, Bool.and_eq_true, Nat.ble_eq, Nat.beq_eq, iff_true]
              omega
            have HN := hide ((all_take hkl HB.out HA.out).trans e)
            clear e
            have : ¬ (b : Int) ≥ 97 := by omega
            have : decide (97 ≤ b) = false := decide_eq_false (by omega)
            have : decide (b ≤ 122) = true := decide_eq_true (by omega)
            have : ¬ (b : Int) ≥ 65 := by omega
            have : decide (65 ≤ b) = false := decide_eq_false (by omega)
            have : decide (b ≤ 90) = true := decide_eq_true (by omega)
            have : ¬ (b : Int) ≥ 48 := by omega
            have : decide (48 ≤ b) = false := decide_eq_false (by omega)
            have : decide (b ≤ 57) = true := decide_eq_true (by omega)
            have : ((b : Int) != 95) = true := by rw [bne_iff_ne]; omega
            have : ((b : Int) != 39) = false := by rw [bne_eq_false_iff_eq]; omega
            clear h
            go_wp2
            go_roundw
            case rel => exact ⟨k + 1, by omega, by go_num, HN, trivial⟩
            case measure => simp [intOf]; omega
          · have e : isNm b = false := by
              rw [Bool.eq_iff_iff]
              simp only [isNm, Bool.or_eq_true, Bool.and_eq_true, Nat.ble_eq, Nat.beq_eq, Bool.false_eq_true, iff_false]
              omega
            have HE := hide (nmF_false (all_not hkl HB.out e))
            clear e
            have : ¬ (b : Int) ≥ 97 := by omega
            have : decide (97 ≤ b) = false := decide_eq_false (by omega)
            have : decide (b ≤ 122) = true := decide_eq_true (by omega)
            have : ¬ (b : Int) ≥ 65 := by omega
            have : decide (65 ≤ b) = false := decide_eq_false (by omega)
            have : decide (b ≤ 90) = true := decide_eq_true (by omega)
            have : ¬ (b : Int) ≥ 48 := by omega
            have : decide (48 ≤ b) = false := decide_eq_false (by omega)
            have : decide (b ≤ 57) = true := decide_eq_true (by omega)
            have : ((b : Int) != 95) = true := by rw [bne_iff_ne]; omega
            have : ((b : Int) != 39) = true := by rw [bne_iff_ne]; omega
            clear h
            go_wp2
            go_ret
            exact ⟨by rw [HE.out]; rfl, rfl⟩
          · have e : isNm b = true := by
              rw [Bool.eq_iff_iff]
              simp only [isNm, Bool.or_eq_true, Bool.and_eq_true, Nat.ble_eq, Nat.beq_eq, iff_true]
              omega
            have HN := hide ((all_take hkl HB.out HA.out).trans e)
            clear e
            have : ¬ (b : Int) ≥ 97 := by omega
            have : decide (97 ≤ b) = false := decide_eq_false (by omega)
            have : decide (b ≤ 122) = true := decide_eq_true (by omega)
            have : ¬ (b : Int) ≥ 65 := by omega
            have : decide (65 ≤ b) = false := decide_eq_false (by omega)
            have : decide (b ≤ 90) = true := decide_eq_true (by omega)
            have : (b : Int) ≥ 48 := by omega
            have : (b : Int) ≤ 57 := by omega
            have : decide (48 ≤ b) = true := decide_eq_true (by omega)
            have : decide (b ≤ 57) = true := decide_eq_true (by omega)
            have : ((b : Int) != 95) = true := by rw [bne_iff_ne]; omega
            have : ((b : Int) != 39) = true := by rw [bne_iff_ne]; omega
            clear h
            go_wp2
            go_roundw
            case rel => exact ⟨k + 1, by omega, by go_num, HN, trivial⟩
            case measure => simp [intOf]; omega
          · have e : isNm b = false := by
              rw [Bool.eq_iff_iff]
              simp only [isNm, Bool.or_eq_true, Bool.and_eq_true, Nat.ble_eq, Nat.beq_eq, Bool.false_eq_true, iff_false]
              omega
            have HE := hide (nmF_false (all_not hkl HB.out e))
            clear e
            have : ¬ (b : Int) ≥ 97 := by omega
            have : decide (97 ≤ b) = false := decide_eq_false (by omega)
            have : decide (b ≤ 122) = true := decide_eq_true (by omega)
            have : ¬ (b : Int) ≥ 65 := by omega
            have : decide (65 ≤ b) = false := decide_eq_false (by omega)
            have : decide (b ≤ 90) = true := decide_eq_true (by omega)
            have : (b : Int) ≥ 48 := by omega
            have : ¬ (b : Int) ≤ 57 := by omega
            have : decide (48 ≤ b) = true := decide_eq_true (by omega)
            have : decide (b ≤ 57) = false := decide_eq_false (by omega)
            have : ((b : Int) != 95) = true := by rw [bne_iff_ne]; omega
            have : ((b : Int) != 39) = true := by rw [bne_iff_ne]; omega
            clear h
            go_wp2
            go_ret
            exact ⟨by rw [HE.out]; rfl, rfl⟩
          · have e : isNm b = true := by
              rw [Bool.eq_iff_iff]
              simp only [isNm, Bool.or_eq_true, Bool.and_eq_true, Nat.ble_eq, Nat.beq_eq, iff_true]
              omega
            have HN := hide ((all_take hkl HB.out HA.out).trans e)
            clear e
            have : ¬ (b : Int) ≥ 97 := by omega
            have : decide (97 ≤ b) = false := decide_eq_false (by omega)
            have : decide (b ≤ 122) = true := decide_eq_true (by omega)
            have : (b : Int) ≥ 65 := by omega
            have : (b : Int) ≤ 90 := by omega
            have : decide (65 ≤ b) = true := decide_eq_true (by omega)
            have : decide (b ≤ 90) = true := decide_eq_true (by omega)
            have : (b : Int) ≥ 48 := by omega
            have : ¬ (b : Int) ≤ 57 := by omega
            have : decide (48 ≤ b) = true := decide_eq_true (by omega)
            have : decide (b ≤ 57) = false := decide_eq_false (by omega)
            have : ((b : Int) != 95) = true := by rw [bne_iff_ne]; omega
            have : ((b : Int) != 39) = true := by rw [bne_iff_ne]; omega
            clear h
            go_wp2
            go_roundw
            case rel => exact ⟨k + 1, by omega, by go_num, HN, trivial⟩
            case measure => simp [intOf]; omega
          · have e : isNm b = false := by
              rw [Bool.eq_iff_iff]
              simp only [isNm, Bool.or_eq_true, Bool.and_eq_true, Nat.ble_eq, Nat.beq_eq, Bool.false_eq_true, iff_false]
              omega
            have HE := hide (nmF_false (all_not hkl HB.out e))
            clear e
            have : ¬ (b : Int) ≥ 97 := by omega
            have : decide (97 ≤ b) = false := decide_eq_false (by omega)
            have : decide (b ≤ 122) = true := decide_eq_true (by omega)
            have : (b : Int) ≥ 65 := by omega
            have : ¬ (b : Int) ≤ 90 := by omega
            have : decide (65 ≤ b) = true := decide_eq_true (by omega)
            have : decide (b ≤ 90) = false := decide_eq_false (by omega)
            have : (b : Int) ≥ 48 := by omega
            have : ¬ (b : Int) ≤ 57 := by omega
            have : decide (48 ≤ b) = true := decide_eq_true (by omega)
            have : decide (b ≤ 57) = false := decide_eq_false (by omega)
            have : ((b : Int) != 95) = true := by rw [bne_iff_ne]; omega
            have : ((b : Int) != 39) = true := by rw [bne_iff_ne]; omega
            clear h
            go_wp2
            go_ret
            exact ⟨by rw [HE.out]; rfl, rfl⟩
          · have e : isNm b = true := by
              rw [Bool.eq_iff_iff]
              simp only [isNm, Bool.or_eq_true, Bool.and_eq_true, Nat.ble_eq, Nat.beq_eq, iff_true]
              omega
            have HN := hide ((all_take hkl HB.out HA.out).trans e)
            clear e
            have : ¬ (b : Int) ≥ 97 := by omega
            have : decide (97 ≤ b) = false := decide_eq_false (by omega)
            have : decide (b ≤ 122) = true := decide_eq_true (by omega)
            have : (b : Int) ≥ 65 := by omega
            have : ¬ (b : Int) ≤ 90 := by omega
            have : decide (65 ≤ b) = true := decide_eq_true (by omega)
            have : decide (b ≤ 90) = false := decide_eq_false (by omega)
            have : (b : Int) ≥ 48 := by omega
            have : ¬ (b : Int) ≤ 57 := by omega
            have : decide (48 ≤ b) = true := decide_eq_true (by omega)
            have : decide (b ≤ 57) = false := decide_eq_false (by omega)
            have : ((b : Int) != 95) = false := by rw [bne_eq_false_iff_eq]; omega
            have : ((b : Int) != 39) = true := by rw [bne_iff_ne]; omega
            clear h
            go_wp2
            go_roundw
            case rel => exact ⟨k + 1, by omega, by go_num, HN, trivial⟩
            case measure => simp [intOf]; omega
          · have e : isNm b = false := by
              rw [Bool.eq_iff_iff]
              simp only [isNm, Bool.or_eq_true, Bool.and_eq_true, Nat.ble_eq, Nat.beq_eq, Bool.false_eq_true, iff_false]
              omega
            have HE := hide (nmF_false (all_not hkl HB.out e))
            clear e
            have : ¬ (b : Int) ≥ 97 := by omega
            have : decide (97 ≤ b) = false := decide_eq_false (by omega)
            have : decide (b ≤ 122) = true := decide_eq_true (by omega)
            have : (b : Int) ≥ 65 := by omega
            have : ¬ (b : Int) ≤ 90 := by omega
            have : decide (65 ≤ b) = true := decide_eq_true (by omega)
            have : decide (b ≤ 90) = false := decide_eq_false (by omega)
            have : (b : Int) ≥ 48 := by omega
            have : ¬ (b : Int) ≤ 57 := by omega
            have : decide (48 ≤ b) = true := decide_eq_true (by omega)
            have : decide (b ≤ 57) = false := decide_eq_false (by omega)
            have : ((b : Int) != 95) = true := by rw [bne_iff_ne]; omega
            have : ((b : Int) != 39) = true := by rw [bne_iff_ne]; omega
            clear h
            go_wp2
            go_ret
            exact ⟨by rw [HE.out]; rfl, rfl⟩
          · have e : isNm b = true := by
              rw [Bool.eq_iff_iff]
              simp only [isNm, Bool.or_eq_true, Bool.and_eq_true, Nat.ble_eq, Nat.beq_eq, iff_true]
              omega
            have HN := hide ((all_take hkl HB.out HA.out).trans e)
            clear e
            have : (b : Int) ≥ 97 := by omega
            have : (b : Int) ≤ 122 := by omega
            have : decide (97 ≤ b) = true := decide_eq_true (by omega)
            have : decide (b ≤ 122) = true := decide_eq_true (by omega)
            have : (b : Int) ≥ 65 := by omega
            have : ¬ (b : Int) ≤ 90 := by omega
            have : decide (65 ≤ b) = true := decide_eq_true (by omega)
            have : decide (b ≤ 90) = false := decide_eq_false (by omega)
            have : (b : Int) ≥ 48 := by omega
            have : ¬ (b : Int) ≤ 57 := by omega
            have : decide (48 ≤ b) = true := decide_eq_true (by omega)
            have : decide (b ≤ 57) = false := decide_eq_false (by omega)
            have : ((b : Int) != 95) = true := by rw [bne_iff_ne]; omega
            have : ((b : Int) != 39) = true := by rw [bne_iff_ne]; omega
            clear h
            go_wp2
            go_roundw
            case rel => exact ⟨k + 1, by omega, by go_num, HN, trivial⟩
            case measure => simp [intOf]; omega
          · have e : isNm b = false := by
              rw [Bool.eq_iff_iff]
              simp only [isNm, Bool.or_eq_true, Bool.and_eq_true, Nat.ble_eq, Nat.beq_eq, Bool.false_eq_true, iff_false]
              omega
            have HE := hide (nmF_false (all_not hkl HB.out e))
            clear e
            have : (b : Int) ≥ 97 := by omega
            have : ¬ (b : Int) ≤ 122 := by omega
            have : decide (97 ≤ b) = true := decide_eq_true (by omega)
            have : decide (b ≤ 122) = false := decide_eq_false (by omega)
            have : (b : Int) ≥ 65 := by omega
            have : ¬ (b : Int) ≤ 90 := by omega
            have : decide (65 ≤ b) = true := decide_eq_true (by omega)
            have : decide (b ≤ 90) = false := decide_eq_false (by omega)
            have : (b : Int) ≥ 48 := by omega
            have : ¬ (b : Int) ≤ 57 := by omega
            have : decide (48 ≤ b) = true := decide_eq_true (by omega)
            have : decide (b ≤ 57) = false := decide_eq_false (by omega)
            have : ((b : Int) != 95) = true := by rw [bne_iff_ne]; omega
            have : ((b : Int) != 39) = true := by rw [bne_iff_ne]; omega
            clear h
            go_wp2
            go_ret
            exact ⟨by rw [HE.out]; rfl, rfl⟩
        · have j1 : ¬ (k : Int) < (s.size : Int) := by omega
          have HE : Hid (nmF (bts s) = true) := hide (nmF_true (by rw [HL.out]; omega) (by rw [HL.out]; omega) (by have := HA.out; rwa [List.take_of_length_le (by have := HL.out; omega)] at this))
          go_wp2
          go_ret
          exact ⟨by rw [HE.out]; rfl, rfl⟩
    · have HE := hide (nmF_long (l := bts s) (by rw [HL.out]; omega))
      have i1 : ¬ (s.size : Int) < 1 := by omega
      have i2 : (s.size : Int) > 16 := by omega
      have i3 : decide (16 < s.size) = true := decide_eq_true (by omega)
      have i4 : decide (s.size < 1) = false := decide_eq_false (by omega)
      go_enter Tryz.func59, Tryz.ntmps59
      go_wp2
      go_ret
      exact ⟨by rw [HE.out]; rfl, rfl⟩

end Go.Proofs.YtmagchclmmphaaaGreatDoor.rf
namespace Go.Proofs.YtmagchclmmphaaaGreatDoor.rf
open Go.RowKit Go.Maps

def strSz : Value → Nat
  | .string s => s.size
  | _ => 0
theorem bts_tail (s : ByteArray) (k : Nat) : bts (s.extract k s.size) = (bts s).drop k := by
  rw [bts_extract, List.take_of_length_le]
  rw [List.length_drop, bts_len]
  exact Nat.le_refl _
theorem bts_empty (s : ByteArray) : (s.toList == []) = decide (bts s = []) := by
  rw [Bool.eq_iff_iff, beq_iff_eq, decide_eq_true_iff, ByteArray.toList_eq]
  unfold bts
  simp

set_option maxRecDepth 100000 in
set_option maxHeartbeats 1000000 in
theorem skip_any (s : ByteArray) (w : World) (_hs : s.size ≤ 268435456) : Calls Tryz.prog 97 #[.string s] w fun e w' => ∃ r, e = .returned (.string r) ∧ bts r = skipF (bts s) ∧ w' = w := by
  go_enter Tryz.func97, Tryz.ntmps97
  go_wp2
  go_loopw [0] (fun v wr => ∃ r : ByteArray, v = .string r ∧ r.size ≤ s.size ∧ Hid (skipF (bts r) = skipF (bts s)) ∧ wr = w) (fun v _ => strSz v)
  case atStart => exact ⟨s, rfl, Nat.le_refl _, hide rfl, rfl⟩
  case round =>
    obtain ⟨r, rfl, hr, HR, hwr⟩ := hrel
    obtain rfl := hwr.symm
    have hem := bts_empty r
    by_cases h0 : 0 < r.size
    · have hl : 0 < (bts r).length := by rw [bts_len]; exact h0
      have hne : decide (bts r = []) = false := decide_eq_false (fun e => by rw [e] at hl; simp at hl)
      rw [hne] at hem
      have hix := idx_b r 0 h0
      obtain ⟨b, hb⟩ : ∃ b, (bts r)[0]'hl = b := ⟨_, rfl⟩
      rw [hb] at hix
      have hix' : ∀ W : World, (Instr.index 9 (.string r) (.int .i64 0)).run Tryz.prog W = .ok (.int .u8 (b : Nat)) W := hix
      have hcons : bts r = b :: (bts r).drop 1 := by rw [← hb, List.getElem_cons_drop]; rfl
      have i1 : (1 : Int) ≤ (r.size : Int) := by omega
      have HC := hide hcons
      clear hix hb hcons hne hl
      cases hbl : blk b
      · have HE : Hid (bts r = skipF (bts s)) := hide (by rw [← HR.out, HC.out]; unfold skipF; rw [List.dropWhile_cons, hbl]; rfl)
        go_wp2_with (go_at_call 95; refine (blank_any b _).mono ?_; rintro e w' ⟨rfl, rfl⟩; rw [hbl])
        go_ret
        exact ⟨_, rfl, HE.out, rfl⟩
      · have HE : Hid (skipF (bts (r.extract 1 r.size)) = skipF (bts s)) := hide (by
          rw [← HR.out, bts_tail]
          conv => rhs; rw [HC.out]
          unfold skipF
          rw [List.dropWhile_cons, hbl]
          rfl)
        go_wp2_with (go_at_call 95; refine (blank_any b _).mono ?_; rintro e w' ⟨rfl, rfl⟩; rw [hbl])
        go_roundw
        case rel => exact ⟨_, rfl, by rw [ByteArray.size_extract]; omega, HE, trivial⟩
        case measure => simp [strSz]; omega
    · have h00 : bts r = [] := List.eq_nil_of_length_eq_zero (by rw [bts_len]; omega)
      have hne : decide (bts r = []) = true := decide_eq_true h00
      rw [hne] at hem
      have HE : Hid (bts r = skipF (bts s)) := hide (by rw [← HR.out, h00]; rfl)
      clear h00 hne
      go_wp2
      go_ret
      exact ⟨_, rfl, HE.out, rfl⟩

theorem nmLen_at {l : List Nat} {k : Nat} (hk : k ≤ l.length) (h16 : k ≤ 16) (h : (l.take k).all isNm = true) (hn : k = l.length ∨ k = 16 ∨ ∃ b, l[k]? = some b ∧ isNm b = false) : nmLen l = k := by
  have hge : k ≤ (l.takeWhile isNm).length := by
    have e : l.takeWhile isNm = l.take k ++ (l.drop k).takeWhile isNm := by
      conv => lhs; rw [← List.take_append_drop k l]
      rw [List.takeWhile_append_of_pos (List.all_eq_true.1 h)]
    rw [e]
    simp
    omega
  unfold nmLen
  rcases hn with e | e | ⟨b, hb, hbn⟩
  · have := (List.takeWhile_sublist isNm (l := l)).length_le
    omega
  · omega
  · have e : l.takeWhile isNm = l.take k := by
      obtain ⟨hkl, hb2⟩ := List.getElem?_eq_some_iff.1 hb
      conv => lhs; rw [← List.take_append_drop k l]
      rw [List.takeWhile_append_of_pos (List.all_eq_true.1 h), List.drop_eq_getElem_cons hkl, hb2, List.takeWhile_cons, hbn]
      simp
    rw [e]
    simp
    omega

set_option maxRecDepth 100000 in
set_option maxHeartbeats 1000000 in
theorem named_any (s : ByteArray) (w : World) (_hs : s.size ≤ 268435456) : Calls Tryz.prog 96 #[.string s] w fun e w' => ∃ r, e = .returned (.tuple #[.string r, .bool (decide (0 < nmLen (bts s)))]) ∧ bts r = (bts s).drop (nmLen (bts s)) ∧ w' = w := by
  have HL := hide (bts_len s)
  go_enter Tryz.func96, Tryz.ntmps96
  go_wp2
  go_loopw [4] (fun i wr => ∃ k : Nat, k ≤ s.size ∧ k ≤ 16 ∧ i = .int .i64 k ∧ Hid (((bts s).take k).all isNm = true) ∧ wr = w) (fun i _ => s.size - (intOf i).toNat)
  case atStart => exact ⟨0, Nat.zero_le _, Nat.zero_le _, rfl, hide rfl, rfl⟩
  case round =>
    obtain ⟨k, hk, h16, rfl, HA, hwr⟩ := hrel
    obtain rfl := hwr.symm
    have k0 : (0 : Int) ≤ (k : Int) := by omega
    have k1 : (k : Int) ≤ (s.size : Int) := by omega
    have fin : nmLen (bts s) = k → Hid ((decide (0 < nmLen (bts s)) = decide ((k : Int) > 0)) ∧ bts (s.extract k s.size) = (bts s).drop (nmLen (bts s))) := fun h => hide ⟨by rw [h, Bool.eq_iff_iff, decide_eq_true_iff, decide_eq_true_iff]; omega, by rw [h, bts_tail]⟩
    by_cases hlt : k < s.size
    · have hkl : k < (bts s).length := by rw [bts_len]; exact hlt
      obtain ⟨b, hb⟩ : ∃ b, (bts s)[k]'hkl = b := ⟨_, rfl⟩
      have i1 : (k : Int) < (s.size : Int) := by omega
      have i2 : decide (k < s.size) = true := decide_eq_true hlt
      have i3 : (k : Int) + 1 ≤ (s.size : Int) := by omega
      have i4 : (0 : Int) ≤ (k : Int) + 1 := by omega
      have hnm := name_any (s.extract 0 (k + 1))
      rw [bts_take] at hnm
      have hall := all_take (p := isNm) hkl hb HA.out
      by_cases hgo : k + 1 ≤ 16 ∧ isNm b = true
      · rw [nmF_true (by simp; omega) (by simp; omega) (hall.trans hgo.2)] at hnm
        have HN := hide (And.intro hgo.1 (hall.trans hgo.2))
        clear hgo hall hb fin
        go_wp2_with (go_at_call 59; refine (hnm _).mono ?_; rintro e w' ⟨rfl, rfl⟩)
        go_roundw
        case rel => exact ⟨k + 1, by omega, HN.out.1, by go_num, hide HN.out.2, trivial⟩
        case measure => simp [intOf]; omega
      · have hF : nmF ((bts s).take (k + 1)) = false := by
          by_cases h : k + 1 ≤ 16
          · refine nmF_false ?_
            rw [hall]
            cases hb' : isNm b
            · rfl
            · exact absurd ⟨h, hb'⟩ hgo
          · exact nmF_long (by simp; omega)
        rw [hF] at hnm
        have hk' := nmLen_at (by rw [bts_len]; exact hk) h16 HA.out (by
          by_cases h : k = 16
          · exact .inr (.inl h)
          · refine .inr (.inr ⟨b, by rw [List.getElem?_eq_getElem hkl, hb], ?_⟩)
            cases hb' : isNm b
            · rfl
            · exact absurd ⟨by omega, hb'⟩ hgo)
        have HF := fin hk'
        clear hgo hall hb fin hF hk'
        go_wp2_with (go_at_call 59; refine (hnm _).mono ?_; rintro e w' ⟨rfl, rfl⟩)
        go_ret2
        exact ⟨_, by rw [HF.out.1]; first | rfl | simp, HF.out.2, rfl⟩
    · have i1 : ¬ (k : Int) < (s.size : Int) := by omega
      have i2 : decide (k < s.size) = false := decide_eq_false hlt
      have hk' := nmLen_at (by rw [bts_len]; exact hk) h16 HA.out (.inl (by rw [bts_len]; omega))
      have HF := fin hk'
      clear fin hk'
      go_wp2
      go_ret2
      exact ⟨_, by rw [HF.out.1]; first | rfl | simp, HF.out.2, rfl⟩
end Go.Proofs.YtmagchclmmphaaaGreatDoor.rf
namespace Go.Proofs.YtmagchclmmphaaaGreatDoor.rf
open Go.RowKit Go.Maps

def opF (l : List Nat) : Bool × Bool :=
  if nmF l = true then (false, true)
  else if 2 ≤ l.length ∧ l.getD (l.length - 1) 0 = 58 then (false, nmF (l.take (l.length - 1)))
  else
    let whole := decide (3 ≤ l.length ∧ l.getD (l.length - 2) 0 = 58 ∧ (l.getD (l.length - 1) 0 = 48 ∨ l.getD (l.length - 1) 0 = 49)) && nmF (l.take (l.length - 2))
    (whole, whole)
def fieldF (sec : Nat) (l : List Nat) : Bool × Bool := if sec = 0 then opF l else (nmF l, nmF l)

theorem idx_sub (s : ByteArray) (k : Nat) (h0 : 0 < k) (h : k ≤ s.size) (W : World) : (Instr.index 9 (.string s) (.int .i64 ((s.size : Int) - (k : Int)))).run Tryz.prog W = .ok (.int .u8 ((bts s).getD (s.size - k) 0 : Nat)) W := by
  have e : (s.size : Int) - (k : Int) = ((s.size - k : Nat) : Int) := by omega
  have hl : s.size - k < (bts s).length := by rw [bts_len]; omega
  rw [e, idx_b s (s.size - k) (by omega) W]
  simp [List.getD_eq_getElem?_getD, List.getElem?_eq_getElem hl]

set_option maxRecDepth 100000 in
set_option maxHeartbeats 1000000 in
theorem op_any (s : ByteArray) (w : World) (hs : s.size ≤ 268435456) : Calls Tryz.prog 114 #[.string s] w fun e w' => e = .returned (.tuple #[.bool (opF (bts s)).1, .bool (opF (bts s)).2]) ∧ w' = w := by
  have hl := bts_len s
  have hnm := name_any s
  cases hA : nmF (bts s)
  · rw [hA] at hnm
    by_cases h2 : 2 ≤ s.size ∧ (bts s).getD (s.size - 1) 0 = 58
    · have HE : Hid (opF (bts s) = (false, nmF ((bts s).take (s.size - 1)))) := hide (by unfold opF; rw [hA, if_neg Bool.false_ne_true, hl, if_pos h2])
      have hix := idx_sub s 1 (by omega) (by omega)
      rw [h2.2] at hix
      have hix' : ∀ W : World, (Instr.index 9 (.string s) (.int .i64 ((s.size : Int) - 1))).run Tryz.prog W = .ok (.int .u8 58) W := hix
      have i1 : (s.size : Int) ≥ 2 := by omega
      have i2 : decide (2 ≤ s.size) = true := decide_eq_true h2.1
      have i3 : (0 : Int) ≤ (s.size : Int) - 1 := by omega
      have i4 : (s.size : Int) - 1 ≤ (s.size : Int) := by omega
      have e1 : ((s.size : Int) - 1).toNat = s.size - 1 := by omega
      have hn2 := name_any (s.extract 0 (s.size - 1))
      rw [bts_take] at hn2
      generalize nmF ((bts s).take (s.size - 1)) = f at *
      clear hA h2 hix hl
      go_enter Tryz.func114, Tryz.ntmps114
      go_wp2_with fail
      refine (hnm _).mono ?_
      rintro e w' ⟨rfl, hw⟩
      obtain rfl := hw.symm
      go_wp2_with fail
      refine (hn2 _).mono ?_
      rintro e w' ⟨rfl, hw⟩
      obtain rfl := hw.symm
      go_wp2
      go_ret2
      exact ⟨by rw [HE.out]; first | rfl | simp, rfl⟩
    · have hW : opF (bts s) = (decide (3 ≤ s.size ∧ (bts s).getD (s.size - 2) 0 = 58 ∧ ((bts s).getD (s.size - 1) 0 = 48 ∨ (bts s).getD (s.size - 1) 0 = 49)) && nmF ((bts s).take (s.size - 2)), decide (3 ≤ s.size ∧ (bts s).getD (s.size - 2) 0 = 58 ∧ ((bts s).getD (s.size - 1) 0 = 48 ∨ (bts s).getD (s.size - 1) 0 = 49)) && nmF ((bts s).take (s.size - 2))) := by
        unfold opF
        rw [hA, if_neg Bool.false_ne_true, hl, if_neg h2]
      have hno : ¬ (3 ≤ s.size ∧ (bts s).getD (s.size - 2) 0 = 58 ∧ ((bts s).getD (s.size - 1) 0 = 48 ∨ (bts s).getD (s.size - 1) 0 = 49)) → opF (bts s) = (false, false) := fun h => by rw [hW, decide_eq_false h]; rfl
      by_cases h3 : s.size < 2
      · have HE := hide (hno (fun h => by omega))
        have i1 : ¬ (s.size : Int) ≥ 2 := by omega
        have i2 : decide (2 ≤ s.size) = false := decide_eq_false (by omega)
        have i3 : ¬ (s.size : Int) ≥ 3 := by omega
        have i4 : decide (3 ≤ s.size) = false := decide_eq_false (by omega)
        clear hA hW hno h2 hl
        go_enter Tryz.func114, Tryz.ntmps114
        go_wp2_with fail
        refine (hnm _).mono ?_
        rintro e w' ⟨rfl, hw⟩
        obtain rfl := hw.symm
        go_wp2
        go_ret2
        exact ⟨by rw [HE.out]; first | rfl | simp, rfl⟩
      · have hix := idx_sub s 1 (by omega) (by omega)
        obtain ⟨b, hb⟩ : ∃ b, (bts s).getD (s.size - 1) 0 = b := ⟨_, rfl⟩
        rw [hb] at hix hno hW h2
        have hix' : ∀ W : World, (Instr.index 9 (.string s) (.int .i64 ((s.size : Int) - 1))).run Tryz.prog W = .ok (.int .u8 (b : Nat)) W := hix
        have i1 : (s.size : Int) ≥ 2 := by omega
        have i2 : decide (2 ≤ s.size) = true := decide_eq_true (by omega)
        have b58 : ((b : Int) == 58) = false := by rw [beq_eq_false_iff_ne]; intro e; exact h2 ⟨by omega, by omega⟩
        by_cases h4 : s.size < 3
        · have HE := hide (hno (fun h => by omega))
          have i3 : ¬ (s.size : Int) ≥ 3 := by omega
          have i4 : decide (3 ≤ s.size) = false := decide_eq_false (by omega)
          clear hA hW hno h2 hl hix hb
          go_enter Tryz.func114, Tryz.ntmps114
          go_wp2_with fail
          refine (hnm _).mono ?_
          rintro e w' ⟨rfl, hw⟩
          obtain rfl := hw.symm
          go_wp2
          go_ret2
          exact ⟨by rw [HE.out]; first | rfl | simp, rfl⟩
        · have hixa := idx_sub s 2 (by omega) (by omega)
          obtain ⟨a, ha⟩ : ∃ a, (bts s).getD (s.size - 2) 0 = a := ⟨_, rfl⟩
          rw [ha] at hixa hno hW
          have hixa' : ∀ W : World, (Instr.index 9 (.string s) (.int .i64 ((s.size : Int) - 2))).run Tryz.prog W = .ok (.int .u8 (a : Nat)) W := hixa
          have i3 : (s.size : Int) ≥ 3 := by omega
          have i4 : decide (3 ≤ s.size) = true := decide_eq_true (by omega)
          by_cases h5 : a = 58
          · have a58 : ((a : Int) == 58) = true := by rw [beq_iff_eq]; omega
            have i5 : (0 : Int) ≤ (s.size : Int) - 2 := by omega
            have i6 : (s.size : Int) - 2 ≤ (s.size : Int) := by omega
            have e1 : ((s.size : Int) - 2).toNat = s.size - 2 := by omega
            have hn2 := name_any (s.extract 0 (s.size - 2))
            rw [bts_take] at hn2
            by_cases h6 : b = 48
            · have b48 : ((b : Int) == 48) = true := by rw [beq_iff_eq]; omega
              have HE := hide hW
              rw [decide_eq_true (p := 3 ≤ s.size ∧ a = 58 ∧ (b = 48 ∨ b = 49)) ⟨by omega, h5, .inl h6⟩, Bool.true_and] at HE
              generalize nmF ((bts s).take (s.size - 2)) = f at *
              clear hA hW hno h2 hl hix hb ha h5 h6 hixa
              go_enter Tryz.func114, Tryz.ntmps114
              go_wp2_with fail
              refine (hnm _).mono ?_
              rintro e w' ⟨rfl, hw⟩
              obtain rfl := hw.symm
              go_wp2_with fail
              refine (hn2 _).mono ?_
              rintro e w' ⟨rfl, hw⟩
              obtain rfl := hw.symm
              go_wp2
              go_ret2
              exact ⟨by rw [HE.out]; first | rfl | simp, rfl⟩
            · have b48 : ((b : Int) == 48) = false := by rw [beq_eq_false_iff_ne]; omega
              by_cases h7 : b = 49
              · have b49 : ((b : Int) == 49) = true := by rw [beq_iff_eq]; omega
                have HE := hide hW
                rw [decide_eq_true (p := 3 ≤ s.size ∧ a = 58 ∧ (b = 48 ∨ b = 49)) ⟨by omega, h5, .inr h7⟩, Bool.true_and] at HE
                generalize nmF ((bts s).take (s.size - 2)) = f at *
                clear hA hW hno h2 hl hix hb ha h5 h6 h7 hixa
                go_enter Tryz.func114, Tryz.ntmps114
                go_wp2_with fail
                refine (hnm _).mono ?_
                rintro e w' ⟨rfl, hw⟩
                obtain rfl := hw.symm
                go_wp2_with fail
                refine (hn2 _).mono ?_
                rintro e w' ⟨rfl, hw⟩
                obtain rfl := hw.symm
                go_wp2
                go_ret2
                exact ⟨by rw [HE.out]; first | rfl | simp, rfl⟩
              · have b49 : ((b : Int) == 49) = false := by rw [beq_eq_false_iff_ne]; omega
                have HE := hide (hno (fun h => by omega))
                clear hA hW hno h2 hl hix hb ha h5 h6 h7 hixa hn2
                go_enter Tryz.func114, Tryz.ntmps114
                go_wp2_with fail
                refine (hnm _).mono ?_
                rintro e w' ⟨rfl, hw⟩
                obtain rfl := hw.symm
                go_wp2
                go_ret2
                exact ⟨by rw [HE.out]; first | rfl | simp, rfl⟩
          · have a58 : ((a : Int) == 58) = false := by rw [beq_eq_false_iff_ne]; omega
            have HE := hide (hno (fun h => by omega))
            clear hA hW hno h2 hl hix hb ha h5 hixa
            go_enter Tryz.func114, Tryz.ntmps114
            go_wp2_with fail
            refine (hnm _).mono ?_
            rintro e w' ⟨rfl, hw⟩
            obtain rfl := hw.symm
            go_wp2
            go_ret2
            exact ⟨by rw [HE.out]; first | rfl | simp, rfl⟩
  · rw [hA] at hnm
    have HE : Hid (opF (bts s) = (false, true)) := hide (by unfold opF; rw [hA, if_pos rfl])
    clear hA hl
    go_enter Tryz.func114, Tryz.ntmps114
    go_wp2_with fail
    refine (hnm _).mono ?_
    rintro e w' ⟨rfl, hw⟩
    obtain rfl := hw.symm
    go_wp2
    go_ret2
    exact ⟨by rw [HE.out]; rfl, rfl⟩

set_option maxRecDepth 100000 in
set_option maxHeartbeats 1000000 in
theorem field_any (sec : Nat) (s : ByteArray) (w : World) (hs : s.size ≤ 268435456) : Calls Tryz.prog 99 #[.int .i64 sec, .string s] w fun e w' => e = .returned (.tuple #[.bool (fieldF sec (bts s)).1, .bool (fieldF sec (bts s)).2]) ∧ w' = w := by
  by_cases h : sec = 0
  · have hop := op_any s w hs
    have HE : Hid (fieldF sec (bts s) = opF (bts s)) := hide (by unfold fieldF; rw [if_pos h])
    have i0 : ((sec : Int) == 0) = true := by rw [beq_iff_eq]; omega
    obtain ⟨a, b⟩ := opF (bts s)
    clear h
    go_enter Tryz.func99, Tryz.ntmps99
    go_wp2_with fail
    refine hop.mono ?_
    rintro e w' ⟨rfl, hw⟩
    obtain rfl := hw.symm
    go_wp2
    go_ret2
    exact ⟨by rw [HE.out]; rfl, rfl⟩
  · have hnm := name_any s w
    have HE : Hid (fieldF sec (bts s) = (nmF (bts s), nmF (bts s))) := hide (by unfold fieldF; rw [if_neg h])
    have i0 : ((sec : Int) == 0) = false := by rw [beq_eq_false_iff_ne]; omega
    generalize nmF (bts s) = a at *
    clear h
    go_enter Tryz.func99, Tryz.ntmps99
    go_wp2_with (go_at_call 59; refine hnm.mono ?_; rintro e w' ⟨rfl, hw⟩; obtain rfl := hw.symm)
    go_ret2
    exact ⟨by rw [HE.out]; rfl, rfl⟩
end Go.Proofs.YtmagchclmmphaaaGreatDoor.rf
namespace Go.Proofs.YtmagchclmmphaaaGreatDoor.rf
open Go.RowKit Go.Maps

def fldStep (st : List (List Nat) × List Nat) (b : Nat) : List (List Nat) × List Nat := if blk b then (if st.2 = [] then st else (st.1 ++ [st.2], [])) else (st.1, st.2 ++ [b])
def fldAt (l : List Nat) (k : Nat) : List (List Nat) × List Nat := (l.take k).foldl fldStep ([], [])
def fldEnd (st : List (List Nat) × List Nat) : List (List Nat) := if st.2 = [] then st.1 else st.1 ++ [st.2]
def flds (l : List Nat) : List (List Nat) := fldEnd (fldAt l l.length)
theorem fldAt_succ (l : List Nat) (k : Nat) (h : k < l.length) : fldAt l (k + 1) = fldStep (fldAt l k) l[k] := by
  unfold fldAt
  rw [List.take_succ_eq_append_getElem h, List.foldl_append]
  rfl
theorem fld_cur (l : List Nat) (k : Nat) (hk : k ≤ l.length) : (fldAt l k).2.length ≤ k ∧ (l.drop (k - (fldAt l k).2.length)).take (fldAt l k).2.length = (fldAt l k).2 := by
  induction k with
  | zero => simp [fldAt]
  | succ k ih =>
    obtain ⟨h1, h2⟩ := ih (by omega)
    rw [fldAt_succ l k (by omega)]
    unfold fldStep
    split
    · split
      · rename_i he
        rw [he]; simp
      · simp
    · simp only [List.length_append, List.length_singleton]
      refine ⟨by omega, ?_⟩
      have e : k + 1 - ((fldAt l k).2.length + 1) = k - (fldAt l k).2.length := by omega
      rw [e]
      generalize hc : (fldAt l k).2.length = c at *
      have hd : c < (l.drop (k - c)).length := by rw [List.length_drop]; omega
      rw [List.take_succ_eq_append_getElem hd, h2]
      simp only [List.getElem_drop]
      congr 2
      congr 1
      omega

def strV (l : List ByteArray) : List Value := l.map .string
theorem strV_one (l : List ByteArray) : ∀ u ∈ strV l, u.oneCell' = true := by
  intro u hu
  obtain ⟨k, _, rfl⟩ := List.mem_map.1 hu
  rfl
def OwnS (w : World) (B : Nat) (v : Value) (l : List ByteArray) : Prop := w.ownsRow B 9 1 v l.length (strV l)
theorem info9 : (Tryz.prog.info? 9).map (fun i => (i.zero, i.size, i.bytes)) = some (some (.string ByteArray.empty), 1, 16) := by kernel_rfl
theorem OwnS.below {w w' : World} {B : Nat} {v : Value} {l : List ByteArray} (h : OwnS w B v l) (hb : Below w.heap.size w w') : OwnS w' B v l :=
  World.ownsRow.kept (row := none) h ⟨hb.os, hb.tape, hb.output, hb.size, fun k hk _ => hb.block k hk⟩ (by cases v.ownBlock <;> simp)

/-- What the loop of fields holds. -/
structure FldL (w w' : World) (s : ByteArray) (v : Value) (L : List ByteArray) (k f : Nat) : Prop where
  own : OwnS w' w.heap.size v L
  len : L.length ≤ k
  mid : k ≤ s.size → L.map bts = (fldAt (bts s) k).1 ∧ f + (fldAt (bts s) k).2.length = k
  fin : k = s.size + 1 → L.map bts = flds (bts s)
  sml : ∀ x ∈ L, x.size ≤ s.size
  bel : Below w.heap.size w w'
theorem bts_cut (s : ByteArray) (k f : Nat) (hk : k ≤ s.size) (h : f + (fldAt (bts s) k).2.length = k) : bts (s.extract f k) = (fldAt (bts s) k).2 := by
  obtain ⟨h1, h2⟩ := fld_cur (bts s) k (by rw [bts_len]; exact hk)
  rw [bts_extract]
  have e : f = k - (fldAt (bts s) k).2.length := by omega
  have e2 : k - f = (fldAt (bts s) k).2.length := by omega
  rw [e2, e]
  exact h2

set_option maxRecDepth 100000 in
set_option maxHeartbeats 2000000 in
theorem fields_any (s : ByteArray) (w : World) (hs : s.size ≤ 134217728) : Calls Tryz.prog 98 #[.string s] w fun e w' => ∃ v L, e = .returned v ∧ OwnS w' w.heap.size v L ∧ L.map bts = flds (bts s) ∧ (∀ x ∈ L, x.size ≤ s.size) ∧ L.length ≤ s.size + 1 ∧ Below w.heap.size w w' := by
  obtain ⟨i9, hi9, hz90, hz91, hz92⟩ := info_parts info9
  have HL := hide (bts_len s)
  go_enter Tryz.func98, Tryz.ntmps98
  go_wp2
  go_loopw [3, 4, 5] (fun v fv iv wr => ∃ (k f : Nat) (L : List ByteArray), k ≤ s.size + 1 ∧ f ≤ k ∧ L.length ≤ k ∧ fv = .int .i64 f ∧ iv = .int .i64 k ∧ Hid (FldL w wr s v L k f)) (fun _ _ iv _ => s.size + 1 - (intOf iv).toNat)
  case atStart =>
    refine ⟨0, 0, [], Nat.zero_le _, Nat.le_refl _, Nat.le_refl _, rfl, rfl, hide ⟨World.ownsRow_nil _ _ _ _, Nat.le_refl _, fun _ => ⟨rfl, rfl⟩, fun h => by omega, fun x hx => (by cases hx), Below.refl _ _⟩⟩
  case round =>
    obtain ⟨k, f, L, hk, hfk, hLk, rfl, rfl, HH⟩ := hrel
    by_cases hle : k ≤ s.size
    · have j1 : (k : Int) ≤ (s.size : Int) := by omega
      have k0 : (0 : Int) ≤ (k : Int) := by omega
      have f0 : (0 : Int) ≤ (f : Int) := by omega
      have f1 : (f : Int) ≤ (k : Int) := by omega
      obtain ⟨m1, m2⟩ := HH.out.mid hle
      have hcut := bts_cut s k f hle m2
      have hsx : (s.extract f k).size ≤ s.size := by rw [ByteArray.size_extract]; omega
      by_cases heq : k = s.size
      · subst heq
        have j2 : ((s.size : Int) == (s.size : Int)) = true := by rw [beq_iff_eq]
        by_cases hgt : f < s.size
        · have j3 : (s.size : Int) > (f : Int) := by omega
          have HN : Hid ((L ++ [s.extract f s.size]).map bts = flds (bts s)) := hide (by
            rw [List.map_append, m1]
            simp only [List.map_cons, List.map_nil, hcut]
            unfold flds fldEnd
            rw [HL.out, if_neg (fun e => by rw [e] at m2; simp at m2; omega)])
          clear m1 m2 hcut
          go_wp2_with (at_builtin; refine wpList_append_own_at _ rfl _ _ _ rfl w.heap.size 9 i9 _ 1 16 Tryz.underlying23 hi9 hz90 hz91 hz92 rfl (by omega) u3 L.length (strV L) rfl (World.ownsRow.alloc HH.out.own _) ⟨wr.heap.size, 0, none⟩ 1 1 [.string (s.extract f s.size)] rfl rfl (cell_one_new _ _ _) (strV_one [s.extract f s.size]) (by unfold maxLen; omega) (by omega) (by have := HH.out.bel.size; simp; omega) ?_; intro v' w2 ho hgr hnil hloc)
          go_roundw
          case rel =>
            refine ⟨s.size + 1, s.size + 1, L ++ [s.extract f s.size], by omega, by omega, by simp; omega, by go_num, by go_num, hide ⟨?_, by simp; omega, fun h => by omega, fun _ => HN.out, ?_, ?_⟩⟩
            · unfold OwnS
              simpa [strV] using ho
            · intro x hx
              rcases List.mem_append.1 hx with hx | hx
              · exact HH.out.sml x hx
              · simp at hx; subst hx; exact hsx
            · exact HH.out.bel.grown ((World.grownBy_alloc _ _ _).trans hgr) HH.out.bel.size (fun x hx => (World.ownsRow.lt HH.out.own x hx).1)
          case measure => simp [intOf]
        · have j3 : ¬ (s.size : Int) > (f : Int) := by omega
          have HN : Hid (L.map bts = flds (bts s)) := hide (by
            rw [m1]
            unfold flds fldEnd
            rw [HL.out, if_pos (List.eq_nil_of_length_eq_zero (by omega))])
          clear m1 m2 hcut
          go_wp2
          go_roundw
          case rel => exact ⟨s.size + 1, s.size + 1, L, by omega, by omega, by omega, by go_num, by go_num, hide ⟨HH.out.own, by omega, fun h => by omega, fun _ => HN.out, HH.out.sml, HH.out.bel⟩⟩
          case measure => simp [intOf]
      · have hlt : k < s.size := by omega
        have j2 : ((k : Int) == (s.size : Int)) = false := by rw [beq_eq_false_iff_ne]; omega
        have hkl : k < (bts s).length := by rw [bts_len]; exact hlt
        have hix := idx_b s k hlt
        have hstep := fldAt_succ (bts s) k hkl
        obtain ⟨b, hb⟩ : ∃ b, (bts s)[k]'hkl = b := ⟨_, rfl⟩
        rw [hb] at hix hstep
        clear hb
        cases hbl : blk b
        · have HN : Hid (L.map bts = (fldAt (bts s) (k + 1)).1 ∧ f + (fldAt (bts s) (k + 1)).2.length = k + 1) := hide (by
            rw [hstep]
            unfold fldStep
            rw [hbl]
            simp only [Bool.false_eq_true, if_false, List.length_append, List.length_singleton]
            exact ⟨m1, by omega⟩)
          clear m1 m2 hcut hstep
          go_wp2_with (go_at_call 95; refine (blank_any b _).mono ?_; rintro e w' ⟨rfl, hw'⟩; obtain rfl := hw'.symm; rw [hbl])
          go_roundw
          case rel => exact ⟨k + 1, f, L, by omega, by omega, by omega, rfl, by go_num, hide ⟨HH.out.own, by omega, fun _ => HN.out, fun h => by omega, HH.out.sml, HH.out.bel⟩⟩
          case measure => simp [intOf]; omega
        · by_cases hgt : f < k
          · have j3 : (k : Int) > (f : Int) := by omega
            have HN : Hid ((L ++ [s.extract f k]).map bts = (fldAt (bts s) (k + 1)).1 ∧ k + 1 + (fldAt (bts s) (k + 1)).2.length = k + 1) := hide (by
              rw [hstep]
              unfold fldStep
              rw [hbl, if_pos rfl, if_neg (fun e => by rw [e] at m2; simp at m2; omega)]
              simp [m1, hcut])
            clear m1 m2 hcut hstep
            go_wp2_with (first
              | (go_at_call 95; refine (blank_any b _).mono ?_; rintro e w' ⟨rfl, hw'⟩; obtain rfl := hw'.symm; rw [hbl])
              | (at_builtin; refine wpList_append_own_at _ rfl _ _ _ rfl w.heap.size 9 i9 _ 1 16 Tryz.underlying23 hi9 hz90 hz91 hz92 rfl (by omega) u3 L.length (strV L) rfl (World.ownsRow.alloc HH.out.own _) ⟨wr.heap.size, 0, none⟩ 1 1 [.string (s.extract f k)] rfl rfl (cell_one_new _ _ _) (strV_one [s.extract f k]) (by unfold maxLen; omega) (by omega) (by have := HH.out.bel.size; simp; omega) ?_; intro v' w2 ho hgr hnil hloc))
            go_roundw
            case rel =>
              refine ⟨k + 1, k + 1, L ++ [s.extract f k], by omega, by omega, by simp; omega, by go_num, by go_num, hide ⟨?_, by simp; omega, fun _ => HN.out, fun h => by omega, ?_, ?_⟩⟩
              · unfold OwnS
                simpa [strV] using ho
              · intro x hx
                rcases List.mem_append.1 hx with hx | hx
                · exact HH.out.sml x hx
                · simp at hx; subst hx; exact hsx
              · exact HH.out.bel.grown ((World.grownBy_alloc _ _ _).trans hgr) HH.out.bel.size (fun x hx => (World.ownsRow.lt HH.out.own x hx).1)
            case measure => simp [intOf]; omega
          · have j3 : ¬ (k : Int) > (f : Int) := by omega
            have HN : Hid (L.map bts = (fldAt (bts s) (k + 1)).1 ∧ k + 1 + (fldAt (bts s) (k + 1)).2.length = k + 1) := hide (by
              have hnil : (fldAt (bts s) k).2 = [] := List.eq_nil_of_length_eq_zero (by omega)
              rw [hstep]
              unfold fldStep
              rw [hbl, if_pos rfl, if_pos hnil]
              exact ⟨m1, by rw [hnil]; rfl⟩)
            clear m1 m2 hcut hstep
            go_wp2_with (go_at_call 95; refine (blank_any b _).mono ?_; rintro e w' ⟨rfl, hw'⟩; obtain rfl := hw'.symm; rw [hbl])
            go_roundw
            case rel => exact ⟨k + 1, k + 1, L, by omega, by omega, by omega, by go_num, by go_num, hide ⟨HH.out.own, by omega, fun _ => HN.out, fun h => by omega, HH.out.sml, HH.out.bel⟩⟩
            case measure => simp [intOf]; omega
    · have j1 : ¬ (k : Int) ≤ (s.size : Int) := by omega
      have hke : k = s.size + 1 := by omega
      have HK := hide hke
      clear hke
      go_wp2
      go_ret
      exact ⟨_, rfl, L, HH.out.own, HH.out.fin HK.out, HH.out.sml, by have := HK.out; omega, HH.out.bel⟩
end Go.Proofs.YtmagchclmmphaaaGreatDoor.rf
namespace Go.Proofs.YtmagchclmmphaaaGreatDoor.rf
open Go.RowKit Go.Maps

def restLoop (sec : Nat) (eb : Bool) (tot : Nat) : List (List Nat) → Bool × Bool
  | [] => (decide (sec ≠ 1) || decide (tot = 1), true)
  | x :: r => if r = [] ∧ eb = true then fieldF sec x else if (fieldF sec x).1 = true then restLoop sec eb tot r else (false, false)
def restF (sec : Nat) (l : List Nat) : Bool × Bool :=
  if l = [] then (decide (sec ≠ 1), true)
  else if blk (l.headD 0) = false then (false, false)
  else if sec = 4 ∨ (sec = 1 ∧ 1 < (flds l).length) then (decide (sec = 4 ∧ (flds l).length = 0), decide (sec = 4 ∧ (flds l).length = 0))
  else restLoop sec (!blk (l.getD (l.length - 1) 0)) (flds l).length (flds l)

theorem headD_get (l : List Nat) (h : 0 < l.length) : l.headD 0 = l[0] := by
  cases l with
  | nil => simp at h
  | cons x r => rfl
theorem OwnS.form {w : World} {B : Nat} {v : Value} {l : List ByteArray} (h : OwnS w B v l) : ∃ ao cp, v = .slice ao l.length cp := by
  rcases h.2 with ⟨he, hn⟩ | ⟨g, cap, cur, he, _⟩
  · exact ⟨none, 0, by rw [he, hn]⟩
  · exact ⟨_, cap, he⟩
theorem OwnS.cell {w : World} {B cp : Nat} {ao : Option Addr} {l : List ByteArray} (h : OwnS w B (.slice ao l.length cp) l) (k : Nat) (hk : k < l.length) : ∃ g, ao = some ⟨g, 0, none⟩ ∧ w.cell? ⟨g, k, none⟩ = some (.string l[k]) := by
  rcases h.2 with ⟨he, hn⟩ | ⟨g, cap, cur, he, hb, hg, hnc, hcm, hcs, htake⟩
  · omega
  · cases he
    refine ⟨g, rfl, ?_⟩
    have h' : w.ownsRow B 9 1 (.slice (some ⟨g, 0, none⟩) l.length cp) l.length (strV l) := h
    rw [h'.cellAt k (by omega)]
    simp [strV, List.getElem?_eq_getElem hk]
theorem loop_at (sec : Nat) (eb : Bool) (tot k : Nat) (fs : List (List Nat)) (h : k < fs.length) : restLoop sec eb tot (fs.drop k) = if k + 1 = fs.length ∧ eb = true then fieldF sec fs[k] else if (fieldF sec fs[k]).1 = true then restLoop sec eb tot (fs.drop (k + 1)) else (false, false) := by
  rw [List.drop_eq_getElem_cons h]
  have e : (fs.drop (k + 1) = [] ∧ eb = true) ↔ (k + 1 = fs.length ∧ eb = true) := by
    rw [List.drop_eq_nil_iff]
    constructor
    · rintro ⟨a, b⟩; exact ⟨by omega, b⟩
    · rintro ⟨a, b⟩; exact ⟨by omega, b⟩
  show (if fs.drop (k + 1) = [] ∧ eb = true then _ else _) = _
  by_cases hc : k + 1 = fs.length ∧ eb = true
  · rw [if_pos (e.2 hc), if_pos hc]
  · rw [if_neg (fun h => hc (e.1 h)), if_neg hc]

set_option maxRecDepth 100000 in
set_option maxHeartbeats 4000000 in
theorem rest_any (sec : Nat) (s : ByteArray) (w : World) (hs : s.size ≤ 130000100) (_hsec : sec ≤ 5) : Calls Tryz.prog 81 #[.int .i64 sec, .string s] w fun e w' => e = .returned (.tuple #[.bool (restF sec (bts s)).1, .bool (restF sec (bts s)).2]) ∧ Below w.heap.size w w' := by
  have hem := bts_empty s
  have hl := bts_len s
  by_cases h0 : bts s = []
  · rw [decide_eq_true h0] at hem
    have HE : Hid (restF sec (bts s) = (decide (sec ≠ 1), true)) := hide (by unfold restF; rw [if_pos h0])
    by_cases h1 : sec = 1
    · have i1 : ((sec : Int) != 1) = false := by rw [bne_eq_false_iff_eq]; omega
      have HD : Hid (decide (sec ≠ 1) = false) := hide (decide_eq_false (fun h => h h1))
      clear h0 h1 hl
      go_enter Tryz.func81, Tryz.ntmps81
      go_wp2
      go_ret2
      exact ⟨by rw [HE.out, HD.out]; first | rfl | simp, Below.refl _ _⟩
    · have i1 : ((sec : Int) != 1) = true := by rw [bne_iff_ne]; omega
      have HD : Hid (decide (sec ≠ 1) = true) := hide (decide_eq_true h1)
      clear h0 h1 hl
      go_enter Tryz.func81, Tryz.ntmps81
      go_wp2
      go_ret2
      exact ⟨by rw [HE.out, HD.out]; first | rfl | simp, Below.refl _ _⟩
  · rw [decide_eq_false h0] at hem
    have hlt : 0 < s.size := by
      rw [← hl]
      exact List.length_pos_iff.2 h0
    have hix := idx_b s 0 hlt
    obtain ⟨b, hb⟩ : ∃ b, (bts s)[0]'(by rw [bts_len]; exact hlt) = b := ⟨_, rfl⟩
    rw [hb] at hix
    have hix' : ∀ W : World, (Instr.index 9 (.string s) (.int .i64 0)).run Tryz.prog W = .ok (.int .u8 (b : Nat)) W := hix
    have hhd : (bts s).headD 0 = b := by
      rw [← hb]
      exact headD_get _ _
    clear hix hb
    cases hbl : blk b
    · have HE : Hid (restF sec (bts s) = (false, false)) := hide (by unfold restF; rw [if_neg h0, hhd, if_pos hbl])
      clear h0 hhd hl
      go_enter Tryz.func81, Tryz.ntmps81
      go_wp2_with (go_at_call 95; refine (blank_any b _).mono ?_; rintro e w' ⟨rfl, hw'⟩; obtain rfl := hw'.symm; rw [hbl])
      go_ret2
      exact ⟨by rw [HE.out]; rfl, Below.refl _ _⟩
    · have hR : restF sec (bts s) = if sec = 4 ∨ (sec = 1 ∧ 1 < (flds (bts s)).length) then (decide (sec = 4 ∧ (flds (bts s)).length = 0), decide (sec = 4 ∧ (flds (bts s)).length = 0)) else restLoop sec (!blk ((bts s).getD (s.size - 1) 0)) (flds (bts s)).length (flds (bts s)) := by
        unfold restF
        rw [if_neg h0, hhd, if_neg (by rw [hbl]; simp), hl]
      have hixl := idx_sub s 1 (by omega) (by omega)
      obtain ⟨z, hz⟩ : ∃ z, (bts s).getD (s.size - 1) 0 = z := ⟨_, rfl⟩
      rw [hz] at hixl hR
      have hixl' : ∀ W : World, (Instr.index 9 (.string s) (.int .i64 ((s.size : Int) - 1))).run Tryz.prog W = .ok (.int .u8 (z : Nat)) W := hixl
      have HR := hide hR
      clear h0 hhd hl hR hixl hz
      go_enter Tryz.func81, Tryz.ntmps81
      go_wp2_with (go_at_call 95; refine (blank_any b _).mono ?_; rintro e w' ⟨rfl, hw'⟩; obtain rfl := hw'.symm; rw [hbl])
      refine (fields_any s _ (by omega)).mono ?_
      rintro e w1 ⟨v, L, rfl, ho, hmap, hsml, hLl, d⟩
      obtain ⟨ao, cp, hv⟩ := ho.form
      subst hv
      have hlen : (flds (bts s)).length = L.length := by rw [← hmap, List.length_map]
      have HO := hide (And.intro ho (And.intro hmap (And.intro hsml d)))
      have HR2 := HR.out
      rw [hlen] at HR2
      have HRR := hide HR2
      clear ho hmap hsml d hbl hix' HR HR2
      have HLN := hide hlen
      clear hlen
      by_cases h4 : sec = 4
      · have i4 : ((sec : Int) == 4) = true := by rw [beq_iff_eq]; omega
        by_cases hz0 : L.length = 0
        · have i5 : ((L.length : Int) == 0) = true := by rw [beq_iff_eq]; omega
          have HE : Hid (restF sec (bts s) = (true, true)) := hide (by rw [HRR.out, if_pos (.inl h4), decide_eq_true ⟨h4, hz0⟩])
          clear h4 hz0
          go_wp2
          go_ret2
          exact ⟨by rw [HE.out]; first | rfl | simp, HO.out.2.2.2⟩
        · have i5 : ((L.length : Int) == 0) = false := by rw [beq_eq_false_iff_ne]; omega
          have HE : Hid (restF sec (bts s) = (false, false)) := hide (by rw [HRR.out, if_pos (.inl h4), decide_eq_false (fun h => hz0 h.2)])
          clear h4 hz0
          go_wp2
          go_ret2
          exact ⟨by rw [HE.out]; first | rfl | simp, HO.out.2.2.2⟩
      · have i4 : ((sec : Int) == 4) = false := by rw [beq_eq_false_iff_ne]; omega
        by_cases h1 : sec = 1
        · have i1 : ((sec : Int) == 1) = true := by rw [beq_iff_eq]; omega
          by_cases hg : 1 < L.length
          · have i5 : (L.length : Int) > 1 := by omega
            have i6 : decide (1 < L.length) = true := decide_eq_true hg
            have HE : Hid (restF sec (bts s) = (false, false)) := hide (by rw [HRR.out, if_pos (.inr ⟨h1, hg⟩), decide_eq_false (fun h => h4 h.1)])
            clear h4 h1 hg
            go_wp2
            go_ret2
            exact ⟨by rw [HE.out]; first | rfl | simp, HO.out.2.2.2⟩
          · have i5 : ¬ (L.length : Int) > 1 := by omega
            have i6 : decide (1 < L.length) = false := decide_eq_false hg
            have HE : Hid (restF sec (bts s) = restLoop sec (!blk z) L.length (flds (bts s))) := hide (by rw [HRR.out, if_neg (fun h => h.elim h4 (fun h => hg h.2))])
            clear h4 h1 hg
            go_wp2
            go_loopw [7] (fun iv wr => ∃ k : Nat, k ≤ L.length ∧ iv = .int .i64 k ∧ Hid (restF sec (bts s) = restLoop sec (!blk z) L.length ((flds (bts s)).drop k) ∧ OwnS wr w.heap.size (.slice ao L.length cp) L ∧ Below w.heap.size w wr)) (fun iv _ => L.length - (intOf iv).toNat)
            case atStart => exact ⟨0, Nat.zero_le _, rfl, hide ⟨by rw [List.drop_zero]; exact HE.out, HO.out.1, HO.out.2.2.2⟩⟩
            case round =>
              obtain ⟨k, hk, rfl, HH⟩ := hrel
              by_cases hkl : k < L.length
              · obtain ⟨g, hao, q⟩ := HH.out.2.1.cell k hkl
                subst hao
                have hkf : k < (flds (bts s)).length := by rw [HLN.out]; exact hkl
                have hfx : bts L[k] = (flds (bts s))[k]'hkf := by simp only [← HO.out.2.1, List.getElem_map]
                have hat := loop_at sec (!blk z) L.length k (flds (bts s)) hkf
                rw [← hfx, HLN.out] at hat
                have hfl := fun W => field_any sec L[k] W (by have := HO.out.2.2.1 L[k] (List.getElem_mem hkl); omega)
                generalize L[k] = x at *
                generalize fieldF sec (bts x) = pq at *
                obtain ⟨p, q2⟩ := pq
                have k0 : (0 : Int) ≤ (k : Int) := by omega
                have k1 : (k : Int) < (L.length : Int) := by omega
                clear hfx
                by_cases hlast : k + 1 = L.length
                · have j1 : ((k : Int) == (L.length : Int) - 1) = true := by rw [beq_iff_eq]; omega
                  cases hbz : blk z
                  · have HF : Hid (restF sec (bts s) = (p, q2)) := hide (by rw [HH.out.1, hat, if_pos ⟨hlast, by rw [hbz]; rfl⟩])
                    clear hat hlast
                    go_wp2_with (first
                      | (go_at_call 99; refine (hfl _).mono ?_; rintro e w' ⟨rfl, hw'⟩; obtain rfl := hw'.symm)
                      | (go_at_call 95; refine (blank_any z _).mono ?_; rintro e w' ⟨rfl, hw'⟩; obtain rfl := hw'.symm; rw [hbz]))
                    go_ret2
                    exact ⟨by rw [HF.out]; first | rfl | simp, HH.out.2.2⟩
                  · have hn : ¬ (k + 1 = L.length ∧ (!blk z) = true) := fun h => by rw [hbz] at h; simp at h
                    rw [if_neg hn] at hat
                    cases p
                    · have HF : Hid (restF sec (bts s) = (false, false)) := hide (by rw [HH.out.1, hat]; simp)
                      clear hat hlast hn
                      go_wp2_with (first
                        | (go_at_call 99; refine (hfl _).mono ?_; rintro e w' ⟨rfl, hw'⟩; obtain rfl := hw'.symm)
                        | (go_at_call 95; refine (blank_any z _).mono ?_; rintro e w' ⟨rfl, hw'⟩; obtain rfl := hw'.symm; rw [hbz]))
                      go_ret2
                      exact ⟨by rw [HF.out]; first | rfl | simp, HH.out.2.2⟩
                    · have HF : Hid (restF sec (bts s) = restLoop sec (!blk z) L.length ((flds (bts s)).drop (k + 1))) := hide (by rw [HH.out.1, hat]; simp)
                      clear hat hlast hn
                      go_wp2_with (first
                        | (go_at_call 99; refine (hfl _).mono ?_; rintro e w' ⟨rfl, hw'⟩; obtain rfl := hw'.symm)
                        | (go_at_call 95; refine (blank_any z _).mono ?_; rintro e w' ⟨rfl, hw'⟩; obtain rfl := hw'.symm; rw [hbz]))
                      go_roundw
                      case rel => exact ⟨k + 1, by omega, by go_num, hide ⟨(by first | exact HF.out | (have := HF.out; rw [hbz] at this; exact this)), HH.out.2.1, HH.out.2.2⟩⟩
                      case measure => simp [intOf]; omega
                · have j1 : ((k : Int) == (L.length : Int) - 1) = false := by rw [beq_eq_false_iff_ne]; omega
                  have hn : ¬ (k + 1 = L.length ∧ (!blk z) = true) := fun h => hlast h.1
                  rw [if_neg hn] at hat
                  cases p
                  · have HF : Hid (restF sec (bts s) = (false, false)) := hide (by rw [HH.out.1, hat]; simp)
                    clear hat hlast hn
                    go_wp2_with (go_at_call 99; refine (hfl _).mono ?_; rintro e w' ⟨rfl, hw'⟩; obtain rfl := hw'.symm)
                    go_ret2
                    exact ⟨by rw [HF.out]; first | rfl | simp, HH.out.2.2⟩
                  · have HF : Hid (restF sec (bts s) = restLoop sec (!blk z) L.length ((flds (bts s)).drop (k + 1))) := hide (by rw [HH.out.1, hat]; simp)
                    clear hat hlast hn
                    go_wp2_with (go_at_call 99; refine (hfl _).mono ?_; rintro e w' ⟨rfl, hw'⟩; obtain rfl := hw'.symm)
                    go_roundw
                    case rel => exact ⟨k + 1, by omega, by go_num, hide ⟨(by first | exact HF.out | (have := HF.out; rw [hbz] at this; exact this)), HH.out.2.1, HH.out.2.2⟩⟩
                    case measure => simp [intOf]; omega
              · have k1 : ¬ (k : Int) < (L.length : Int) := by omega
                have hend : restF sec (bts s) = (decide (sec ≠ 1) || decide (L.length = 1), true) := by
                  rw [HH.out.1, List.drop_of_length_le (by rw [HLN.out]; omega)]
                  rfl
                by_cases h1 : sec = 1
                · have e1 : ((sec : Int) != 1) = false := by rw [bne_eq_false_iff_eq]; omega
                  rw [decide_eq_false (fun h => h h1), Bool.false_or] at hend
                  by_cases h2 : L.length = 1
                  · have e2 : ((L.length : Int) == 1) = true := by rw [beq_iff_eq]; omega
                    rw [decide_eq_true h2] at hend
                    have HF := hide hend
                    clear hend h1 h2
                    go_wp2
                    go_ret2
                    exact ⟨by rw [HF.out]; first | rfl | simp, HH.out.2.2⟩
                  · have e2 : ((L.length : Int) == 1) = false := by rw [beq_eq_false_iff_ne]; omega
                    rw [decide_eq_false h2] at hend
                    have HF := hide hend
                    clear hend h1 h2
                    go_wp2
                    go_ret2
                    exact ⟨by rw [HF.out]; first | rfl | simp, HH.out.2.2⟩
                · have e1 : ((sec : Int) != 1) = true := by rw [bne_iff_ne]; omega
                  rw [decide_eq_true h1, Bool.true_or] at hend
                  have HF := hide hend
                  clear hend h1
                  go_wp2
                  go_ret2
                  exact ⟨by rw [HF.out]; first | rfl | simp, HH.out.2.2⟩
        · have i1 : ((sec : Int) == 1) = false := by rw [beq_eq_false_iff_ne]; omega
          have HE : Hid (restF sec (bts s) = restLoop sec (!blk z) L.length (flds (bts s))) := hide (by rw [HRR.out, if_neg (fun h => h.elim h4 (fun h => h1 h.1))])
          clear h4 h1
          go_wp2
          go_loopw [7] (fun iv wr => ∃ k : Nat, k ≤ L.length ∧ iv = .int .i64 k ∧ Hid (restF sec (bts s) = restLoop sec (!blk z) L.length ((flds (bts s)).drop k) ∧ OwnS wr w.heap.size (.slice ao L.length cp) L ∧ Below w.heap.size w wr)) (fun iv _ => L.length - (intOf iv).toNat)
          case atStart => exact ⟨0, Nat.zero_le _, rfl, hide ⟨by rw [List.drop_zero]; exact HE.out, HO.out.1, HO.out.2.2.2⟩⟩
          case round =>
            obtain ⟨k, hk, rfl, HH⟩ := hrel
            by_cases hkl : k < L.length
            · obtain ⟨g, hao, q⟩ := HH.out.2.1.cell k hkl
              subst hao
              have hkf : k < (flds (bts s)).length := by rw [HLN.out]; exact hkl
              have hfx : bts L[k] = (flds (bts s))[k]'hkf := by simp only [← HO.out.2.1, List.getElem_map]
              have hat := loop_at sec (!blk z) L.length k (flds (bts s)) hkf
              rw [← hfx, HLN.out] at hat
              have hfl := fun W => field_any sec L[k] W (by have := HO.out.2.2.1 L[k] (List.getElem_mem hkl); omega)
              generalize L[k] = x at *
              generalize fieldF sec (bts x) = pq at *
              obtain ⟨p, q2⟩ := pq
              have k0 : (0 : Int) ≤ (k : Int) := by omega
              have k1 : (k : Int) < (L.length : Int) := by omega
              clear hfx
              by_cases hlast : k + 1 = L.length
              · have j1 : ((k : Int) == (L.length : Int) - 1) = true := by rw [beq_iff_eq]; omega
                cases hbz : blk z
                · have HF : Hid (restF sec (bts s) = (p, q2)) := hide (by rw [HH.out.1, hat, if_pos ⟨hlast, by rw [hbz]; rfl⟩])
                  clear hat hlast
                  go_wp2_with (first
                    | (go_at_call 99; refine (hfl _).mono ?_; rintro e w' ⟨rfl, hw'⟩; obtain rfl := hw'.symm)
                    | (go_at_call 95; refine (blank_any z _).mono ?_; rintro e w' ⟨rfl, hw'⟩; obtain rfl := hw'.symm; rw [hbz]))
                  go_ret2
                  exact ⟨by rw [HF.out]; first | rfl | simp, HH.out.2.2⟩
                · have hn : ¬ (k + 1 = L.length ∧ (!blk z) = true) := fun h => by rw [hbz] at h; simp at h
                  rw [if_neg hn] at hat
                  cases p
                  · have HF : Hid (restF sec (bts s) = (false, false)) := hide (by rw [HH.out.1, hat]; simp)
                    clear hat hlast hn
                    go_wp2_with (first
                      | (go_at_call 99; refine (hfl _).mono ?_; rintro e w' ⟨rfl, hw'⟩; obtain rfl := hw'.symm)
                      | (go_at_call 95; refine (blank_any z _).mono ?_; rintro e w' ⟨rfl, hw'⟩; obtain rfl := hw'.symm; rw [hbz]))
                    go_ret2
                    exact ⟨by rw [HF.out]; first | rfl | simp, HH.out.2.2⟩
                  · have HF : Hid (restF sec (bts s) = restLoop sec (!blk z) L.length ((flds (bts s)).drop (k + 1))) := hide (by rw [HH.out.1, hat]; simp)
                    clear hat hlast hn
                    go_wp2_with (first
                      | (go_at_call 99; refine (hfl _).mono ?_; rintro e w' ⟨rfl, hw'⟩; obtain rfl := hw'.symm)
                      | (go_at_call 95; refine (blank_any z _).mono ?_; rintro e w' ⟨rfl, hw'⟩; obtain rfl := hw'.symm; rw [hbz]))
                    go_roundw
                    case rel => exact ⟨k + 1, by omega, by go_num, hide ⟨(by first | exact HF.out | (have := HF.out; rw [hbz] at this; exact this)), HH.out.2.1, HH.out.2.2⟩⟩
                    case measure => simp [intOf]; omega
              · have j1 : ((k : Int) == (L.length : Int) - 1) = false := by rw [beq_eq_false_iff_ne]; omega
                have hn : ¬ (k + 1 = L.length ∧ (!blk z) = true) := fun h => hlast h.1
                rw [if_neg hn] at hat
                cases p
                · have HF : Hid (restF sec (bts s) = (false, false)) := hide (by rw [HH.out.1, hat]; simp)
                  clear hat hlast hn
                  go_wp2_with (go_at_call 99; refine (hfl _).mono ?_; rintro e w' ⟨rfl, hw'⟩; obtain rfl := hw'.symm)
                  go_ret2
                  exact ⟨by rw [HF.out]; first | rfl | simp, HH.out.2.2⟩
                · have HF : Hid (restF sec (bts s) = restLoop sec (!blk z) L.length ((flds (bts s)).drop (k + 1))) := hide (by rw [HH.out.1, hat]; simp)
                  clear hat hlast hn
                  go_wp2_with (go_at_call 99; refine (hfl _).mono ?_; rintro e w' ⟨rfl, hw'⟩; obtain rfl := hw'.symm)
                  go_roundw
                  case rel => exact ⟨k + 1, by omega, by go_num, hide ⟨(by first | exact HF.out | (have := HF.out; rw [hbz] at this; exact this)), HH.out.2.1, HH.out.2.2⟩⟩
                  case measure => simp [intOf]; omega
            · have k1 : ¬ (k : Int) < (L.length : Int) := by omega
              have hend : restF sec (bts s) = (decide (sec ≠ 1) || decide (L.length = 1), true) := by
                rw [HH.out.1, List.drop_of_length_le (by rw [HLN.out]; omega)]
                rfl
              by_cases h1 : sec = 1
              · have e1 : ((sec : Int) != 1) = false := by rw [bne_eq_false_iff_eq]; omega
                rw [decide_eq_false (fun h => h h1), Bool.false_or] at hend
                by_cases h2 : L.length = 1
                · have e2 : ((L.length : Int) == 1) = true := by rw [beq_iff_eq]; omega
                  rw [decide_eq_true h2] at hend
                  have HF := hide hend
                  clear hend h1 h2
                  go_wp2
                  go_ret2
                  exact ⟨by rw [HF.out]; first | rfl | simp, HH.out.2.2⟩
                · have e2 : ((L.length : Int) == 1) = false := by rw [beq_eq_false_iff_ne]; omega
                  rw [decide_eq_false h2] at hend
                  have HF := hide hend
                  clear hend h1 h2
                  go_wp2
                  go_ret2
                  exact ⟨by rw [HF.out]; first | rfl | simp, HH.out.2.2⟩
              · have e1 : ((sec : Int) != 1) = true := by rw [bne_iff_ne]; omega
                rw [decide_eq_true h1, Bool.true_or] at hend
                have HF := hide hend
                clear hend h1
                go_wp2
                go_ret2
                exact ⟨by rw [HF.out]; first | rfl | simp, HH.out.2.2⟩
end Go.Proofs.YtmagchclmmphaaaGreatDoor.rf
namespace Go.Proofs.YtmagchclmmphaaaGreatDoor.rf
open Go.RowKit Go.Maps

def ruleF4 (r : List Nat) : Bool × Bool := if r = [] then (false, true) else (decide (0 < nmLen r) && (r.drop (nmLen r)).all blk, decide (0 < nmLen r) && (r.drop (nmLen r)).all blk)
def ruleF3 (r : List Nat) : Bool × Bool := if r = [] ∨ r = [45] then (false, true) else if r.take 2 ≠ [45, 62] then (false, false) else ruleF4 (skipF (r.drop 2))
def ruleF2 (r : List Nat) : Bool × Bool := if r = [] then (false, true) else if r.headD 0 ≠ 41 then (false, false) else ruleF3 (skipF (r.drop 1))
def ruleF1 (r : List Nat) : Bool × Bool := if r = [] then (false, true) else if r.headD 0 ≠ 40 then (false, false) else ruleF2 ((r.drop 1).drop (nmLen (r.drop 1)))
def ruleF (l : List Nat) : Bool × Bool := if nmLen l = 0 then (false, false) else ruleF1 (l.drop (nmLen l))

theorem bts_lit (s : ByteArray) (l : List UInt8) : (s.toList == l) = decide (bts s = l.map (·.toNat)) := by
  rw [Bool.eq_iff_iff, beq_iff_eq, decide_eq_true_iff, ByteArray.toList_eq]
  unfold bts
  constructor
  · intro h; rw [h]
  · intro h; exact List.map_inj_right (fun x y hxy => UInt8.toNat_inj.1 hxy) |>.1 h
theorem size_of_bts {r : ByteArray} {l : List Nat} (h : bts r = l) : r.size = l.length := by rw [← bts_len, h]

set_option maxRecDepth 100000 in
set_option maxHeartbeats 4000000 in
theorem rule_any (s : ByteArray) (w : World) (hs : s.size ≤ 268435456) : Calls Tryz.prog 79 #[.string s] w fun e w' => e = .returned (.tuple #[.bool (ruleF (bts s)).1, .bool (ruleF (bts s)).2]) ∧ w' = w := by
  have HR : Hid (ruleF (bts s) = if nmLen (bts s) = 0 then (false, false) else ruleF1 ((bts s).drop (nmLen (bts s)))) := hide rfl
  have hsz : ∀ {r : ByteArray} {k : Nat}, bts r = (bts s).drop k → r.size ≤ s.size := fun h => by rw [size_of_bts h, List.length_drop, bts_len]; omega
  go_enter Tryz.func79, Tryz.ntmps79
  go_wp2_with fail
  refine (named_any s _ hs).mono ?_
  rintro e w' ⟨r1, rfl, hr1, hw'⟩
  obtain rfl := hw'.symm
  have z1 := hsz hr1
  have HR1 := hide hr1
  by_cases h0 : nmLen (bts s) = 0
  · rw [decide_eq_false (show ¬ 0 < nmLen (bts s) by omega)]
    have HE : Hid (ruleF (bts s) = (false, false)) := hide (by rw [HR.out, if_pos h0])
    clear h0 hr1 hsz
    go_wp2
    go_ret2
    exact ⟨by rw [HE.out]; first | rfl | simp, rfl⟩
  · rw [decide_eq_true (show 0 < nmLen (bts s) by omega)]
    have HE : Hid (ruleF (bts s) = ruleF1 (bts r1)) := hide (by rw [HR.out, if_neg h0, hr1])
    clear h0 hr1 hsz HR1 HR
    have hem1 := bts_empty r1
    by_cases h0 : bts r1 = []
    · rw [decide_eq_true h0] at hem1
      have HF : Hid (ruleF (bts s) = (false, true)) := hide (by rw [HE.out]; unfold ruleF1; rw [if_pos h0])
      clear h0
      go_wp2
      go_ret2
      exact ⟨by rw [HF.out]; first | rfl | simp, rfl⟩
    · rw [decide_eq_false h0] at hem1
      have hp1 : 0 < r1.size := by rw [← bts_len]; exact List.length_pos_iff.2 h0
      have hix1 := idx_b r1 0 hp1
      obtain ⟨b1, hb1⟩ : ∃ b, (bts r1)[0]'(by rw [bts_len]; exact hp1) = b := ⟨_, rfl⟩
      rw [hb1] at hix1
      have hi1 : ∀ W : World, (Instr.index 9 (.string r1) (.int .i64 0)).run Tryz.prog W = .ok (.int .u8 (b1 : Nat)) W := hix1
      have hh1 : (bts r1).headD 0 = b1 := by rw [← hb1]; exact headD_get _ _
      have hs1 : (1 : Int) ≤ (r1.size : Int) := by omega
      clear hix1 hb1
      by_cases hc : b1 = 40
      · have hq1 : ((b1 : Int) != 40) = false := by rw [bne_eq_false_iff_eq]; omega
        have hE2 : ruleF (bts s) = ruleF2 ((bts (r1.extract 1 r1.size)).drop (nmLen (bts (r1.extract 1 r1.size)))) := by rw [HE.out, bts_tail]; unfold ruleF1; rw [if_neg h0, if_neg (fun h => h (by rw [hh1]; exact hc))]
        have HE2' := hide hE2
        clear h0 hc hh1 hE2
        go_wp2_with fail
        refine (named_any (r1.extract 1 r1.size) _ (by rw [ByteArray.size_extract]; omega)).mono ?_
        rintro e w' ⟨r2, rfl, hr2, hw'⟩
        obtain rfl := hw'.symm
        have z2 : r2.size ≤ r1.size := by
          rw [size_of_bts hr2, List.length_drop, bts_len, ByteArray.size_extract]
          omega
        have HE2 : Hid (ruleF (bts s) = ruleF2 (bts r2)) := hide (by rw [HE2'.out, hr2])
        clear hr2 HE2' HE
        generalize decide (0 < nmLen (bts (r1.extract 1 r1.size))) = okk
        have hem2 := bts_empty r2
        by_cases h0 : bts r2 = []
        · rw [decide_eq_true h0] at hem2
          have HF : Hid (ruleF (bts s) = (false, true)) := hide (by rw [HE2.out]; unfold ruleF2; rw [if_pos h0])
          clear h0
          go_wp2
          go_ret2
          exact ⟨by rw [HF.out]; first | rfl | simp, rfl⟩
        · rw [decide_eq_false h0] at hem2
          have hp2 : 0 < r2.size := by rw [← bts_len]; exact List.length_pos_iff.2 h0
          have hix2 := idx_b r2 0 hp2
          obtain ⟨b2, hb2⟩ : ∃ b, (bts r2)[0]'(by rw [bts_len]; exact hp2) = b := ⟨_, rfl⟩
          rw [hb2] at hix2
          have hi2 : ∀ W : World, (Instr.index 9 (.string r2) (.int .i64 0)).run Tryz.prog W = .ok (.int .u8 (b2 : Nat)) W := hix2
          have hh2 : (bts r2).headD 0 = b2 := by rw [← hb2]; exact headD_get _ _
          have hs2 : (1 : Int) ≤ (r2.size : Int) := by omega
          clear hix2 hb2
          by_cases hc : b2 = 41
          · have hq2 : ((b2 : Int) != 41) = false := by rw [bne_eq_false_iff_eq]; omega
            have hE3 : ruleF (bts s) = ruleF3 (skipF (bts (r2.extract 1 r2.size))) := by rw [HE2.out, bts_tail]; unfold ruleF2; rw [if_neg h0, if_neg (fun h => h (by rw [hh2]; exact hc))]
            have HE3' := hide hE3
            clear h0 hc hh2 hE3
            go_wp2_with fail
            refine (skip_any (r2.extract 1 r2.size) _ (by rw [ByteArray.size_extract]; omega)).mono ?_
            rintro e w' ⟨r3, rfl, hr3, hw'⟩
            obtain rfl := hw'.symm
            have z3 : r3.size ≤ r2.size := by
              rw [size_of_bts hr3]
              have := (List.dropWhile_sublist blk (l := bts (r2.extract 1 r2.size))).length_le
              rw [bts_len, ByteArray.size_extract] at this
              unfold skipF
              omega
            have HE3 : Hid (ruleF (bts s) = ruleF3 (bts r3)) := hide (by rw [HE3'.out, hr3])
            clear hr3 HE3' HE2
            have hem3 := bts_empty r3
            have hda3 := bts_lit r3 [45]
            have hda3' : (r3.toList == [45]) = decide (bts r3 = [45]) := hda3
            clear hda3
            by_cases h0 : bts r3 = []
            · rw [decide_eq_true h0] at hem3
              have HF : Hid (ruleF (bts s) = (false, true)) := hide (by rw [HE3.out]; unfold ruleF3; rw [if_pos (.inl h0)])
              clear h0 hda3'
              go_wp2
              go_ret2
              exact ⟨by rw [HF.out]; first | rfl | simp, rfl⟩
            · rw [decide_eq_false h0] at hem3
              by_cases h1 : bts r3 = [45]
              · rw [decide_eq_true h1] at hda3'
                have HF : Hid (ruleF (bts s) = (false, true)) := hide (by rw [HE3.out]; unfold ruleF3; rw [if_pos (.inr h1)])
                clear h0 h1
                go_wp2
                go_ret2
                exact ⟨by rw [HF.out]; first | rfl | simp, rfl⟩
              · rw [decide_eq_false h1] at hda3'
                have h01 : ¬ (bts r3 = [] ∨ bts r3 = [45]) := fun h => h.elim h0 h1
                by_cases h2 : r3.size < 2
                · have j2 : (r3.size : Int) < 2 := by omega
                  have j3 : decide (r3.size < 2) = true := decide_eq_true h2
                  have HF : Hid (ruleF (bts s) = (false, false)) := hide (by
                    rw [HE3.out]; unfold ruleF3
                    rw [if_neg h01, if_pos (fun e => by have := congrArg List.length e; rw [List.length_take, bts_len] at this; simp at this; omega)])
                  clear h0 h1 h01
                  go_wp2
                  go_ret2
                  exact ⟨by rw [HF.out]; first | rfl | simp, rfl⟩
                · have j2 : ¬ (r3.size : Int) < 2 := by omega
                  have j3 : decide (r3.size < 2) = false := decide_eq_false h2
                  have j4 : (2 : Int) ≤ (r3.size : Int) := by omega
                  have har := bts_lit (r3.extract 0 2) [45, 62]
                  rw [bts_take] at har
                  have har' : ((r3.extract 0 2).toList == [45, 62]) = decide ((bts r3).take 2 = [45, 62]) := har
                  clear har
                  by_cases h3 : (bts r3).take 2 = [45, 62]
                  · rw [decide_eq_true h3] at har'
                    have hE4 : ruleF (bts s) = ruleF4 (skipF (bts (r3.extract 2 r3.size))) := by rw [HE3.out, bts_tail]; unfold ruleF3; rw [if_neg h01, if_neg (fun h => h h3)]
                    have HE4' := hide hE4
                    clear h0 h1 h01 h3 hE4
                    go_wp2_with fail
                    refine (skip_any (r3.extract 2 r3.size) _ (by rw [ByteArray.size_extract]; omega)).mono ?_
                    rintro e w' ⟨r4, rfl, hr4, hw'⟩
                    obtain rfl := hw'.symm
                    have z4 : r4.size ≤ r3.size := by
                      rw [size_of_bts hr4]
                      have := (List.dropWhile_sublist blk (l := bts (r3.extract 2 r3.size))).length_le
                      rw [bts_len, ByteArray.size_extract] at this
                      unfold skipF
                      omega
                    have HE4 : Hid (ruleF (bts s) = ruleF4 (bts r4)) := hide (by rw [HE4'.out, hr4])
                    clear hr4 HE4' HE3
                    have hem4 := bts_empty r4
                    by_cases h0 : bts r4 = []
                    · rw [decide_eq_true h0] at hem4
                      have HF : Hid (ruleF (bts s) = (false, true)) := hide (by rw [HE4.out]; unfold ruleF4; rw [if_pos h0])
                      clear h0
                      go_wp2
                      go_ret2
                      exact ⟨by rw [HF.out]; first | rfl | simp, rfl⟩
                    · rw [decide_eq_false h0] at hem4
                      have hp4 : 0 < r4.size := by rw [← bts_len]; exact List.length_pos_iff.2 h0
                      have HF : Hid (ruleF (bts s) = (decide (0 < nmLen (bts r4)) && ((bts r4).drop (nmLen (bts r4))).all blk, decide (0 < nmLen (bts r4)) && ((bts r4).drop (nmLen (bts r4))).all blk)) := hide (by rw [HE4.out]; unfold ruleF4; rw [if_neg h0])
                      clear h0
                      go_wp2_with fail
                      refine (named_any r4 _ (by omega)).mono ?_
                      rintro e w' ⟨r5, rfl, hr5, hw'⟩
                      obtain rfl := hw'.symm
                      have z5 : r5.size ≤ r4.size := by rw [size_of_bts hr5, List.length_drop, bts_len]; omega
                      have hbk := fun W => blanks_any r5 W (by omega)
                      have HF2 := HF.out
                      rw [← hr5] at HF2
                      have HF3 := hide HF2
                      clear HF HF2 hr5
                      generalize (bts r5).all blk = bb at *
                      generalize decide (0 < nmLen (bts r4)) = ok at *
                      cases ok
                      · go_wp2
                        go_ret2
                        exact ⟨by rw [HF3.out]; first | rfl | simp, rfl⟩
                      · go_wp2_with (go_at_call 78; refine (hbk _).mono ?_; rintro e w' ⟨rfl, hw'⟩; obtain rfl := hw'.symm)
                        go_ret2
                        exact ⟨by rw [HF3.out]; first | rfl | simp, rfl⟩
                  · rw [decide_eq_false h3] at har'
                    have HF : Hid (ruleF (bts s) = (false, false)) := hide (by rw [HE3.out]; unfold ruleF3; rw [if_neg h01, if_pos h3])
                    clear h0 h1 h01 h3
                    go_wp2
                    go_ret2
                    exact ⟨by rw [HF.out]; first | rfl | simp, rfl⟩
          · have hq2 : ((b2 : Int) != 41) = true := by rw [bne_iff_ne]; omega
            have HF : Hid (ruleF (bts s) = (false, false)) := hide (by rw [HE2.out]; unfold ruleF2; rw [if_neg h0, if_pos (by rw [hh2]; exact hc)])
            clear h0 hc hh2
            go_wp2
            go_ret2
            exact ⟨by rw [HF.out]; first | rfl | simp, rfl⟩
      · have hq1 : ((b1 : Int) != 40) = true := by rw [bne_iff_ne]; omega
        have HF : Hid (ruleF (bts s) = (false, false)) := hide (by rw [HE.out]; unfold ruleF1; rw [if_neg h0, if_pos (by rw [hh1]; exact hc)])
        clear h0 hc hh1
        go_wp2
        go_ret2
        exact ⟨by rw [HF.out]; first | rfl | simp, rfl⟩
end Go.Proofs.YtmagchclmmphaaaGreatDoor.rf
