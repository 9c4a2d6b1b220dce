import Derived.Test.YtmagchclmmphaabGreatDoorSP
import Derived.Lib.Strings
import Derived.Laws.DeepStrings4
namespace Go.Proofs.YtmagchclmmphaabGreatDoor.rf
open Go.RowKit Go.Maps

theorem bts_extract (s : ByteArray) (a b : Nat) : bts (s.extract a b) = ((bts s).drop a).take (b - a) := by
  unfold bts
  rw [Lib.extract_data, List.map_take, List.map_drop]
theorem bts_take (s : ByteArray) (n : Nat) : bts (s.extract 0 n) = (bts s).take n := by rw [bts_extract]; simp
theorem bts_append (a b : ByteArray) : bts (a ++ b) = bts a ++ bts b := by
  unfold bts
  simp [ByteArray.data_append]
theorem bts_strB (l : List Nat) (h : ∀ b ∈ l, b < 256) : bts (strB l) = l := by
  unfold bts strB
  simp only [List.map_map]
  conv => rhs; rw [← List.map_id l]
  apply List.map_congr_left
  intro b hb
  simp [Nat.mod_eq_of_lt (h b hb)]
theorem idx_b (s : ByteArray) (k : Nat) (h : k < s.size) (W : World) : (Instr.index 9 (.string s) (.int .i64 (k : Int))).run Tryz.prog W = .ok (.int .u8 ((bts s)[k]'(by rw [bts_len]; exact h) : Nat)) W :=
  idx_w s k _ h (bts_get s k h).symm W
theorem below_drewN' {B : Nat} {w w' : World} (h : Below B w w') (q : Nat) : Below B w (w'.drewN q) := ⟨h.os, h.tape, h.output, h.size, h.block⟩
theorem str_beq (a b : ByteArray) : (a.toList == b.toList) = decide (a = b) := by
  rw [Bool.eq_iff_iff, beq_iff_eq, decide_eq_true_iff, ByteArray.toList_eq, ByteArray.toList_eq]
  constructor
  · intro h
    cases a; cases b
    simp at h
    rw [h]
  · rintro rfl; rfl
theorem bts_inj {a b : ByteArray} (h : bts a = bts b) : a = b := by
  cases a with | mk a =>
  cases b with | mk b =>
  unfold bts at h
  simp only at h
  have : a.toList = b.toList := List.map_inj_right (fun x y hxy => UInt8.toNat_inj.1 hxy) |>.1 h
  rw [Array.toList_inj.1 this]
end Go.Proofs.YtmagchclmmphaabGreatDoor.rf
namespace Go.Proofs.YtmagchclmmphaabGreatDoor.rf
open Go.RowKit Go.Maps

/-! ### What the document's answer reckons, on lists of bytes -/
def blk (c : Nat) : Bool := c == 32 || c == 9
def nmF (l : List Nat) : Bool := decide (1 ≤ l.length) && (decide (l.length ≤ 16) && l.all isNm)
def nmLen (l : List Nat) : Nat := min 16 (l.takeWhile isNm).length
def skipF (l : List Nat) : List Nat := l.dropWhile blk

theorem all_take {p : Nat → Bool} {l : List Nat} {k b : Nat} (hk : k < l.length) (hb : l[k] = b) (h : (l.take k).all p = true) : (l.take (k + 1)).all p = p b := by
  rw [List.take_succ_eq_append_getElem hk, List.all_append, h, hb]
  simp
theorem all_not {p : Nat → Bool} {l : List Nat} {k b : Nat} (hk : k < l.length) (hb : l[k] = b) (h : p b = false) : l.all p = false := by
  rw [List.all_eq_false]
  exact ⟨b, hb ▸ List.getElem_mem hk, by rw [h]; exact Bool.false_ne_true⟩

set_option maxRecDepth 100000 in
set_option maxHeartbeats 1000000 in

theorem nmF_true {l : List Nat} (h1 : 1 ≤ l.length) (h2 : l.length ≤ 16) (h : l.all isNm = true) : nmF l = true := by unfold nmF; rw [decide_eq_true h1, decide_eq_true h2, h]; rfl
theorem nmF_false {l : List Nat} (h : l.all isNm = false) : nmF l = false := by unfold nmF; rw [h]; simp
theorem nmF_short {l : List Nat} (h : ¬ 1 ≤ l.length) : nmF l = false := by unfold nmF; rw [decide_eq_false h]; rfl
theorem nmF_long {l : List Nat} (h : ¬ l.length ≤ 16) : nmF l = false := by unfold nmF; rw [decide_eq_false h]; simp

set_option maxRecDepth 100000 in
set_option maxHeartbeats 4000000 in
theorem name_any (s : ByteArray) (w : World) : Calls Tryz.prog 87 #[.string s] w fun e w' => e = .returned (.bool (nmF (bts s))) ∧ w' = w := by
  have HL := hide (bts_len s)
  by_cases h1 : s.size < 1
  · have HE := hide (nmF_short (l := bts s) (by rw [HL.out]; omega))
    have i1 : (s.size : Int) < 1 := by omega
    have i2 : decide ((s.size : Int) < 1) = true := decide_eq_true i1
    have i3 : s.size < 1 := h1
    go_enter Tryz.func87, Tryz.ntmps87
    go_wp2
    go_ret
    exact ⟨by rw [HE.out]; rfl, rfl⟩
  · by_cases h2 : s.size ≤ 16
    · have i1 : ¬ (s.size : Int) < 1 := by omega
      have i2 : ¬ (s.size : Int) > 16 := by omega
      go_enter Tryz.func87, Tryz.ntmps87
      go_wp2
      go_loopw [3] (fun i wr => ∃ k : Nat, k ≤ s.size ∧ i = .int .i64 k ∧ Hid (((bts s).take k).all isNm = true) ∧ wr = w) (fun i _ => s.size - (intOf i).toNat)
      case atStart => exact ⟨0, Nat.zero_le _, rfl, hide rfl, rfl⟩
      case round =>
        obtain ⟨k, hk, rfl, HA, hwr⟩ := hrel
        obtain rfl := hwr.symm
        by_cases hlt : k < s.size
        · have hkl : k < (bts s).length := by rw [bts_len]; exact hlt
          have hix := idx_b s k hlt
          obtain ⟨b, hb⟩ : ∃ b, (bts s)[k]'hkl = b := ⟨_, rfl⟩
          rw [hb] at hix
          have j1 : (k : Int) < (s.size : Int) := by omega
          have HB := hide hb
          clear hb
          have hc : b < 39 ∨ b = 39 ∨ (40 ≤ b ∧ b < 48) ∨ (48 ≤ b ∧ b ≤ 57) ∨ (58 ≤ b ∧ b < 65) ∨ (65 ≤ b ∧ b ≤ 90) ∨ (91 ≤ b ∧ b < 95) ∨ b = 95 ∨ b = 96 ∨ (97 ≤ b ∧ b ≤ 122) ∨ 122 < b := by omega
          rcases hc with h | h | h | h | h | h | h | h | h | h | h
          · have e : isNm b = false := by
              rw [Bool.eq_iff_iff]
              simp only [isNm, Bool.or_eq_true, Bool.and_eq_true, Nat.ble_eq, Nat.beq_eq, Bool.false_eq_true, iff_false]
              omega
            have HE := hide (nmF_false (all_not hkl HB.out e))
            clear e
            have : ¬ (b : Int) ≥ 97 := by omega
            have : decide (97 ≤ b) = false := decide_eq_false (by omega)
            have : decide (b ≤ 122) = true := decide_eq_true (by omega)
            have : ¬ (b : Int) ≥ 65 := by omega
            have : decide (65 ≤ b) = false := decide_eq_false (by omega)
            have : decide (b ≤ 90) = true := decide_eq_true (by omega)
            have : ¬ (b : Int) ≥ 48 := by omega
            have : decide (48 ≤ b) = false := decide_eq_false (by omega)
            have : decide (b ≤ 57) = true := decide_eq_true (by omega)
            have : ((b : Int) != 95) = true := by rw [bne_iff_ne]; omega
            have : ((b : Int) != 39) = true := by rw [bne_iff_ne]; omega
            clear h
            go_wp2
            go_ret
            exact ⟨by rw [HE.out]; rfl, rfl⟩
          · have e : isNm b = true := by
              rw [Bool.eq_iff_iff]
              simp only [isNm, Bool.or_eq_true, Bool.and_eq_true, Nat.ble_eq, Nat.beq_eq, iff_true]
              omega
            have HN := hide ((all_take hkl HB.out HA.out).trans e)
            clear e
            have : ¬ (b : Int) ≥ 97 := by omega
            have : decide (97 ≤ b) = false := decide_eq_false (by omega)
            have : decide (b ≤ 122) = true := decide_eq_true (by omega)
            have : ¬ (b : Int) ≥ 65 := by omega
            have : decide (65 ≤ b) = false := decide_eq_false (by omega)
            have : decide (b ≤ 90) = true := decide_eq_true (by omega)
            have : ¬ (b : Int) ≥ 48 := by omega
            have : decide (48 ≤ b) = false := decide_eq_false (by omega)
            have : decide (b ≤ 57) = true := decide_eq_true (by omega)
            have : ((b : Int) != 95) = true := by rw [bne_iff_ne]; omega
            have : ((b : Int) != 39) = false := by rw [bne_eq_false_iff_eq]; omega
            clear h
            go_wp2
            go_roundw
            case rel => exact ⟨k + 1, by omega, by go_num, HN, trivial⟩
            case measure => simp [intOf]; omega
          · have e : isNm b = false := by
              rw [Bool.eq_iff_iff]
              simp only [isNm, Bool.or_eq_true, Bool.and_eq_true, Nat.ble_eq, Nat.beq_eq, Bool.false_eq_true, iff_false]
              omega
            have HE := hide (nmF_false (all_not hkl HB.out e))
            clear e
            have : ¬ (b : Int) ≥ 97 := by omega
            have : decide (97 ≤ b) = false := decide_eq_false (by omega)
            have : decide (b ≤ 122) = true := decide_eq_true (by omega)
            have : ¬ (b : Int) ≥ 65 := by omega
            have : decide (65 ≤ b) = false := decide_eq_false (by omega)
            have : decide (b ≤ 90) = true := decide_eq_true (by omega)
            have : ¬ (b : Int) ≥ 48 := by omega
            have : decide (48 ≤ b) = false := decide_eq_false (by omega)
            have : decide (b ≤ 57) = true := decide_eq_true (by omega)
            have : ((b : Int) != 95) = true := by rw [bne_iff_ne]; omega
            have : ((b : Int) != 39) = true := by rw [bne_iff_ne]; omega
            clear h
            go_wp2
            go_ret
            exact ⟨by rw [HE.out]; rfl, rfl⟩
          · have e : isNm b = true := by
              rw [Bool.eq_iff_iff]
              simp only [isNm, Bool.or_eq_true, Bool.and_eq_true, Nat.ble_eq, Nat.beq_eq, iff_true]
              omega
            have HN := hide ((all_take hkl HB.out HA.out).trans e)
            clear e
            have : ¬ (b : Int) ≥ 97 := by omega
            have : decide (97 ≤ b) = false := decide_eq_false (by omega)
            have : decide (b ≤ 122) = true := decide_eq_true (by omega)
            have : ¬ (b : Int) ≥ 65 := by omega
            have : decide (65 ≤ b) = false := decide_eq_false (by omega)
            have : decide (b ≤ 90) = true := decide_eq_true (by omega)
            have : (b : Int) ≥ 48 := by omega
            have : (b : Int) ≤ 57 := by omega
            have : decide (48 ≤ b) = true := decide_eq_true (by omega)
            have : decide (b ≤ 57) = true := decide_eq_true (by omega)
            have : ((b : Int) != 95) = true := by rw [bne_iff_ne]; omega
            have : ((b : Int) != 39) = true := by rw [bne_iff_ne]; omega
            clear h
            go_wp2
            go_roundw
            case rel => exact ⟨k + 1, by omega, by go_num, HN, trivial⟩
            case measure => simp [intOf]; omega
          · have e : isNm b = false := by
              rw [Bool.eq_iff_iff]
              simp only [isNm, Bool.or_eq_true, Bool.and_eq_true, Nat.ble_eq, Nat.beq_eq, Bool.false_eq_true, iff_false]
              omega
            have HE := hide (nmF_false (all_not hkl HB.out e))
            clear e
            have : ¬ (b : Int) ≥ 97 := by omega
            have : decide (97 ≤ b) = false := decide_eq_false (by omega)
            have : decide (b ≤ 122) = true := decide_eq_true (by omega)
            have : ¬ (b : Int) ≥ 65 := by omega
            have : decide (65 ≤ b) = false := decide_eq_false (by omega)
            have : decide (b ≤ 90) = true := decide_eq_true (by omega)
            have : (b : Int) ≥ 48 := by omega
            have : ¬ (b : Int) ≤ 57 := by omega
            have : decide (48 ≤ b) = true := decide_eq_true (by omega)
            have : decide (b ≤ 57) = false := decide_eq_false (by omega)
            have : ((b : Int) != 95) = true := by rw [bne_iff_ne]; omega
            have : ((b : Int) != 39) = true := by rw [bne_iff_ne]; omega
            clear h
            go_wp2
            go_ret
            exact ⟨by rw [HE.out]; rfl, rfl⟩
          · have e : isNm b = true := by
              rw [Bool.eq_iff_iff]
              simp only [isNm, Bool.or_eq_true, Bool.and_eq_true, Nat.ble_eq, Nat.beq_eq, iff_true]
              omega
            have HN := hide ((all_take hkl HB.out HA.out).trans e)
            clear e
            have : ¬ (b : Int) ≥ 97 := by omega
            have : decide (97 ≤ b) = false := decide_eq_false (by omega)
            have : decide (b ≤ 122) = true := decide_eq_true (by omega)
            have : (b : Int) ≥ 65 := by omega
            have : (b : Int) ≤ 90 := by omega
            have : decide (65 ≤ b) = true := decide_eq_true (by omega)
            have : decide (b ≤ 90) = true := decide_eq_true (by omega)
            have : (b : Int) ≥ 48 := by omega
            have : ¬ (b : Int) ≤ 57 := by omega
            have : decide (48 ≤ b) = true := decide_eq_true (by omega)
            have : decide (b ≤ 57) = false := decide_eq_false (by omega)
            have : ((b : Int) != 95) = true := by rw [bne_iff_ne]; omega
            have : ((b : Int) != 39) = true := by rw [bne_iff_ne]; omega
            clear h
            go_wp2
            go_roundw
            case rel => exact ⟨k + 1, by omega, by go_num, HN, trivial⟩
            case measure => simp [intOf]; omega
          · have e : isNm b = false := by
              rw [Bool.eq_iff_iff]
              simp only [isNm, Bool.or_eq_true, Bool.and_eq_true, Nat.ble_eq, Nat.beq_eq, Bool.false_eq_true, iff_false]
              omega
            have HE := hide (nmF_false (all_not hkl HB.out e))
            clear e
            have : ¬ (b : Int) ≥ 97 := by omega
            have : decide (97 ≤ b) = false := decide_eq_false (by omega)
            have : decide (b ≤ 122) = true := decide_eq_true (by omega)
            have : (b : Int) ≥ 65 := by omega
            have : ¬ (b : Int) ≤ 90 := by omega
            have : decide (65 ≤ b) = true := decide_eq_true (by omega)
            have : decide (b ≤ 90) = false := decide_eq_false (by omega)
            have : (b : Int) ≥ 48 := by omega
            have : ¬ (b : Int) ≤ 57 := by omega
            have : decide (48 ≤ b) = true := decide_eq_true (by omega)
            have : decide (b ≤ 57) = false := decide_eq_false (by omega)
            have : ((b : Int) != 95) = true := by rw [bne_iff_ne]; omega
            have : ((b : Int) != 39) = true := by rw [bne_iff_ne]; omega
            clear h
            go_wp2
            go_ret
            exact ⟨by rw [HE.out]; rfl, rfl⟩
          · have e : isNm b = true := by
              rw [Bool.eq_iff_iff]
              simp only [isNm, Bool.or_eq_true, Bool.and_eq_true, Nat.ble_eq, Nat.beq_eq, iff_true]
              omega
            have HN := hide ((all_take hkl HB.out HA.out).trans e)
            clear e
            have : ¬ (b : Int) ≥ 97 := by omega
            have : decide (97 ≤ b) = false := decide_eq_false (by omega)
            have : decide (b ≤ 122) = true := decide_eq_true (by omega)
            have : (b : Int) ≥ 65 := by omega
            have : ¬ (b : Int) ≤ 90 := by omega
            have : decide (65 ≤ b) = true := decide_eq_true (by omega)
            have : decide (b ≤ 90) = false := decide_eq_false (by omega)
            have : (b : Int) ≥ 48 := by omega
            have : ¬ (b : Int) ≤ 57 := by omega
            have : decide (48 ≤ b) = true := decide_eq_true (by omega)
            have : decide (b ≤ 57) = false := decide_eq_false (by omega)
            have : ((b : Int) != 95) = false := by rw [bne_eq_false_iff_eq]; omega
            have : ((b : Int) != 39) = true := by rw [bne_iff_ne]; omega
            clear h
            go_wp2
            go_roundw
            case rel => exact ⟨k + 1, by omega, by go_num, HN, trivial⟩
            case measure => simp [intOf]; omega
          · have e : isNm b = false := by
              rw [Bool.eq_iff_iff]
              simp only [isNm, Bool.or_eq_true, Bool.and_eq_true, Nat.ble_eq, Nat.beq_eq, Bool.false_eq_true, iff_false]
              omega
            have HE := hide (nmF_false (all_not hkl HB.out e))
            clear e
            have : ¬ (b : Int) ≥ 97 := by omega
            have : decide (97 ≤ b) = false := decide_eq_false (by omega)
            have : decide (b ≤ 122) = true := decide_eq_true (by omega)
            have : (b : Int) ≥ 65 := by omega
            have : ¬ (b : Int) ≤ 90 := by omega
            have : decide (65 ≤ b) = true := decide_eq_true (by omega)
            have : decide (b ≤ 90) = false := decide_eq_false (by omega)
            have : (b : Int) ≥ 48 := by omega
            have : ¬ (b : Int) ≤ 57 := by omega
            have : decide (48 ≤ b) = true := decide_eq_true (by omega)
            have : decide (b ≤ 57) = false := decide_eq_false (by omega)
            have : ((b : Int) != 95) = true := by rw [bne_iff_ne]; omega
            have : ((b : Int) != 39) = true := by rw [bne_iff_ne]; omega
            clear h
            go_wp2
            go_ret
            exact ⟨by rw [HE.out]; rfl, rfl⟩
          · have e : isNm b = true := by
              rw [Bool.eq_iff_iff]
              simp only [isNm, Bool.or_eq_true, Bool.and_eq_true, Nat.ble_eq, Nat.beq_eq, iff_true]
              omega
            have HN := hide ((all_take hkl HB.out HA.out).trans e)
            clear e
            have : (b : Int) ≥ 97 := by omega
            have : (b : Int) ≤ 122 := by omega
            have : decide (97 ≤ b) = true := decide_eq_true (by omega)
            have : decide (b ≤ 122) = true := decide_eq_true (by omega)
            have : (b : Int) ≥ 65 := by omega
            have : ¬ (b : Int) ≤ 90 := by omega
            have : decide (65 ≤ b) = true := decide_eq_true (by omega)
            have : decide (b ≤ 90) = false := decide_eq_false (by omega)
            have : (b : Int) ≥ 48 := by omega
            have : ¬ (b : Int) ≤ 57 := by omega
            have : decide (48 ≤ b) = true := decide_eq_true (by omega)
            have : decide (b ≤ 57) = false := decide_eq_false (by omega)
            have : ((b : Int) != 95) = true := by rw [bne_iff_ne]; omega
            have : ((b : Int) != 39) = true := by rw [bne_iff_ne]; omega
            clear h
            go_wp2
            go_roundw
            case rel => exact ⟨k + 1, by omega, by go_num, HN, trivial⟩
            case measure => simp [intOf]; omega
          · have e : isNm b = false := by
              rw [Bool.eq_iff_iff]
              simp only [isNm, Bool.or_eq_true, Bool.and_eq_true, Nat.ble_eq, Nat.beq_eq, Bool.false_eq_true, iff_false]
              omega
            have HE := hide (nmF_false (all_not hkl HB.out e))
            clear e
            have : (b : Int) ≥ 97 := by omega
            have : ¬ (b : Int) ≤ 122 := by omega
            have : decide (97 ≤ b) = true := decide_eq_true (by omega)
            have : decide (b ≤ 122) = false := decide_eq_false (by omega)
            have : (b : Int) ≥ 65 := by omega
            have : ¬ (b : Int) ≤ 90 := by omega
            have : decide (65 ≤ b) = true := decide_eq_true (by omega)
            have : decide (b ≤ 90) = false := decide_eq_false (by omega)
            have : (b : Int) ≥ 48 := by omega
            have : ¬ (b : Int) ≤ 57 := by omega
            have : decide (48 ≤ b) = true := decide_eq_true (by omega)
            have : decide (b ≤ 57) = false := decide_eq_false (by omega)
            have : ((b : Int) != 95) = true := by rw [bne_iff_ne]; omega
            have : ((b : Int) != 39) = true := by rw [bne_iff_ne]; omega
            clear h
            go_wp2
            go_ret
            exact ⟨by rw [HE.out]; rfl, rfl⟩
        · have j1 : ¬ (k : Int) < (s.size : Int) := by omega
          have HE : Hid (nmF (bts s) = true) := hide (nmF_true (by rw [HL.out]; omega) (by rw [HL.out]; omega) (by have := HA.out; rwa [List.take_of_length_le (by have := HL.out; omega)] at this))
          go_wp2
          go_ret
          exact ⟨by rw [HE.out]; rfl, rfl⟩
    · have HE := hide (nmF_long (l := bts s) (by rw [HL.out]; omega))
      have i1 : ¬ (s.size : Int) < 1 := by omega
      have i2 : (s.size : Int) > 16 := by omega
      have i3 : decide (16 < s.size) = true := decide_eq_true (by omega)
      have i4 : decide (s.size < 1) = false := decide_eq_false (by omega)
      go_enter Tryz.func87, Tryz.ntmps87
      go_wp2
      go_ret
      exact ⟨by rw [HE.out]; rfl, rfl⟩

end Go.Proofs.YtmagchclmmphaabGreatDoor.rf
namespace Go.Proofs.YtmagchclmmphaabGreatDoor.rf
open Go.RowKit Go.Maps
def strV (l : List ByteArray) : List Value := l.map .string
theorem strV_one (l : List ByteArray) : ∀ u ∈ strV l, u.oneCell' = true := by
  intro u hu
  obtain ⟨k, _, rfl⟩ := List.mem_map.1 hu
  rfl
def OwnS (w : World) (B : Nat) (v : Value) (l : List ByteArray) : Prop := w.ownsRow B 9 1 v l.length (strV l)
theorem info9 : (Tryz.prog.info? 9).map (fun i => (i.zero, i.size, i.bytes)) = some (some (.string ByteArray.empty), 1, 16) := by kernel_rfl
end Go.Proofs.YtmagchclmmphaabGreatDoor.rf
