import Derived.Test.YtmagchclmmphaaaDoorProg
import Derived.Test.YtmagchclmmphaaaDoorBf
import Derived.WalkKit
import Derived.WalkSpells
import Derived.WalkLawsBesides
import Derived.BigQuiet
import Derived.BigRegion
import Derived.ChangeOld
import Derived.Deep.AppendLies
import Derived.Deep.DeepCutAuto
import Derived.Deep.QuietTactic
import Derived.Deep.RegionHeld3
import Derived.Maps.Own
import Derived.Maps.OwnOps
import Derived.Maps.OwnSet
import Derived.Laws.StandIn
namespace Go.Proofs.YtmagchclmmphaaaDoor
open Go.RowKit Go.Maps

/-- A fact that the walk does not look into. -/
def Hid (p : Prop) : Prop := p
theorem hide {p : Prop} (h : p) : Hid p := h
theorem Hid.out {p : Prop} (h : Hid p) : p := h

set_option maxRecDepth 100000 in
set_option maxHeartbeats 1000000 in
theorem nm_any (b : Nat) (w : World) : Calls Tryd.prog 56 #[.int .u8 b] w fun e w' => e = .returned (.bool (isNm b)) ∧ w' = w := by
  have hc : b < 39 ∨ b = 39 ∨ (40 ≤ b ∧ b < 48) ∨ (48 ≤ b ∧ b ≤ 57) ∨ (58 ≤ b ∧ b < 65) ∨ (65 ≤ b ∧ b ≤ 90) ∨ (91 ≤ b ∧ b < 95) ∨ b = 95 ∨ b = 96 ∨ (97 ≤ b ∧ b ≤ 122) ∨ 122 < b := by omega
  rcases hc with h | h | h | h | h | h | h | h | h | h | h
  · have e : isNm b = false := by
      rw [Bool.eq_iff_iff]
      simp only [isNm, Bool.or_eq_true, Bool.and_eq_true, Nat.ble_eq, Nat.beq_eq, Bool.false_eq_true, iff_false]
      omega
    have HE := hide e
    clear e
    have : ¬ (65 : Int) ≤ (b : Int) := by omega
    have : ¬ (97 : Int) ≤ (b : Int) := by omega
    have : ¬ (48 : Int) ≤ (b : Int) := by omega
    have : ((b : Int) == 95) = false := by rw [beq_eq_false_iff_ne]; omega
    have : ((b : Int) == 39) = false := by rw [beq_eq_false_iff_ne]; omega
    clear h
    go_enter Tryd.func56, Tryd.ntmps56
    go_wp2
    go_ret
    exact ⟨by rw [HE.out]; first | rfl | simp, rfl⟩
  · have e : isNm b = true := by
      rw [Bool.eq_iff_iff]
      simp only [isNm, Bool.or_eq_true, Bool.and_eq_true, Nat.ble_eq, Nat.beq_eq, iff_true]
      omega
    have HE := hide e
    clear e
    have : ¬ (65 : Int) ≤ (b : Int) := by omega
    have : ¬ (97 : Int) ≤ (b : Int) := by omega
    have : ¬ (48 : Int) ≤ (b : Int) := by omega
    have : ((b : Int) == 95) = false := by rw [beq_eq_false_iff_ne]; omega
    have : ((b : Int) == 39) = true := by rw [beq_iff_eq]; omega
    clear h
    go_enter Tryd.func56, Tryd.ntmps56
    go_wp2
    go_ret
    exact ⟨by rw [HE.out]; first | rfl | simp, rfl⟩
  · have e : isNm b = false := by
      rw [Bool.eq_iff_iff]
      simp only [isNm, Bool.or_eq_true, Bool.and_eq_true, Nat.ble_eq, Nat.beq_eq, Bool.false_eq_true, iff_false]
      omega
    have HE := hide e
    clear e
    have : ¬ (65 : Int) ≤ (b : Int) := by omega
    have : ¬ (97 : Int) ≤ (b : Int) := by omega
    have : ¬ (48 : Int) ≤ (b : Int) := by omega
    have : ((b : Int) == 95) = false := by rw [beq_eq_false_iff_ne]; omega
    have : ((b : Int) == 39) = false := by rw [beq_eq_false_iff_ne]; omega
    clear h
    go_enter Tryd.func56, Tryd.ntmps56
    go_wp2
    go_ret
    exact ⟨by rw [HE.out]; first | rfl | simp, rfl⟩
  · have e : isNm b = true := by
      rw [Bool.eq_iff_iff]
      simp only [isNm, Bool.or_eq_true, Bool.and_eq_true, Nat.ble_eq, Nat.beq_eq, iff_true]
      omega
    have HE := hide e
    clear e
    have : ¬ (65 : Int) ≤ (b : Int) := by omega
    have : ¬ (97 : Int) ≤ (b : Int) := by omega
    have : (48 : Int) ≤ (b : Int) := by omega
    have : (b : Int) ≤ 57 := by omega
    have : ((b : Int) == 95) = false := by rw [beq_eq_false_iff_ne]; omega
    have : ((b : Int) == 39) = false := by rw [beq_eq_false_iff_ne]; omega
    clear h
    go_enter Tryd.func56, Tryd.ntmps56
    go_wp2
    go_ret
    exact ⟨by rw [HE.out]; first | rfl | simp, rfl⟩
  · have e : isNm b = false := by
      rw [Bool.eq_iff_iff]
      simp only [isNm, Bool.or_eq_true, Bool.and_eq_true, Nat.ble_eq, Nat.beq_eq, Bool.false_eq_true, iff_false]
      omega
    have HE := hide e
    clear e
    have : ¬ (65 : Int) ≤ (b : Int) := by omega
    have : ¬ (97 : Int) ≤ (b : Int) := by omega
    have : (48 : Int) ≤ (b : Int) := by omega
    have : ¬ (b : Int) ≤ 57 := by omega
    have : ((b : Int) == 95) = false := by rw [beq_eq_false_iff_ne]; omega
    have : ((b : Int) == 39) = false := by rw [beq_eq_false_iff_ne]; omega
    clear h
    go_enter Tryd.func56, Tryd.ntmps56
    go_wp2
    go_ret
    exact ⟨by rw [HE.out]; first | rfl | simp, rfl⟩
  · have e : isNm b = true := by
      rw [Bool.eq_iff_iff]
      simp only [isNm, Bool.or_eq_true, Bool.and_eq_true, Nat.ble_eq, Nat.beq_eq, iff_true]
      omega
    have HE := hide e
    clear e
    have : (65 : Int) ≤ (b : Int) := by omega
    have : (b : Int) ≤ 90 := by omega
    have : ¬ (97 : Int) ≤ (b : Int) := by omega
    have : (48 : Int) ≤ (b : Int) := by omega
    have : ¬ (b : Int) ≤ 57 := by omega
    have : ((b : Int) == 95) = false := by rw [beq_eq_false_iff_ne]; omega
    have : ((b : Int) == 39) = false := by rw [beq_eq_false_iff_ne]; omega
    clear h
    go_enter Tryd.func56, Tryd.ntmps56
    go_wp2
    go_ret
    exact ⟨by rw [HE.out]; first | rfl | simp, rfl⟩
  · have e : isNm b = false := by
      rw [Bool.eq_iff_iff]
      simp only [isNm, Bool.or_eq_true, Bool.and_eq_true, Nat.ble_eq, Nat.beq_eq, Bool.false_eq_true, iff_false]
      omega
    have HE := hide e
    clear e
    have : (65 : Int) ≤ (b : Int) := by omega
    have : ¬ (b : Int) ≤ 90 := by omega
    have : ¬ (97 : Int) ≤ (b : Int) := by omega
    have : (48 : Int) ≤ (b : Int) := by omega
    have : ¬ (b : Int) ≤ 57 := by omega
    have : ((b : Int) == 95) = false := by rw [beq_eq_false_iff_ne]; omega
    have : ((b : Int) == 39) = false := by rw [beq_eq_false_iff_ne]; omega
    clear h
    go_enter Tryd.func56, Tryd.ntmps56
    go_wp2
    go_ret
    exact ⟨by rw [HE.out]; first | rfl | simp, rfl⟩
  · have e : isNm b = true := by
      rw [Bool.eq_iff_iff]
      simp only [isNm, Bool.or_eq_true, Bool.and_eq_true, Nat.ble_eq, Nat.beq_eq, iff_true]
      omega
    have HE := hide e
    clear e
    have : (65 : Int) ≤ (b : Int) := by omega
    have : ¬ (b : Int) ≤ 90 := by omega
    have : ¬ (97 : Int) ≤ (b : Int) := by omega
    have : (48 : Int) ≤ (b : Int) := by omega
    have : ¬ (b : Int) ≤ 57 := by omega
    have : ((b : Int) == 95) = true := by rw [beq_iff_eq]; omega
    have : ((b : Int) == 39) = false := by rw [beq_eq_false_iff_ne]; omega
    clear h
    go_enter Tryd.func56, Tryd.ntmps56
    go_wp2
    go_ret
    exact ⟨by rw [HE.out]; first | rfl | simp, rfl⟩
  · have e : isNm b = false := by
      rw [Bool.eq_iff_iff]
      simp only [isNm, Bool.or_eq_true, Bool.and_eq_true, Nat.ble_eq, Nat.beq_eq, Bool.false_eq_true, iff_false]
      omega
    have HE := hide e
    clear e
    have : (65 : Int) ≤ (b : Int) := by omega
    have : ¬ (b : Int) ≤ 90 := by omega
    have : ¬ (97 : Int) ≤ (b : Int) := by omega
    have : (48 : Int) ≤ (b : Int) := by omega
    have : ¬ (b : Int) ≤ 57 := by omega
    have : ((b : Int) == 95) = false := by rw [beq_eq_false_iff_ne]; omega
    have : ((b : Int) == 39) = false := by rw [beq_eq_false_iff_ne]; omega
    clear h
    go_enter Tryd.func56, Tryd.ntmps56
    go_wp2
    go_ret
    exact ⟨by rw [HE.out]; first | rfl | simp, rfl⟩
  · have e : isNm b = true := by
      rw [Bool.eq_iff_iff]
      simp only [isNm, Bool.or_eq_true, Bool.and_eq_true, Nat.ble_eq, Nat.beq_eq, iff_true]
      omega
    have HE := hide e
    clear e
    have : (65 : Int) ≤ (b : Int) := by omega
    have : ¬ (b : Int) ≤ 90 := by omega
    have : (97 : Int) ≤ (b : Int) := by omega
    have : (b : Int) ≤ 122 := by omega
    have : (48 : Int) ≤ (b : Int) := by omega
    have : ¬ (b : Int) ≤ 57 := by omega
    have : ((b : Int) == 95) = false := by rw [beq_eq_false_iff_ne]; omega
    have : ((b : Int) == 39) = false := by rw [beq_eq_false_iff_ne]; omega
    clear h
    go_enter Tryd.func56, Tryd.ntmps56
    go_wp2
    go_ret
    exact ⟨by rw [HE.out]; first | rfl | simp, rfl⟩
  · have e : isNm b = false := by
      rw [Bool.eq_iff_iff]
      simp only [isNm, Bool.or_eq_true, Bool.and_eq_true, Nat.ble_eq, Nat.beq_eq, Bool.false_eq_true, iff_false]
      omega
    have HE := hide e
    clear e
    have : (65 : Int) ≤ (b : Int) := by omega
    have : ¬ (b : Int) ≤ 90 := by omega
    have : (97 : Int) ≤ (b : Int) := by omega
    have : ¬ (b : Int) ≤ 122 := by omega
    have : (48 : Int) ≤ (b : Int) := by omega
    have : ¬ (b : Int) ≤ 57 := by omega
    have : ((b : Int) == 95) = false := by rw [beq_eq_false_iff_ne]; omega
    have : ((b : Int) == 39) = false := by rw [beq_eq_false_iff_ne]; omega
    clear h
    go_enter Tryd.func56, Tryd.ntmps56
    go_wp2
    go_ret
    exact ⟨by rw [HE.out]; first | rfl | simp, rfl⟩
end Go.Proofs.YtmagchclmmphaaaDoor
