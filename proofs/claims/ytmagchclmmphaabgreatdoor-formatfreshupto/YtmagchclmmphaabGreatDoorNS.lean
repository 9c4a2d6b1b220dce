import Derived.Test.YtmagchclmmphaabGreatDoorProg
import Derived.Test.YtmagchclmmphaabGreatDoorGB
import Derived.WalkKit
import Derived.WalkSpells
import Derived.WalkLawsBesides
import Derived.BigQuiet
import Derived.BigRegion
import Derived.ChangeOld
import Derived.Deep.AppendLies
import Derived.Deep.DeepCutAuto
import Derived.Deep.QuietTactic
import Derived.Deep.RegionHeld3
import Derived.Maps.Own
import Derived.Maps.OwnOps
import Derived.Maps.OwnSet
import Derived.Laws.StandIn
namespace Go.Proofs.YtmagchclmmphaabGreatDoor
open Go.RowKit Go.Maps

/-- A fact that the walk does not look into. -/
def Hid (p : Prop) : Prop := p
theorem hide {p : Prop} (h : p) : Hid p := h
theorem Hid.out {p : Prop} (h : Hid p) : p := h

set_option maxRecDepth 100000 in
set_option maxHeartbeats 1000000 in
theorem nm_any (b : Nat) (w : World) : Calls Tryz.prog 131 #[.int .u8 b] w fun e w' => e = .returned (.bool (isNm b)) ∧ w' = w := by
  have hc : b < 39 ∨ b = 39 ∨ (40 ≤ b ∧ b < 48) ∨ (48 ≤ b ∧ b ≤ 57) ∨ (58 ≤ b ∧ b < 65) ∨ (65 ≤ b ∧ b ≤ 90) ∨ (91 ≤ b ∧ b < 95) ∨ b = 95 ∨ b = 96 ∨ (97 ≤ b ∧ b ≤ 122) ∨ 122 < b := by omega
  rcases hc with h | h | h | h | h | h | h | h | h | h | h
  · have e : isNm b = false := by
      rw [Bool.eq_iff_iff]
      simp only [isNm, Bool.or_eq_true, Bool.and_eq_true, Nat.ble_eq, Nat.beq_eq, Bool.false_eq_true, iff_false]
      omega
    have HE := hide e
    clear e
    have : ¬ (65 : Int) ≤ (b : Int) := by omega
    have : ¬ (97 : Int) ≤ (b : Int) := by omega
    have : ¬ (48 : Int) ≤ (b : Int) := by omega
    have : ((b : Int) == 95) = false := by rw [beq_eq_false_iff_ne]; omega
    have : ((b : Int) == 39) = false := by rw [beq_eq_false_iff_ne]; omega
    clear h
    go_enter Tryz.func131, Tryz.ntmps131
    go_wp2
    go_ret
    exact ⟨by rw [HE.out]; first | rfl | simp, rfl⟩
  · have e : isNm b = true := by
      rw [Bool.eq_iff_iff]
      simp only [isNm, Bool.or_eq_true, Bool.and_eq_true, Nat.ble_eq, Nat.beq_eq, iff_true]
      omega
    have HE := hide e
    clear e
    have : ¬ (65 : Int) ≤ (b : Int) := by omega
    have : ¬ (97 : Int) ≤ (b : Int) := by omega
    have : ¬ (48 : Int) ≤ (b : Int) := by omega
    have : ((b : Int) == 95) = false := by rw [beq_eq_false_iff_ne]; omega
    have : ((b : Int) == 39) = true := by rw [beq_iff_eq]; omega
    clear h
    go_enter Tryz.func131, Tryz.ntmps131
    go_wp2
    go_ret
    exact ⟨by rw [HE.out]; first | rfl | simp, rfl⟩
  · have e : isNm b = false := by
      rw [Bool.eq_iff_iff]
      simp only [isNm, Bool.or_eq_true, Bool.and_eq_true, Nat.ble_eq, Nat.beq_eq, Bool.false_eq_true, iff_false]
      omega
    have HE := hide e
    clear e
    have : ¬ (65 : Int) ≤ (b : Int) := by omega
    have : ¬ (97 : Int) ≤ (b : Int) := by omega
    have : ¬ (48 : Int) ≤ (b : Int) := by omega
    have : ((b : Int) == 95) = false := by rw [beq_eq_false_iff_ne]; omega
    have : ((b : Int) == 39) = false := by rw [beq_eq_false_iff_ne]; omega
    clear h
    go_enter Tryz.func131, Tryz.ntmps131
    go_wp2
    go_ret
    exact ⟨by rw [HE.out]; first | rfl | simp, rfl⟩
  · have e : isNm b = true := by
      rw [Bool.eq_iff_iff]
      simp only [isNm, Bool.or_eq_true, Bool.and_eq_true, Nat.ble_eq, Nat.beq_eq, iff_true]
      omega
    have HE := hide e
    clear e
    have : ¬ (65 : Int) ≤ (b : Int) := by omega
    have : ¬ (97 : Int) ≤ (b : Int) := by omega
    have : (48 : Int) ≤ (b : Int) := by omega
    have : (b : Int) ≤ 57 := by omega
    have : ((b : Int) == 95) = false := by rw [beq_eq_false_iff_ne]; omega
    have : ((b : Int) == 39) = false := by rw [beq_eq_false_iff_ne]; omega
    clear h
    go_enter Tryz.func131, Tryz.ntmps131
    go_wp2
    go_ret
    exact ⟨by rw [HE.out]; first | rfl | simp, rfl⟩
  · have e : isNm b = false := by
      rw [Bool.eq_iff_iff]
      simp only [isNm, Bool.or_eq_true, Bool.and_eq_true, Nat.ble_eq, Nat.beq_eq, Bool.false_eq_true, iff_false]
      omega
    have HE := hide e
    clear e
    have : ¬ (65 : Int) ≤ (b : Int) := by omega
    have : ¬ (97 : Int) ≤ (b : Int) := by omega
    have : (48 : Int) ≤ (b : Int) := by omega
    have : ¬ (b : Int) ≤ 57 := by omega
    have : ((b : Int) == 95) = false := by rw [beq_eq_false_iff_ne]; omega
    have : ((b : Int) == 39) = false := by rw [beq_eq_false_iff_ne]; omega
    clear h
    go_enter Tryz.func131, Tryz.ntmps131
    go_wp2
    go_ret
    exact ⟨by rw [HE.out]; first | rfl | simp, rfl⟩
  · have e : isNm b = true := by
      rw [Bool.eq_iff_iff]
      simp only [isNm, Bool.or_eq_true, Bool.and_eq_true, Nat.ble_eq, Nat.beq_eq, iff_true]
      omega
    have HE := hide e
    clear e
    have : (65 : Int) ≤ (b : Int) := by omega
    have : (b : Int) ≤ 90 := by omega
    have : ¬ (97 : Int) ≤ (b : Int) := by omega
    have : (48 : Int) ≤ (b : Int) := by omega
    have : ¬ (b : Int) ≤ 57 := by omega
    have : ((b : Int) == 95) = false := by rw [beq_eq_false_iff_ne]; omega
    have : ((b : Int) == 39) = false := by rw [beq_eq_false_iff_ne]; omega
    clear h
    go_enter Tryz.func131, Tryz.ntmps131
    go_wp2
    go_ret
    exact ⟨by rw [HE.out]; first | rfl | simp, rfl⟩
  · have e : isNm b = false := by
      rw [Bool.eq_iff_iff]
      simp only [isNm, Bool.or_eq_true, Bool.and_eq_true, Nat.ble_eq, Nat.beq_eq, Bool.false_eq_true, iff_false]
      omega
    have HE := hide e
    clear e
    have : (65 : Int) ≤ (b : Int) := by omega
    have : ¬ (b : Int) ≤ 90 := by omega
    have : ¬ (97 : Int) ≤ (b : Int) := by omega
    have : (48 : Int) ≤ (b : Int) := by omega
    have : ¬ (b : Int) ≤ 57 := by omega
    have : ((b : Int) == 95) = false := by rw [beq_eq_false_iff_ne]; omega
    have : ((b : Int) == 39) = false := by rw [beq_eq_false_iff_ne]; omega
    clear h
    go_enter Tryz.func131, Tryz.ntmps131
    go_wp2
    go_ret
    exact ⟨by rw [HE.out]; first | rfl | simp, rfl⟩
  · have e : isNm b = true := by
      rw [Bool.eq_iff_iff]
      simp only [isNm, Bool.or_eq_true, Bool.and_eq_true, Nat.ble_eq, Nat.beq_eq, iff_true]
      omega
    have HE := hide e
    clear e
    have : (65 : Int) ≤ (b : Int) := by omega
    have : ¬ (b : Int) ≤ 90 := by omega
    have : ¬ (97 : Int) ≤ (b : Int) := by omega
    have : (48 : Int) ≤ (b : Int) := by omega
    have : ¬ (b : Int) ≤ 57 := by omega
    have : ((b : Int) == 95) = true := by rw [beq_iff_eq]; omega
    have : ((b : Int) == 39) = false := by rw [beq_eq_false_iff_ne]; omega
    clear h
    go_enter Tryz.func131, Tryz.ntmps131
    go_wp2
    go_ret
    exact ⟨by rw [HE.out]; first | rfl | simp, rfl⟩
  · have e : isNm b = false := by
      rw [Bool.eq_iff_iff]
      simp only [isNm, Bool.or_eq_true, Bool.and_eq_true, Nat.ble_eq, Nat.beq_eq, Bool.false_eq_true, iff_false]
      omega
    have HE := hide e
    clear e
    have : (65 : Int) ≤ (b : Int) := by omega
    have : ¬ (b : Int) ≤ 90 := by omega
    have : ¬ (97 : Int) ≤ (b : Int) := by omega
    have : (48 : Int) ≤ (b : Int) := by omega
    have : ¬ (b : Int) ≤ 57 := by omega
    have : ((b : Int) == 95) = false := by rw [beq_eq_false_iff_ne]; omega
    have : ((b : Int) == 39) = false := by rw [beq_eq_false_iff_ne]; omega
    clear h
    go_enter Tryz.func131, Tryz.ntmps131
    go_wp2
    go_ret
    exact ⟨by rw [HE.out]; first | rfl | simp, rfl⟩
  · have e : isNm b = true := by
      rw [Bool.eq_iff_iff]
      simp only [isNm, Bool.or_eq_true, Bool.and_eq_true, Nat.ble_eq, Nat.beq_eq, iff_true]
      omega
    have HE := hide e
    clear e
    have : (65 : Int) ≤ (b : Int) := by omega
    have : ¬ (b : Int) ≤ 90 := by omega
    have : (97 : Int) ≤ (b : Int) := by omega
    have : (b : Int) ≤ 122 := by omega
    have : (48 : Int) ≤ (b : Int) := by omega
    have : ¬ (b : Int) ≤ 57 := by omega
    have : ((b : Int) == 95) = false := by rw [beq_eq_false_iff_ne]; omega
    have : ((b : Int) == 39) = false := by rw [beq_eq_false_iff_ne]; omega
    clear h
    go_enter Tryz.func131, Tryz.ntmps131
    go_wp2
    go_ret
    exact ⟨by rw [HE.out]; first | rfl | simp, rfl⟩
  · have e : isNm b = false := by
      rw [Bool.eq_iff_iff]
      simp only [isNm, Bool.or_eq_true, Bool.and_eq_true, Nat.ble_eq, Nat.beq_eq, Bool.false_eq_true, iff_false]
      omega
    have HE := hide e
    clear e
    have : (65 : Int) ≤ (b : Int) := by omega
    have : ¬ (b : Int) ≤ 90 := by omega
    have : (97 : Int) ≤ (b : Int) := by omega
    have : ¬ (b : Int) ≤ 122 := by omega
    have : (48 : Int) ≤ (b : Int) := by omega
    have : ¬ (b : Int) ≤ 57 := by omega
    have : ((b : Int) == 95) = false := by rw [beq_eq_false_iff_ne]; omega
    have : ((b : Int) == 39) = false := by rw [beq_eq_false_iff_ne]; omega
    clear h
    go_enter Tryz.func131, Tryz.ntmps131
    go_wp2
    go_ret
    exact ⟨by rw [HE.out]; first | rfl | simp, rfl⟩
end Go.Proofs.YtmagchclmmphaabGreatDoor
namespace Go.Proofs.YtmagchclmmphaabGreatDoor
open Go.RowKit Go.Maps

/-- A text of these bytes. -/
def strB (l : List Nat) : ByteArray := ⟨(l.map UInt8.ofNat).toArray⟩
theorem strB_size (l : List Nat) : (strB l).size = l.length := by simp [strB, ByteArray.size]

/-- The table lies in block 0. -/
def RowsAt (w : World) : Prop := ∀ p, p < 32 → w.cell? ⟨1, p * 6, none⟩ = some (.int .u8 (blankOf p : Nat)) ∧ w.cell? ⟨1, p * 6 + 1, none⟩ = some (.int .u8 (feedOf p : Nat)) ∧ w.cell? ⟨1, p * 6 + 2, none⟩ = some (.int .u8 (nameOf p : Nat)) ∧
  w.cell? ⟨1, p * 6 + 3, none⟩ = some (.string (strB (signsOf p))) ∧ w.cell? ⟨1, p * 6 + 4, none⟩ = some (.string (strB (wordOf p))) ∧ w.cell? ⟨1, p * 6 + 5, none⟩ = some (.int .u8 (pastOf p : Nat))
theorem RowsAt.below {w w' : World} {B : Nat} (h : RowsAt w) (hb : Below B w w') (h0 : 1 < B) : RowsAt w' := fun p hp => by
  obtain ⟨h1, h2, h3, h4, h5, h6⟩ := h p hp
  exact ⟨(hb.cell (p := ⟨1, p * 6, none⟩) h0).trans h1, (hb.cell (p := ⟨1, p * 6 + 1, none⟩) h0).trans h2, (hb.cell (p := ⟨1, p * 6 + 2, none⟩) h0).trans h3, (hb.cell (p := ⟨1, p * 6 + 3, none⟩) h0).trans h4, (hb.cell (p := ⟨1, p * 6 + 4, none⟩) h0).trans h5, (hb.cell (p := ⟨1, p * 6 + 5, none⟩) h0).trans h6⟩

set_option maxRecDepth 100000 in
theorem signs_idx : ∀ p, p < 32 → ∀ b, b < 256 → decide (0 ≤ firstIdx (strB (signsOf p)) b.toUInt8) = (signsOf p).contains b := by decide +kernel

set_option maxRecDepth 100000 in
set_option maxHeartbeats 1000000 in
theorem idx43 (s : ByteArray) (b : Nat) (w : World) : Calls Tryz.prog 149 #[.string s, .int .u8 b] w fun e w' => e = .returned (.int .i64 (firstIdx s b.toUInt8)) ∧ w' = w := by
  go_enter Tryz.func149, Tryz.ntmps149
  go_wp2_with fail
  rw [run_callFunc_indexByte Tryz.func156 (by kernel_rfl) (by kernel_rfl) (by kernel_rfl) (by kernel_rfl), run_indexByte_string, Int.toNat_natCast]
  go_wp2
  go_ret
  exact ⟨rfl, rfl⟩

set_option maxRecDepth 100000 in
set_option maxHeartbeats 1000000 in
theorem idx_any (s : ByteArray) (b : Nat) (w : World) : Calls Tryz.prog 130 #[.string s, .int .u8 b] w fun e w' => e = .returned (.int .i64 (firstIdx s b.toUInt8)) ∧ w' = w := by
  go_enter Tryz.func130, Tryz.ntmps130
  go_wp2_with (go_at_call 149; refine (idx43 s b _).mono ?_; rintro e w' ⟨rfl, rfl⟩)
  go_ret
  exact ⟨rfl, rfl⟩

theorem res34 : Tryz.f129.results = #[ResultVar.cell 2 107] := by kernel_rfl
theorem res37 : Tryz.f132.results = #[ResultVar.cell 2 107] := by kernel_rfl
theorem res25 : Tryz.f101.results = #[ResultVar.cell 4 107] := by kernel_rfl
def spV (s : Nat × Nat) : Value := .agg #[.int .u8 (s.1 : Nat), .int .i64 (s.2 : Nat)]

set_option maxRecDepth 100000 in
set_option maxHeartbeats 1000000 in
theorem alongW_any (p r : Nat) (w : World) (hT : RowsAt w) (hw0 : 1 < w.heap.size) (hp : p < 32) (hr : r < 17) :
    Calls Tryz.prog 129 #[.agg #[.int .u8 (p : Nat), .int .i64 (r : Nat)]] w fun e w' => e = .returned (spV (alongW p r)) ∧ Below w.heap.size w w' := by
  have n1 : ¬ w.heap.size = 1 := by omega
  have n2 : ¬ 1 = w.heap.size := by omega
  have n3 : ¬ w.heap.size = 0 := by omega
  have n4 : 0 < w.heap.size := by omega
  have HR := hide (hT p hp)
  have hs := strB_size (wordOf p)
  generalize strB (wordOf p) = sw at *
  by_cases h : r + 1 = (wordOf p).length
  · have e : alongW p r = (pastOf p, 0) := by unfold alongW; rw [if_pos h]
    obtain ⟨h1, h2, h3, h4, h5, h6⟩ := HR.out
    have hl : ((r + 1 : Nat) : Int) = (sw.size : Int) := by rw [hs]; omega
    have HE := hide e
    clear e hs h HR hT
    go_enter Tryz.func129, Tryz.ntmps129
    go_wp2
    refine bodyPost_ret (v := spV (pastOf p, 0)) (by simp [results, go_sem, spV]) rfl ⟨by rw [HE.out], ?_⟩
    exact (((Below.refl _ _).alloc (Nat.le_refl _) _).alloc (by simp) _).alloc (by simp; omega) _
  · have e : alongW p r = (p, r + 1) := by unfold alongW; rw [if_neg h]
    obtain ⟨h1, h2, h3, h4, h5, h6⟩ := HR.out
    have hl : (((r : Int) + 1) == (sw.size : Int)) = false := by rw [beq_eq_false_iff_ne, hs]; omega
    have HE := hide e
    clear e hs h HR hT
    go_enter Tryz.func129, Tryz.ntmps129
    go_wp2
    refine bodyPost_ret (v := spV (p, r + 1)) (by simp [results, go_sem, spV]) rfl ⟨by rw [HE.out], ?_⟩
    exact (((Below.refl _ _).alloc (Nat.le_refl _) _).alloc (by simp) _).alloc (by simp; omega) _
end Go.Proofs.YtmagchclmmphaabGreatDoor
