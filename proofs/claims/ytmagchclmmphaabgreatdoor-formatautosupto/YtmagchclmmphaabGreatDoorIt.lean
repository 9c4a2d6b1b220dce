import Derived.Test.YtmagchclmmphaabGreatDoorCut
namespace Go.Proofs.YtmagchclmmphaabGreatDoor
open Go.RowKit Go.Maps

/-- An arity's sign. -/
def digB (n : Nat) : ByteArray := ⟨#[UInt8.ofNat (48 + n)]⟩
set_option maxRecDepth 100000 in
set_option maxHeartbeats 1000000 in
theorem small_zero (w : World) : Calls Tryz.prog 145 #[.int .i64 0] w fun e w' => e = .returned (.string (digB 0)) ∧ w' = w := by
  go_enter Tryz.func145, Tryz.ntmps145
  go_wp2
  go_ret
  exact ⟨by simp; decide, rfl⟩
set_option maxRecDepth 100000 in
set_option maxHeartbeats 1000000 in
theorem small_one (w : World) : Calls Tryz.prog 145 #[.int .i64 1] w fun e w' => e = .returned (.string (digB 1)) ∧ w' = w := by
  go_enter Tryz.func145, Tryz.ntmps145
  go_wp2
  go_ret
  exact ⟨by simp; decide, rfl⟩
set_option maxRecDepth 100000 in
set_option maxHeartbeats 1000000 in
theorem fmt_any (n : Nat) (hn : n ≤ 1) (w : World) : Calls Tryz.prog 128 #[.int .i64 (n : Nat), .int .i64 10] w fun e w' => e = .returned (.string (digB n)) ∧ w' = w := by
  have i1 : (0 : Int) ≤ (n : Int) := by omega
  have i2 : (n : Int) < 100 := by omega
  have hsm : Calls Tryz.prog 145 #[.int .i64 (n : Nat)] w fun e w' => e = .returned (.string (digB n)) ∧ w' = w := by
    match n, hn with
    | 0, _ => exact small_zero w
    | 1, _ => exact small_one w
  go_enter Tryz.func128, Tryz.ntmps128
  go_wp2_with (go_at_call 145; refine hsm.mono ?_; rintro e w' ⟨rfl, hw⟩; obtain rfl := hw.symm)
  go_ret
  exact ⟨rfl, rfl⟩
set_option maxRecDepth 100000 in
set_option maxHeartbeats 1000000 in
theorem itoa_any (n : Nat) (hn : n ≤ 1) (w : World) : Calls Tryz.prog 74 #[.int .i64 (n : Nat)] w fun e w' => e = .returned (.string (digB n)) ∧ w' = w := by
  have h53 : Calls Tryz.prog 100 #[.int .i64 (n : Nat)] w fun e w' => e = .returned (.string (digB n)) ∧ w' = w := by
    go_enter Tryz.func100, Tryz.ntmps100
    go_wp2_with (go_at_call 128; refine (fmt_any n hn _).mono ?_; rintro e w' ⟨rfl, hw⟩; obtain rfl := hw.symm)
    go_ret
    exact ⟨rfl, rfl⟩
  go_enter Tryz.func74, Tryz.ntmps74
  go_wp2_with (go_at_call 100; refine h53.mono ?_; rintro e w' ⟨rfl, hw⟩; obtain rfl := hw.symm)
  go_ret
  exact ⟨rfl, rfl⟩
end Go.Proofs.YtmagchclmmphaabGreatDoor
