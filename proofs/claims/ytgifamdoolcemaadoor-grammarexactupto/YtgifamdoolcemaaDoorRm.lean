import Derived.Test.YtgifamdoolcemaaDoorRk
namespace Go.Proofs.YtgifamdoolcemaaDoor
open Go.RowKit Go.Maps

theorem strB_app (a b : List Nat) : strB a ++ strB b = strB (a ++ b) := by
  unfold strB
  apply ByteArray.ext
  simp [ByteArray.data_append]

/-! ### The shortest lines from a section on -/
def tlN (sec : Nat) : Nat → List Nat
  | 0 => []
  | n + 1 => tlN sec n ++ (if 0 < n then [10] else []) ++ wordL (sec + n) ++ (if sec + n = 1 then [9, 39] else [])
def tailL (sec : Nat) : List Nat := tlN sec (5 - sec)
theorem tlN_len (sec n : Nat) : (tlN sec n).length ≤ 15 * n := by
  induction n with
  | zero => simp [tlN]
  | succ n ih =>
    unfold tlN
    have := word_len (sec + n)
    simp only [List.length_append]
    split <;> split <;> simp <;> omega

set_option maxRecDepth 100000 in
set_option maxHeartbeats 2000000 in
theorem tail_any (sec : Nat) (w : World) (h5 : sec ≤ 5) : Calls Tryd.prog 22 #[.int .i64 sec] w fun e w' => e = .returned (.string (strB (tailL sec))) ∧ w' = w := by
  go_enter Tryd.func22, Tryd.ntmps22
  go_wp2
  go_loopw [3, 4] (fun v kv wr => ∃ n : Nat, sec + n ≤ 5 ∧ v = .string (strB (tlN sec n)) ∧ kv = .int .i64 ((sec : Int) + (n : Int)) ∧ wr = w) (fun _ kv _ => 5 - (intOf kv).toNat)
  case atStart => exact ⟨0, by omega, rfl, by simp, rfl⟩
  case round =>
    obtain ⟨n, hn, rfl, rfl, hwr⟩ := hrel
    obtain rfl := hwr.symm
    have hln := tlN_len sec n
    have hz := strB_size (tlN sec n)
    have hwl := word_len (sec + n)
    have hwz := strB_size (wordL (sec + n))
    have hwd := fun W => word_any (sec + n) W
    have ec : ((sec + n : Nat) : Int) = (sec : Int) + (n : Int) := by omega
    rw [ec] at hwd
    have z1 : (strB (tlN sec n)).size ≤ 75 := by omega
    have z2 : (strB (wordL (sec + n))).size ≤ 12 := by omega
    by_cases hlt : sec + n < 5
    · have j1 : (sec : Int) + (n : Int) < 5 := by omega
      by_cases h1 : sec + n = 1
      · have i1 : ((sec : Int) + (n : Int) == 1) = true := by rw [beq_iff_eq]; omega
        by_cases hg : 0 < n
        · have j2 : (sec : Int) + (n : Int) > (sec : Int) := by omega
          have j3 : (n : Int) > 0 := by omega
          have HN : Hid (strB (tlN sec (n + 1)) = strB (tlN sec n) ++ ⟨#[10]⟩ ++ strB (wordL (sec + n)) ++ ⟨#[9, 39]⟩) := hide (by
            have e10 : (⟨#[10]⟩ : ByteArray) = strB [10] := rfl
            have e9 : (⟨#[9, 39]⟩ : ByteArray) = strB [9, 39] := rfl
            rw [e10, e9, strB_app, strB_app, strB_app]
            congr 1
            show tlN sec n ++ (if 0 < n then [10] else []) ++ wordL (sec + n) ++ (if sec + n = 1 then [9, 39] else []) = _
            rw [if_pos hg, if_pos h1]
            try simp)
          clear hln hz hwl hwz ec hg h1
          generalize strB (tlN sec n) = sa at *
          generalize strB (wordL (sec + n)) = sb at *
          go_wp2_with (go_at_call 31; refine (hwd _).mono ?_; rintro e w' ⟨rfl, hw'⟩; obtain rfl := hw'.symm)
          go_roundw
          case rel => exact ⟨n + 1, by omega, by rw [HN.out], by first | (congr 1; done) | (congr 1; omega), trivial⟩
          case measure => simp [intOf]; omega
        · have j2 : ¬ (sec : Int) + (n : Int) > (sec : Int) := by omega
          have j3 : ¬ (n : Int) > 0 := by omega
          have HN : Hid (strB (tlN sec (n + 1)) = strB (tlN sec n) ++ strB (wordL (sec + n)) ++ ⟨#[9, 39]⟩) := hide (by
            have e9 : (⟨#[9, 39]⟩ : ByteArray) = strB [9, 39] := rfl
            rw [e9, strB_app, strB_app]
            congr 1
            show tlN sec n ++ (if 0 < n then [10] else []) ++ wordL (sec + n) ++ (if sec + n = 1 then [9, 39] else []) = _
            rw [if_neg (by omega), if_pos h1]
            try simp)
          clear hln hz hwl hwz ec hg h1
          generalize strB (tlN sec n) = sa at *
          generalize strB (wordL (sec + n)) = sb at *
          go_wp2_with (go_at_call 31; refine (hwd _).mono ?_; rintro e w' ⟨rfl, hw'⟩; obtain rfl := hw'.symm)
          go_roundw
          case rel => exact ⟨n + 1, by omega, by rw [HN.out], by first | (congr 1; done) | (congr 1; omega), trivial⟩
          case measure => simp [intOf]; omega
      · have i1 : ((sec : Int) + (n : Int) == 1) = false := by rw [beq_eq_false_iff_ne]; omega
        by_cases hg : 0 < n
        · have j2 : (sec : Int) + (n : Int) > (sec : Int) := by omega
          have j3 : (n : Int) > 0 := by omega
          have HN : Hid (strB (tlN sec (n + 1)) = strB (tlN sec n) ++ ⟨#[10]⟩ ++ strB (wordL (sec + n))) := hide (by
            have e10 : (⟨#[10]⟩ : ByteArray) = strB [10] := rfl
            rw [e10, strB_app, strB_app]
            congr 1
            show tlN sec n ++ (if 0 < n then [10] else []) ++ wordL (sec + n) ++ (if sec + n = 1 then [9, 39] else []) = _
            rw [if_pos hg, if_neg h1]
            try simp)
          clear hln hz hwl hwz ec hg h1
          generalize strB (tlN sec n) = sa at *
          generalize strB (wordL (sec + n)) = sb at *
          go_wp2_with (go_at_call 31; refine (hwd _).mono ?_; rintro e w' ⟨rfl, hw'⟩; obtain rfl := hw'.symm)
          go_roundw
          case rel => exact ⟨n + 1, by omega, by rw [HN.out], by first | (congr 1; done) | (congr 1; omega), trivial⟩
          case measure => simp [intOf]; omega
        · have j2 : ¬ (sec : Int) + (n : Int) > (sec : Int) := by omega
          have j3 : ¬ (n : Int) > 0 := by omega
          have HN : Hid (strB (tlN sec (n + 1)) = strB (tlN sec n) ++ strB (wordL (sec + n))) := hide (by
            rw [strB_app]
            congr 1
            show tlN sec n ++ (if 0 < n then [10] else []) ++ wordL (sec + n) ++ (if sec + n = 1 then [9, 39] else []) = _
            rw [if_neg (by omega), if_neg h1]
            try simp)
          clear hln hz hwl hwz ec hg h1
          generalize strB (tlN sec n) = sa at *
          generalize strB (wordL (sec + n)) = sb at *
          go_wp2_with (go_at_call 31; refine (hwd _).mono ?_; rintro e w' ⟨rfl, hw'⟩; obtain rfl := hw'.symm)
          go_roundw
          case rel => exact ⟨n + 1, by omega, by rw [HN.out], by first | (congr 1; done) | (congr 1; omega), trivial⟩
          case measure => simp [intOf]; omega
    · have j1 : ¬ (sec : Int) + (n : Int) < 5 := by omega
      have HE : Hid (tailL sec = tlN sec n) := hide (by unfold tailL; rw [show 5 - sec = n by omega])
      clear hln hz hwl hwz hwd ec z2
      go_wp2
      go_ret
      exact ⟨by rw [HE.out]; rfl, rfl⟩
end Go.Proofs.YtgifamdoolcemaaDoor
