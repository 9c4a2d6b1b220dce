import Derived.Test.YtdgmokelmocejabDoorCopy
namespace Go.Proofs.YtdgmokelmocejabDoor
open Go.RowKit

theorem minus_bit (X j : Nat) : bits BinOp.andNot IntKind.u64 (wordAt X (j / 64) : Int) ((2 ^ (j % 64) : Nat) : Int) = (wordAt (minusN X (2 ^ j)) (j / 64) : Int) := by
  have hl : (2:Nat) ^ (j % 64) < 18446744073709551616 := Nat.lt_of_lt_of_le (Nat.pow_lt_pow_right (by decide) (Nat.mod_lt j (by decide))) (Nat.le_refl (2 ^ 64))
  rw [bits_andNot_nat _ _ (wordAt_lt _ _) hl]
  congr 1
  apply Nat.eq_of_testBit_eq
  intro t
  rw [minusN_testBit, wordAt_testBit, wordAt_testBit, minusN_testBit, Nat.testBit_two_pow, Nat.testBit_two_pow]
  by_cases ht : t < 64
  · have : (j % 64 = t) ↔ (j = 64 * (j / 64) + t) := by omega
    simp [ht, this]
  · simp [ht]

theorem minus_other (X j i : Nat) (hne : i ≠ j / 64) : wordAt (minusN X (2 ^ j)) i = wordAt X i := by
  apply Nat.eq_of_testBit_eq
  intro t
  rw [wordAt_testBit, wordAt_testBit, minusN_testBit, Nat.testBit_two_pow]
  by_cases ht : t < 64
  · have : ¬ (j = 64 * i + t) := by omega
    simp [this]
  · simp [ht]

theorem minus_lt (n X j : Nat) (hX : X < 2 ^ n) : minusN X (2 ^ j) < 2 ^ n := Nat.xor_lt_two_pow hX (Nat.lt_of_le_of_lt Nat.and_le_left hX)

theorem g_self (w : World) (r : Option Nat) : w.grownBy w r := ⟨rfl, rfl, rfl, Nat.le_refl _, fun _ _ _ => rfl⟩
theorem g_put (w : World) (g k : Nat) (v : Value) : w.grownBy (w.setCell ⟨g, k, none⟩ v).drew (some g) :=
  ⟨rfl, rfl, rfl, by simp only [World.drew, World.setCell, Array.size_modify]; exact Nat.le_refl _, fun i _ hne => Below.heap_setCell _ _ _ _ (fun e => hne (by rw [e]))⟩

set_option maxHeartbeats 400000 in
theorem rem_out (b g cap n X : Nat) (i : Int) (w : World) (hs : IsSet w b g cap n X) (hi : ¬ (0 ≤ i ∧ i < (n : Int))) :
    Calls Tryd.prog 75 #[.pointer (some ⟨b, 0, none⟩), .int .i64 i] w fun e w' => e = .returned (.int .i64 10) ∧ w' = w := by
  have h0 := hs.c0
  have HI := hide hi
  clear hs hi
  go_enter Tryd.func75, Tryd.ntmps75
  go_wp2_with (go_at_call 58; refine (inRange_no b i n _ h0 HI.out).mono ?_; rintro e w' ⟨rfl, hw⟩; obtain rfl := hw.symm; clear hw)
  go_ret
  exact ⟨rfl, rfl⟩

set_option maxRecDepth 100000 in
set_option maxHeartbeats 1000000 in
theorem rem_in (b g cap n X j : Nat) (w : World) (hs : IsSet w b g cap n X) (hbg : b ≠ g) (hj : j < n) :
    Calls Tryd.prog 75 #[.pointer (some ⟨b, 0, none⟩), .int .i64 j] w fun e w' => e = .returned (.int .i64 0) ∧ IsSet w' b g cap n (minusN X (2 ^ j)) ∧ w.grownBy w' (some g) := by
  have h0 := hs.c0
  have h1 := hs.c1
  have hn := hs.hn
  have hix : j / 64 < nw n := by unfold nw; omega
  have hw := hs.word (j / 64) hix
  have hfz : w.frozen? ⟨g, j / 64, none⟩ = false := hs.own.frozenAt _
  have HS := hide hs
  obtain ⟨q, hq⟩ : ∃ q, j / 64 = q := ⟨_, rfl⟩
  have hi2 : IntKind.i64.wrap ((j : Int) / 64) = (q : Int) := by rw [IntKind.wrap_i64]; omega
  rw [hq] at hix hw hfz
  have hi0 : (0 : Int) ≤ (q : Int) := by omega
  have hi1 : (q : Int) < (nw n : Int) := by omega
  have HQ := hide hq
  clear hs hq
  go_enter Tryd.func75, Tryd.ntmps75
  go_wp2_with (go_at_call 58; refine (inRange_yes b j n _ h0 (by omega)).mono ?_; rintro e w' ⟨rfl, hw⟩; obtain rfl := hw.symm; clear hw)
  go_region_with (go_at_call 41; refine (bit_any j _ (by omega) (by omega)).mono ?_; rintro e w' ⟨rfl, rfl⟩)
  all_goals go_wp2
  all_goals go_ret
  all_goals
    refine ⟨rfl, IsSet.drew (HS.out.store hbg hix (minus_lt n X j HS.out.hX) (fun i _ hne => minus_other X j i (by rw [HQ.out]; exact hne)) ?_), g_put _ _ _ _⟩
    rw [← HQ.out]
    have hm : (((j : Int) % 64).toNat) = j % 64 := by omega
    have := minus_bit X j
    first
      | exact this
      | (simp only [hm]; exact this)
      | (simp only [hm]; simpa using this)

set_option maxRecDepth 100000 in
set_option maxHeartbeats 1000000 in
theorem add_fr (b g cap n X j : Nat) (w : World) (hs : IsSet w b g cap n X) (hbg : b ≠ g) (hj : j < n) :
    Calls Tryd.prog 57 #[.pointer (some ⟨b, 0, none⟩), .int .i64 j] w fun e w' => e = .returned (.int .i64 0) ∧ IsSet w' b g cap n (X ||| 2 ^ j) ∧ w.grownBy w' (some g) := by
  have h0 := hs.c0
  have h1 := hs.c1
  have hn := hs.hn
  have hix : j / 64 < nw n := by unfold nw; omega
  have hw := hs.word (j / 64) hix
  have hfz : w.frozen? ⟨g, j / 64, none⟩ = false := hs.own.frozenAt _
  have HS := hide hs
  obtain ⟨q, hq⟩ : ∃ q, j / 64 = q := ⟨_, rfl⟩
  have hi2 : IntKind.i64.wrap ((j : Int) / 64) = (q : Int) := by rw [IntKind.wrap_i64]; omega
  rw [hq] at hix hw hfz
  have hi0 : (0 : Int) ≤ (q : Int) := by omega
  have hi1 : (q : Int) < (nw n : Int) := by omega
  have HQ := hide hq
  clear hs hq
  go_enter Tryd.func57, Tryd.ntmps57
  go_wp2_with (go_at_call 58; refine (inRange_yes b j n _ h0 (by omega)).mono ?_; rintro e w' ⟨rfl, hw⟩; obtain rfl := hw.symm; clear hw)
  go_region_with (go_at_call 41; refine (bit_any j _ (by omega) (by omega)).mono ?_; rintro e w' ⟨rfl, rfl⟩)
  all_goals go_wp2
  all_goals go_ret
  all_goals
    refine ⟨rfl, IsSet.drew (HS.out.store hbg hix (or_lt n X j HS.out.hX hj) (fun i _ hne => or_other X j i (by rw [HQ.out]; exact hne)) ?_), g_put _ _ _ _⟩
    rw [← HQ.out]
    have hm : (((j : Int) % 64).toNat) = j % 64 := by omega
    have := or_bit X j
    first
      | exact this
      | (simp only [hm]; exact this)
      | (simp only [hm]; simpa using this)

/-- A number taken out, or none: the set's own words alone turn. -/
theorem rem_some (b g cap n X i : Nat) (w : World) (hs : IsSet w b g cap n X) (hbg : b ≠ g) :
    Calls Tryd.prog 75 #[.pointer (some ⟨b, 0, none⟩), .int .i64 i] w fun e w' => ∃ (r : Int) (X' : Nat), e = .returned (.int .i64 r) ∧ IsSet w' b g cap n X' ∧ w.grownBy w' (some g) := by
  by_cases h : i < n
  · exact (rem_in b g cap n X i w hs hbg h).mono fun e w' ⟨he, h1, h2⟩ => ⟨_, _, he, h1, h2⟩
  · exact (rem_out b g cap n X i w hs (by omega)).mono fun e w' ⟨he, h1⟩ => ⟨_, X, he, by rw [h1]; exact hs, by rw [h1]; exact g_self _ _⟩
theorem add_some (b g cap n X i : Nat) (w : World) (hs : IsSet w b g cap n X) (hbg : b ≠ g) :
    Calls Tryd.prog 57 #[.pointer (some ⟨b, 0, none⟩), .int .i64 i] w fun e w' => ∃ (r : Int) (X' : Nat), e = .returned (.int .i64 r) ∧ IsSet w' b g cap n X' ∧ w.grownBy w' (some g) := by
  by_cases h : i < n
  · exact (add_fr b g cap n X i w hs hbg h).mono fun e w' ⟨he, h1, h2⟩ => ⟨_, _, he, h1, h2⟩
  · exact (add_out b g cap n X i w hs (by omega)).mono fun e w' ⟨he, h1⟩ => ⟨_, X, he, by rw [h1]; exact hs, by rw [h1]; exact g_self _ _⟩
end Go.Proofs.YtdgmokelmocejabDoor
