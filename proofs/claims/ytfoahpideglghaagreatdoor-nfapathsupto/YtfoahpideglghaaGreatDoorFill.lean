import Derived.Deep.RegionWith
import Derived.BigRegion
import Derived.Deep.RegionHeld3
import Derived.Test.YtfoahpideglghaaGreatDoorList
namespace Go.Proofs.YtfoahpideglghaaGreatDoor
open Go.RowKit

theorem or_bit (X j : Nat) : bits BinOp.or IntKind.u64 (wordAt X (j / 64) : Int) ((2 ^ (j % 64) : Nat) : Int) = (wordAt (X ||| 2 ^ j) (j / 64) : Int) := by
  have hl : (2:Nat) ^ (j % 64) < 18446744073709551616 := Nat.lt_of_lt_of_le (Nat.pow_lt_pow_right (by decide) (Nat.mod_lt j (by decide))) (Nat.le_refl (2 ^ 64))
  rw [bits_or_u64_nat _ _ (wordAt_lt _ _) hl]
  congr 1
  apply Nat.eq_of_testBit_eq
  intro t
  rw [Nat.testBit_or, wordAt_testBit, wordAt_testBit, Nat.testBit_or, Nat.testBit_two_pow, Nat.testBit_two_pow]
  by_cases ht : t < 64
  · have : (j % 64 = t) ↔ (j = 64 * (j / 64) + t) := by omega
    simp [ht, this]
  · have : ¬ (j % 64 = t) := by omega
    simp [ht, this]
theorem or_other (X j i : Nat) (hne : i ≠ j / 64) : wordAt (X ||| 2 ^ j) i = wordAt X i := by
  apply Nat.eq_of_testBit_eq
  intro t
  rw [wordAt_testBit, wordAt_testBit, Nat.testBit_or, Nat.testBit_two_pow]
  by_cases ht : t < 64
  · have : ¬ (j = 64 * i + t) := by omega
    simp [this]
  · simp [ht]
set_option maxRecDepth 100000 in
theorem or_lt (n X j : Nat) (hX : X < 2 ^ n) (hj : j < n) : X ||| 2 ^ j < 2 ^ n := Nat.or_lt_two_pow hX (Nat.pow_lt_pow_right (by decide) hj)
set_option maxRecDepth 100000 in
set_option maxHeartbeats 400000 in
theorem add_out (b g cap n X : Nat) (i : Int) (w : World) (hs : IsSet w b g cap n X) (hi : ¬ (0 ≤ i ∧ i < (n : Int))) :
    Calls Tryz.prog 96 #[.pointer (some ⟨b, 0, none⟩), .int .i64 i] w fun e w' => e = .returned (.int .i64 10) ∧ w' = w := by
  have h0 := hs.c0
  have HI := hide hi
  clear hs hi
  go_enter Tryz.func96, Tryz.ntmps96
  go_wp2_with (go_at_call 117; refine (inRange_no b i n _ h0 HI.out).mono ?_; rintro e w' ⟨rfl, hw⟩; obtain rfl := hw.symm; clear hw)
  go_ret
  exact ⟨rfl, rfl⟩
set_option maxRecDepth 100000 in
set_option maxHeartbeats 1000000 in
theorem add_in (b g cap n X j B : Nat) (w : World) (hs : IsSet w b g cap n X) (hbg : b ≠ g) (hj : j < n) (hB : B ≤ g) :
    Calls Tryz.prog 96 #[.pointer (some ⟨b, 0, none⟩), .int .i64 j] w fun e w' => e = .returned (.int .i64 0) ∧ IsSet w' b g cap n (X ||| 2 ^ j) ∧ Below B w w' := by
  have h0 := hs.c0
  have h1 := hs.c1
  have hn := hs.hn
  have hix : j / 64 < nw n := by unfold nw; omega
  have hw := hs.word (j / 64) hix
  have hfz : w.frozen? ⟨g, j / 64, none⟩ = false := hs.own.frozenAt _
  have HS := hide hs
  obtain ⟨q, hq⟩ : ∃ q, j / 64 = q := ⟨_, rfl⟩
  have hi2 : IntKind.i64.wrap ((j : Int) / 64) = (q : Int) := by rw [IntKind.wrap_i64]; omega
  rw [hq] at hix hw hfz
  have hi0 : (0 : Int) ≤ (q : Int) := by omega
  have hi1 : (q : Int) < (nw n : Int) := by omega
  have HQ := hide hq
  clear hs hq
  go_enter Tryz.func96, Tryz.ntmps96
  go_wp2_with (go_at_call 117; refine (inRange_yes b j n _ h0 (by omega)).mono ?_; rintro e w' ⟨rfl, hw⟩; obtain rfl := hw.symm; clear hw)
  go_region_with (go_at_call 108; refine (bit_any j _ (by omega) (by omega)).mono ?_; rintro e w' ⟨rfl, rfl⟩)
  all_goals go_wp2
  all_goals go_ret
  all_goals
    refine ⟨rfl, IsSet.drew (HS.out.store hbg hix (or_lt n X j HS.out.hX hj) (fun i _ hne => or_other X j i (by rw [HQ.out]; exact hne)) ?_), (Below.setCell (Below.refl _ _) hB _).drew⟩
    rw [← HQ.out]
    have hm : (((j : Int) % 64).toNat) = j % 64 := by omega
    have := or_bit X j
    first
      | exact this
      | (simp only [hm]; exact this)
      | (simp only [hm]; simpa using this)
/-- The set that 'filled' makes: the list's numbers that fit. -/
def setI (n : Nat) (l : List Int) : Nat := l.foldl (fun X i => if 0 ≤ i ∧ i < (n : Int) then X ||| 2 ^ i.toNat else X) 0
theorem setI_snoc (n : Nat) (l : List Int) (i : Int) : setI n (l ++ [i]) = if 0 ≤ i ∧ i < (n : Int) then setI n l ||| 2 ^ i.toNat else setI n l := by
  simp [setI]
/-- A slice of numbers that can be read. -/
def ReadsI (w : World) (ao : Option Addr) (l : List Int) : Prop := ∀ k, k < l.length → ∃ g o, ao = some ⟨g, o, none⟩ ∧ w.cell? ⟨g, o + k, none⟩ = some (.int .i64 (l.getD k 0))
theorem ReadsI.below {w w' : World} {ao : Option Addr} {l : List Int} (h : ReadsI w ao l) (hb : Below w.heap.size w w') : ReadsI w' ao l := fun k hk => by
  obtain ⟨g, o, rfl, hc⟩ := h k hk
  exact ⟨g, o, rfl, (hb.cell (p := ⟨g, o + k, none⟩) (World.block_lt_of_cell? w _ hc)).trans hc⟩
theorem take_one (l : List Int) (k : Nat) (h : k < l.length) : l.take (k + 1) = l.take k ++ [l.getD k 0] := by
  rw [List.take_succ_eq_append_getElem h]; simp [List.getD, h]
end Go.Proofs.YtfoahpideglghaaGreatDoor
