import Derived.Test.YtdgmokelmocejabDoorFill
namespace Go.Proofs.YtdgmokelmocejabDoor
open Go.RowKit

/-- The set that 'filled' makes: the list's numbers that fit. -/
def setI (n : Nat) (l : List Int) : Nat := l.foldl (fun X i => if 0 ≤ i ∧ i < (n : Int) then X ||| 2 ^ i.toNat else X) 0

theorem setI_snoc (n : Nat) (l : List Int) (i : Int) : setI n (l ++ [i]) = if 0 ≤ i ∧ i < (n : Int) then setI n l ||| 2 ^ i.toNat else setI n l := by
  simp [setI]

/-- A slice of numbers that can be read. -/
def ReadsI (w : World) (ao : Option Addr) (l : List Int) : Prop := ∀ k, k < l.length → ∃ g o, ao = some ⟨g, o, none⟩ ∧ w.cell? ⟨g, o + k, none⟩ = some (.int .i64 (l.getD k 0))

theorem ReadsI.below {w w' : World} {ao : Option Addr} {l : List Int} (h : ReadsI w ao l) (hb : Below w.heap.size w w') : ReadsI w' ao l := fun k hk => by
  obtain ⟨g, o, rfl, hc⟩ := h k hk
  exact ⟨g, o, rfl, (hb.cell (p := ⟨g, o + k, none⟩) (World.block_lt_of_cell? w _ hc)).trans hc⟩

theorem take_one (l : List Int) (k : Nat) (h : k < l.length) : l.take (k + 1) = l.take k ++ [l.getD k 0] := by
  rw [List.take_succ_eq_append_getElem h]; simp [List.getD, h]

set_option maxRecDepth 100000 in
set_option maxHeartbeats 1000000 in
theorem filled_any (ao : Option Addr) (cp n : Nat) (l : List Int) (w : World) (hn : n ≤ 8192) (hr : ReadsI w ao l) (hlen : l.length ≤ 9223372036854775807) :
    Calls Tryd.prog 26 #[.int .i64 n, .slice ao l.length cp] w fun e w' => ∃ b g cap, e = .returned (.pointer (some ⟨b, 0, none⟩)) ∧ IsSet w' b g cap n (setI n l) ∧ w.heap.size ≤ b ∧ w.heap.size ≤ g ∧ b ≠ g ∧ Below w.heap.size w w' := by
  go_enter Tryd.func26, Tryd.ntmps26
  go_wp2_with fail
  refine (new_ok n _ hn).mono ?_
  rintro e w1 ⟨b, g, cap, rfl, hs1, hb, hg, hbg, hb1⟩
  go_wp2
  go_loopw [7] (fun i wr => ∃ k : Nat, k ≤ l.length ∧ i = .int .i64 k ∧ IsSet wr b g cap n (setI n (l.take k)) ∧ Below w.heap.size w wr) (fun i _ => l.length - (intOf i).toNat)
  case atStart => exact ⟨0, Nat.zero_le _, rfl, hs1, hb1⟩
  case round =>
    obtain ⟨k, hk, rfl, hsr, hbr⟩ := hrel
    clear hs1 hb1
    by_cases hlt : k < l.length
    · obtain ⟨ga, oa, rfl, hc⟩ := hr k hlt
      have hgl : ga < w.heap.size := World.block_lt_of_cell? w ⟨ga, oa + k, none⟩ hc
      have hc2 := (hbr.cell (p := ⟨ga, oa + k, none⟩) hgl).trans hc
      have ht := take_one l k hlt
      obtain ⟨x, hx⟩ : ∃ x, l.getD k 0 = x := ⟨_, rfl⟩
      rw [hx] at hc2 ht
      have HT := hide ht
      have HW := hide hr
      clear ht hx hr hc
      by_cases hin : 0 ≤ x ∧ x < (n : Int)
      · obtain ⟨j, rfl⟩ := Int.eq_ofNat_of_zero_le hin.1
        have hj : j < n := by omega
        go_wp2_with fail
        refine (add_in b g cap n _ j w.heap.size _ hsr hbg hj hg).mono ?_
        rintro e w2 ⟨rfl, hs2, hb2⟩
        have hc3 := (hb2.cell (p := ⟨ga, oa + k, none⟩) hgl).trans hc2
        have hb3 := hbr.trans hb2
        clear hsr hbr hb2 hc2
        go_wp2
        go_roundw
        case rel => exact ⟨k + 1, by omega, by go_num, by rw [HT.out, setI_snoc, if_pos hin]; exact hs2, hb3⟩
        case measure => simp [intOf]; omega
      · by_cases h0 : 0 ≤ x
        · have h1 : ¬ x < (n : Int) := fun h => hin ⟨h0, h⟩
          go_wp2_with fail
          refine (add_out b g cap n _ x _ hsr hin).mono ?_
          rintro e w2 ⟨rfl, rfl⟩
          have HI := hide hin
          clear hin
          go_wp2
          go_roundw
          case rel => exact ⟨k + 1, by omega, by go_num, by rw [HT.out, setI_snoc, if_neg HI.out]; exact hsr, hbr⟩
          case measure => simp [intOf]; omega
        · go_wp2_with fail
          refine (add_out b g cap n _ x _ hsr hin).mono ?_
          rintro e w2 ⟨rfl, rfl⟩
          have HI := hide hin
          clear hin
          go_wp2
          go_roundw
          case rel => exact ⟨k + 1, by omega, by go_num, by rw [HT.out, setI_snoc, if_neg HI.out]; exact hsr, hbr⟩
          case measure => simp [intOf]; omega
    · clear hr
      go_wp2
      go_ret
      rw [List.take_of_length_le (by omega)] at hsr
      exact ⟨b, g, cap, rfl, hsr, hb, hg, hbg, hbr⟩
end Go.Proofs.YtdgmokelmocejabDoor
