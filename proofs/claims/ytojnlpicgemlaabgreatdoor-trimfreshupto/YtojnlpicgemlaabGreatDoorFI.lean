import Derived.Deep.RegionWith
import Derived.BigRegion
import Derived.Deep.RegionHeld3
import Derived.Test.YtojnlpicgemlaabGreatDoorPL
namespace Go.Proofs.YtojnlpicgemlaabGreatDoor
open Go.RowKit

theorem or_bit (X j : Nat) : bits BinOp.or IntKind.u64 (wordAt X (j / 64) : Int) ((2 ^ (j % 64) : Nat) : Int) = (wordAt (X ||| 2 ^ j) (j / 64) : Int) := by
  have hl : (2:Nat) ^ (j % 64) < 18446744073709551616 := Nat.lt_of_lt_of_le (Nat.pow_lt_pow_right (by decide) (Nat.mod_lt j (by decide))) (Nat.le_refl (2 ^ 64))
  rw [bits_or_u64_nat _ _ (wordAt_lt _ _) hl]
  congr 1
  apply Nat.eq_of_testBit_eq
  intro t
  rw [Nat.testBit_or, wordAt_testBit, wordAt_testBit, Nat.testBit_or, Nat.testBit_two_pow, Nat.testBit_two_pow]
  by_cases ht : t < 64
  · have : (j % 64 = t) ↔ (j = 64 * (j / 64) + t) := by omega
    simp [ht, this]
  · have : ¬ (j % 64 = t) := by omega
    simp [ht, this]
theorem or_other (X j i : Nat) (hne : i ≠ j / 64) : wordAt (X ||| 2 ^ j) i = wordAt X i := by
  apply Nat.eq_of_testBit_eq
  intro t
  rw [wordAt_testBit, wordAt_testBit, Nat.testBit_or, Nat.testBit_two_pow]
  by_cases ht : t < 64
  · have : ¬ (j = 64 * i + t) := by omega
    simp [this]
  · simp [ht]
set_option maxRecDepth 100000 in
theorem or_lt (n X j : Nat) (hX : X < 2 ^ n) (hj : j < n) : X ||| 2 ^ j < 2 ^ n := Nat.or_lt_two_pow hX (Nat.pow_lt_pow_right (by decide) hj)
set_option maxRecDepth 100000 in
set_option maxHeartbeats 400000 in
theorem add_out (b g cap n X : Nat) (i : Int) (w : World) (hs : IsSet w b g cap n X) (hi : ¬ (0 ≤ i ∧ i < (n : Int))) :
    Calls Tryz.prog 52 #[.pointer (some ⟨b, 0, none⟩), .int .i64 i] w fun e w' => e = .returned (.int .i64 10) ∧ w' = w := by
  have h0 := hs.c0
  have HI := hide hi
  clear hs hi
  go_enter Tryz.func52, Tryz.ntmps52
  go_wp2_with (go_at_call 60; refine (inRange_no b i n _ h0 HI.out).mono ?_; rintro e w' ⟨rfl, hw⟩; obtain rfl := hw.symm; clear hw)
  go_ret
  exact ⟨rfl, rfl⟩
set_option maxRecDepth 100000 in
set_option maxHeartbeats 1000000 in
theorem add_in (b g cap n X j B : Nat) (w : World) (hs : IsSet w b g cap n X) (hbg : b ≠ g) (hj : j < n) (hB : B ≤ g) :
    Calls Tryz.prog 52 #[.pointer (some ⟨b, 0, none⟩), .int .i64 j] w fun e w' => e = .returned (.int .i64 0) ∧ IsSet w' b g cap n (X ||| 2 ^ j) ∧ Below B w w' := by
  have h0 := hs.c0
  have h1 := hs.c1
  have hn := hs.hn
  have hix : j / 64 < nw n := by unfold nw; omega
  have hw := hs.word (j / 64) hix
  have hfz : w.frozen? ⟨g, j / 64, none⟩ = false := hs.own.frozenAt _
  have HS := hide hs
  obtain ⟨q, hq⟩ : ∃ q, j / 64 = q := ⟨_, rfl⟩
  have hi2 : IntKind.i64.wrap ((j : Int) / 64) = (q : Int) := by rw [IntKind.wrap_i64]; omega
  rw [hq] at hix hw hfz
  have hi0 : (0 : Int) ≤ (q : Int) := by omega
  have hi1 : (q : Int) < (nw n : Int) := by omega
  have HQ := hide hq
  clear hs hq
  go_enter Tryz.func52, Tryz.ntmps52
  go_wp2_with (go_at_call 60; refine (inRange_yes b j n _ h0 (by omega)).mono ?_; rintro e w' ⟨rfl, hw⟩; obtain rfl := hw.symm; clear hw)
  go_region_with (go_at_call 61; refine (bit_any j _ (by omega) (by omega)).mono ?_; rintro e w' ⟨rfl, rfl⟩)
  all_goals go_wp2
  all_goals go_ret
  all_goals
    refine ⟨rfl, IsSet.drew (HS.out.store hbg hix (or_lt n X j HS.out.hX hj) (fun i _ hne => or_other X j i (by rw [HQ.out]; exact hne)) ?_), (Below.setCell (Below.refl _ _) hB _).drew⟩
    rw [← HQ.out]
    have hm : (((j : Int) % 64).toNat) = j % 64 := by omega
    have := or_bit X j
    first
      | exact this
      | (simp only [hm]; exact this)
      | (simp only [hm]; simpa using this)
/-- The set that 'filled' makes: the list's numbers that fit. -/
def setI (n : Nat) (l : List Int) : Nat := l.foldl (fun X i => if 0 ≤ i ∧ i < (n : Int) then X ||| 2 ^ i.toNat else X) 0
theorem setI_snoc (n : Nat) (l : List Int) (i : Int) : setI n (l ++ [i]) = if 0 ≤ i ∧ i < (n : Int) then setI n l ||| 2 ^ i.toNat else setI n l := by
  simp [setI]
/-- A slice of numbers that can be read. -/
def ReadsI (w : World) (ao : Option Addr) (l : List Int) : Prop := ∀ k, k < l.length → ∃ g o, ao = some ⟨g, o, none⟩ ∧ w.cell? ⟨g, o + k, none⟩ = some (.int .i64 (l.getD k 0))
theorem ReadsI.below {w w' : World} {ao : Option Addr} {l : List Int} (h : ReadsI w ao l) (hb : Below w.heap.size w w') : ReadsI w' ao l := fun k hk => by
  obtain ⟨g, o, rfl, hc⟩ := h k hk
  exact ⟨g, o, rfl, (hb.cell (p := ⟨g, o + k, none⟩) (World.block_lt_of_cell? w _ hc)).trans hc⟩
theorem take_one (l : List Int) (k : Nat) (h : k < l.length) : l.take (k + 1) = l.take k ++ [l.getD k 0] := by
  rw [List.take_succ_eq_append_getElem h]; simp [List.getD, h]
end Go.Proofs.YtojnlpicgemlaabGreatDoor
namespace Go.Proofs.YtojnlpicgemlaabGreatDoor
open Go.RowKit

/-- All numbers of a list are below the bound. -/
def okI (n : Nat) (l : List Int) : Bool := l.all fun i => decide (0 ≤ i ∧ i < (n : Int))
theorem okI_false {n : Nat} {l : List Int} {k : Nat} {x : Int} (hlt : k < l.length) (hx : l.getD k 0 = x) (hin : ¬ (0 ≤ x ∧ x < (n : Int))) : okI n l = false := by
  unfold okI
  rw [List.all_eq_false]
  refine ⟨x, ?_, by simpa using hin⟩
  rw [← hx, List.getD_eq_getElem?_getD, List.getElem?_eq_getElem hlt]
  exact List.getElem_mem hlt
set_option maxRecDepth 100000 in
theorem okI_take_one {n : Nat} {l : List Int} {k : Nat} {x : Int} (ht : l.take (k + 1) = l.take k ++ [x]) (h : okI n (l.take k) = true) (hin : 0 ≤ x ∧ x < (n : Int)) : okI n (l.take (k + 1)) = true := by
  unfold okI at h ⊢
  rw [ht, List.all_append, h]
  simpa using hin
set_option maxRecDepth 100000 in
set_option maxHeartbeats 1000000 in
theorem of81_any (ao : Option Addr) (cp n : Nat) (l : List Int) (w : World) (hn : n ≤ 8192) (hr : ReadsI w ao l) (hlen : l.length ≤ 9223372036854775807) :
    Calls Tryz.prog 63 #[.int .i64 n, .slice ao l.length cp] w fun e w' => (okI n l = true ∧ ∃ b g cap, e = .returned (.tuple #[.pointer (some ⟨b, 0, none⟩), .int .i64 0]) ∧ IsSet w' b g cap n (setI n l) ∧ w.heap.size ≤ b ∧ w.heap.size ≤ g ∧ b ≠ g ∧ Below w.heap.size w w') ∨ (okI n l = false ∧ e = .returned (.tuple #[.pointer none, .int .i64 10]) ∧ Below w.heap.size w w') := by
  go_enter Tryz.func63, Tryz.ntmps63
  go_wp2_with fail
  refine (new_ok n _ hn).mono ?_
  rintro e w1 ⟨b, g, cap, rfl, hs1, hb, hg, hbg, hb1⟩
  go_wp2
  go_loopw [21] (fun i wr => ∃ k : Nat, k ≤ l.length ∧ i = .int .i64 k ∧ IsSet wr b g cap n (setI n (l.take k)) ∧ Hid (okI n (l.take k) = true) ∧ Below w.heap.size w wr) (fun i _ => l.length - (intOf i).toNat)
  case atStart => exact ⟨0, Nat.zero_le _, rfl, hs1, rfl, hb1⟩
  case round =>
    obtain ⟨k, hk, rfl, hsr, HO, hbr⟩ := hrel
    clear hs1 hb1
    by_cases hlt : k < l.length
    · obtain ⟨ga, oa, rfl, hc⟩ := hr k hlt
      have hgl : ga < w.heap.size := World.block_lt_of_cell? w ⟨ga, oa + k, none⟩ hc
      have hc2 := (hbr.cell (p := ⟨ga, oa + k, none⟩) hgl).trans hc
      have ht := take_one l k hlt
      obtain ⟨x, hx⟩ : ∃ x, l.getD k 0 = x := ⟨_, rfl⟩
      rw [hx] at hc2 ht
      have HT := hide ht
      have HW := hide hr
      have HX := hide hx
      clear ht hx hr hc
      by_cases hin : 0 ≤ x ∧ x < (n : Int)
      · obtain ⟨j, rfl⟩ := Int.eq_ofNat_of_zero_le hin.1
        have hj : j < n := by omega
        go_wp2_with fail
        refine (add_in b g cap n _ j w.heap.size _ hsr hbg hj hg).mono ?_
        rintro e w2 ⟨rfl, hs2, hb2⟩
        have hc3 := (hb2.cell (p := ⟨ga, oa + k, none⟩) hgl).trans hc2
        have hb3 := hbr.trans hb2
        have HO2 := hide (okI_take_one HT.out HO.out hin)
        clear hsr hbr hb2 hc2
        go_wp2
        go_roundw
        case rel => exact ⟨k + 1, by omega, by go_num, by rw [HT.out, setI_snoc, if_pos hin]; exact hs2, HO2, hb3⟩
        case measure => simp [intOf]; omega
      · have HF := hide (okI_false hlt HX.out hin)
        have HB := hide hbr
        go_wp2_with fail
        refine (add_out b g cap n _ x _ hsr hin).mono ?_
        rintro e w2 ⟨rfl, rfl⟩
        clear hin hbr hsr
        go_wp2
        go_ret2
        exact .inr ⟨HF.out, rfl, HB.out⟩
    · obtain rfl : k = l.length := by omega
      have HS := hide hsr
      have HB := hide hbr
      have HN := hide (And.intro hb (And.intro hg hbg))
      rw [List.take_length] at HO HS
      clear hsr hbr hr hb hg hbg
      go_wp2
      go_ret2
      exact .inl ⟨HO.out, _, _, _, rfl, HS.out, HN.out.1, HN.out.2.1, HN.out.2.2, HB.out⟩
end Go.Proofs.YtojnlpicgemlaabGreatDoor
