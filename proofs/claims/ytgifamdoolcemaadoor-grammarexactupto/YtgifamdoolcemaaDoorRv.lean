import Derived.Test.YtgifamdoolcemaaDoorFo
import Derived.Laws.OwnMore
namespace Go.Proofs.YtgifamdoolcemaaDoor
open Go.RowKit Go.Maps

/-- A list whose first k and last k have changed places. -/
def mixR (l : List Nat) (k : Nat) : List Nat := (List.range l.length).map fun m => if m < k ∨ l.length - k ≤ m then l.getD (l.length - 1 - m) 0 else l.getD m 0
theorem mixR_len (l : List Nat) (k : Nat) : (mixR l k).length = l.length := by simp [mixR]
theorem mixR_get (l : List Nat) (k m : Nat) (h : m < l.length) : (mixR l k)[m]? = some (if m < k ∨ l.length - k ≤ m then l.getD (l.length - 1 - m) 0 else l.getD m 0) := by
  unfold mixR
  rw [List.getElem?_map, List.getElem?_range h]
  rfl
theorem mixR_zero (l : List Nat) : mixR l 0 = l := by
  apply List.ext_getElem?
  intro m
  by_cases h : m < l.length
  · rw [mixR_get l 0 m h, if_neg (by omega)]
    simp [List.getD_eq_getElem?_getD, List.getElem?_eq_getElem h]
  · rw [List.getElem?_eq_none (by rw [mixR_len]; omega), List.getElem?_eq_none (by omega)]
theorem mixR_full (l : List Nat) (k : Nat) (h : l.length ≤ 2 * k + 1) : mixR l k = l.reverse := by
  apply List.ext_getElem?
  intro m
  by_cases hm : m < l.length
  · rw [mixR_get l k m hm, List.getElem?_reverse hm]
    split
    · simp [List.getD_eq_getElem?_getD, List.getElem?_eq_getElem (show l.length - 1 - m < l.length by omega)]
    · have e : l.length - 1 - m = m := by omega
      rw [e]
      simp [List.getD_eq_getElem?_getD, List.getElem?_eq_getElem hm]
  · rw [List.getElem?_eq_none (by rw [mixR_len]; omega), List.getElem?_eq_none (by simp; omega)]
theorem mixR_mid (l : List Nat) (k m : Nat) (h : m < l.length) (h1 : k ≤ m) (h2 : m < l.length - k) : (mixR l k)[m]? = some (l.getD m 0) := by
  rw [mixR_get l k m h, if_neg (by omega)]
theorem mixR_set (l : List Nat) (k : Nat) (h : k < l.length - 1 - k) : ((mixR l k).set k (l.getD (l.length - 1 - k) 0)).set (l.length - 1 - k) (l.getD k 0) = mixR l (k + 1) := by
  apply List.ext_getElem?
  intro m
  by_cases hm : m < l.length
  · rw [mixR_get l (k + 1) m hm]
    by_cases e1 : m = l.length - 1 - k
    · subst e1
      rw [List.getElem?_set_self (by rw [List.length_set, mixR_len]; omega), if_pos (by omega)]
      congr 2
      omega
    · rw [List.getElem?_set_ne (by omega)]
      by_cases e2 : m = k
      · subst e2
        rw [List.getElem?_set_self (by rw [mixR_len]; omega), if_pos (by omega)]
      · rw [List.getElem?_set_ne (by omega), mixR_get l k m hm]
        by_cases c : m < k ∨ l.length - k ≤ m
        · rw [if_pos c, if_pos (by omega)]
        · rw [if_neg c, if_neg (by omega)]
  · rw [List.getElem?_eq_none (by rw [List.length_set, List.length_set, mixR_len]; omega), List.getElem?_eq_none (by rw [mixR_len]; omega)]

theorem bytV_set (l : List Nat) (k b : Nat) : (bytV l).set k (.int .u8 (b : Int)) = bytV (l.set k b) := by
  unfold bytV
  rw [List.map_set]

set_option maxRecDepth 100000 in
set_option maxHeartbeats 1000000 in
theorem rev_some (g cap B : Nat) (l : List Nat) (w : World) (h : OwnB w B (.slice (some ⟨g, 0, none⟩) l.length cap) l) (hl : l.length ≤ 4194304) :
    Calls Tryd.prog 38 #[.slice (some ⟨g, 0, none⟩) l.length cap] w fun e w' => e = .returned (.tuple #[]) ∧ OwnB w' B (.slice (some ⟨g, 0, none⟩) l.length cap) l.reverse ∧ Below g w w' := by
  have HO := hide h
  clear h
  go_enter Tryd.func38, Tryd.ntmps38
  go_wp2
  go_loopw [2, 3] (fun i j wr => ∃ k : Nat, k ≤ l.length ∧ i = .int .i64 k ∧ j = .int .i64 ((l.length : Int) - 1 - k) ∧ Hid (wr.ownsRow B 5 1 (.slice (some ⟨g, 0, none⟩) l.length cap) l.length (bytV (mixR l k)) ∧ Below g w wr)) (fun i _ _ => l.length - (intOf i).toNat)
  case atStart =>
    refine ⟨0, Nat.zero_le _, rfl, by simp, hide ⟨?_, Below.refl _ _⟩⟩
    rw [mixR_zero]; exact HO.out
  case round =>
    obtain ⟨k, hk, rfl, rfl, HH⟩ := hrel
    obtain ⟨ho, hb⟩ := HH.out
    by_cases hlt : k < l.length - 1 - k
    · obtain ⟨j, hj⟩ : ∃ j : Nat, j = l.length - 1 - k := ⟨_, rfl⟩
      have ej : (l.length : Int) - 1 - k = (j : Int) := by omega
      rw [ej]
      have i1 : (k : Int) < (j : Int) := by omega
      have i2 : (k : Int) < (l.length : Int) := by omega
      have i3 : (j : Int) < (l.length : Int) := by omega
      have i4 : (0 : Int) ≤ (k : Int) := by omega
      have i5 : (0 : Int) ≤ (j : Int) := by omega
      have ck : wr.cell? ⟨g, k, none⟩ = some (.int .u8 (l.getD k 0 : Nat)) := by
        rw [World.ownsRow.cellAt ho k (by omega)]
        unfold bytV
        rw [List.getElem?_map, mixR_mid l k k (by omega) (by omega) (by omega)]; rfl
      have cj : wr.cell? ⟨g, j, none⟩ = some (.int .u8 (l.getD j 0 : Nat)) := by
        rw [World.ownsRow.cellAt ho j (by omega)]
        unfold bytV
        rw [List.getElem?_map, mixR_mid l k j (by omega) (by omega) (by omega)]; rfl
      have fk : wr.frozen? ⟨g, k, none⟩ = false := World.ownsRow.frozenAt ho k
      have fj : wr.frozen? ⟨g, j, none⟩ = false := World.ownsRow.frozenAt ho j
      have hne : k ≠ j := by omega
      have HJ := hide hj
      have HX := hide (And.intro ho hb)
      clear ho hb hj ej hlt
      obtain ⟨x, hx⟩ : ∃ x, l.getD k 0 = x := ⟨_, rfl⟩
      obtain ⟨y, hy⟩ : ∃ y, l.getD j 0 = y := ⟨_, rfl⟩
      rw [hx] at ck
      rw [hy] at cj
      have HY := hide (And.intro hx hy)
      clear hx hy
      go_wp2_with fail
      go_region
      go_wp2
      go_roundw
      case rel =>
        obtain ⟨hx, hy⟩ := HY.out
        obtain ⟨ho, hb⟩ := HX.out
        have hj := HJ.out
        refine ⟨k + 1, by omega, by go_num, by congr 1; omega, hide ⟨?_, ((hb.setCell (Nat.le_refl _) _).setCell (Nat.le_refl _) _).drew⟩⟩
        have h1 := (World.ownsRow.stored ho k (.int .u8 (y : Int))).1
        have h2 := (World.ownsRow.stored h1 j (.int .u8 (x : Int))).1
        rw [bytV_set, bytV_set, ← hx, ← hy, hj, mixR_set l k (by omega)] at h2
        rw [← hx, ← hy, hj]
        exact h2
      case measure => simp [intOf]; omega
    · have i1 : ¬ (k : Int) < (l.length : Int) - 1 - k := by omega
      have HX := hide (And.intro ho (And.intro hb hlt))
      clear ho hb hlt
      go_wp2
      go_end0
      refine ⟨rfl, ?_, HX.out.2.1⟩
      have := HX.out.1
      rw [mixR_full l k (by have := HX.out.2.2; omega)] at this
      unfold OwnB
      rw [List.length_reverse]
      exact this

set_option maxRecDepth 100000 in
set_option maxHeartbeats 1000000 in
theorem rev_none (w : World) :
    Calls Tryd.prog 38 #[.slice none 0 0] w fun e w' => e = .returned (.tuple #[]) ∧ w' = w := by
  go_enter Tryd.func38, Tryd.ntmps38
  go_wp2
  go_loopw [2, 3] (fun i j wr => i = .int .i64 0 ∧ j = .int .i64 (-1) ∧ wr = w) (fun _ _ _ => 0)
  case atStart => exact ⟨rfl, rfl, rfl⟩
  case round =>
    obtain ⟨rfl, rfl, hw⟩ := hrel
    obtain rfl := hw.symm
    go_wp2
    go_end0
    exact ⟨rfl, rfl⟩
end Go.Proofs.YtgifamdoolcemaaDoor
