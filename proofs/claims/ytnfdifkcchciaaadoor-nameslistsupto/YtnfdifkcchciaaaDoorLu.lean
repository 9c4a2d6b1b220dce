import Derived.Test.YtnfdifkcchciaaaDoorLt
namespace Go.Proofs.YtnfdifkcchciaaaDoor
open Go.RowKit Go.Maps

/-- A lent list: its texts, the mark behind them. -/
structure Lent (w : World) (B g c : Nat) (l : List ByteArray) : Prop where
  own : w.ownsRow B 9 1 (.slice (some ⟨g, 0, none⟩) (l.length + 1) c) (l.length + 1) (strV (l ++ [spare]))
  cap : l.length + 1 ≤ c
theorem Lent.below {w w' : World} {B g c : Nat} {l : List ByteArray} (h : Lent w B g c l) (d : Below w.heap.size w w') : Lent w' B g c l := ⟨row_below h.own d, h.cap⟩
theorem Lent.str {w : World} {B g c : Nat} {l : List ByteArray} (h : Lent w B g c l) : StrS w (.slice (some ⟨g, 0, none⟩) l.length c) l := by
  refine ⟨some ⟨g, 0, none⟩, c, rfl, fun k hk => ⟨g, 0, rfl, ?_⟩⟩
  rw [Nat.zero_add, h.own.cellAt k (by omega)]
  have e : (strV (l ++ [spare]))[k]? = (strV l)[k]? := by
    unfold strV
    rw [List.map_append, List.getElem?_append_left (by simpa using hk)]
  rw [e]
  simp [strV, hk]
theorem Lent.mark {w : World} {B g c : Nat} {l : List ByteArray} (h : Lent w B g c l) : w.cell? ⟨g, l.length, none⟩ = some (.string spare) := by
  rw [h.own.cellAt l.length (by omega)]
  simp [strV]

set_option maxRecDepth 100000 in
set_option maxHeartbeats 1000000 in
/-- left: a lent list is as it was. -/
theorem left_yes (B g c : Nat) (l : List ByteArray) (vl : Value) (w : World) (h : Hid (Lent w B g c l)) (hl : StrS w vl l) (hs : l.length ≤ 2097152) :
    Calls Tryd.prog 37 #[.slice (some ⟨g, 0, none⟩) l.length c, vl] w fun e w' => e = .returned (.bool true) ∧ Below w.heap.size w w' := by
  have HL := hide hl
  obtain ⟨ao, cp, rfl, _⟩ := hl
  have hc := h.out.cap
  have k0 : (0 : Int) ≤ (l.length : Int) + 1 := by omega
  have k1 : (l.length : Int) + 1 ≤ (c : Int) := by omega
  have k2 : (l.length : Int) < (l.length : Int) + 1 := by omega
  have k3 : (0 : Int) ≤ (l.length : Int) := by omega
  have kw : IntKind.i64.wrap ((l.length : Int) + 1) = (l.length : Int) + 1 := by rw [IntKind.wrap_i64]; omega
  go_enter Tryd.func37, Tryd.ntmps37
  go_wp2_with fail
  refine (same_any _ _ l _ h.out.str HL.out (by omega)).mono ?_
  rintro e w1 ⟨rfl, d⟩
  have m := (h.out.below d).mark
  have D := hide d
  clear d
  have hsp : (spare.toList == [115, 112, 97, 114, 101]) = true := by kernel_rfl
  go_wp2
  go_ret
  exact ⟨rfl, D.out⟩

end Go.Proofs.YtnfdifkcchciaaaDoor
