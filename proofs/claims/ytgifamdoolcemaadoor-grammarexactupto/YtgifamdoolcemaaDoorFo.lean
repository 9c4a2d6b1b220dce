import Derived.Test.YtgifamdoolcemaaDoorWk
import Derived.Maps.AppendAt
import Derived.OwnWalk
import Derived.Lib.SmallJoins
namespace Go.Proofs.YtgifamdoolcemaaDoor
open Go.RowKit Go.Maps

def bytV (l : List Nat) : List Value := l.map fun (i : Nat) => .int .u8 (i : Int)
theorem bytV_length (l : List Nat) : (bytV l).length = l.length := by simp [bytV]
theorem bytV_one (l : List Nat) : ∀ u ∈ bytV l, u.oneCell' = true := by
  intro u hu
  obtain ⟨k, _, rfl⟩ := List.mem_map.1 hu
  rfl
/-- A slice of bytes that lies from block B on, in a row of its own. -/
def OwnB (w : World) (B : Nat) (v : Value) (l : List Nat) : Prop := w.ownsRow B 5 1 v l.length (bytV l)
theorem info5 : (Tryd.prog.info? 5).map (fun i => (i.zero, i.size, i.bytes)) = some (some (.int .u8 0), 1, 1) := by kernel_rfl
theorem OwnB.below {w w' : World} {B : Nat} {v : Value} {l : List Nat} (h : OwnB w B v l) (hb : Below w.heap.size w w') : OwnB w' B v l :=
  World.ownsRow.kept (row := none) h ⟨hb.os, hb.tape, hb.output, hb.size, fun k hk _ => hb.block k hk⟩ (by cases v.ownBlock <;> simp)
/-- What a slice of bytes reads as. -/
def ReadsB (w : World) (v : Value) (l : List Nat) : Prop := ∃ ao cap, v = .slice ao l.length cap ∧ ∀ k (hk : k < l.length), ∃ g o, ao = some ⟨g, o, none⟩ ∧ w.cell? ⟨g, o + k, none⟩ = some (.int .u8 (l[k] : Nat))
theorem OwnB.reads {w : World} {B : Nat} {v : Value} {l : List Nat} (h : OwnB w B v l) : ReadsB w v l := by
  rcases h.2 with ⟨rfl, hn⟩ | ⟨g, cap, cur, rfl, hb, hg, hnc, hcm, hcs, htake⟩
  · exact ⟨none, 0, by rw [hn], fun k hk => by omega⟩
  · refine ⟨_, cap, rfl, fun k hk => ⟨g, 0, rfl, ?_⟩⟩
    have h' : w.ownsRow B 5 1 (.slice (some ⟨g, 0, none⟩) l.length cap) l.length (bytV l) := h
    rw [Nat.zero_add, h'.cellAt k (by omega)]
    simp [bytV, List.getElem?_eq_getElem hk]
theorem ReadsB.below {w w' : World} {v : Value} {l : List Nat} (h : ReadsB w v l) (hb : Below w.heap.size w w') : ReadsB w' v l := by
  obtain ⟨ao, cap, rfl, hr⟩ := h
  refine ⟨ao, cap, rfl, fun k hk => ?_⟩
  obtain ⟨g, o, rfl, hc⟩ := hr k hk
  exact ⟨g, o, rfl, (hb.cell (p := ⟨g, o + k, none⟩) (World.block_lt_of_cell? w _ hc)).trans hc⟩

/-- The bytes below k that may follow. -/
def folTo (s : Nat × Nat) (k : Nat) : List Nat := (List.range k).filter fun b => (stepF s b).1 != 0
theorem folTo_yes (s : Nat × Nat) (k : Nat) (h : (stepF s k).1 ≠ 0) : folTo s (k + 1) = folTo s k ++ [k] := by
  unfold folTo
  rw [List.range_succ, List.filter_append]
  simp [h]
theorem folTo_no (s : Nat × Nat) (k : Nat) (h : (stepF s k).1 = 0) : folTo s (k + 1) = folTo s k := by
  unfold folTo
  rw [List.range_succ, List.filter_append]
  simp [h]
theorem folTo_len (s : Nat × Nat) (k : Nat) : (folTo s k).length ≤ k := by
  have := List.length_filter_le (fun b => (stepF s b).1 != 0) (List.range k)
  rw [List.length_range] at this
  exact this

set_option maxRecDepth 100000 in
set_option maxHeartbeats 1000000 in
theorem fol_any (s : Nat × Nat) (w : World) (hT : RowsAt w) (hw0 : 0 < w.heap.size) (hs : okS s = true) :
    Calls Tryd.prog 18 #[spV s] w fun e w' => ∃ v, e = .returned v ∧ OwnB w' w.heap.size v (folF s) ∧ Below w.heap.size w w' := by
  obtain ⟨i5, hi5, hz50, hz51, hz52⟩ := info_parts info5
  have HT := hide hT
  have HS := hide hs
  obtain ⟨p, r⟩ := s
  unfold spV
  simp only
  clear hT hs
  go_enter Tryd.func18, Tryd.ntmps18
  go_wp2
  go_loopw [3, 5] (fun v i wr => ∃ k : Nat, k ≤ 256 ∧ i = .int .i64 k ∧ Hid (SpotAt wr w.heap.size (p, r) ∧ OwnB wr (w.heap.size + 1) v (folTo (p, r) k) ∧ Below w.heap.size w wr)) (fun _ i _ => 256 - (intOf i).toNat)
  case atStart =>
    refine ⟨0, by omega, rfl, hide ⟨?_, ?_, ?_⟩⟩
    · exact (MapKept.heap_alloc _ _).1
    · exact World.ownsRow_nil _ _ _ _ 
    · exact (Below.refl _ _).alloc (Nat.le_refl _) _
  case round =>
    obtain ⟨k, hk, rfl, HH⟩ := hrel
    obtain ⟨hs0, hv, hb⟩ := HH.out
    have HB := hide hb
    have HV := hide hv
    have HS0 := hide hs0
    have hsz := hs0.lt
    obtain ⟨c0, c1, f0, f1⟩ := hs0.facts
    simp only at c0 c1
    clear hb hv hs0
    by_cases hlt : k < 256
    · have i2 : (k : Int) < 256 := by omega
      have hst := fun W h1 h2 => step_any (p, r) k W h1 h2 HS.out hlt
      have hwr : IntKind.u8.wrap (k : Int) = (k : Int) := by simp [IntKind.wrap, IntKind.bits, IntKind.signed]; omega
      go_wp2_with fail
      refine (hst _ (HT.out.below HB.out hw0) (by omega)).mono ?_
      rintro e w1 ⟨rfl, d⟩
      obtain ⟨x, y, hxy⟩ : ∃ x y, stepF (p, r) k = (x, y) := ⟨_, _, rfl⟩
      have HXY := hide hxy
      have hfd := field0 x y
      rw [hxy]
      clear hxy
      unfold spV
      simp only
      have HD := hide d
      have hsz1 : w.heap.size < w1.heap.size := Nat.lt_of_lt_of_le hsz d.size
      have hv1 := HV.out.below d
      have HS1 := hide (HS0.out.below d hsz)
      clear d hst c0 c1 f0 f1
      have hlen := folTo_len (p, r) k
      by_cases hz : x = 0
      · have hx : ((x : Int) == 0) = true := by rw [beq_iff_eq]; omega
        have HZ := hide hz
        clear hz
        go_wp2
        go_roundw
        case rel =>
          refine ⟨k + 1, by omega, by go_num, hide ⟨HS1.out, ?_, HB.out.trans (HD.out.mono HB.out.size)⟩⟩
          rw [folTo_no _ _ (by rw [HXY.out]; exact HZ.out)]
          exact hv1
        case measure => simp [intOf]; omega
      · have hx : ((x : Int) == 0) = false := by rw [beq_eq_false_iff_ne]; omega
        have HZ := hide hz
        clear hz
        go_wp2_with (at_builtin; refine wpList_append_own_at _ rfl _ _ _ rfl (w.heap.size + 1) 5 i5 _ 1 1 Tryd.underlying42 hi5 hz50 hz51 hz52 rfl (by omega) u3 (folTo (p, r) k).length (bytV (folTo (p, r) k)) rfl (World.ownsRow.alloc hv1 _) ⟨w1.heap.size, 0, none⟩ 1 1 [.int .u8 (k : Int)] rfl rfl (cell_one_new _ _ _) (bytV_one [k]) (by unfold maxLen; omega) (by omega) (by simp; omega) ?_; intro v' w2 ho hgr hnil hloc)
        go_roundw
        case rel =>
          have hg2 : w1.grownBy w2 u3.ownBlock := (World.grownBy_alloc _ _ _).trans hgr
          have hlo : ∀ j, u3.ownBlock = some j → w.heap.size + 1 ≤ j := fun j hj => (World.ownsRow.lt hv1 j hj).1
          refine ⟨k + 1, by omega, by go_num, hide ⟨?_, ?_, ?_⟩⟩
          · exact (hg2.block w.heap.size hsz1 (fun e => by have := hlo _ e.symm; omega)).trans HS1.out
          · rw [folTo_yes _ _ (by rw [HXY.out]; exact HZ.out)]
            have : w2.ownsRow (w.heap.size + 1) 5 1 v' ((folTo (p, r) k).length + 1) (bytV (folTo (p, r) k) ++ [.int .u8 (k : Int)]) := ho
            unfold OwnB
            simpa [bytV] using this
          · exact (HB.out.trans (HD.out.mono HB.out.size)).grown hg2 (by omega) (fun j hj => by have := hlo j hj; omega)
        case measure => simp [intOf]; omega
    · have i2 : ¬ (k : Int) < 256 := by omega
      have hke : k = 256 := by omega
      have HK := hide hke
      clear hke
      go_wp2
      go_ret
      refine ⟨_, rfl, ?_, HB.out⟩
      have := HV.out
      rw [HK.out] at this
      exact Joins.ownsRow_le this (by omega)
end Go.Proofs.YtgifamdoolcemaaDoor
