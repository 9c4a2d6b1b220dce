import Derived.Test.YtmagchclmmphaaaGreatDoorShl
namespace Go.Proofs.YtmagchclmmphaaaGreatDoor
open Go.RowKit Go.Maps Go.Sort Go.Proofs

theorem grow_nil (W : World) : grow W #[] = W := by simp [grow]
/-- A list's numbers, rising, each once. -/
def riseL (zs : List Int) : List Int := Lib.compact (zs.mergeSort fun x y => decide (x ≤ y))
theorem compact_len (zs : List Int) : (Lib.compact zs).length ≤ zs.length := by
  unfold Lib.compact Lib.compactUpTo
  rw [List.length_map]
  exact Nat.le_trans (List.length_filter_le _ _) (by simp)

set_option maxRecDepth 100000 in
set_option maxHeartbeats 1000000 in
theorem rising_any (w : World) (g o cap : Nat) (zs : List Int) (hl : zs.length ≤ 67108864) (hc : Hid (∀ j, j < zs.length → w.cell? ⟨g, o + j, none⟩ = some (.int .i64 (zs.getD j 0)))) :
    Calls Tryz.prog 50 #[.slice (some ⟨g, o, none⟩) zs.length cap] w fun e w' => ∃ g' c', e = .returned (.slice (some ⟨g', 0, none⟩) (riseL zs).length c') ∧ (∀ j (h : j < (riseL zs).length), w'.cell? ⟨g', j, none⟩ = some (.int .i64 (riseL zs)[j])) ∧ Below w.heap.size w w' := by
  go_enter Tryz.func50, Tryz.ntmps50
  go_wp2_with fail
  refine (Tryz.slices_Clone_int g o zs.length cap zs w (Nat.le_refl _) (by omega) hc.out).mono ?_
  rintro e w1 ⟨v, rfl, hown, hne, d1⟩
  rcases hown.2 with ⟨hv, _⟩ | ⟨g', c', cur, rfl, hb, hg, hnc, hcm, hcs, htake⟩
  · exact absurd hv hne
  rw [List.take_length, Nat.mul_one] at htake
  have hglt : g' < w1.heap.size := (Array.getElem?_eq_some_iff.1 hg).1
  have HH := hide (holds_of_blockI hg htake)
  have HK := hide (And.intro hg (And.intro hb (And.intro hnc (And.intro hcm (And.intro hcs d1)))))
  clear hown hne hg hb hnc hcm hcs d1 htake
  go_wp2_with fail
  refine (Tryz.slices_Sort_int g' 0 c' zs w1 HH.out hglt (by omega)).mono ?_
  rintro e w2 ⟨rfl, n, os, hw2⟩
  obtain ⟨ts, hts⟩ : ∃ ts, zs.mergeSort (fun x y => decide (x ≤ y)) = ts := ⟨_, rfl⟩
  have htl : ts.length = zs.length := by rw [← hts]; simp
  rw [hts] at hw2
  have hb2 : w2.heap[g']? = some (.cells (putCells (Value.int .i64) 0 ts.toArray cur) 3 (0, 0)) := by rw [hw2]; exact heap_sortedI _ HK.out.1
  have hg2 : w1.grownBy w2 (some g') := by rw [hw2]; exact grownBy_sortedI _
  have hsz2 : (putCells (Value.int .i64) 0 ts.toArray cur).size = c' * 1 := by simp [putCells, HK.out.2.2.2.2.1]
  have hH2 := hide (holds_of_blockI hb2 (take_putCellsI cur ts (by have := HK.out.2.2.2.2.1; have := HK.out.2.2.1; omega)))
  have hcap2 : ts.length ≤ c' := by have := HK.out.2.2.1; omega
  rw [← htl]
  have HT := hide (And.intro hts (And.intro htl (And.intro hb2 (And.intro hg2 hsz2))))
  clear hw2 hb2 hg2 hsz2 hts htl
  go_wp2_with fail
  refine (Tryz.slices_Compact_int g' 0 c' ts w2 hH2.out (by have := HT.out.2.1; omega) hcap2).mono ?_
  rintro e w3 ⟨rfl, q, hw3⟩
  have HW := hide hw3
  clear hw3
  go_wp2
  go_ret
  obtain ⟨hts, htl, hb2, hg2, hsz2⟩ := HT.out
  have hw3 := HW.out
  rw [← grow_nil (putRow _ _ _ _ _)] at hw3
  have hlen : (Lib.compact ts ++ List.replicate (ts.length - (Lib.compact ts).length) 0).length = ts.length := by
    have := compact_len ts
    rw [List.length_append, List.length_replicate]; omega
  have hrow := ownsRow_sortedI (n := q) (os := #[]) hlen (Nat.zero_le g') hb2 hcap2 HK.out.2.2.2.1 hsz2
  rw [← hw3] at hrow
  have hg3 : w2.grownBy w3 (some g') := by rw [hw3]; exact grownBy_sortedI _
  have er : riseL zs = Lib.compact ts := by unfold riseL; rw [hts]
  rw [er]
  refine ⟨g', c', rfl, fun j hj => ?_, ?_⟩
  · have hjt : j < ts.length := Nat.lt_of_lt_of_le hj (compact_len ts)
    rw [hrow.cellAt j (by omega), List.getElem?_map, List.getElem?_append_left hj, List.getElem?_eq_getElem hj]
    rfl
  · have d1 := HK.out.2.2.2.2.2
    have hgb := HK.out.2.1
    exact (d1.grown hg2 d1.size (fun k hk => by cases hk; exact hgb)).grown hg3 (Nat.le_trans d1.size hg2.size) (fun k hk => by cases hk; exact hgb)
end Go.Proofs.YtmagchclmmphaaaGreatDoor
