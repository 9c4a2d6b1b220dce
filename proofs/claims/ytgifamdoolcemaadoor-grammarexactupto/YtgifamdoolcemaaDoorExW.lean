import Derived.Test.YtgifamdoolcemaaDoorRw
namespace Go.Proofs.YtgifamdoolcemaaDoor
open Go.RowKit Go.Maps

set_option maxRecDepth 100000 in
set_option maxHeartbeats 2000000 in
theorem exact_any (s : ByteArray) (w : World) (hT : RowsAt w) (hw0 : 0 < w.heap.size) (hs : s.size ≤ 1048576) :
    Calls Tryd.prog 6 #[.string s] w fun e w' => e = .returned (.bool true) ∧ Below w.heap.size w w' := by
  have HT := hide hT
  have hwk := works_any w hT hw0
  have hc1 := fun W h1 h2 => check_any s W h1 h2 (by omega)
  have hc2 := fun W h1 h2 => follow_any s W h1 h2 (by omega)
  have hc3 := fun W h1 h2 => complete_any s W h1 h2 (by omega)
  have hr1 := fun W => rcheck_any s W (by omega)
  have hr2 := fun W => rfollow_any s W hs
  have hr3 := fun W => rcomplete_any s W hs
  generalize lenF s = n at *
  generalize errF s = er at *
  generalize folB s = fb at *
  generalize folI s = fi at *
  generalize cerF s = ce at *
  generalize cmpB s = cb at *
  clear hT
  go_enter Tryd.func6, Tryd.ntmps6
  go_wp2_with fail
  refine hwk.mono ?_
  rintro e w1 ⟨rfl, d⟩
  go_wp2_with fail
  refine (hc1 _ (HT.out.below d hw0) (Nat.lt_of_lt_of_le hw0 d.size)).mono ?_
  rintro e w2 ⟨rfl, d2⟩
  replace d := d.trans (d2.mono d.size)
  clear d2 hwk hc1
  go_wp2_with fail
  refine (hr1 _).mono ?_
  rintro e w3 ⟨rfl, d2⟩
  replace d := d.trans (d2.mono d.size)
  clear d2 hr1
  go_wp2_with fail
  refine (hc2 _ (HT.out.below d hw0) (Nat.lt_of_lt_of_le hw0 d.size)).mono ?_
  rintro e w4 ⟨rfl, d2⟩
  replace d := d.trans (d2.mono d.size)
  clear d2 hc2
  go_wp2_with fail
  refine (hr2 _).mono ?_
  rintro e w5 ⟨rfl, d2⟩
  replace d := d.trans (d2.mono d.size)
  clear d2 hr2
  go_wp2_with fail
  refine (hc3 _ (HT.out.below d hw0) (Nat.lt_of_lt_of_le hw0 d.size)).mono ?_
  rintro e w6 ⟨rfl, d2⟩
  replace d := d.trans (d2.mono d.size)
  clear d2 hc3
  go_wp2_with fail
  refine (hr3 _).mono ?_
  rintro e w7 ⟨rfl, d2⟩
  replace d := d.trans (d2.mono d.size)
  have HD := hide d
  clear d2 hr3 d
  go_wp2
  go_ret
  exact ⟨by first | rfl | simp, HD.out⟩
end Go.Proofs.YtgifamdoolcemaaDoor
