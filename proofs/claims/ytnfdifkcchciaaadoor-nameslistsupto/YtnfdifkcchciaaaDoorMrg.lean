import Derived.Test.YtnfdifkcchciaaaDoorMmath
namespace Go.Proofs.YtnfdifkcchciaaaDoor
open Go.RowKit Go.Maps

set_option maxRecDepth 100000 in
set_option maxHeartbeats 1000000 in
theorem merge_noname (va vb : Value) (a b : List ByteArray) (w : World) (ha : StrS w va a) (hb : StrS w vb b) (la : a.length ≤ 2097152) (lb : b.length ≤ 2097152)
    (h : ¬ (a.all vld = true ∧ b.all vld = true)) (hT : BytesAt w) (hw0 : 0 < w.heap.size) :
    Calls Tryd.prog 16 #[va, vb] w fun e w' => e = .returned (.tuple #[.slice none 0 0, .slice none 0 0, .slice none 0 0, .int .i64 20]) ∧ Below w.heap.size w w' := by
  by_cases h1 : a.all vld = true
  · have h2 : b.all vld = false := by
      cases hx : b.all vld
      · rfl
      · exact absurd ⟨h1, hx⟩ h
    clear h
    have HT := hide hT
    clear hT
    go_enter Tryd.func16, Tryd.ntmps16
    go_wp2_with fail
    refine (allValid_any va a _ ha (by omega) HT.out hw0).mono ?_
    rintro e w1 ⟨rfl, d1⟩
    rw [h1]
    clear ha
    go_wp2_with fail
    refine (allValid_any vb b _ (hb.below d1) (by omega) (HT.out.below d1 hw0) (Nat.lt_of_lt_of_le hw0 d1.size)).mono ?_
    rintro e w2 ⟨rfl, d2⟩
    rw [h2]
    have d := d1.trans (d2.mono d1.size)
    clear hb d1 d2
    go_wp2
    (try simp only [Exit.inBlock, Exit.then])
    refine bodyPost_ret (results_tmp4 rfl _ _ _) rfl ?_
    exact ⟨rfl, d⟩
  · have h1' : a.all vld = false := by simpa using h1
    clear h h1
    have HT := hide hT
    clear hT
    go_enter Tryd.func16, Tryd.ntmps16
    go_wp2_with fail
    refine (allValid_any va a _ ha (by omega) HT.out hw0).mono ?_
    rintro e w1 ⟨rfl, d1⟩
    rw [h1']
    clear ha hb
    go_wp2
    (try simp only [Exit.inBlock, Exit.then])
    refine bodyPost_ret (results_tmp4 rfl _ _ _) rfl ?_
    exact ⟨rfl, d1⟩

set_option maxRecDepth 100000 in
set_option maxHeartbeats 1000000 in
theorem merge_twice (va vb : Value) (a b : List ByteArray) (w : World) (ha : StrS w va a) (hb : StrS w vb b) (la : a.length ≤ 2097152) (lb : b.length ≤ 2097152) (sa : Sml a) (sb : Sml b)
    (h1 : a.all vld = true) (h2 : b.all vld = true) (h : ¬ (a.Nodup ∧ b.Nodup)) (hT : BytesAt w) (hw0 : 0 < w.heap.size) :
    Calls Tryd.prog 16 #[va, vb] w fun e w' => e = .returned (.tuple #[.slice none 0 0, .slice none 0 0, .slice none 0 0, .int .i64 21]) ∧ Below w.heap.size w w' := by
  have HT := hide hT
  clear hT
  by_cases n1 : a.Nodup
  · have n2 : (!decide b.Nodup) = true := by simp; exact fun hx => h ⟨n1, hx⟩
    have n1' : (!decide a.Nodup) = false := by simp [n1]
    have SS := hide (And.intro sa sb)
    clear h n1 sa sb
    go_enter Tryd.func16, Tryd.ntmps16
    go_wp2_with fail
    refine (allValid_any va a _ ha (by omega) HT.out hw0).mono ?_
    rintro e w1 ⟨rfl, d1⟩
    rw [h1]
    go_wp2_with fail
    refine (allValid_any vb b _ (hb.below d1) (by omega) (HT.out.below d1 hw0) (Nat.lt_of_lt_of_le hw0 d1.size)).mono ?_
    rintro e w2 ⟨rfl, d2⟩
    rw [h2]
    have d := d1.trans (d2.mono d1.size)
    replace ha := ha.below d
    replace hb := hb.below d
    clear d1 d2
    go_wp2_with fail
    refine (holdsTwice_any va a _ ha SS.out.1).mono ?_
    rintro e w3 ⟨rfl, d3⟩
    rw [n1']
    replace hb := hb.below d3
    replace d := d.trans (d3.mono d.size)
    clear d3 ha
    go_wp2_with fail
    refine (holdsTwice_any vb b _ hb SS.out.2).mono ?_
    rintro e w4 ⟨rfl, d4⟩
    rw [n2]
    replace d := d.trans (d4.mono d.size)
    clear d4 hb
    go_wp2
    (try simp only [Exit.inBlock, Exit.then])
    refine bodyPost_ret (results_tmp4 rfl _ _ _) rfl ?_
    exact ⟨rfl, d⟩
  · have n1' : (!decide a.Nodup) = true := by simp [n1]
    have SS := hide (And.intro sa sb)
    clear h n1 sa sb
    go_enter Tryd.func16, Tryd.ntmps16
    go_wp2_with fail
    refine (allValid_any va a _ ha (by omega) HT.out hw0).mono ?_
    rintro e w1 ⟨rfl, d1⟩
    rw [h1]
    go_wp2_with fail
    refine (allValid_any vb b _ (hb.below d1) (by omega) (HT.out.below d1 hw0) (Nat.lt_of_lt_of_le hw0 d1.size)).mono ?_
    rintro e w2 ⟨rfl, d2⟩
    rw [h2]
    have d := d1.trans (d2.mono d1.size)
    replace ha := ha.below d
    clear d1 d2 hb
    go_wp2_with fail
    refine (holdsTwice_any va a _ ha SS.out.1).mono ?_
    rintro e w3 ⟨rfl, d3⟩
    rw [n1']
    replace d := d.trans (d3.mono d.size)
    clear d3 ha
    go_wp2
    (try simp only [Exit.inBlock, Exit.then])
    refine bodyPost_ret (results_tmp4 rfl _ _ _) rfl ?_
    exact ⟨rfl, d⟩

end Go.Proofs.YtnfdifkcchciaaaDoor
