import Derived.Test.YtgifamdoolcemaaDoorGp
namespace Go.Proofs.YtgifamdoolcemaaDoor
open Go.RowKit Go.Maps

theorem strB_nil {l : List Nat} : ((strB l).toList == []) = decide (l = []) := by
  rw [Bool.eq_iff_iff, beq_iff_eq, decide_eq_true_iff, ByteArray.toList_eq]
  unfold strB
  simp
theorem err_two (s : ByteArray) : errF s = 0 ∨ errF s = 30 := by unfold errF; split <;> simp

set_option maxRecDepth 100000 in
set_option maxHeartbeats 1000000 in
theorem ends_any (s t : ByteArray) (w : World) (hT : RowsAt w) (hw0 : 0 < w.heap.size) (hs : s.size ≤ 1048576) (ht : t.size ≤ 1048576) :
    Calls Tryd.prog 3 #[.string s, .string t] w fun e w' => e = .returned (.bool true) ∧ Below w.heap.size w w' := by
  have HT := hide hT
  have hwk := works_any w hT hw0
  have hc1 := fun W h1 h2 => check_any s W h1 h2 (by omega)
  have hc2 := fun W h1 h2 => complete_any (s.extract 0 (lenF s)) W h1 h2 (by rw [(len_take s).2.2]; have := len_le s; omega)
  rw [(cer_take s).1, (cer_take s).2] at hc2
  have hcl := comp_len (end_ok s)
  have hc3 := fun W h1 h2 => check_any (s.extract 0 (lenF s) ++ strB (compF (endF s))) W h1 h2 (by rw [ByteArray.size_append, strB_size, (len_take s).2.2]; have := len_le s; omega)
  rw [(ends_two s).1, (ends_two s).2] at hc3
  have hle := len_le s
  have hz := strB_size (compF (endF s))
  have hnl := strB_nil (l := compF (endF s))
  have hem : decide (compF (endF s) = []) = isF (endF s) := by rw [Bool.eq_iff_iff, decide_eq_true_iff]; exact comp_nil (end_ok s)
  rw [hem] at hnl
  have hE := err_full s
  have hE2 := err_two s
  have hc4 := fun (h : lenF s < s.size) W h1 h2 => check_any (s.extract 0 (lenF s + 1) ++ t) W h1 h2 (by rw [ByteArray.size_append]; simp; omega)
  have hE3 : lenF s < s.size → errF s = 30 := fun h => by unfold errF; rw [if_pos (.inl h)]
  have h34 := ends_three s t
  have hsz2 : (strB (compF (endF s))).size ≤ 48 := by rw [hz]; exact hcl
  have hsx : (s.extract 0 (lenF s)).size = lenF s := (len_take s).2.2
  clear hT hem hz hcl
  generalize strB (compF (endF s)) = c at *
  generalize isF (endF s) = f at *
  generalize hn : lenF s = n at *
  generalize errF s = er at *
  go_enter Tryd.func3, Tryd.ntmps3
  go_wp2_with fail
  refine hwk.mono ?_
  rintro e w1 ⟨rfl, d⟩
  go_wp2_with fail
  refine (hc1 _ (HT.out.below d hw0) (Nat.lt_of_lt_of_le hw0 d.size)).mono ?_
  rintro e w2 ⟨rfl, d2⟩
  replace d := d.trans (d2.mono d.size)
  clear hwk hc1 d2
  have i0 : ¬ (n : Int) < 0 := by omega
  have i1 : ¬ (n : Int) > (s.size : Int) := by omega
  have i2 : (0 : Int) ≤ (n : Int) := by omega
  have i3 : (n : Int) ≤ (s.size : Int) := by omega
  have k0 : decide ((n : Int) < 0) = false := decide_eq_false i0
  have k1 : decide (s.size < n) = false := decide_eq_false (by omega)
  by_cases hlt : n < s.size
  · have j4 : (n : Int) + 1 ≤ (s.size : Int) := by omega
    have j5 : (0 : Int) ≤ (n : Int) + 1 := by omega
    have he : er = 30 := hE3 hlt
    subst he
    have j1 : ((n : Int) == (s.size : Int)) = false := by rw [beq_eq_false_iff_ne]; omega
    have hc4' := hc4 hlt
    rw [(h34 hlt).1, (h34 hlt).2] at hc4'
    have HD := hide d
    have HC := hide (And.intro hc2 (And.intro hc3 hc4'))
    clear hc4 hc4' hE hE2 hE3 h34 hlt hnl hc2 hc3 d hn
    go_wp2_with fail
    refine (HC.out.1 _ (HT.out.below HD.out hw0) (Nat.lt_of_lt_of_le hw0 HD.out.size)).mono ?_
    rintro e w3 ⟨rfl, d⟩
    have HD3 := hide (HD.out.trans (d.mono HD.out.size))
    clear d HD
    go_wp2_with fail
    refine (HC.out.2.1 _ (HT.out.below HD3.out hw0) (Nat.lt_of_lt_of_le hw0 HD3.out.size)).mono ?_
    rintro e w4 ⟨rfl, d⟩
    have HD4 := hide (HD3.out.trans (d.mono HD3.out.size))
    clear d HD3
    go_wp2_with fail
    refine (HC.out.2.2 _ (HT.out.below HD4.out hw0) (Nat.lt_of_lt_of_le hw0 HD4.out.size)).mono ?_
    rintro e w5 ⟨rfl, d⟩
    have HD5 := hide (HD4.out.trans (d.mono HD4.out.size))
    clear d HD4
    go_wp2
    go_ret
    exact ⟨by first | rfl | simp, HD5.out⟩
  · have hnn : n = s.size := by omega
    have he := hE hnn
    have j1 : ((n : Int) == (s.size : Int)) = true := by rw [beq_iff_eq]; omega
    have j2 : ((n : Int) != (s.size : Int)) = false := by rw [bne_eq_false_iff_eq]; omega
    have HD := hide d
    have HC := hide (And.intro hc2 hc3)
    clear hc4 hE hE2 hE3 h34 hlt hc2 hc3 d hn hnn
    cases f
    · simp only [Bool.false_eq_true, if_false] at he
      subst he
      go_wp2_with fail
      refine (HC.out.1 _ (HT.out.below HD.out hw0) (Nat.lt_of_lt_of_le hw0 HD.out.size)).mono ?_
      rintro e w3 ⟨rfl, d⟩
      have HD3 := hide (HD.out.trans (d.mono HD.out.size))
      clear d HD
      go_wp2_with fail
      refine (HC.out.2 _ (HT.out.below HD3.out hw0) (Nat.lt_of_lt_of_le hw0 HD3.out.size)).mono ?_
      rintro e w4 ⟨rfl, d⟩
      have HD4 := hide (HD3.out.trans (d.mono HD3.out.size))
      clear d HD3
      go_wp2
      go_ret
      exact ⟨by first | rfl | simp, HD4.out⟩
    · simp only [if_true] at he
      subst he
      go_wp2_with fail
      refine (HC.out.1 _ (HT.out.below HD.out hw0) (Nat.lt_of_lt_of_le hw0 HD.out.size)).mono ?_
      rintro e w3 ⟨rfl, d⟩
      have HD3 := hide (HD.out.trans (d.mono HD.out.size))
      clear d HD
      go_wp2_with fail
      refine (HC.out.2 _ (HT.out.below HD3.out hw0) (Nat.lt_of_lt_of_le hw0 HD3.out.size)).mono ?_
      rintro e w4 ⟨rfl, d⟩
      have HD4 := hide (HD3.out.trans (d.mono HD3.out.size))
      clear d HD3
      go_wp2
      go_ret
      exact ⟨by first | rfl | simp, HD4.out⟩
end Go.Proofs.YtgifamdoolcemaaDoor
