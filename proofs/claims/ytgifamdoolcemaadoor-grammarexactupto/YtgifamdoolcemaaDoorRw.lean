import Derived.Test.YtgifamdoolcemaaDoorMw
namespace Go.Proofs.YtgifamdoolcemaaDoor
open Go.RowKit Go.Maps

theorem fill_len (sec : Nat) (x : List Nat) : (filledF sec x).length ≤ 14 := by
  unfold filledF
  have := word_len sec
  split
  · simp only [List.length_append, List.length_drop]
    split <;> simp <;> omega
  · split
    · simp
    · split
      · split <;> simp
      · split <;> simp

set_option maxRecDepth 100000 in
set_option maxHeartbeats 4000000 in
theorem rcomplete_any (s : ByteArray) (w : World) (hs : s.size ≤ 1048576) :
    Calls Tryd.prog 14 #[.string s] w fun e w' => e = .returned (.tuple #[.string (cmpB s), .int .i64 (cerF s : Nat)]) ∧ Below w.heap.size w w' := by
  have hpl := fun W => place_any s W (by omega)
  have hle := len_le s
  have HE : Hid (cmpB s = (if lenF s < s.size then ByteArray.empty else strB (compF (endF s))) ∧ cerF s = if lenF s < s.size then 30 else 0) := hide ⟨rfl, rfl⟩
  have HT : Hid (∀ f, lenF s = s.size → ((bts s).take (lenF s)).drop f = (bts s).drop f) := hide (fun f h => by rw [h, List.take_of_length_le (by rw [bts_len]; exact Nat.le_refl _)])
  have HOK := hide (end_ok s)
  generalize endF s = en at *
  generalize hn : lenF s = n at *
  go_enter Tryd.func14, Tryd.ntmps14
  go_wp2_with fail
  refine (hpl _).mono ?_
  rintro e w1 ⟨sec, f, rfl, h5, hfn, hln, d⟩
  have HD := hide (d.alloc d.size (.cells #[.int .i64 (n : Nat), .int .i64 (sec : Nat), .int .i64 (f : Nat)] 45))
  have HC : Hid (PlcAt (w1.alloc (.cells #[.int .i64 (n : Nat), .int .i64 (sec : Nat), .int .i64 (f : Nat)] 45)) w1.heap.size n sec f) := hide (MapKept.heap_alloc _ _).1
  clear hpl d
  by_cases hlt : n < s.size
  · have i1 : (n : Int) < (s.size : Int) := by omega
    have HL := hide hlt
    clear hlt hln hn
    go_wp2
    go_ret2
    exact ⟨by rw [HE.out.1, HE.out.2, if_pos HL.out, if_pos HL.out]; rfl, HD.out⟩
  · have i1 : ¬ (n : Int) < (s.size : Int) := by omega
    have HL := hide hlt
    have hns : n = s.size := by omega
    rw [HT.out f hns] at hln
    have hfi := fun W => file_any s n sec f en W (by omega) h5 (by omega) hln
    have hfs : f ≤ s.size := by omega
    have k0 : (0 : Int) ≤ (f : Int) := by omega
    have k1 : (f : Int) ≤ (s.size : Int) := by omega
    have HLN := hide hln
    have HEE : Hid (cmpB s = strB (compF en) ∧ cerF s = 0) := hide (by obtain ⟨h1, h2⟩ := HE.out; rw [if_neg hlt] at h1 h2; exact ⟨h1, h2⟩)
    clear hlt hln hns hn HE
    go_wp2_with fail
    refine (hfi _).mono ?_
    rintro e w2 ⟨rfl, d2⟩
    have HP := hide (HC.out.below d2 HC.out.lt)
    obtain ⟨⟨c0, c1, c2⟩, _⟩ := HP.out.facts
    have HD2 := hide (HD.out.trans (d2.mono HD.out.size))
    clear d2 hfi
    cases hF : isF en
    · have HX : Hid (bts (s.extract f s.size) = (bts s).drop f) := hide (bts_tail s f)
      have hxz : (s.extract f s.size).size ≤ s.size := by rw [ByteArray.size_extract]; omega
      have hem := bts_empty (s.extract f s.size)
      have hbk := fun W => blanks_any (s.extract f s.size) W (by omega)
      rcases HLN.out with ⟨h4, hW⟩ | ⟨h5', hU⟩
      · have i5 : ((sec : Int) == 5) = false := by rw [beq_eq_false_iff_ne]; omega
        have htl := fun W => tail_any sec W (by omega)
        have htz := strB_size (tailL sec)
        have htzl := tlN_len sec (5 - sec)
        rcases W_fill h4 hW hF with ⟨hx0, hc⟩ | ⟨hx0, hxb, hc⟩ | ⟨hx0, hxb, hc⟩
        · rw [HX.out, decide_eq_true hx0] at hem
          have HV : Hid (cmpB s = strB (tailL sec) ∧ cerF s = 0) := hide ⟨by rw [HEE.out.1, hc], HEE.out.2⟩
          generalize strB (tailL sec) = tb at *
          clear hc hx0 hF hbk
          go_wp2_with (go_at_call 22; refine (htl _).mono ?_; rintro e w' ⟨rfl, hw'⟩; obtain rfl := hw'.symm)
          go_ret2
          exact ⟨by rw [HV.out.1, HV.out.2]; rfl, HD2.out⟩
        · rw [HX.out, decide_eq_false hx0] at hem
          rw [HX.out, hxb] at hbk
          have HV : Hid (cmpB s = ⟨#[10]⟩ ++ strB (tailL sec) ∧ cerF s = 0) := hide ⟨by rw [HEE.out.1, hc, show (⟨#[10]⟩ : ByteArray) = strB [10] from rfl, strB_app]; rfl, HEE.out.2⟩
          have tz2 : (strB (tailL sec)).size ≤ 75 := by rw [htz]; unfold tailL; omega
          generalize strB (tailL sec) = tb at *
          clear hc hx0 hxb hF htz htzl
          go_wp2_with (first
            | (go_at_call 22; refine (htl _).mono ?_; rintro e w' ⟨rfl, hw'⟩; obtain rfl := hw'.symm)
            | (go_at_call 23; refine (hbk _).mono ?_; rintro e w' ⟨rfl, hw'⟩; obtain rfl := hw'.symm))
          go_ret2
          exact ⟨by rw [HV.out.1, HV.out.2]; rfl, HD2.out⟩
        · rw [HX.out, decide_eq_false hx0] at hem
          rw [HX.out, hxb] at hbk
          have hfl := fun W => filled_any sec (s.extract f s.size) W (by omega) h4
          rw [HX.out] at hfl
          have hfz := strB_size (filledF sec ((bts s).drop f))
          have hfl14 := fill_len sec ((bts s).drop f)
          by_cases hs4 : sec = 4
          · have i4 : ((sec : Int) == 4) = true := by rw [beq_iff_eq]; omega
            have HV : Hid (cmpB s = strB (filledF sec ((bts s).drop f)) ∧ cerF s = 0) := hide ⟨by rw [HEE.out.1, hc, if_pos hs4, List.append_nil], HEE.out.2⟩
            generalize strB (filledF sec ((bts s).drop f)) = fb at *
            clear hc hx0 hxb hF hs4 htz htzl htl
            go_wp2_with (first
              | (go_at_call 24; refine (hfl _).mono ?_; rintro e w' ⟨rfl, hd⟩)
              | (go_at_call 23; refine (hbk _).mono ?_; rintro e w' ⟨rfl, hw'⟩; obtain rfl := hw'.symm))
            go_ret2
            exact ⟨by rw [HV.out.1, HV.out.2]; rfl, HD2.out.trans (hd.mono HD2.out.size)⟩
          · have i4 : ((sec : Int) == 4) = false := by rw [beq_eq_false_iff_ne]; omega
            have htl2 := fun W => tail_any (sec + 1) W (by omega)
            have htz2 := strB_size (tailL (sec + 1))
            have htzl2 := tlN_len (sec + 1) (5 - (sec + 1))
            have HV : Hid (cmpB s = strB (filledF sec ((bts s).drop f)) ++ ⟨#[10]⟩ ++ strB (tailL (sec + 1)) ∧ cerF s = 0) := hide ⟨by rw [HEE.out.1, hc, if_neg hs4, show (⟨#[10]⟩ : ByteArray) = strB [10] from rfl, strB_app, strB_app]; simp, HEE.out.2⟩
            have tz2 : (strB (tailL (sec + 1))).size ≤ 75 := by rw [htz2]; unfold tailL; omega
            have fz2 : (strB (filledF sec ((bts s).drop f))).size ≤ 14 := by rw [hfz]; exact hfl14
            have hwr : IntKind.i64.wrap ((sec : Int) + 1) = (sec : Int) + 1 := by rw [IntKind.wrap_i64]; omega
            have ec : ((sec + 1 : Nat) : Int) = (sec : Int) + 1 := by omega
            rw [ec] at htl2
            generalize strB (filledF sec ((bts s).drop f)) = fb at *
            generalize strB (tailL (sec + 1)) = tb at *
            clear hc hx0 hxb hF hs4 htz htzl htl hfz hfl14 htz2 htzl2 ec
            go_wp2_with (go_at_call 23; refine (hbk _).mono ?_; rintro e w' ⟨rfl, hw'⟩; obtain rfl := hw'.symm)
            have HPD : Hid (PlcAt w2.drew w1.heap.size n sec f) := hide HP.out
            go_region_with (first
              | (go_at_call 24; refine (hfl _).mono ?_; rintro e' w3 ⟨rfl, d3⟩; obtain ⟨⟨e0, e1, e2⟩, _⟩ := (HPD.out.below d3 HPD.out.lt).facts)
              | (go_at_call 22; refine (htl2 _).mono ?_; rintro e' w4 ⟨rfl, hw4⟩; obtain rfl := hw4.symm))
            all_goals go_wp2
            all_goals go_ret2
            all_goals exact ⟨by rw [HV.out.1, HV.out.2]; rfl, HD2.out.drew.trans (d3.mono HD2.out.size)⟩
      · have i5 : ((sec : Int) == 5) = true := by rw [beq_iff_eq]; omega
        obtain ⟨hc, h3⟩ := U_end hU hF
        have hen := fun W => ended_any (s.extract f s.size) W (by omega) (by rw [HX.out]; exact h3)
        rw [HX.out, hc] at hen
        clear hbk hem hc h3 hF
        generalize strB (compF en) = cb at *
        go_wp2_with (go_at_call 21; refine (hen _).mono ?_; rintro e w' ⟨rfl, hw'⟩; obtain rfl := hw'.symm)
        go_ret2
        exact ⟨by rw [HEE.out.1, HEE.out.2]; rfl, HD2.out⟩
    · have HV : Hid (cmpB s = ⟨#[]⟩ ∧ cerF s = 0) := hide ⟨by rw [HEE.out.1, compF_file hF]; rfl, HEE.out.2⟩
      clear hF
      go_wp2
      go_ret2
      exact ⟨by rw [HV.out.1, HV.out.2]; rfl, HD2.out⟩
end Go.Proofs.YtgifamdoolcemaaDoor
