import Derived.Test.YtnfdifkcchciaaaDoorRmath
namespace Go.Proofs.YtnfdifkcchciaaaDoor
open Go.RowKit Go.Maps

set_option maxRecDepth 100000 in
set_option maxHeartbeats 1000000 in
theorem rename_len (vl vf vt : Value) (l f t : List ByteArray) (w : World) (_hl : StrS w vl l) (hf : StrS w vf f) (ht : StrS w vt t) (h : f.length ≠ t.length) :
    Calls Tryd.prog 35 #[vl, vf, vt] w fun e w' => e = .returned (.tuple #[.slice none 0 0, .int .i64 1]) ∧ Below w.heap.size w w' := by
  obtain ⟨a2, c2, rfl, r2⟩ := hf
  obtain ⟨a3, c3, rfl, r3⟩ := ht
  clear r2 r3
  have hne : ((f.length : Int) != (t.length : Int)) = true := by rw [bne_iff_ne]; omega
  clear h
  go_enter Tryd.func35, Tryd.ntmps35
  go_wp2
  go_ret2
  exact ⟨rfl, Below.refl _ _⟩

/-- What Rename answers: the list and OK, or an error. -/
def RenOut (R : List ByteArray) (c : Int) (w' : World) (B : Nat) (v : Value) : Prop := (R.all vld = true ∧ R.Nodup ∧ c = 0 ∧ OwnS w' B v R) ∨ (¬ (R.all vld = true ∧ R.Nodup) ∧ c ≠ 0)
theorem ren_at {R l f t : List ByteArray} (h : R = renL l f t) (k : Nat) (hk : k < R.length) (hl : k < l.length) : R[k] = ren1 f t l[k] := by
  subst h
  simp [renL]

set_option maxRecDepth 100000 in
set_option maxHeartbeats 1000000 in
/-- Rename of lists equally long. -/
theorem rename_eq (vl vf vt : Value) (l f t : List ByteArray) (w : World) (hl : StrS w vl l) (hf : StrS w vf f) (ht : StrS w vt t) (h : f.length = t.length) (sl : Sml l) (sf : Sml f) (R : List ByteArray) (HE : Hid (R = renL l f t)) (sr : ∀ s ∈ R, s.size ≤ 1048576)
    (hT : BytesAt w) (hw0 : 0 < w.heap.size) :
    Calls Tryd.prog 35 #[vl, vf, vt] w fun e w' => (∃ v c, e = .returned (.tuple #[v, .int .i64 c]) ∧ RenOut R c w' w.heap.size v) ∧ Below w.heap.size w w' := by
  have HL := hide (And.intro hl (And.intro hf ht))
  obtain ⟨a1, c1, rfl, r1⟩ := hl
  obtain ⟨a2, c2, rfl, r2⟩ := hf
  obtain ⟨a3, c3, rfl, r3⟩ := ht
  have HR := hide (And.intro r1 (And.intro r2 r3))
  have HT := hide hT
  have SS := hide (And.intro sl (And.intro sf sr))
  have ll := sl.1
  have lf := sf.1
  clear r1 r2 r3 sl sf sr hT
  have hne : ((f.length : Int) != (t.length : Int)) = false := by rw [bne_eq_false_iff_eq]; omega
  have HH := hide h
  clear h
  go_enter Tryd.func35, Tryd.ntmps35
  go_wp2_with fail
  refine (firstPlaces_any _ f _ HL.out.2.1 SS.out.2.1).mono ?_
  rintro e w1 ⟨rfl, pl, d1⟩
  go_wp2_with fail
  refine (clone_any _ l _ (HL.out.1.below d1) (by omega)).mono ?_
  rintro e w2 ⟨v, rfl, ov, d2⟩
  have HV := hide (And.intro ov d2)
  have HP := hide (And.intro pl d1)
  have hlR : R.length = l.length := by rw [HE.out]; exact renL_length l f t
  have HLR := hide hlR
  clear ov d2 pl d1 hne hlR
  go_wp2
  go_loopw [25] (fun i wr => ∃ k : Nat, k ≤ l.length ∧ i = .int .i64 k ∧ OwnS wr w1.heap.size v (mixS R l k) ∧ Below w1.heap.size w1 wr) (fun i _ => l.length - (intOf i).toNat)
  case atStart => exact ⟨0, Nat.zero_le _, rfl, by rw [mixS_zero]; exact HV.out.1, HV.out.2⟩
  case round =>
    obtain ⟨k, hk, rfl, ov, dr⟩ := hrel
    clear HV
    by_cases hlt : k < l.length
    · have dw : Below w.heap.size w wr := HP.out.2.trans (dr.mono HP.out.2.size)
      obtain ⟨g1, o1, rfl, q1⟩ := (HR.out.1.below dw) k hlt
      have i0 : (0 : Int) ≤ (k : Int) := by omega
      have i2 : (k : Int) < (l.length : Int) := by omega
      have hsz : (l[k]).size ≤ 1048576 := SS.out.1.2 _ (List.getElem_mem hlt)
      have hRk : ∃ hk' : k < R.length, R[k] = ren1 f t l[k] := ⟨by rw [HLR.out]; exact hlt, ren_at HE.out k (by rw [HLR.out]; exact hlt) hlt⟩
      obtain ⟨s, hs⟩ : ∃ s, s = l[k] := ⟨_, rfl⟩
      have hpl : Pls wr w.heap.size f.length f := HP.out.1.below dr
      rw [← hs] at q1 hsz
      by_cases hm : s ∈ f
      · obtain ⟨hi, hr⟩ := ren1_in (t := t) hm HH.out
        obtain ⟨m, hmm⟩ : ∃ m, f.idxOf s = m := ⟨_, rfl⟩
        obtain ⟨g3, o3, rfl, q3⟩ := (HR.out.2.2.below dw) (f.idxOf s) hi
        rw [← hr] at q3
        rw [hmm] at q3 hi
        have j0 : (0 : Int) ≤ (m : Int) := by omega
        have j2 : (m : Int) < (t.length : Int) := by omega
        have hov : wr.ownsRow w1.heap.size 9 1 v l.length (strV (mixS R l k)) := by
          have := ov
          unfold OwnS at this
          rwa [mixS_length HLR.out] at this
        obtain ⟨g, cp, rfl, hg1, hg2⟩ := hov.form (by omega)
        obtain ⟨u, hu⟩ : ∃ u, wr.cell? ⟨g, k, none⟩ = some u := ⟨_, (hov.cellAt k (by omega)).trans (List.getElem?_eq_getElem (by rw [strV_length, mixS_length HLR.out]; omega))⟩
        have hfz : wr.frozen? ⟨g, k, none⟩ = false := hov.frozenAt _
        obtain ⟨x, hx⟩ : ∃ x, x = ren1 f t s := ⟨_, rfl⟩
        rw [← hx] at q3
        have HO := hide (And.intro hov (And.intro dr (And.intro hs (And.intro hx (And.intro hRk hg1)))))
        have HM := hide (And.intro hm (And.intro hmm hpl))
        clear hov ov dr dw hs hx hRk hr hm hmm hpl
        go_wp2_with (at_lookup; refine lookup_in _ rfl _ _ rfl w.heap.size f.length f s m HM.out.2.2 HM.out.1 HM.out.2.1 hsz rfl rfl ?_)
        go_roundw
        case rel =>
          obtain ⟨hov, dr, hs, hx, ⟨hk', hRk⟩, hg1⟩ := HO.out
          refine ⟨k + 1, by omega, by go_num, ?_, dr.setCell hg1 _⟩
          have := (hov.stored k (.string x)).1
          rw [mixS_set HLR.out k hk' x (by rw [hRk, hx, hs])] at this
          show World.ownsRow _ _ _ _ _ (mixS R l (k + 1)).length _
          rw [mixS_length HLR.out]
          exact this
        case measure => simp [intOf]; omega
      · have HM := hide (And.intro hm hpl)
        have HO := hide (And.intro ov (And.intro dr (And.intro hs hRk)))
        clear ov dr dw hs hRk hm hpl
        go_wp2_with (at_lookup; refine lookup_out _ rfl _ _ rfl w.heap.size f.length f s HM.out.2 HM.out.1 hsz rfl rfl ?_; intro c)
        go_roundw
        case rel =>
          obtain ⟨ov, dr, hs, ⟨hk', hRk⟩⟩ := HO.out
          refine ⟨k + 1, by omega, by go_num, ?_, dr⟩
          rw [mixS_same HLR.out k hk' (by rw [hRk, ← hs, ren1_out HM.out.1])]
          exact ov
        case measure => simp [intOf]; omega
    · have i2 : ¬ (k : Int) < (l.length : Int) := by omega
      have hke : k = l.length := by omega
      have ov' : OwnS wr w1.heap.size v R := by
        have := ov
        rwa [hke, mixS_full HLR.out] at this
      have dw : Below w.heap.size w wr := HP.out.2.trans (dr.mono HP.out.2.size)
      have hs1 := HP.out.2.size
      have T := HT.out.below dw hw0
      have W := Nat.lt_of_lt_of_le hw0 dw.size
      have SR : Sml R := ⟨by rw [HLR.out]; exact ll, SS.out.2.2⟩
      have HO := hide (And.intro ov' (And.intro dw (And.intro T (And.intro W (And.intro SR hs1)))))
      clear ov ov' dw T W SR hke dr hs1
      go_wp2_with fail
      refine (allValid_any v R _ HO.out.1.str HO.out.2.2.2.2.1.1 HO.out.2.2.1 HO.out.2.2.2.1).mono ?_
      rintro e w3 ⟨rfl, d3⟩
      have D3 := HO.out.2.1.trans (d3.mono HO.out.2.1.size)
      by_cases hv : R.all vld = true
      · rw [hv]
        go_wp2_with fail
        refine (holdsTwice_any v R _ (HO.out.1.str.below d3) HO.out.2.2.2.2.1).mono ?_
        rintro e w4 ⟨rfl, d4⟩
        have D4 := D3.trans (d4.mono D3.size)
        have O4 := (HO.out.1.below d3).below d4
        have hs1 := HO.out.2.2.2.2.2
        by_cases hn : R.Nodup
        · have hb : (!decide R.Nodup) = false := by simp [hn]
          rw [hb]
          have HQ := hide (And.intro D4 (And.intro (O4.mono hs1) hn))
          clear hb hn D3 D4 O4 d3 d4
          go_wp2
          go_ret2
          exact ⟨⟨v, 0, rfl, .inl ⟨hv, HQ.out.2.2, rfl, HQ.out.2.1⟩⟩, HQ.out.1⟩
        · have hb : (!decide R.Nodup) = true := by simp [hn]
          rw [hb]
          have HQ := hide (And.intro D4 hn)
          clear hb hn D3 D4 O4 d3 d4
          go_wp2
          go_ret2
          exact ⟨⟨.slice none 0 0, 21, rfl, .inr ⟨fun h => HQ.out.2 h.2, by decide⟩⟩, HQ.out.1⟩
      · have hv' : R.all vld = false := by simpa using hv
        rw [hv']
        clear hv d3
        go_wp2
        go_ret2
        exact ⟨⟨.slice none 0 0, 20, rfl, .inr ⟨fun h => Bool.false_ne_true (hv'.symm.trans h.1), by decide⟩⟩, D3⟩

end Go.Proofs.YtnfdifkcchciaaaDoor
