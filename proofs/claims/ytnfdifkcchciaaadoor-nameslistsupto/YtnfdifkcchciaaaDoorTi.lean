import Derived.Test.YtnfdifkcchciaaaDoorTh
namespace Go.Proofs.YtnfdifkcchciaaaDoor
open Go.RowKit Go.Maps

set_option maxRecDepth 100000 in
set_option maxHeartbeats 4000000 in
theorem thrice_any (va vb vc xa xb xc : Value) (la lb lc : List ByteArray) (head : ByteArray) (n : Int) (w : World) (ha : StrS w va la) (hb : StrS w vb lb) (hc : StrS w vc lc) (hxa : StrS w xa la) (hxb : StrS w xb lb) (hxc : StrS w xc lc) (sa : Sml la) (sb : Sml lb) (sc : Sml lc)
    (na : la.length ≤ 1048576) (nb : lb.length ≤ 1048576) (nc : lc.length ≤ 1048576) (hh : head.size + 1 ≤ 1048576) (hT : BytesAt w) (hP : PowAt w) (hw0 : 1 < w.heap.size) :
    Calls Tryd.prog 36 #[va, vb, vc, .agg #[xa, xb, xc, .string head, .int .i64 n]] w fun e w' => e = .returned (.bool true) ∧ Below w.heap.size w w' := by
  obtain ⟨i22, hi22, hz220, hz221, hz222⟩ := info_parts info22
  obtain ⟨i28, hi28, hz280, hz281, hz282⟩ := info_parts info28
  obtain ⟨xA, cA, exa, hra⟩ := hxa
  obtain ⟨xB, cB, exb, hrb⟩ := hxb
  obtain ⟨xC, cC, exc, hrc⟩ := hxc
  subst exa
  subst exb
  subst exc
  have hxa : StrS w (.slice xA la.length cA) la := ⟨xA, cA, rfl, hra⟩
  have hxb : StrS w (.slice xB lb.length cB) lb := ⟨xB, cB, rfl, hrb⟩
  have hxc : StrS w (.slice xC lc.length cC) lc := ⟨xC, cC, rfl, hrc⟩
  clear hra hrb hrc
  obtain ⟨xa, exa⟩ : ∃ xa, xa = la.length := ⟨_, rfl⟩
  obtain ⟨xb, exb⟩ : ∃ xb, xb = lb.length := ⟨_, rfl⟩
  obtain ⟨xc, exc⟩ : ∃ xc, xc = lc.length := ⟨_, rfl⟩
  rw [← exa] at hxa
  rw [← exb] at hxb
  rw [← exc] at hxc
  rw [← exa, ← exb, ← exc]
  clear exa exb exc
  obtain ⟨X, hX⟩ : ∃ X, w.heap.size = X := ⟨_, rfl⟩
  obtain ⟨w1, hw1⟩ : ∃ w1, w.alloc (.cells #[.slice xA xa cA, .slice xB xb cB, .slice xC xc cC, .string head, .int .i64 n] 39) = w1 := ⟨_, rfl⟩
  have d1 : Below w.heap.size w w1 := by rw [← hw1]; exact below_new _ _
  have cX : ∀ j, w1.cell? ⟨X, j, none⟩ = (#[.slice xA xa cA, .slice xB xb cB, .slice xC xc cC, .string head, .int .i64 n] : Array Value)[j]? := fun j => by
    rw [← hw1, ← hX, cell_of_row _ w.heap.size j _ 39 (0, 0) (heap_alloc_new w _)]
  have HZ : Hid (Tz X va vb vc (.slice xA xa cA) (.slice xB xb cB) (.slice xC xc cC) la lb lc head n w1) :=
    ⟨ha.below d1, hb.below d1, hc.below d1, hxa.below d1, hxb.below d1, hxc.below d1, hT.below d1 (by omega), hP.below d1 hw0, Nat.lt_of_lt_of_le hw0 d1.size, cX 0, cX 1, cX 2, cX 3, cX 4⟩
  have HS : Hid (Sml la ∧ Sml lb ∧ Sml lc ∧ la.length ≤ 1048576 ∧ lb.length ≤ 1048576 ∧ lc.length ≤ 1048576 ∧ head.size + 1 ≤ 1048576) := ⟨sa, sb, sc, na, nb, nc, hh⟩
  have HD := hide d1
  have T0 := hide (Th.start w1 (mL la lb) (rnL la lb lc) (mP la lb) (mQ la lb))
  clear ha hb hc hxa hxb hxc sa sb sc na nb nc hh hT hP hw0 d1 cX
  go_enter Tryd.func36, Tryd.ntmps36
  go_wp2
  go_loopw [0, 1, 9, 10, 35] (fun pa pb tv nv kk wr => ∃ (k : Nat) (ta : Nat → Value) (tl : Nat → List ByteArray) (na : Nat → Value) (nl : Nat → List Nat), pa = va ∧ pb = vb ∧ k ≤ 3 ∧ kk = .int .i64 k ∧ Hid (Th w1 (mL la lb) (rnL la lb lc) (mP la lb) (mQ la lb) (3 * k) (2 * k) (3 * k) (2 * k) tv nv ta tl na nl wr)) (fun _ _ _ _ kk _ => 3 - (intOf kk).toNat)
  case atStart => exact ⟨0, _, _, _, _, rfl, rfl, Nat.zero_le _, rfl, T0⟩
  case round =>
    clear T0
    obtain ⟨k, ta, tl, na, nl, e0, e1, hk, rfl, T1⟩ := hrel
    obtain rfl := e0.symm
    obtain rfl := e1.symm
    by_cases hlt : k < 3
    · have i3 : (k : Int) < 3 := by omega
      obtain ⟨y0, y1, y2, y3, y4⟩ := And.intro (HZ.out.below T1.out.D).c0 (And.intro (HZ.out.below T1.out.D).c1 (And.intro (HZ.out.below T1.out.D).c2 (And.intro (HZ.out.below T1.out.D).c3 (HZ.out.below T1.out.D).c4)))
      by_cases hk1 : k = 1
      · have hb1 : ((k : Int) == 1) = true := by rw [beq_iff_eq]; omega
        have hk1' := hide hk1
        have hh := HS.out.2.2.2.2.2.2
        clear hk1
        have q0 : ∀ ob, (wr.alloc ob).cell? ⟨X, 0, none⟩ = some (.slice xA xa cA) := fun ob => cell_below y0 (below_new wr ob)
        have q1 : ∀ ob, (wr.alloc ob).cell? ⟨X, 1, none⟩ = some (.slice xB xb cB) := fun ob => cell_below y1 (below_new wr ob)
        have q2 : ∀ ob, (wr.alloc ob).cell? ⟨X, 2, none⟩ = some (.slice xC xc cC) := fun ob => cell_below y2 (below_new wr ob)
        have q3 : ∀ ob, (wr.alloc ob).cell? ⟨X, 3, none⟩ = some (.string head) := fun ob => cell_below y3 (below_new wr ob)
        go_wp2_with fail
        generalize hY : wr.heap.size = Y
        generalize hwy : wr.alloc (.cells #[.slice xB xb cB, .slice xA xa cA, .slice xC xc cC, .string (head ++ (⟨#[48]⟩ : ByteArray)), .int .i64 3] 39) = wy
        have dy : Below wr.heap.size wr wy := by rw [← hwy]; exact below_new _ _
        have cY : ∀ j, wy.cell? ⟨Y, j, none⟩ = (#[.slice xB xb cB, .slice xA xa cA, .slice xC xc cC, .string (head ++ (⟨#[48]⟩ : ByteArray)), .int .i64 3] : Array Value)[j]? := fun j => by
          rw [← hwy, ← hY, cell_of_row _ wr.heap.size j _ 39 (0, 0) (heap_alloc_new wr _)]
        have HY : Hid (Cy Y (.slice xB xb cB) (.slice xA xa cA) (.slice xC xc cC) (head ++ (⟨#[48]⟩ : ByteArray)) 3 wy) := ⟨cY 0, cY 1, cY 2, cY 3, cY 4⟩
        have T2 := hide (T1.out.below dy)
        have HB : Hid (lb.length ≤ 1048576 ∧ la.length ≤ 1048576 ∧ lc.length ≤ 1048576 ∧ (head ++ (⟨#[48]⟩ : ByteArray)).size ≤ 1048576 ∧ Sml lb ∧ Sml la ∧ Sml lc) := by
          have := HS.out
          exact ⟨by omega, by omega, by omega, by first | omega | (rw [ByteArray.size_append]; exact this.2.2.2.2.2.2), by first | exact this.1 | exact this.2.1, by first | exact this.2.1 | exact this.1, this.2.2.1⟩
        have HML := hide (mlens lb la)
        have HNL := hide (nulen (head ++ (⟨#[48]⟩ : ByteArray)) 3)
        have HRL := hide (rnlen lb la lc)
        clear hh q0 q1 q2 q3 cY dy T1 hwy hY y0 y1 y2 y3 y4
        generalize (head ++ (⟨#[48]⟩ : ByteArray)) = hd at *
        refine (rmerge_u _ _ lb la _ (HZ.out.below T2.out.D).yb (HZ.out.below T2.out.D).ya (by have := HB.out; omega) (by have := HB.out; omega)).mono ?_
        rintro e w2 ⟨⟨um, uu, uv, rfl, mo⟩, d2⟩
        have T3 := hide (T2.out.below d2)
        have R3 : Hid (OwnS w2 0 um (mL lb la) ∧ OwnN w2 0 uu (mP lb la) ∧ OwnN w2 0 uv (mQ lb la)) := ⟨row_zero mo.1, row_zero mo.2.1, row_zero mo.2.2⟩
        obtain ⟨z0, z1, z2, z3, z4⟩ := HY.out.below d2
        have HY2 := hide (HY.out.below d2)
        clear mo d2 HY T2
        go_wp2_with fail
        clear z0 z1 z2 z3 z4
        refine (rnum_u hd 3 _ HB.out.2.2.2.1 (HZ.out.below T3.out.D).pw (HZ.out.below T3.out.D).sz).mono ?_
        rintro e w3 ⟨⟨uo, rfl, mo⟩, d3⟩
        have T4 := hide (T3.out.below d3)
        have R4 : Hid (OwnS w3 0 um (mL lb la) ∧ OwnN w3 0 uu (mP lb la) ∧ OwnN w3 0 uv (mQ lb la) ∧ OwnS w3 0 uo (nuL hd 3)) := ⟨R3.out.1.below d3, row_below R3.out.2.1 d3, row_below R3.out.2.2 d3, row_zero mo⟩
        obtain ⟨z0, z1, z2, z3, z4⟩ := HY2.out.below d3
        have HY3 := hide (HY2.out.below d3)
        clear mo d3 HY2 T3 R3
        go_wp2_with fail
        clear z0 z1 z2 z3 z4
        refine (rrename_u _ _ _ lb la lc _ (HZ.out.below T4.out.D).yb (HZ.out.below T4.out.D).ya (HZ.out.below T4.out.D).yc (by have := HB.out; omega) (by have := HB.out; omega)).mono ?_
        rintro e w4 ⟨⟨ud, rfl, mo⟩, d4⟩
        have T5 := hide (T4.out.below d4)
        have R5 : Hid (Rf um uu uv uo ud (mL lb la) (mP lb la) (mQ lb la) (nuL hd 3) (rnL lb la lc) w4) := ⟨R4.out.1.below d4, row_below R4.out.2.1 d4, row_below R4.out.2.2.1 d4, R4.out.2.2.2.below d4, row_zero mo⟩
        obtain ⟨z0, z1, z2, z3, z4⟩ := HY3.out.below d4
        have HY4 := hide (HY3.out.below d4)
        clear mo d4 HY3 T4 R4
        go_wp2_with fail
        clear z0 z1 z2 z3 z4
        refine (merge_u _ _ lb la _ (HZ.out.below T5.out.D).b (HZ.out.below T5.out.D).a (by have := HB.out; omega) (by have := HB.out; omega) HB.out.2.2.2.2.1 HB.out.2.2.2.2.2.1 (HZ.out.below T5.out.D).bt (by have := (HZ.out.below T5.out.D).sz; omega)).mono ?_
        rintro e w5 ⟨⟨vl, vp, vq, rfl, mo, hpq⟩, d5⟩
        have T6 := hide (T5.out.three d5 mo.1 mo.2.1 mo.2.2 hpq (by have := HB.out; have := HML.out; omega) (by have := HB.out; have := HML.out; omega) (by have := HB.out; have := HML.out; omega) (by intro e; first | (have := hk1'.out; omega) | rfl) (by intro e; omega) (by intro e; first | (have := hk1'.out; omega) | exact ⟨rfl, rfl⟩) (by omega))
        obtain ⟨lA, lC, rfl⟩ := form_row mo.1
        obtain ⟨pA, pC, rfl⟩ := form_row mo.2.1
        obtain ⟨qA, qC, rfl⟩ := form_row mo.2.2
        have R6 := hide (R5.out.below d5)
        obtain ⟨z0, z1, z2, z3, z4⟩ := HY4.out.below d5
        have HY5 := hide (HY4.out.below d5)
        clear mo d5 HY4 T5 R5 hpq
        go_wp2_with fail
        clear z0 z1 z2 z3 z4
        refine (num_u hd 3 _ HB.out.2.2.2.1 (HZ.out.below T6.out.D).bt (HZ.out.below T6.out.D).pw (HZ.out.below T6.out.D).sz).mono ?_
        rintro e w6 ⟨⟨vn, rfl, mo⟩, d6⟩
        have T7 := hide (T6.out.text d6 mo (by have := HNL.out; omega) (by intro e; omega) (by intro e; omega))
        obtain ⟨nA, nC, rfl⟩ := form_row mo
        have R7 := hide (R6.out.below d6)
        clear mo d6 HY5 T6 R6
        go_wp2_with fail
        refine (rename_u _ _ _ lb la lc _ (HZ.out.below T7.out.D).b (HZ.out.below T7.out.D).a (HZ.out.below T7.out.D).c HB.out.2.2.2.2.1 HB.out.2.2.2.2.2.1 HB.out.2.2.2.2.2.2 (HZ.out.below T7.out.D).bt (by have := (HZ.out.below T7.out.D).sz; omega)).mono ?_
        rintro e w7 ⟨⟨vr, rfl, mo⟩, d7⟩
        have T8 := hide (T7.out.text d7 mo (by have := HB.out; have := HRL.out; omega) (by intro e; omega) (by intro e; first | (have := hk1'.out; omega) | rfl))
        obtain ⟨rA, rC, rfl⟩ := form_row mo
        have R8 := hide (R7.out.below d7)
        clear mo d7 T7 R7
        obtain ⟨TA, TL, NA, NL, T9, e0, e1, e2, e3, e4, f0, f1, f2, f3, f4⟩ : ∃ (TA : Nat → Value) (TL : Nat → List ByteArray) (NA : Nat → Value) (NL : Nat → List Nat), Hid (Th w1 (mL la lb) (rnL la lb lc) (mP la lb) (mQ la lb) (3 * k + 3) (2 * k + 2) (3 * k) (2 * k) u9 u10 TA TL NA NL w7) ∧
            TA (3 * k) = .slice lA (mL lb la).length lC ∧ TA (3 * k + 1) = .slice nA (nuL hd 3).length nC ∧ TA (3 * k + 2) = .slice rA (rnL lb la lc).length rC ∧ NA (2 * k) = .slice pA (mP lb la).length pC ∧ NA (2 * k + 1) = .slice qA (mQ lb la).length qC ∧
            TL (3 * k) = mL lb la ∧ TL (3 * k + 1) = nuL hd 3 ∧ TL (3 * k + 2) = rnL lb la lc ∧ NL (2 * k) = mP lb la ∧ NL (2 * k + 1) = mQ lb la :=
          ⟨_, _, _, _, T8, by rw [up_other _ _ _ (by omega), up_other _ _ _ (by omega), up_same], by rw [up_other _ _ _ (by omega), up_same], by rw [up_same], by rw [up_other _ _ _ (by omega), up_same], by rw [up_same],
           by rw [up_other _ _ _ (by omega), up_other _ _ _ (by omega), up_same], by rw [up_other _ _ _ (by omega), up_same], by rw [up_same], by rw [up_other _ _ _ (by omega), up_same], by rw [up_same]⟩
        have HE := hide (And.intro e0 (And.intro e1 (And.intro e2 (And.intro e3 e4))))
        have HF := hide (And.intro f0 (And.intro f1 (And.intro f2 (And.intro f3 f4))))
        clear T8 e0 e1 e2 e3 e4 f0 f1 f2 f3 f4
        generalize (mL lb la).length = n0 at HE
        generalize (nuL hd 3).length = n1 at HE
        generalize (rnL lb la lc).length = n2 at HE
        generalize (mP lb la).length = n3 at HE
        generalize (mQ lb la).length = n4 at HE
        have hrow := T9.out.tr
        have hk3 : k ≤ 2 := by omega
        have hsz9 : w1.heap.size ≤ w7.heap.size := T9.out.D.size
        go_wp2_with (at_builtin; refine wpList_append_own_at _ rfl _ _ _ rfl w1.heap.size 22 i22 _ 1 24 Tryd.underlying82 hi22 hz220 hz221 hz222 rfl (by omega) u9 (3 * k) _ rfl (hrow.alloc _) ⟨w7.heap.size, 0, none⟩ 3 3 [.slice lA n0 lC, .slice nA n1 nC, .slice rA n2 rC] rfl rfl (cell_three_new _ _ _ _ _) (by intro u hu; simp at hu; rcases hu with rfl | rfl | rfl <;> rfl) (by unfold maxLen; omega) (by omega) (by rw [World.size_alloc]; omega) ?_)
        intro tv' w8 ho hgr hnil hloc
        have Ta := hide (T9.out.growT (Nat.le_refl _) (by rw [range3, HE.out.1, HE.out.2.1, HE.out.2.2.1]; exact ho) hgr)
        have Ra := hide (R8.out.grow hrow (by decide) (by decide) hgr)
        clear ho hgr hnil hloc hrow T9 R8 hsz9
        have hrow := Ta.out.nr
        have hsz9 : w1.heap.size ≤ w8.heap.size := Ta.out.D.size
        go_wp2_with (at_builtin; refine wpList_append_own_at _ rfl _ _ _ rfl w1.heap.size 28 i28 _ 1 24 Tryd.underlying84 hi28 hz280 hz281 hz282 rfl (by omega) u10 (2 * k) _ rfl (hrow.alloc _) ⟨w8.heap.size, 0, none⟩ 2 2 [.slice pA n3 pC, .slice qA n4 qC] rfl rfl (cell_two_new _ _ _ _) (by intro u hu; simp at hu; rcases hu with rfl | rfl <;> rfl) (by unfold maxLen; omega) (by omega) (by rw [World.size_alloc]; omega) ?_)
        intro nv' w9 ho hgr hnil hloc
        have Tb := hide (Ta.out.growN (Nat.le_refl _) (by rw [range2, HE.out.2.2.2.1, HE.out.2.2.2.2]; exact ho) hgr)
        have Rb := hide (Ra.out.grow hrow (by decide) (by decide) hgr)
        clear ho hgr hnil hloc hrow Ta Ra hsz9
        have C0 : Hid (StrS w9 (.slice lA n0 lC) (mL lb la) ∧ StrS w9 (.slice nA n1 nC) (nuL hd 3) ∧ StrS w9 (.slice rA n2 rC) (rnL lb la lc) ∧ IntS w9 (.slice pA n3 pC) (mP lb la) ∧ IntS w9 (.slice qA n4 qC) (mQ lb la)) := by
          have a0 := (Tb.out.t (3 * k) (by omega)).str
          have a1 := (Tb.out.t (3 * k + 1) (by omega)).str
          have a2 := (Tb.out.t (3 * k + 2) (by omega)).str
          have a3 := (Tb.out.n (2 * k) (by omega)).int
          have a4 := (Tb.out.n (2 * k + 1) (by omega)).int
          rw [HE.out.1, HF.out.1] at a0
          rw [HE.out.2.1, HF.out.2.1] at a1
          rw [HE.out.2.2.1, HF.out.2.2.1] at a2
          rw [HE.out.2.2.2.1, HF.out.2.2.2.1] at a3
          rw [HE.out.2.2.2.2, HF.out.2.2.2.2] at a4
          exact ⟨a0, a1, a2, a3, a4⟩
        clear HE HF
        go_wp2_with fail
        refine (same_any _ _ _ _ C0.out.1 Rb.out.m.str (by have := HB.out; have := HML.out; omega)).mono ?_
        rintro e v1 ⟨rfl, d1⟩
        have T1a := hide (Tb.out.below d1)
        have R1a := hide (Rb.out.below d1)
        have C1 := hide (And.intro (C0.out.2.1.below d1) (And.intro (C0.out.2.2.1.below d1) (And.intro (C0.out.2.2.2.1.below d1) (C0.out.2.2.2.2.below d1))))
        clear d1 Tb Rb C0
        go_wp2_with fail
        refine (sameInts_any _ _ _ _ C1.out.2.2.1 R1a.out.u.int (by have := HB.out; have := HML.out; omega)).mono ?_
        rintro e v2 ⟨rfl, d2⟩
        have T2a := hide (T1a.out.below d2)
        have R2a := hide (R1a.out.below d2)
        have C2 := hide (And.intro (C1.out.1.below d2) (And.intro (C1.out.2.1.below d2) (C1.out.2.2.2.below d2)))
        clear d2 T1a R1a C1
        go_wp2_with fail
        refine (sameInts_any _ _ _ _ C2.out.2.2 R2a.out.v.int (by have := HB.out; have := HML.out; omega)).mono ?_
        rintro e v3 ⟨rfl, d3⟩
        have T3a := hide (T2a.out.below d3)
        have R3a := hide (R2a.out.below d3)
        have C3 := hide (And.intro (C2.out.1.below d3) (C2.out.2.1.below d3))
        clear d3 T2a R2a C2
        go_wp2_with fail
        refine (same_any _ _ _ _ C3.out.1 R3a.out.o.str (by have := HNL.out; omega)).mono ?_
        rintro e v4 ⟨rfl, d4⟩
        have T4a := hide (T3a.out.below d4)
        have R4a := hide (R3a.out.below d4)
        have C4 := hide (C3.out.2.below d4)
        clear d4 T3a R3a C3
        go_wp2_with fail
        refine (same_any _ _ _ _ C4.out R4a.out.d.str (by have := HB.out; have := HRL.out; omega)).mono ?_
        rintro e v5 ⟨rfl, d5⟩
        have T5a := hide (T4a.out.below d5)
        clear d5 T4a R4a C4
        go_wp2
        go_roundw
        case rel => exact ⟨k + 1, TA, TL, NA, NL, rfl, rfl, by omega, by go_num, T5a⟩
        case measure => simp [intOf]; omega

      · have hb1 : ((k : Int) == 1) = false := by rw [beq_eq_false_iff_ne]; omega
        go_wp2_with fail
        generalize hY : wr.heap.size = Y
        generalize hwy : wr.alloc (.cells #[.slice xA xa cA, .slice xB xb cB, .slice xC xc cC, .string (head), .int .i64 n] 39) = wy
        have dy : Below wr.heap.size wr wy := by rw [← hwy]; exact below_new _ _
        have cY : ∀ j, wy.cell? ⟨Y, j, none⟩ = (#[.slice xA xa cA, .slice xB xb cB, .slice xC xc cC, .string (head), .int .i64 n] : Array Value)[j]? := fun j => by
          rw [← hwy, ← hY, cell_of_row _ wr.heap.size j _ 39 (0, 0) (heap_alloc_new wr _)]
        have HY : Hid (Cy Y (.slice xA xa cA) (.slice xB xb cB) (.slice xC xc cC) (head) n wy) := ⟨cY 0, cY 1, cY 2, cY 3, cY 4⟩
        have T2 := hide (T1.out.below dy)
        have HB : Hid (la.length ≤ 1048576 ∧ lb.length ≤ 1048576 ∧ lc.length ≤ 1048576 ∧ (head).size ≤ 1048576 ∧ Sml la ∧ Sml lb ∧ Sml lc) := by
          have := HS.out
          exact ⟨by omega, by omega, by omega, by first | omega | (rw [ByteArray.size_append]; exact this.2.2.2.2.2.2), by first | exact this.1 | exact this.2.1, by first | exact this.2.1 | exact this.1, this.2.2.1⟩
        have HML := hide (mlens la lb)
        have HNL := hide (nulen (head) n)
        have HRL := hide (rnlen la lb lc)
        clear cY dy T1 hwy hY y0 y1 y2 y3 y4
        refine (rmerge_u _ _ la lb _ (HZ.out.below T2.out.D).ya (HZ.out.below T2.out.D).yb (by have := HB.out; omega) (by have := HB.out; omega)).mono ?_
        rintro e w2 ⟨⟨um, uu, uv, rfl, mo⟩, d2⟩
        have T3 := hide (T2.out.below d2)
        have R3 : Hid (OwnS w2 0 um (mL la lb) ∧ OwnN w2 0 uu (mP la lb) ∧ OwnN w2 0 uv (mQ la lb)) := ⟨row_zero mo.1, row_zero mo.2.1, row_zero mo.2.2⟩
        obtain ⟨z0, z1, z2, z3, z4⟩ := HY.out.below d2
        have HY2 := hide (HY.out.below d2)
        clear mo d2 HY T2
        go_wp2_with fail
        clear z0 z1 z2 z3 z4
        refine (rnum_u head n _ HB.out.2.2.2.1 (HZ.out.below T3.out.D).pw (HZ.out.below T3.out.D).sz).mono ?_
        rintro e w3 ⟨⟨uo, rfl, mo⟩, d3⟩
        have T4 := hide (T3.out.below d3)
        have R4 : Hid (OwnS w3 0 um (mL la lb) ∧ OwnN w3 0 uu (mP la lb) ∧ OwnN w3 0 uv (mQ la lb) ∧ OwnS w3 0 uo (nuL head n)) := ⟨R3.out.1.below d3, row_below R3.out.2.1 d3, row_below R3.out.2.2 d3, row_zero mo⟩
        obtain ⟨z0, z1, z2, z3, z4⟩ := HY2.out.below d3
        have HY3 := hide (HY2.out.below d3)
        clear mo d3 HY2 T3 R3
        go_wp2_with fail
        clear z0 z1 z2 z3 z4
        refine (rrename_u _ _ _ la lb lc _ (HZ.out.below T4.out.D).ya (HZ.out.below T4.out.D).yb (HZ.out.below T4.out.D).yc (by have := HB.out; omega) (by have := HB.out; omega)).mono ?_
        rintro e w4 ⟨⟨ud, rfl, mo⟩, d4⟩
        have T5 := hide (T4.out.below d4)
        have R5 : Hid (Rf um uu uv uo ud (mL la lb) (mP la lb) (mQ la lb) (nuL head n) (rnL la lb lc) w4) := ⟨R4.out.1.below d4, row_below R4.out.2.1 d4, row_below R4.out.2.2.1 d4, R4.out.2.2.2.below d4, row_zero mo⟩
        obtain ⟨z0, z1, z2, z3, z4⟩ := HY3.out.below d4
        have HY4 := hide (HY3.out.below d4)
        clear mo d4 HY3 T4 R4
        go_wp2_with fail
        clear z0 z1 z2 z3 z4
        refine (merge_u _ _ la lb _ (HZ.out.below T5.out.D).a (HZ.out.below T5.out.D).b (by have := HB.out; omega) (by have := HB.out; omega) HB.out.2.2.2.2.1 HB.out.2.2.2.2.2.1 (HZ.out.below T5.out.D).bt (by have := (HZ.out.below T5.out.D).sz; omega)).mono ?_
        rintro e w5 ⟨⟨vl, vp, vq, rfl, mo, hpq⟩, d5⟩
        have T6 := hide (T5.out.three d5 mo.1 mo.2.1 mo.2.2 hpq (by have := HB.out; have := HML.out; omega) (by have := HB.out; have := HML.out; omega) (by have := HB.out; have := HML.out; omega) (by intro e; first | rfl | omega) (by intro e; omega) (by intro e; first | exact ⟨rfl, rfl⟩ | omega) (by omega))
        obtain ⟨lA, lC, rfl⟩ := form_row mo.1
        obtain ⟨pA, pC, rfl⟩ := form_row mo.2.1
        obtain ⟨qA, qC, rfl⟩ := form_row mo.2.2
        have R6 := hide (R5.out.below d5)
        obtain ⟨z0, z1, z2, z3, z4⟩ := HY4.out.below d5
        have HY5 := hide (HY4.out.below d5)
        clear mo d5 HY4 T5 R5 hpq
        go_wp2_with fail
        clear z0 z1 z2 z3 z4
        refine (num_u head n _ HB.out.2.2.2.1 (HZ.out.below T6.out.D).bt (HZ.out.below T6.out.D).pw (HZ.out.below T6.out.D).sz).mono ?_
        rintro e w6 ⟨⟨vn, rfl, mo⟩, d6⟩
        have T7 := hide (T6.out.text d6 mo (by have := HNL.out; omega) (by intro e; omega) (by intro e; omega))
        obtain ⟨nA, nC, rfl⟩ := form_row mo
        have R7 := hide (R6.out.below d6)
        clear mo d6 HY5 T6 R6
        go_wp2_with fail
        refine (rename_u _ _ _ la lb lc _ (HZ.out.below T7.out.D).a (HZ.out.below T7.out.D).b (HZ.out.below T7.out.D).c HB.out.2.2.2.2.1 HB.out.2.2.2.2.2.1 HB.out.2.2.2.2.2.2 (HZ.out.below T7.out.D).bt (by have := (HZ.out.below T7.out.D).sz; omega)).mono ?_
        rintro e w7 ⟨⟨vr, rfl, mo⟩, d7⟩
        have T8 := hide (T7.out.text d7 mo (by have := HB.out; have := HRL.out; omega) (by intro e; omega) (by intro e; first | rfl | omega))
        obtain ⟨rA, rC, rfl⟩ := form_row mo
        have R8 := hide (R7.out.below d7)
        clear mo d7 T7 R7
        obtain ⟨TA, TL, NA, NL, T9, e0, e1, e2, e3, e4, f0, f1, f2, f3, f4⟩ : ∃ (TA : Nat → Value) (TL : Nat → List ByteArray) (NA : Nat → Value) (NL : Nat → List Nat), Hid (Th w1 (mL la lb) (rnL la lb lc) (mP la lb) (mQ la lb) (3 * k + 3) (2 * k + 2) (3 * k) (2 * k) u9 u10 TA TL NA NL w7) ∧
            TA (3 * k) = .slice lA (mL la lb).length lC ∧ TA (3 * k + 1) = .slice nA (nuL head n).length nC ∧ TA (3 * k + 2) = .slice rA (rnL la lb lc).length rC ∧ NA (2 * k) = .slice pA (mP la lb).length pC ∧ NA (2 * k + 1) = .slice qA (mQ la lb).length qC ∧
            TL (3 * k) = mL la lb ∧ TL (3 * k + 1) = nuL head n ∧ TL (3 * k + 2) = rnL la lb lc ∧ NL (2 * k) = mP la lb ∧ NL (2 * k + 1) = mQ la lb :=
          ⟨_, _, _, _, T8, by rw [up_other _ _ _ (by omega), up_other _ _ _ (by omega), up_same], by rw [up_other _ _ _ (by omega), up_same], by rw [up_same], by rw [up_other _ _ _ (by omega), up_same], by rw [up_same],
           by rw [up_other _ _ _ (by omega), up_other _ _ _ (by omega), up_same], by rw [up_other _ _ _ (by omega), up_same], by rw [up_same], by rw [up_other _ _ _ (by omega), up_same], by rw [up_same]⟩
        have HE := hide (And.intro e0 (And.intro e1 (And.intro e2 (And.intro e3 e4))))
        have HF := hide (And.intro f0 (And.intro f1 (And.intro f2 (And.intro f3 f4))))
        clear T8 e0 e1 e2 e3 e4 f0 f1 f2 f3 f4
        generalize (mL la lb).length = n0 at HE
        generalize (nuL head n).length = n1 at HE
        generalize (rnL la lb lc).length = n2 at HE
        generalize (mP la lb).length = n3 at HE
        generalize (mQ la lb).length = n4 at HE
        have hrow := T9.out.tr
        have hk3 : k ≤ 2 := by omega
        have hsz9 : w1.heap.size ≤ w7.heap.size := T9.out.D.size
        go_wp2_with (at_builtin; refine wpList_append_own_at _ rfl _ _ _ rfl w1.heap.size 22 i22 _ 1 24 Tryd.underlying82 hi22 hz220 hz221 hz222 rfl (by omega) u9 (3 * k) _ rfl (hrow.alloc _) ⟨w7.heap.size, 0, none⟩ 3 3 [.slice lA n0 lC, .slice nA n1 nC, .slice rA n2 rC] rfl rfl (cell_three_new _ _ _ _ _) (by intro u hu; simp at hu; rcases hu with rfl | rfl | rfl <;> rfl) (by unfold maxLen; omega) (by omega) (by rw [World.size_alloc]; omega) ?_)
        intro tv' w8 ho hgr hnil hloc
        have Ta := hide (T9.out.growT (Nat.le_refl _) (by rw [range3, HE.out.1, HE.out.2.1, HE.out.2.2.1]; exact ho) hgr)
        have Ra := hide (R8.out.grow hrow (by decide) (by decide) hgr)
        clear ho hgr hnil hloc hrow T9 R8 hsz9
        have hrow := Ta.out.nr
        have hsz9 : w1.heap.size ≤ w8.heap.size := Ta.out.D.size
        go_wp2_with (at_builtin; refine wpList_append_own_at _ rfl _ _ _ rfl w1.heap.size 28 i28 _ 1 24 Tryd.underlying84 hi28 hz280 hz281 hz282 rfl (by omega) u10 (2 * k) _ rfl (hrow.alloc _) ⟨w8.heap.size, 0, none⟩ 2 2 [.slice pA n3 pC, .slice qA n4 qC] rfl rfl (cell_two_new _ _ _ _) (by intro u hu; simp at hu; rcases hu with rfl | rfl <;> rfl) (by unfold maxLen; omega) (by omega) (by rw [World.size_alloc]; omega) ?_)
        intro nv' w9 ho hgr hnil hloc
        have Tb := hide (Ta.out.growN (Nat.le_refl _) (by rw [range2, HE.out.2.2.2.1, HE.out.2.2.2.2]; exact ho) hgr)
        have Rb := hide (Ra.out.grow hrow (by decide) (by decide) hgr)
        clear ho hgr hnil hloc hrow Ta Ra hsz9
        have C0 : Hid (StrS w9 (.slice lA n0 lC) (mL la lb) ∧ StrS w9 (.slice nA n1 nC) (nuL head n) ∧ StrS w9 (.slice rA n2 rC) (rnL la lb lc) ∧ IntS w9 (.slice pA n3 pC) (mP la lb) ∧ IntS w9 (.slice qA n4 qC) (mQ la lb)) := by
          have a0 := (Tb.out.t (3 * k) (by omega)).str
          have a1 := (Tb.out.t (3 * k + 1) (by omega)).str
          have a2 := (Tb.out.t (3 * k + 2) (by omega)).str
          have a3 := (Tb.out.n (2 * k) (by omega)).int
          have a4 := (Tb.out.n (2 * k + 1) (by omega)).int
          rw [HE.out.1, HF.out.1] at a0
          rw [HE.out.2.1, HF.out.2.1] at a1
          rw [HE.out.2.2.1, HF.out.2.2.1] at a2
          rw [HE.out.2.2.2.1, HF.out.2.2.2.1] at a3
          rw [HE.out.2.2.2.2, HF.out.2.2.2.2] at a4
          exact ⟨a0, a1, a2, a3, a4⟩
        clear HE HF
        go_wp2_with fail
        refine (same_any _ _ _ _ C0.out.1 Rb.out.m.str (by have := HB.out; have := HML.out; omega)).mono ?_
        rintro e v1 ⟨rfl, d1⟩
        have T1a := hide (Tb.out.below d1)
        have R1a := hide (Rb.out.below d1)
        have C1 := hide (And.intro (C0.out.2.1.below d1) (And.intro (C0.out.2.2.1.below d1) (And.intro (C0.out.2.2.2.1.below d1) (C0.out.2.2.2.2.below d1))))
        clear d1 Tb Rb C0
        go_wp2_with fail
        refine (sameInts_any _ _ _ _ C1.out.2.2.1 R1a.out.u.int (by have := HB.out; have := HML.out; omega)).mono ?_
        rintro e v2 ⟨rfl, d2⟩
        have T2a := hide (T1a.out.below d2)
        have R2a := hide (R1a.out.below d2)
        have C2 := hide (And.intro (C1.out.1.below d2) (And.intro (C1.out.2.1.below d2) (C1.out.2.2.2.below d2)))
        clear d2 T1a R1a C1
        go_wp2_with fail
        refine (sameInts_any _ _ _ _ C2.out.2.2 R2a.out.v.int (by have := HB.out; have := HML.out; omega)).mono ?_
        rintro e v3 ⟨rfl, d3⟩
        have T3a := hide (T2a.out.below d3)
        have R3a := hide (R2a.out.below d3)
        have C3 := hide (And.intro (C2.out.1.below d3) (C2.out.2.1.below d3))
        clear d3 T2a R2a C2
        go_wp2_with fail
        refine (same_any _ _ _ _ C3.out.1 R3a.out.o.str (by have := HNL.out; omega)).mono ?_
        rintro e v4 ⟨rfl, d4⟩
        have T4a := hide (T3a.out.below d4)
        have R4a := hide (R3a.out.below d4)
        have C4 := hide (C3.out.2.below d4)
        clear d4 T3a R3a C3
        go_wp2_with fail
        refine (same_any _ _ _ _ C4.out R4a.out.d.str (by have := HB.out; have := HRL.out; omega)).mono ?_
        rintro e v5 ⟨rfl, d5⟩
        have T5a := hide (T4a.out.below d5)
        clear d5 T4a R4a C4
        go_wp2
        go_roundw
        case rel => exact ⟨k + 1, TA, TL, NA, NL, rfl, rfl, by omega, by go_num, T5a⟩
        case measure => simp [intOf]; omega

    · have hk3 : k = 3 := by omega
      have i3 : ¬ (k : Int) < 3 := by omega
      rw [hk3] at T1
      replace T1 : Hid (Th w1 (mL la lb) (rnL la lb lc) (mP la lb) (mQ la lb) 9 6 9 6 u9 u10 ta tl na nl wr) := T1
      clear hk hk3 hlt
      obtain ⟨y0, y1, y2, y3, y4⟩ := And.intro (HZ.out.below T1.out.D).c0 (And.intro (HZ.out.below T1.out.D).c1 (And.intro (HZ.out.below T1.out.D).c2 (And.intro (HZ.out.below T1.out.D).c3 (HZ.out.below T1.out.D).c4)))
      go_wp2_with fail
      clear i3 y0 y1 y2 y3 y4
      refine (rmerge_u _ _ la lb _ (HZ.out.below T1.out.D).ya (HZ.out.below T1.out.D).yb (by have := HS.out; omega) (by have := HS.out; omega)).mono ?_
      rintro e w2 ⟨⟨um, uu, uv, rfl, mo⟩, d2⟩
      have T2 := hide (T1.out.below d2)
      have M2 := hide mo
      clear mo d2 T1
      obtain ⟨y0, y1, y2, y3, y4⟩ := And.intro (HZ.out.below T2.out.D).c0 (And.intro (HZ.out.below T2.out.D).c1 (And.intro (HZ.out.below T2.out.D).c2 (And.intro (HZ.out.below T2.out.D).c3 (HZ.out.below T2.out.D).c4)))
      go_wp2_with fail
      clear y0 y1 y2 y3 y4
      refine (rrename_u _ _ _ la lb lc _ (HZ.out.below T2.out.D).ya (HZ.out.below T2.out.D).yb (HZ.out.below T2.out.D).yc (by have := HS.out; omega) (by have := HS.out; omega)).mono ?_
      rintro e w3 ⟨⟨ud, rfl, mo⟩, d3⟩
      have T3 := hide (T2.out.below d3)
      have C3 : Hid (StrS w3 um (mL la lb) ∧ IntS w3 uu (mP la lb) ∧ IntS w3 uv (mQ la lb) ∧ StrS w3 ud (rnL la lb lc)) := ⟨M2.out.1.str.below d3, M2.out.2.1.int.below d3, M2.out.2.2.int.below d3, mo.str⟩
      clear mo d3 T2 M2
      obtain ⟨T, cT, U, cU, e1, e2⟩ := T3.out.forms
      subst e1
      subst e2
      have HML := hide (mlens la lb)
      have HRL := hide (rnlen la lb lc)
      obtain ⟨c0, c2, n0, n1⟩ : w3.cell? ⟨T, 0, none⟩ = some (ta 0) ∧ w3.cell? ⟨T, 2, none⟩ = some (ta 2) ∧ w3.cell? ⟨U, 0, none⟩ = some (na 0) ∧ w3.cell? ⟨U, 1, none⟩ = some (na 1) := by
        obtain ⟨_, _, _, _, _, _, _, _, c⟩ := T3.out.gm
        exact c
      have A0 : Hid (StrS w3 (ta 0) (mL la lb) ∧ IntS w3 (na 0) (mP la lb) ∧ IntS w3 (na 1) (mQ la lb) ∧ StrS w3 (ta 2) (rnL la lb lc)) := by
        have a0 := (T3.out.t 0 (by omega)).str
        have a1 := (T3.out.n 0 (by omega)).int
        have a2 := (T3.out.n 1 (by omega)).int
        have a3 := (T3.out.t 2 (by omega)).str
        rw [T3.out.f0 (by omega)] at a0
        rw [T3.out.g0 (by omega)] at a1
        rw [T3.out.g1 (by omega)] at a2
        rw [T3.out.f2 (by omega)] at a3
        exact ⟨a0, a1, a2, a3⟩
      have HC := hide (And.intro c2 (And.intro n0 n1))
      clear c2 n0 n1
      go_wp2_with fail
      clear c0
      refine (same_any _ _ _ _ A0.out.1 C3.out.1 (by have := HS.out; have := HML.out; omega)).mono ?_
      rintro e w4 ⟨rfl, d4⟩
      have T4 := hide (T3.out.below d4)
      have A4 := hide (And.intro (A0.out.2.1.below d4) (And.intro (A0.out.2.2.1.below d4) (A0.out.2.2.2.below d4)))
      have C4 := hide (And.intro (C3.out.2.1.below d4) (And.intro (C3.out.2.2.1.below d4) (C3.out.2.2.2.below d4)))
      obtain ⟨c2, n0, n1⟩ := HC.out
      replace c2 := cell_below c2 d4
      replace n0 := cell_below n0 d4
      replace n1 := cell_below n1 d4
      clear d4 T3 A0 C3 HC
      go_wp2_with fail
      refine (sameInts_any _ _ _ _ A4.out.1 C4.out.1 (by have := HS.out; have := HML.out; omega)).mono ?_
      rintro e w5 ⟨rfl, d5⟩
      have T5 := hide (T4.out.below d5)
      have A5 := hide (And.intro (A4.out.2.1.below d5) (A4.out.2.2.below d5))
      have C5 := hide (And.intro (C4.out.2.1.below d5) (C4.out.2.2.below d5))
      replace c2 := cell_below c2 d5
      replace n1 := cell_below n1 d5
      clear d5 T4 A4 C4 n0
      go_wp2_with fail
      refine (sameInts_any _ _ _ _ A5.out.1 C5.out.1 (by have := HS.out; have := HML.out; omega)).mono ?_
      rintro e w6 ⟨rfl, d6⟩
      have T6 := hide (T5.out.below d6)
      have A6 := hide (A5.out.2.below d6)
      have C6 := hide (C5.out.2.below d6)
      replace c2 := cell_below c2 d6
      clear d6 T5 A5 C5 n1
      go_wp2_with fail
      refine (same_any _ _ _ _ A6.out C6.out (by have := HS.out; have := HRL.out; omega)).mono ?_
      rintro e w7 ⟨rfl, d7⟩
      have T7 := hide (T6.out.below d7)
      clear d7 T6 A6 C6 c2
      go_wp2_with fail
      obtain ⟨vs, ln, ct, hG, hTw, hUw, hln, hR, _⟩ := T7.out.gm
      refine (apart2_any 9 6 T U cT cU vs ln ct w7 (by omega) (by omega) hln (hide hG) hTw hUw).mono ?_
      rintro e w8 ⟨rfl, O⟩
      have D8 := T7.out.D.trans (O.toBelow T7.out.D.size hR)
      have D9 := hide (HD.out.trans (D8.mono HD.out.size))
      clear hG hTw hUw hln hR O T7 D8
      go_wp2
      go_ret
      exact ⟨rfl, D9.out⟩

end Go.Proofs.YtnfdifkcchciaaaDoor
