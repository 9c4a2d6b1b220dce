import Derived.Test.YtdgmokelmocejaaDoorNot
namespace Go.Proofs.YtdgmokelmocejaaDoor
open Go.RowKit

theorem lalike_eq (b1 g1 c1 n X b2 g2 c2 Y : Nat) (w : World) (he : X = Y) (h1 : IsSet w b1 g1 c1 n X) (h2 : IsSet w b2 g2 c2 n Y) (hT : TabAt w) (hb : b1 ≠ b2) :
    Calls Tryd.prog 24 #[.pointer (some ⟨b1, 0, none⟩), .pointer (some ⟨b2, 0, none⟩)] w fun e w' => e = .returned (.bool true) ∧ Below w.heap.size w w' := by
  subst he
  exact lalike_yes b1 g1 c1 n X b2 g2 c2 w h1 h2 hT hb

theorem lalike_d (b1 g1 c1 n X b2 g2 c2 Y : Nat) (r : Bool) (w : World) (HR : Hid (decide (X = Y) = r)) (h1 : IsSet w b1 g1 c1 n X) (h2 : IsSet w b2 g2 c2 n Y) (hT : TabAt w) (hb : b1 ≠ b2) :
    Calls Tryd.prog 24 #[.pointer (some ⟨b1, 0, none⟩), .pointer (some ⟨b2, 0, none⟩)] w fun e w' => e = .returned (.bool r) ∧ Below w.heap.size w w' := by
  rw [← HR.out]
  by_cases h : X = Y
  · subst h
    have := lalike_yes b1 g1 c1 n X b2 g2 c2 w h1 h2 hT hb
    simpa using this
  · rw [decide_eq_false h]
    exact lalike_no b1 g1 c1 n X b2 g2 c2 n Y w h1 h2 hb (fun k => h k.2)

theorem count_L (b g cap n X L : Nat) (w : World) (HL : Hid (cnt n X = L)) (hs : IsSet w b g cap n X) :
    Calls Tryd.prog 15 #[.pointer (some ⟨b, 0, none⟩)] w fun e w' => e = .returned (.int .i64 L) ∧ Below w.heap.size w w' :=
  (count_any b g cap n X w hs).mono fun _ _ h => ⟨by rw [h.1, HL.out], by rw [h.2]; exact Below.refl _ _⟩

theorem subset_r (b1 g1 c1 n X b2 g2 c2 Y : Nat) (r : Bool) (w : World) (HR : Hid (decide (minusN X Y = 0) = r)) (h1 : IsSet w b1 g1 c1 n X) (h2 : IsSet w b2 g2 c2 n Y) :
    Calls Tryd.prog 37 #[.pointer (some ⟨b1, 0, none⟩), .pointer (some ⟨b2, 0, none⟩)] w fun e w' => e = .returned (.bool r) ∧ Below w.heap.size w w' := by
  have := subset_any b1 g1 c1 n X b2 g2 c2 Y w h1 h2
  rwa [HR.out] at this
theorem meets_r (b1 g1 c1 n X b2 g2 c2 Y : Nat) (r : Bool) (w : World) (HR : Hid ((!decide (X &&& Y = 0)) = r)) (h1 : IsSet w b1 g1 c1 n X) (h2 : IsSet w b2 g2 c2 n Y) :
    Calls Tryd.prog 39 #[.pointer (some ⟨b1, 0, none⟩), .pointer (some ⟨b2, 0, none⟩)] w fun e w' => e = .returned (.bool r) ∧ Below w.heap.size w w' := by
  have := meets_any b1 g1 c1 n X b2 g2 c2 Y w h1 h2
  rwa [HR.out] at this

theorem a_or_comm (X Y : Nat) : X ||| Y = Y ||| X := Nat.or_comm X Y
theorem a_and_comm (X Y : Nat) : X &&& Y = Y &&& X := Nat.and_comm X Y
theorem a_or_assoc (X Y Z : Nat) : X ||| Y ||| Z = X ||| (Y ||| Z) := Nat.or_assoc X Y Z
theorem a_and_assoc (X Y Z : Nat) : X &&& Y &&& Z = X &&& (Y &&& Z) := Nat.and_assoc X Y Z
theorem a_dist1 (X Y Z : Nat) : X &&& (Y ||| Z) = (X &&& Y) ||| (X &&& Z) := Nat.and_or_distrib_left X Y Z
theorem a_dist2 (X Y Z : Nat) : X ||| (Y &&& Z) = (X ||| Y) &&& (X ||| Z) := Nat.or_and_distrib_left X Y Z
theorem a_morgan1 (n X Y : Nat) (hX : X < 2 ^ n) (hY : Y < 2 ^ n) : notN n (X ||| Y) = notN n X &&& notN n Y := by
  apply Nat.eq_of_testBit_eq
  intro i
  rw [notN_testBit n _ i (op_or.lt hX hY), Nat.testBit_or, Nat.testBit_and, notN_testBit n X i hX, notN_testBit n Y i hY]
  cases decide (i < n) <;> cases X.testBit i <;> cases Y.testBit i <;> rfl
theorem a_morgan2 (n X Y : Nat) (hX : X < 2 ^ n) (hY : Y < 2 ^ n) : notN n (X &&& Y) = notN n X ||| notN n Y := by
  apply Nat.eq_of_testBit_eq
  intro i
  rw [notN_testBit n _ i (op_and.lt hX hY), Nat.testBit_or, Nat.testBit_and, notN_testBit n X i hX, notN_testBit n Y i hY]
  cases decide (i < n) <;> cases X.testBit i <;> cases Y.testBit i <;> rfl
theorem a_notnot (n X : Nat) (hX : X < 2 ^ n) : notN n (notN n X) = X := by
  apply Nat.eq_of_testBit_eq
  intro i
  rw [notN_testBit n _ i (notN_lt n X hX), notN_testBit n X i hX]
  by_cases h : i < n
  · simp [h]
  · rw [Nat.testBit_lt_two_pow (Nat.lt_of_lt_of_le hX (Nat.pow_le_pow_right (by decide) (by omega)))]; simp [h]
theorem a_minus (n X Y : Nat) (hX : X < 2 ^ n) (hY : Y < 2 ^ n) : minusN X Y = X &&& notN n Y := by
  apply Nat.eq_of_testBit_eq
  intro i
  rw [minusN_testBit, Nat.testBit_and, notN_testBit n Y i hY]
  by_cases h : i < n
  · simp [h]
  · rw [Nat.testBit_lt_two_pow (Nat.lt_of_lt_of_le hX (Nat.pow_le_pow_right (by decide) (by omega)))]; simp
theorem a_sub1 (X Y : Nat) : (X ||| Y = Y) ↔ minusN X Y = 0 := by
  constructor
  · intro h
    apply Nat.eq_of_testBit_eq
    intro i
    have := congrArg (fun z => Nat.testBit z i) h
    simp only [Nat.testBit_or] at this
    rw [minusN_testBit, Nat.zero_testBit]
    cases hx : X.testBit i <;> cases hy : Y.testBit i <;> simp [hx, hy] at this ⊢
  · intro h
    apply Nat.eq_of_testBit_eq
    intro i
    have := congrArg (fun z => Nat.testBit z i) h
    simp only [minusN_testBit, Nat.zero_testBit] at this
    rw [Nat.testBit_or]
    cases hx : X.testBit i <;> cases hy : Y.testBit i <;> simp [hx, hy] at this ⊢
theorem a_sub2 (X Y : Nat) : (X &&& Y = X) ↔ minusN X Y = 0 := by
  constructor
  · intro h
    apply Nat.eq_of_testBit_eq
    intro i
    have := congrArg (fun z => Nat.testBit z i) h
    simp only [Nat.testBit_and] at this
    rw [minusN_testBit, Nat.zero_testBit]
    cases hx : X.testBit i <;> cases hy : Y.testBit i <;> simp [hx, hy] at this ⊢
  · intro h
    apply Nat.eq_of_testBit_eq
    intro i
    have := congrArg (fun z => Nat.testBit z i) h
    simp only [minusN_testBit, Nat.zero_testBit] at this
    rw [Nat.testBit_and]
    cases hx : X.testBit i <;> cases hy : Y.testBit i <;> simp [hx, hy] at this ⊢

theorem filter_two {α : Type} (l : List α) (p q : α → Bool) : (l.filter fun i => p i || q i).length + (l.filter fun i => p i && q i).length = (l.filter p).length + (l.filter q).length := by
  induction l with
  | nil => rfl
  | cons a l ih =>
    simp only [List.filter_cons]
    cases p a <;> cases q a <;> simp <;> omega
theorem cnt_two (n X Y : Nat) : cnt n (X ||| Y) + cnt n (X &&& Y) = cnt n X + cnt n Y := by
  have := filter_two (List.range n) (fun i => X.testBit i) (fun i => Y.testBit i)
  unfold cnt elems
  simp only [Nat.testBit_or, Nat.testBit_and]
  exact this
theorem cnt_not (n X : Nat) (hX : X < 2 ^ n) : cnt n X + cnt n (notN n X) = n := by
  have h := cnt_two n X (notN n X)
  have e1 : cnt n (X ||| notN n X) = n := by
    unfold cnt elems
    have : (List.range n).filter (fun i => (X ||| notN n X).testBit i) = List.range n := by
      rw [List.filter_eq_self]
      intro i hi
      have := List.mem_range.1 hi
      rw [Nat.testBit_or, notN_testBit n X i hX]
      cases X.testBit i <;> simp [this]
    rw [this, List.length_range]
  have e2 : cnt n (X &&& notN n X) = 0 := by
    unfold cnt elems
    have : (List.range n).filter (fun i => (X &&& notN n X).testBit i) = [] := by
      rw [List.filter_eq_nil_iff]
      intro i _
      rw [Nat.testBit_and, notN_testBit n X i hX]
      cases X.testBit i <;> simp
    rw [this]; rfl
  omega
theorem cnt_pos (n X : Nat) (hX : X < 2 ^ n) : decide (0 < cnt n X) = !decide (X = 0) := by
  by_cases h : X = 0
  · subst h; simp [cnt, elems_zero]
  · have : 0 < cnt n X := by
      apply Nat.pos_of_ne_zero
      intro h0
      apply h
      apply Nat.eq_of_testBit_eq
      intro i
      rw [Nat.zero_testBit]
      cases hb : X.testBit i
      · rfl
      · have hm : i ∈ elems n X := mem_elems.2 ⟨testBit_lt hX hb, hb⟩
        have := List.length_pos_of_mem hm
        unfold cnt at h0
        omega
    simp [h, this]

set_option maxRecDepth 100000 in
set_option maxHeartbeats 8000000 in
theorem algebra_any (v : Value) (N : Int) (A B C : List Int) (w : World) (h : ThreeV w v N A B C) (hT : TabAt w) (hw0 : 0 < w.heap.size) :
    Calls Tryd.prog 8 #[v] w fun e w' => e = .returned (.bool true) ∧ Below w.heap.size w w' := by
  obtain ⟨n1, n2, ⟨a1, p1, a2, p2, a3, p3, rfl, r1, r2, r3⟩, la, lb, lc⟩ := h
  have hA : Below w.heap.size w (w.alloc (.cells #[.int .i64 N, .slice a1 A.length p1, .slice a2 B.length p2, .slice a3 C.length p3] 24)) := (Below.refl _ _).alloc (Nat.le_refl _) _
  have h3 : ThreeV (w.alloc (.cells #[.int .i64 N, .slice a1 A.length p1, .slice a2 B.length p2, .slice a3 C.length p3] 24)) (.agg #[.int .i64 N, .slice a1 A.length p1, .slice a2 B.length p2, .slice a3 C.length p3]) N A B C := ⟨n1, n2, ⟨a1, p1, a2, p2, a3, p3, rfl, r1.below hA, r2.below hA, r3.below hA⟩, la, lb, lc⟩
  have H3 := hide h3
  have hle := boundN_le N
  have HT := hide hT
  clear h3 r1 r2 r3 la lb lc hT
  go_enter Tryd.func8, Tryd.ntmps8
  go_wp2_with fail
  refine (sets_any _ N A B C _ H3.out).mono ?_
  rintro e w1 ⟨ba, ga, ca, bb, gb, cb, bc, gc, cc, rfl, sa, sb, sc, m1, m2, m3, m4, m5, m6, e1, e2, e3, l1, l2, l3, l4, d1⟩
  have D1 : Below w.heap.size w w1 := hA.trans (d1.mono (by simp))
  have T1 := hide (HT.out.below D1 hw0)
  generalize setI (boundN N) A = X at sa
  generalize setI (boundN N) B = Y at sb
  generalize setI (boundN N) C = Z at sc
  generalize boundN N = n at *
  have W1 : 0 < w1.heap.size := Nat.lt_of_lt_of_le hw0 D1.size
  have ne_a_b : ba ≠ bb := by omega
  have HXY := hide (And.intro sa.hX sb.hX)
  obtain ⟨r, hr⟩ : ∃ r, decide (minusN X Y = 0) = r := ⟨_, rfl⟩
  obtain ⟨r2, hr2⟩ : ∃ r2, (!decide (X &&& Y = 0)) = r2 := ⟨_, rfl⟩
  obtain ⟨La, hLa⟩ : ∃ L, cnt n X = L := ⟨_, rfl⟩
  obtain ⟨Lb, hLb⟩ : ∃ L, cnt n Y = L := ⟨_, rfl⟩
  obtain ⟨Lab, hLab⟩ : ∃ L, cnt n (X ||| Y) = L := ⟨_, rfl⟩
  obtain ⟨Lm, hLm⟩ : ∃ L, cnt n (X &&& Y) = L := ⟨_, rfl⟩
  obtain ⟨Ln, hLn⟩ : ∃ L, cnt n (notN n X) = L := ⟨_, rfl⟩
  have hs1 : decide (X ||| Y = Y) = r := by rw [← hr, Bool.eq_iff_iff]; simp only [decide_eq_true_eq]; exact a_sub1 X Y
  have hs2 : decide (X &&& Y = X) = r := by rw [← hr, Bool.eq_iff_iff]; simp only [decide_eq_true_eq]; exact a_sub2 X Y
  have c1 : decide (0 < Lm) = r2 := by rw [← hr2, ← hLm]; exact cnt_pos n _ (op_and.lt sa.hX sb.hX)
  have q1 : Lab + Lm = La + Lb := by rw [← hLa, ← hLb, ← hLab, ← hLm]; exact cnt_two n X Y
  have q2 : La + Ln = n := by rw [← hLa, ← hLn]; exact cnt_not n X sa.hX
  have b1 : La ≤ 8192 := by rw [← hLa]; have := cnt_le n X; omega
  have b2 : Lb ≤ 8192 := by rw [← hLb]; have := cnt_le n Y; omega
  have b3 : Lab ≤ 8192 := by rw [← hLab]; have := cnt_le n (X ||| Y); omega
  have b4 : Lm ≤ 8192 := by rw [← hLm]; have := cnt_le n (X &&& Y); omega
  have b5 : Ln ≤ 8192 := by rw [← hLn]; have := cnt_le n (notN n X); omega
  have f1 : ((Lab : Int) + (Lm : Int) == (La : Int) + (Lb : Int)) = true := by rw [beq_iff_eq]; omega
  have f2 : ((La : Int) + (Ln : Int) == (n : Int)) = true := by rw [beq_iff_eq]; omega
  have HR := hide hr
  have HR2 := hide hr2
  have HS1 := hide hs1
  have HS2 := hide hs2
  have HLa := hide hLa
  have HLb := hide hLb
  have HLab := hide hLab
  have HLm := hide hLm
  have HLn := hide hLn
  clear hr hr2 hs1 hs2 hLa hLb hLab hLm hLn q1 q2
  clear m1 m2 m3 m4 m5 m6 d1 hA H3 HT e1 e2 e3 l1 l2 l3 l4
  go_wp2_with fail
  refine (known_any _ T1.out W1).mono ?_
  rintro e w2 ⟨rfl, d2⟩
  replace sa := sa.below d2
  replace sb := sb.below d2
  replace sc := sc.below d2
  replace T1 := hide (T1.out.below d2 W1)
  replace D1 := D1.trans (d2.mono D1.size)
  have W2 : 0 < w2.heap.size := Nat.lt_of_lt_of_le hw0 D1.size
  clear d2 W1
  have T2 := T1
  clear T1
  have D2 := D1
  clear D1
  go_wp2_with fail
  refine (not_any ba ga ca n (X) _ sa).mono ?_
  rintro e w3 ⟨bna, gna, cna, rfl, sna, m1, m2, m3, d3⟩
  replace sa := sa.below d3
  replace sb := sb.below d3
  replace sc := sc.below d3
  replace T2 := hide (T2.out.below d3 W2)
  replace D2 := D2.trans (d3.mono D2.size)
  have W3 : 0 < w3.heap.size := Nat.lt_of_lt_of_le hw0 D2.size
  clear d3 W2
  have T3 := T2
  clear T2
  have D3 := D2
  clear D2
  clear m1 m2 m3
  go_wp2_with fail
  refine (not_any bb gb cb n (Y) _ sb).mono ?_
  rintro e w4 ⟨bnb, gnb, cnb, rfl, snb, m1, m2, m3, d4⟩
  replace sa := sa.below d4
  replace sb := sb.below d4
  replace sc := sc.below d4
  replace sna := sna.below d4
  replace T3 := hide (T3.out.below d4 W3)
  replace D3 := D3.trans (d4.mono D3.size)
  have W4 : 0 < w4.heap.size := Nat.lt_of_lt_of_le hw0 D3.size
  clear d4 W3
  have T4 := T3
  clear T3
  have D4 := D3
  clear D3
  clear m1 m2 m3
  go_wp2_with fail
  refine (lunion_any ba ga ca n (X) bb gb cb (Y) _ sa sb).mono ?_
  rintro e w5 ⟨bab, gab, cab, rfl, sab, m1, m2, m3, d5⟩
  have ne_ab_b : bab ≠ bb := by have := sb.blt; omega
  replace sa := sa.below d5
  replace sb := sb.below d5
  replace sc := sc.below d5
  replace sna := sna.below d5
  replace snb := snb.below d5
  replace T4 := hide (T4.out.below d5 W4)
  replace D4 := D4.trans (d5.mono D4.size)
  have W5 : 0 < w5.heap.size := Nat.lt_of_lt_of_le hw0 D4.size
  clear d5 W4
  have T5 := T4
  clear T4
  have D5 := D4
  clear D4
  clear m1 m2 m3
  go_wp2_with fail
  refine (lmeet_any ba ga ca n (X) bb gb cb (Y) _ sa sb).mono ?_
  rintro e w6 ⟨bm, gm, cm, rfl, sm, m1, m2, m3, d6⟩
  have ne_m_a : bm ≠ ba := by have := sa.blt; omega
  replace sa := sa.below d6
  replace sb := sb.below d6
  replace sc := sc.below d6
  replace sna := sna.below d6
  replace snb := snb.below d6
  replace sab := sab.below d6
  replace T5 := hide (T5.out.below d6 W5)
  replace D5 := D5.trans (d6.mono D5.size)
  have W6 : 0 < w6.heap.size := Nat.lt_of_lt_of_le hw0 D5.size
  clear d6 W5
  have T6 := T5
  clear T5
  have D6 := D5
  clear D5
  clear m1 m2 m3
  go_wp2_with fail
  refine (lunion_any bb gb cb n (Y) bc gc cc (Z) _ sb sc).mono ?_
  rintro e w7 ⟨bt5, gt5, ct5, rfl, st5, m1, m2, m3, d7⟩
  replace sa := sa.below d7
  replace sb := sb.below d7
  replace sc := sc.below d7
  replace sna := sna.below d7
  replace snb := snb.below d7
  replace sab := sab.below d7
  replace sm := sm.below d7
  replace T6 := hide (T6.out.below d7 W6)
  replace D6 := D6.trans (d7.mono D6.size)
  have W7 : 0 < w7.heap.size := Nat.lt_of_lt_of_le hw0 D6.size
  clear d7 W6
  have T7 := T6
  clear T6
  have D7 := D6
  clear D6
  clear m1 m2 m3
  clear st5
  go_wp2_with fail
  refine (lmeet_any bb gb cb n (Y) bc gc cc (Z) _ sb sc).mono ?_
  rintro e w8 ⟨bt6, gt6, ct6, rfl, st6, m1, m2, m3, d8⟩
  replace sa := sa.below d8
  replace sb := sb.below d8
  replace sc := sc.below d8
  replace sna := sna.below d8
  replace snb := snb.below d8
  replace sab := sab.below d8
  replace sm := sm.below d8
  replace T7 := hide (T7.out.below d8 W7)
  replace D7 := D7.trans (d8.mono D7.size)
  have W8 : 0 < w8.heap.size := Nat.lt_of_lt_of_le hw0 D7.size
  clear d8 W7
  have T8 := T7
  clear T7
  have D8 := D7
  clear D7
  clear m1 m2 m3
  clear st6
  go_wp2_with fail
  refine (lunion_any bb gb cb n (Y) ba ga ca (X) _ sb sa).mono ?_
  rintro e w9 ⟨bt7, gt7, ct7, rfl, st7, m1, m2, m3, d9⟩
  have ne_t7_ab : bt7 ≠ bab := by have := sab.blt; omega
  replace sa := sa.below d9
  replace sb := sb.below d9
  replace sc := sc.below d9
  replace sna := sna.below d9
  replace snb := snb.below d9
  replace sab := sab.below d9
  replace sm := sm.below d9
  replace T8 := hide (T8.out.below d9 W8)
  replace D8 := D8.trans (d9.mono D8.size)
  have W9 : 0 < w9.heap.size := Nat.lt_of_lt_of_le hw0 D8.size
  clear d9 W8
  have T9 := T8
  clear T8
  have D9 := D8
  clear D8
  clear m1 m2 m3
  go_wp2_with fail
  refine (lalike_eq bab gab cab n ((X) ||| (Y)) bt7 gt7 ct7 ((Y) ||| (X)) _ (a_or_comm _ _) sab st7 T9.out (Ne.symm ne_t7_ab)).mono ?_
  rintro e w10 ⟨rfl, d10⟩
  replace sa := sa.below d10
  replace sb := sb.below d10
  replace sc := sc.below d10
  replace sna := sna.below d10
  replace snb := snb.below d10
  replace sab := sab.below d10
  replace sm := sm.below d10
  clear st7
  replace T9 := hide (T9.out.below d10 W9)
  replace D9 := D9.trans (d10.mono D9.size)
  have W10 : 0 < w10.heap.size := Nat.lt_of_lt_of_le hw0 D9.size
  clear d10 W9
  have T10 := T9
  clear T9
  have D10 := D9
  clear D9
  go_wp2_with fail
  refine (lmeet_any bb gb cb n (Y) ba ga ca (X) _ sb sa).mono ?_
  rintro e w11 ⟨bt8, gt8, ct8, rfl, st8, m1, m2, m3, d11⟩
  have ne_t8_m : bt8 ≠ bm := by have := sm.blt; omega
  replace sa := sa.below d11
  replace sb := sb.below d11
  replace sc := sc.below d11
  replace sna := sna.below d11
  replace snb := snb.below d11
  replace sab := sab.below d11
  replace sm := sm.below d11
  replace T10 := hide (T10.out.below d11 W10)
  replace D10 := D10.trans (d11.mono D10.size)
  have W11 : 0 < w11.heap.size := Nat.lt_of_lt_of_le hw0 D10.size
  clear d11 W10
  have T11 := T10
  clear T10
  have D11 := D10
  clear D10
  clear m1 m2 m3
  go_wp2_with fail
  refine (lalike_eq bm gm cm n ((X) &&& (Y)) bt8 gt8 ct8 ((Y) &&& (X)) _ (a_and_comm _ _) sm st8 T11.out (Ne.symm ne_t8_m)).mono ?_
  rintro e w12 ⟨rfl, d12⟩
  replace sa := sa.below d12
  replace sb := sb.below d12
  replace sc := sc.below d12
  replace sna := sna.below d12
  replace snb := snb.below d12
  replace sab := sab.below d12
  replace sm := sm.below d12
  clear st8
  replace T11 := hide (T11.out.below d12 W11)
  replace D11 := D11.trans (d12.mono D11.size)
  have W12 : 0 < w12.heap.size := Nat.lt_of_lt_of_le hw0 D11.size
  clear d12 W11
  have T12 := T11
  clear T11
  have D12 := D11
  clear D11
  go_wp2_with fail
  refine (lunion_any bab gab cab n ((X) ||| (Y)) bc gc cc (Z) _ sab sc).mono ?_
  rintro e w13 ⟨bt9, gt9, ct9, rfl, st9, m1, m2, m3, d13⟩
  replace sa := sa.below d13
  replace sb := sb.below d13
  replace sc := sc.below d13
  replace sna := sna.below d13
  replace snb := snb.below d13
  replace sab := sab.below d13
  replace sm := sm.below d13
  replace T12 := hide (T12.out.below d13 W12)
  replace D12 := D12.trans (d13.mono D12.size)
  have W13 : 0 < w13.heap.size := Nat.lt_of_lt_of_le hw0 D12.size
  clear d13 W12
  have T13 := T12
  clear T12
  have D13 := D12
  clear D12
  clear m1 m2 m3
  go_wp2_with fail
  refine (lunion_any bb gb cb n (Y) bc gc cc (Z) _ sb sc).mono ?_
  rintro e w14 ⟨bt10, gt10, ct10, rfl, st10, m1, m2, m3, d14⟩
  replace sa := sa.below d14
  replace sb := sb.below d14
  replace sc := sc.below d14
  replace sna := sna.below d14
  replace snb := snb.below d14
  replace sab := sab.below d14
  replace sm := sm.below d14
  replace st9 := st9.below d14
  replace T13 := hide (T13.out.below d14 W13)
  replace D13 := D13.trans (d14.mono D13.size)
  have W14 : 0 < w14.heap.size := Nat.lt_of_lt_of_le hw0 D13.size
  clear d14 W13
  have T14 := T13
  clear T13
  have D14 := D13
  clear D13
  clear m1 m2 m3
  go_wp2_with fail
  refine (lunion_any ba ga ca n (X) bt10 gt10 ct10 ((Y) ||| (Z)) _ sa st10).mono ?_
  rintro e w15 ⟨bt11, gt11, ct11, rfl, st11, m1, m2, m3, d15⟩
  have ne_t11_t9 : bt11 ≠ bt9 := by have := st9.blt; omega
  replace sa := sa.below d15
  replace sb := sb.below d15
  replace sc := sc.below d15
  replace sna := sna.below d15
  replace snb := snb.below d15
  replace sab := sab.below d15
  replace sm := sm.below d15
  replace st9 := st9.below d15
  replace st10 := st10.below d15
  replace T14 := hide (T14.out.below d15 W14)
  replace D14 := D14.trans (d15.mono D14.size)
  have W15 : 0 < w15.heap.size := Nat.lt_of_lt_of_le hw0 D14.size
  clear d15 W14
  have T15 := T14
  clear T14
  have D15 := D14
  clear D14
  clear m1 m2 m3
  go_wp2_with fail
  refine (lalike_eq bt9 gt9 ct9 n (((X) ||| (Y)) ||| (Z)) bt11 gt11 ct11 ((X) ||| ((Y) ||| (Z))) _ (a_or_assoc _ _ _) st9 st11 T15.out (Ne.symm ne_t11_t9)).mono ?_
  rintro e w16 ⟨rfl, d16⟩
  replace sa := sa.below d16
  replace sb := sb.below d16
  replace sc := sc.below d16
  replace sna := sna.below d16
  replace snb := snb.below d16
  replace sab := sab.below d16
  replace sm := sm.below d16
  clear st9
  clear st10
  clear st11
  replace T15 := hide (T15.out.below d16 W15)
  replace D15 := D15.trans (d16.mono D15.size)
  have W16 : 0 < w16.heap.size := Nat.lt_of_lt_of_le hw0 D15.size
  clear d16 W15
  have T16 := T15
  clear T15
  have D16 := D15
  clear D15
  go_wp2_with fail
  refine (lmeet_any bm gm cm n ((X) &&& (Y)) bc gc cc (Z) _ sm sc).mono ?_
  rintro e w17 ⟨bt12, gt12, ct12, rfl, st12, m1, m2, m3, d17⟩
  replace sa := sa.below d17
  replace sb := sb.below d17
  replace sc := sc.below d17
  replace sna := sna.below d17
  replace snb := snb.below d17
  replace sab := sab.below d17
  replace sm := sm.below d17
  replace T16 := hide (T16.out.below d17 W16)
  replace D16 := D16.trans (d17.mono D16.size)
  have W17 : 0 < w17.heap.size := Nat.lt_of_lt_of_le hw0 D16.size
  clear d17 W16
  have T17 := T16
  clear T16
  have D17 := D16
  clear D16
  clear m1 m2 m3
  go_wp2_with fail
  refine (lmeet_any bb gb cb n (Y) bc gc cc (Z) _ sb sc).mono ?_
  rintro e w18 ⟨bt13, gt13, ct13, rfl, st13, m1, m2, m3, d18⟩
  replace sa := sa.below d18
  replace sb := sb.below d18
  replace sc := sc.below d18
  replace sna := sna.below d18
  replace snb := snb.below d18
  replace sab := sab.below d18
  replace sm := sm.below d18
  replace st12 := st12.below d18
  replace T17 := hide (T17.out.below d18 W17)
  replace D17 := D17.trans (d18.mono D17.size)
  have W18 : 0 < w18.heap.size := Nat.lt_of_lt_of_le hw0 D17.size
  clear d18 W17
  have T18 := T17
  clear T17
  have D18 := D17
  clear D17
  clear m1 m2 m3
  go_wp2_with fail
  refine (lmeet_any ba ga ca n (X) bt13 gt13 ct13 ((Y) &&& (Z)) _ sa st13).mono ?_
  rintro e w19 ⟨bt14, gt14, ct14, rfl, st14, m1, m2, m3, d19⟩
  have ne_t14_t12 : bt14 ≠ bt12 := by have := st12.blt; omega
  replace sa := sa.below d19
  replace sb := sb.below d19
  replace sc := sc.below d19
  replace sna := sna.below d19
  replace snb := snb.below d19
  replace sab := sab.below d19
  replace sm := sm.below d19
  replace st12 := st12.below d19
  replace st13 := st13.below d19
  replace T18 := hide (T18.out.below d19 W18)
  replace D18 := D18.trans (d19.mono D18.size)
  have W19 : 0 < w19.heap.size := Nat.lt_of_lt_of_le hw0 D18.size
  clear d19 W18
  have T19 := T18
  clear T18
  have D19 := D18
  clear D18
  clear m1 m2 m3
  go_wp2_with fail
  refine (lalike_eq bt12 gt12 ct12 n (((X) &&& (Y)) &&& (Z)) bt14 gt14 ct14 ((X) &&& ((Y) &&& (Z))) _ (a_and_assoc _ _ _) st12 st14 T19.out (Ne.symm ne_t14_t12)).mono ?_
  rintro e w20 ⟨rfl, d20⟩
  replace sa := sa.below d20
  replace sb := sb.below d20
  replace sc := sc.below d20
  replace sna := sna.below d20
  replace snb := snb.below d20
  replace sab := sab.below d20
  replace sm := sm.below d20
  clear st12
  clear st13
  clear st14
  replace T19 := hide (T19.out.below d20 W19)
  replace D19 := D19.trans (d20.mono D19.size)
  have W20 : 0 < w20.heap.size := Nat.lt_of_lt_of_le hw0 D19.size
  clear d20 W19
  have T20 := T19
  clear T19
  have D20 := D19
  clear D19
  go_wp2_with fail
  refine (lunion_any bb gb cb n (Y) bc gc cc (Z) _ sb sc).mono ?_
  rintro e w21 ⟨bt15, gt15, ct15, rfl, st15, m1, m2, m3, d21⟩
  replace sa := sa.below d21
  replace sb := sb.below d21
  replace sc := sc.below d21
  replace sna := sna.below d21
  replace snb := snb.below d21
  replace sab := sab.below d21
  replace sm := sm.below d21
  replace T20 := hide (T20.out.below d21 W20)
  replace D20 := D20.trans (d21.mono D20.size)
  have W21 : 0 < w21.heap.size := Nat.lt_of_lt_of_le hw0 D20.size
  clear d21 W20
  have T21 := T20
  clear T20
  have D21 := D20
  clear D20
  clear m1 m2 m3
  go_wp2_with fail
  refine (lmeet_any ba ga ca n (X) bt15 gt15 ct15 ((Y) ||| (Z)) _ sa st15).mono ?_
  rintro e w22 ⟨bt16, gt16, ct16, rfl, st16, m1, m2, m3, d22⟩
  replace sa := sa.below d22
  replace sb := sb.below d22
  replace sc := sc.below d22
  replace sna := sna.below d22
  replace snb := snb.below d22
  replace sab := sab.below d22
  replace sm := sm.below d22
  replace st15 := st15.below d22
  replace T21 := hide (T21.out.below d22 W21)
  replace D21 := D21.trans (d22.mono D21.size)
  have W22 : 0 < w22.heap.size := Nat.lt_of_lt_of_le hw0 D21.size
  clear d22 W21
  have T22 := T21
  clear T21
  have D22 := D21
  clear D21
  clear m1 m2 m3
  go_wp2_with fail
  refine (lmeet_any ba ga ca n (X) bc gc cc (Z) _ sa sc).mono ?_
  rintro e w23 ⟨bt17, gt17, ct17, rfl, st17, m1, m2, m3, d23⟩
  replace sa := sa.below d23
  replace sb := sb.below d23
  replace sc := sc.below d23
  replace sna := sna.below d23
  replace snb := snb.below d23
  replace sab := sab.below d23
  replace sm := sm.below d23
  replace st15 := st15.below d23
  replace st16 := st16.below d23
  replace T22 := hide (T22.out.below d23 W22)
  replace D22 := D22.trans (d23.mono D22.size)
  have W23 : 0 < w23.heap.size := Nat.lt_of_lt_of_le hw0 D22.size
  clear d23 W22
  have T23 := T22
  clear T22
  have D23 := D22
  clear D22
  clear m1 m2 m3
  go_wp2_with fail
  refine (lunion_any bm gm cm n ((X) &&& (Y)) bt17 gt17 ct17 ((X) &&& (Z)) _ sm st17).mono ?_
  rintro e w24 ⟨bt18, gt18, ct18, rfl, st18, m1, m2, m3, d24⟩
  have ne_t18_t16 : bt18 ≠ bt16 := by have := st16.blt; omega
  replace sa := sa.below d24
  replace sb := sb.below d24
  replace sc := sc.below d24
  replace sna := sna.below d24
  replace snb := snb.below d24
  replace sab := sab.below d24
  replace sm := sm.below d24
  replace st15 := st15.below d24
  replace st16 := st16.below d24
  replace st17 := st17.below d24
  replace T23 := hide (T23.out.below d24 W23)
  replace D23 := D23.trans (d24.mono D23.size)
  have W24 : 0 < w24.heap.size := Nat.lt_of_lt_of_le hw0 D23.size
  clear d24 W23
  have T24 := T23
  clear T23
  have D24 := D23
  clear D23
  clear m1 m2 m3
  go_wp2_with fail
  refine (lalike_eq bt16 gt16 ct16 n ((X) &&& ((Y) ||| (Z))) bt18 gt18 ct18 (((X) &&& (Y)) ||| ((X) &&& (Z))) _ (a_dist1 _ _ _) st16 st18 T24.out (Ne.symm ne_t18_t16)).mono ?_
  rintro e w25 ⟨rfl, d25⟩
  replace sa := sa.below d25
  replace sb := sb.below d25
  replace sc := sc.below d25
  replace sna := sna.below d25
  replace snb := snb.below d25
  replace sab := sab.below d25
  replace sm := sm.below d25
  clear st16
  clear st15
  clear st18
  clear st17
  replace T24 := hide (T24.out.below d25 W24)
  replace D24 := D24.trans (d25.mono D24.size)
  have W25 : 0 < w25.heap.size := Nat.lt_of_lt_of_le hw0 D24.size
  clear d25 W24
  have T25 := T24
  clear T24
  have D25 := D24
  clear D24
  go_wp2_with fail
  refine (lmeet_any bb gb cb n (Y) bc gc cc (Z) _ sb sc).mono ?_
  rintro e w26 ⟨bt19, gt19, ct19, rfl, st19, m1, m2, m3, d26⟩
  replace sa := sa.below d26
  replace sb := sb.below d26
  replace sc := sc.below d26
  replace sna := sna.below d26
  replace snb := snb.below d26
  replace sab := sab.below d26
  replace sm := sm.below d26
  replace T25 := hide (T25.out.below d26 W25)
  replace D25 := D25.trans (d26.mono D25.size)
  have W26 : 0 < w26.heap.size := Nat.lt_of_lt_of_le hw0 D25.size
  clear d26 W25
  have T26 := T25
  clear T25
  have D26 := D25
  clear D25
  clear m1 m2 m3
  go_wp2_with fail
  refine (lunion_any ba ga ca n (X) bt19 gt19 ct19 ((Y) &&& (Z)) _ sa st19).mono ?_
  rintro e w27 ⟨bt20, gt20, ct20, rfl, st20, m1, m2, m3, d27⟩
  replace sa := sa.below d27
  replace sb := sb.below d27
  replace sc := sc.below d27
  replace sna := sna.below d27
  replace snb := snb.below d27
  replace sab := sab.below d27
  replace sm := sm.below d27
  replace st19 := st19.below d27
  replace T26 := hide (T26.out.below d27 W26)
  replace D26 := D26.trans (d27.mono D26.size)
  have W27 : 0 < w27.heap.size := Nat.lt_of_lt_of_le hw0 D26.size
  clear d27 W26
  have T27 := T26
  clear T26
  have D27 := D26
  clear D26
  clear m1 m2 m3
  go_wp2_with fail
  refine (lunion_any ba ga ca n (X) bc gc cc (Z) _ sa sc).mono ?_
  rintro e w28 ⟨bt21, gt21, ct21, rfl, st21, m1, m2, m3, d28⟩
  replace sa := sa.below d28
  replace sb := sb.below d28
  replace sc := sc.below d28
  replace sna := sna.below d28
  replace snb := snb.below d28
  replace sab := sab.below d28
  replace sm := sm.below d28
  replace st19 := st19.below d28
  replace st20 := st20.below d28
  replace T27 := hide (T27.out.below d28 W27)
  replace D27 := D27.trans (d28.mono D27.size)
  have W28 : 0 < w28.heap.size := Nat.lt_of_lt_of_le hw0 D27.size
  clear d28 W27
  have T28 := T27
  clear T27
  have D28 := D27
  clear D27
  clear m1 m2 m3
  go_wp2_with fail
  refine (lmeet_any bab gab cab n ((X) ||| (Y)) bt21 gt21 ct21 ((X) ||| (Z)) _ sab st21).mono ?_
  rintro e w29 ⟨bt22, gt22, ct22, rfl, st22, m1, m2, m3, d29⟩
  have ne_t22_t20 : bt22 ≠ bt20 := by have := st20.blt; omega
  replace sa := sa.below d29
  replace sb := sb.below d29
  replace sc := sc.below d29
  replace sna := sna.below d29
  replace snb := snb.below d29
  replace sab := sab.below d29
  replace sm := sm.below d29
  replace st19 := st19.below d29
  replace st20 := st20.below d29
  replace st21 := st21.below d29
  replace T28 := hide (T28.out.below d29 W28)
  replace D28 := D28.trans (d29.mono D28.size)
  have W29 : 0 < w29.heap.size := Nat.lt_of_lt_of_le hw0 D28.size
  clear d29 W28
  have T29 := T28
  clear T28
  have D29 := D28
  clear D28
  clear m1 m2 m3
  go_wp2_with fail
  refine (lalike_eq bt20 gt20 ct20 n ((X) ||| ((Y) &&& (Z))) bt22 gt22 ct22 (((X) ||| (Y)) &&& ((X) ||| (Z))) _ (a_dist2 _ _ _) st20 st22 T29.out (Ne.symm ne_t22_t20)).mono ?_
  rintro e w30 ⟨rfl, d30⟩
  replace sa := sa.below d30
  replace sb := sb.below d30
  replace sc := sc.below d30
  replace sna := sna.below d30
  replace snb := snb.below d30
  replace sab := sab.below d30
  replace sm := sm.below d30
  clear st20
  clear st19
  clear st22
  clear st21
  replace T29 := hide (T29.out.below d30 W29)
  replace D29 := D29.trans (d30.mono D29.size)
  have W30 : 0 < w30.heap.size := Nat.lt_of_lt_of_le hw0 D29.size
  clear d30 W29
  have T30 := T29
  clear T29
  have D30 := D29
  clear D29
  go_wp2_with fail
  refine (not_any bab gab cab n ((X) ||| (Y)) _ sab).mono ?_
  rintro e w31 ⟨bt23, gt23, ct23, rfl, st23, m1, m2, m3, d31⟩
  replace sa := sa.below d31
  replace sb := sb.below d31
  replace sc := sc.below d31
  replace sna := sna.below d31
  replace snb := snb.below d31
  replace sab := sab.below d31
  replace sm := sm.below d31
  replace T30 := hide (T30.out.below d31 W30)
  replace D30 := D30.trans (d31.mono D30.size)
  have W31 : 0 < w31.heap.size := Nat.lt_of_lt_of_le hw0 D30.size
  clear d31 W30
  have T31 := T30
  clear T30
  have D31 := D30
  clear D30
  clear m1 m2 m3
  go_wp2_with fail
  refine (lmeet_any bna gna cna n (notN n (X)) bnb gnb cnb (notN n (Y)) _ sna snb).mono ?_
  rintro e w32 ⟨bt24, gt24, ct24, rfl, st24, m1, m2, m3, d32⟩
  have ne_t24_t23 : bt24 ≠ bt23 := by have := st23.blt; omega
  replace sa := sa.below d32
  replace sb := sb.below d32
  replace sc := sc.below d32
  replace sna := sna.below d32
  replace snb := snb.below d32
  replace sab := sab.below d32
  replace sm := sm.below d32
  replace st23 := st23.below d32
  replace T31 := hide (T31.out.below d32 W31)
  replace D31 := D31.trans (d32.mono D31.size)
  have W32 : 0 < w32.heap.size := Nat.lt_of_lt_of_le hw0 D31.size
  clear d32 W31
  have T32 := T31
  clear T31
  have D32 := D31
  clear D31
  clear m1 m2 m3
  go_wp2_with fail
  refine (lalike_eq bt23 gt23 ct23 n (notN n ((X) ||| (Y))) bt24 gt24 ct24 ((notN n (X)) &&& (notN n (Y))) _ (a_morgan1 n X Y HXY.out.1 HXY.out.2) st23 st24 T32.out (Ne.symm ne_t24_t23)).mono ?_
  rintro e w33 ⟨rfl, d33⟩
  replace sa := sa.below d33
  replace sb := sb.below d33
  replace sc := sc.below d33
  replace sna := sna.below d33
  replace snb := snb.below d33
  replace sab := sab.below d33
  replace sm := sm.below d33
  clear st23
  clear st24
  replace T32 := hide (T32.out.below d33 W32)
  replace D32 := D32.trans (d33.mono D32.size)
  have W33 : 0 < w33.heap.size := Nat.lt_of_lt_of_le hw0 D32.size
  clear d33 W32
  have T33 := T32
  clear T32
  have D33 := D32
  clear D32
  go_wp2_with fail
  refine (not_any bm gm cm n ((X) &&& (Y)) _ sm).mono ?_
  rintro e w34 ⟨bt25, gt25, ct25, rfl, st25, m1, m2, m3, d34⟩
  replace sa := sa.below d34
  replace sb := sb.below d34
  replace sc := sc.below d34
  replace sna := sna.below d34
  replace snb := snb.below d34
  replace sab := sab.below d34
  replace sm := sm.below d34
  replace T33 := hide (T33.out.below d34 W33)
  replace D33 := D33.trans (d34.mono D33.size)
  have W34 : 0 < w34.heap.size := Nat.lt_of_lt_of_le hw0 D33.size
  clear d34 W33
  have T34 := T33
  clear T33
  have D34 := D33
  clear D33
  clear m1 m2 m3
  go_wp2_with fail
  refine (lunion_any bna gna cna n (notN n (X)) bnb gnb cnb (notN n (Y)) _ sna snb).mono ?_
  rintro e w35 ⟨bt26, gt26, ct26, rfl, st26, m1, m2, m3, d35⟩
  have ne_t26_t25 : bt26 ≠ bt25 := by have := st25.blt; omega
  replace sa := sa.below d35
  replace sb := sb.below d35
  replace sc := sc.below d35
  replace sna := sna.below d35
  replace snb := snb.below d35
  replace sab := sab.below d35
  replace sm := sm.below d35
  replace st25 := st25.below d35
  replace T34 := hide (T34.out.below d35 W34)
  replace D34 := D34.trans (d35.mono D34.size)
  have W35 : 0 < w35.heap.size := Nat.lt_of_lt_of_le hw0 D34.size
  clear d35 W34
  have T35 := T34
  clear T34
  have D35 := D34
  clear D34
  clear m1 m2 m3
  go_wp2_with fail
  refine (lalike_eq bt25 gt25 ct25 n (notN n ((X) &&& (Y))) bt26 gt26 ct26 ((notN n (X)) ||| (notN n (Y))) _ (a_morgan2 n X Y HXY.out.1 HXY.out.2) st25 st26 T35.out (Ne.symm ne_t26_t25)).mono ?_
  rintro e w36 ⟨rfl, d36⟩
  replace sa := sa.below d36
  replace sb := sb.below d36
  replace sc := sc.below d36
  replace sna := sna.below d36
  replace snb := snb.below d36
  replace sab := sab.below d36
  replace sm := sm.below d36
  clear st25
  clear st26
  replace T35 := hide (T35.out.below d36 W35)
  replace D35 := D35.trans (d36.mono D35.size)
  have W36 : 0 < w36.heap.size := Nat.lt_of_lt_of_le hw0 D35.size
  clear d36 W35
  have T36 := T35
  clear T35
  have D36 := D35
  clear D35
  go_wp2_with fail
  refine (not_any bna gna cna n (notN n (X)) _ sna).mono ?_
  rintro e w37 ⟨bt27, gt27, ct27, rfl, st27, m1, m2, m3, d37⟩
  have ne_t27_a : bt27 ≠ ba := by have := sa.blt; omega
  replace sa := sa.below d37
  replace sb := sb.below d37
  replace sc := sc.below d37
  replace sna := sna.below d37
  replace snb := snb.below d37
  replace sab := sab.below d37
  replace sm := sm.below d37
  replace T36 := hide (T36.out.below d37 W36)
  replace D36 := D36.trans (d37.mono D36.size)
  have W37 : 0 < w37.heap.size := Nat.lt_of_lt_of_le hw0 D36.size
  clear d37 W36
  have T37 := T36
  clear T36
  have D37 := D36
  clear D36
  clear m1 m2 m3
  go_wp2_with fail
  refine (lalike_eq bt27 gt27 ct27 n (notN n (notN n (X))) ba ga ca (X) _ (a_notnot n X HXY.out.1) st27 sa T37.out ne_t27_a).mono ?_
  rintro e w38 ⟨rfl, d38⟩
  replace sa := sa.below d38
  replace sb := sb.below d38
  replace sc := sc.below d38
  replace sna := sna.below d38
  replace snb := snb.below d38
  replace sab := sab.below d38
  replace sm := sm.below d38
  clear st27
  replace T37 := hide (T37.out.below d38 W37)
  replace D37 := D37.trans (d38.mono D37.size)
  have W38 : 0 < w38.heap.size := Nat.lt_of_lt_of_le hw0 D37.size
  clear d38 W37
  have T38 := T37
  clear T37
  have D38 := D37
  clear D37
  go_wp2_with fail
  refine (lminus_any ba ga ca n (X) bb gb cb (Y) _ sa sb).mono ?_
  rintro e w39 ⟨bt28, gt28, ct28, rfl, st28, m1, m2, m3, d39⟩
  replace sa := sa.below d39
  replace sb := sb.below d39
  replace sc := sc.below d39
  replace sna := sna.below d39
  replace snb := snb.below d39
  replace sab := sab.below d39
  replace sm := sm.below d39
  replace T38 := hide (T38.out.below d39 W38)
  replace D38 := D38.trans (d39.mono D38.size)
  have W39 : 0 < w39.heap.size := Nat.lt_of_lt_of_le hw0 D38.size
  clear d39 W38
  have T39 := T38
  clear T38
  have D39 := D38
  clear D38
  clear m1 m2 m3
  go_wp2_with fail
  refine (lmeet_any ba ga ca n (X) bnb gnb cnb (notN n (Y)) _ sa snb).mono ?_
  rintro e w40 ⟨bt29, gt29, ct29, rfl, st29, m1, m2, m3, d40⟩
  have ne_t29_t28 : bt29 ≠ bt28 := by have := st28.blt; omega
  replace sa := sa.below d40
  replace sb := sb.below d40
  replace sc := sc.below d40
  replace sna := sna.below d40
  replace snb := snb.below d40
  replace sab := sab.below d40
  replace sm := sm.below d40
  replace st28 := st28.below d40
  replace T39 := hide (T39.out.below d40 W39)
  replace D39 := D39.trans (d40.mono D39.size)
  have W40 : 0 < w40.heap.size := Nat.lt_of_lt_of_le hw0 D39.size
  clear d40 W39
  have T40 := T39
  clear T39
  have D40 := D39
  clear D39
  clear m1 m2 m3
  go_wp2_with fail
  refine (lalike_eq bt28 gt28 ct28 n (minusN (X) (Y)) bt29 gt29 ct29 ((X) &&& (notN n (Y))) _ (a_minus n X Y HXY.out.1 HXY.out.2) st28 st29 T40.out (Ne.symm ne_t29_t28)).mono ?_
  rintro e w41 ⟨rfl, d41⟩
  replace sa := sa.below d41
  replace sb := sb.below d41
  replace sc := sc.below d41
  replace sna := sna.below d41
  replace snb := snb.below d41
  replace sab := sab.below d41
  replace sm := sm.below d41
  clear st28
  clear st29
  replace T40 := hide (T40.out.below d41 W40)
  replace D40 := D40.trans (d41.mono D40.size)
  have W41 : 0 < w41.heap.size := Nat.lt_of_lt_of_le hw0 D40.size
  clear d41 W40
  have T41 := T40
  clear T40
  have D41 := D40
  clear D40
  go_wp2_with fail
  refine (lunion_any ba ga ca n (X) ba ga ca (X) _ sa sa).mono ?_
  rintro e w42 ⟨bt30, gt30, ct30, rfl, st30, m1, m2, m3, d42⟩
  have ne_t30_a : bt30 ≠ ba := by have := sa.blt; omega
  replace sa := sa.below d42
  replace sb := sb.below d42
  replace sc := sc.below d42
  replace sna := sna.below d42
  replace snb := snb.below d42
  replace sab := sab.below d42
  replace sm := sm.below d42
  replace T41 := hide (T41.out.below d42 W41)
  replace D41 := D41.trans (d42.mono D41.size)
  have W42 : 0 < w42.heap.size := Nat.lt_of_lt_of_le hw0 D41.size
  clear d42 W41
  have T42 := T41
  clear T41
  have D42 := D41
  clear D41
  clear m1 m2 m3
  go_wp2_with fail
  refine (lalike_eq bt30 gt30 ct30 n ((X) ||| (X)) ba ga ca (X) _ (Nat.or_self X) st30 sa T42.out ne_t30_a).mono ?_
  rintro e w43 ⟨rfl, d43⟩
  replace sa := sa.below d43
  replace sb := sb.below d43
  replace sc := sc.below d43
  replace sna := sna.below d43
  replace snb := snb.below d43
  replace sab := sab.below d43
  replace sm := sm.below d43
  clear st30
  replace T42 := hide (T42.out.below d43 W42)
  replace D42 := D42.trans (d43.mono D42.size)
  have W43 : 0 < w43.heap.size := Nat.lt_of_lt_of_le hw0 D42.size
  clear d43 W42
  have T43 := T42
  clear T42
  have D43 := D42
  clear D42
  go_wp2_with fail
  refine (lmeet_any ba ga ca n (X) ba ga ca (X) _ sa sa).mono ?_
  rintro e w44 ⟨bt31, gt31, ct31, rfl, st31, m1, m2, m3, d44⟩
  have ne_t31_a : bt31 ≠ ba := by have := sa.blt; omega
  replace sa := sa.below d44
  replace sb := sb.below d44
  replace sc := sc.below d44
  replace sna := sna.below d44
  replace snb := snb.below d44
  replace sab := sab.below d44
  replace sm := sm.below d44
  replace T43 := hide (T43.out.below d44 W43)
  replace D43 := D43.trans (d44.mono D43.size)
  have W44 : 0 < w44.heap.size := Nat.lt_of_lt_of_le hw0 D43.size
  clear d44 W43
  have T44 := T43
  clear T43
  have D44 := D43
  clear D43
  clear m1 m2 m3
  go_wp2_with fail
  refine (lalike_eq bt31 gt31 ct31 n ((X) &&& (X)) ba ga ca (X) _ (Nat.and_self X) st31 sa T44.out ne_t31_a).mono ?_
  rintro e w45 ⟨rfl, d45⟩
  replace sa := sa.below d45
  replace sb := sb.below d45
  replace sc := sc.below d45
  replace sna := sna.below d45
  replace snb := snb.below d45
  replace sab := sab.below d45
  replace sm := sm.below d45
  clear st31
  replace T44 := hide (T44.out.below d45 W44)
  replace D44 := D44.trans (d45.mono D44.size)
  have W45 : 0 < w45.heap.size := Nat.lt_of_lt_of_le hw0 D44.size
  clear d45 W44
  have T45 := T44
  clear T44
  have D45 := D44
  clear D44
  go_wp2_with fail
  refine (subset_r ba ga ca n X bb gb cb Y r _ HR sa sb).mono ?_
  rintro e w46 ⟨rfl, d46⟩
  replace sa := sa.below d46
  replace sb := sb.below d46
  replace sc := sc.below d46
  replace sna := sna.below d46
  replace snb := snb.below d46
  replace sab := sab.below d46
  replace sm := sm.below d46
  replace T45 := hide (T45.out.below d46 W45)
  replace D45 := D45.trans (d46.mono D45.size)
  have W46 : 0 < w46.heap.size := Nat.lt_of_lt_of_le hw0 D45.size
  clear d46 W45
  have T46 := T45
  clear T45
  have D46 := D45
  clear D45
  go_wp2_with fail
  refine (lalike_d bab gab cab n ((X) ||| (Y)) bb gb cb Y r _ HS1 sab sb T46.out ne_ab_b).mono ?_
  rintro e w47 ⟨rfl, d47⟩
  replace sa := sa.below d47
  replace sb := sb.below d47
  replace sc := sc.below d47
  replace sna := sna.below d47
  replace snb := snb.below d47
  replace sab := sab.below d47
  replace sm := sm.below d47
  replace T46 := hide (T46.out.below d47 W46)
  replace D46 := D46.trans (d47.mono D46.size)
  have W47 : 0 < w47.heap.size := Nat.lt_of_lt_of_le hw0 D46.size
  clear d47 W46
  have T47 := T46
  clear T46
  have D47 := D46
  clear D46
  go_wp2_with fail
  refine (lalike_d bm gm cm n ((X) &&& (Y)) ba ga ca X r _ HS2 sm sa T47.out ne_m_a).mono ?_
  rintro e w48 ⟨rfl, d48⟩
  replace sa := sa.below d48
  replace sb := sb.below d48
  replace sc := sc.below d48
  replace sna := sna.below d48
  replace snb := snb.below d48
  replace sab := sab.below d48
  replace sm := sm.below d48
  replace T47 := hide (T47.out.below d48 W47)
  replace D47 := D47.trans (d48.mono D47.size)
  have W48 : 0 < w48.heap.size := Nat.lt_of_lt_of_le hw0 D47.size
  clear d48 W47
  have T48 := T47
  clear T47
  have D48 := D47
  clear D47
  go_wp2_with fail
  refine (meets_r ba ga ca n X bb gb cb Y r2 _ HR2 sa sb).mono ?_
  rintro e w49 ⟨rfl, d49⟩
  replace sa := sa.below d49
  replace sb := sb.below d49
  replace sc := sc.below d49
  replace sna := sna.below d49
  replace snb := snb.below d49
  replace sab := sab.below d49
  replace sm := sm.below d49
  replace T48 := hide (T48.out.below d49 W48)
  replace D48 := D48.trans (d49.mono D48.size)
  have W49 : 0 < w49.heap.size := Nat.lt_of_lt_of_le hw0 D48.size
  clear d49 W48
  have T49 := T48
  clear T48
  have D49 := D48
  clear D48
  go_wp2_with fail
  refine (count_L bm gm cm n ((X) &&& (Y)) Lm _ HLm sm).mono ?_
  rintro e w50 ⟨rfl, d50⟩
  replace sa := sa.below d50
  replace sb := sb.below d50
  replace sc := sc.below d50
  replace sna := sna.below d50
  replace snb := snb.below d50
  replace sab := sab.below d50
  replace sm := sm.below d50
  replace T49 := hide (T49.out.below d50 W49)
  replace D49 := D49.trans (d50.mono D49.size)
  have W50 : 0 < w50.heap.size := Nat.lt_of_lt_of_le hw0 D49.size
  clear d50 W49
  have T50 := T49
  clear T49
  have D50 := D49
  clear D49
  go_wp2_with fail
  refine (count_L bab gab cab n ((X) ||| (Y)) Lab _ HLab sab).mono ?_
  rintro e w51 ⟨rfl, d51⟩
  replace sa := sa.below d51
  replace sb := sb.below d51
  replace sc := sc.below d51
  replace sna := sna.below d51
  replace snb := snb.below d51
  replace sab := sab.below d51
  replace sm := sm.below d51
  replace T50 := hide (T50.out.below d51 W50)
  replace D50 := D50.trans (d51.mono D50.size)
  have W51 : 0 < w51.heap.size := Nat.lt_of_lt_of_le hw0 D50.size
  clear d51 W50
  have T51 := T50
  clear T50
  have D51 := D50
  clear D50
  go_wp2_with fail
  refine (count_L bm gm cm n ((X) &&& (Y)) Lm _ HLm sm).mono ?_
  rintro e w52 ⟨rfl, d52⟩
  replace sa := sa.below d52
  replace sb := sb.below d52
  replace sc := sc.below d52
  replace sna := sna.below d52
  replace snb := snb.below d52
  replace sab := sab.below d52
  replace sm := sm.below d52
  replace T51 := hide (T51.out.below d52 W51)
  replace D51 := D51.trans (d52.mono D51.size)
  have W52 : 0 < w52.heap.size := Nat.lt_of_lt_of_le hw0 D51.size
  clear d52 W51
  have T52 := T51
  clear T51
  have D52 := D51
  clear D51
  go_wp2_with fail
  refine (count_L ba ga ca n X La _ HLa sa).mono ?_
  rintro e w53 ⟨rfl, d53⟩
  replace sa := sa.below d53
  replace sb := sb.below d53
  replace sc := sc.below d53
  replace sna := sna.below d53
  replace snb := snb.below d53
  replace sab := sab.below d53
  replace sm := sm.below d53
  replace T52 := hide (T52.out.below d53 W52)
  replace D52 := D52.trans (d53.mono D52.size)
  have W53 : 0 < w53.heap.size := Nat.lt_of_lt_of_le hw0 D52.size
  clear d53 W52
  have T53 := T52
  clear T52
  have D53 := D52
  clear D52
  go_wp2_with fail
  refine (count_L bb gb cb n Y Lb _ HLb sb).mono ?_
  rintro e w54 ⟨rfl, d54⟩
  replace sa := sa.below d54
  replace sb := sb.below d54
  replace sc := sc.below d54
  replace sna := sna.below d54
  replace snb := snb.below d54
  replace sab := sab.below d54
  replace sm := sm.below d54
  replace T53 := hide (T53.out.below d54 W53)
  replace D53 := D53.trans (d54.mono D53.size)
  have W54 : 0 < w54.heap.size := Nat.lt_of_lt_of_le hw0 D53.size
  clear d54 W53
  have T54 := T53
  clear T53
  have D54 := D53
  clear D53
  go_wp2_with fail
  refine (count_L ba ga ca n X La _ HLa sa).mono ?_
  rintro e w55 ⟨rfl, d55⟩
  replace sa := sa.below d55
  replace sb := sb.below d55
  replace sc := sc.below d55
  replace sna := sna.below d55
  replace snb := snb.below d55
  replace sab := sab.below d55
  replace sm := sm.below d55
  replace T54 := hide (T54.out.below d55 W54)
  replace D54 := D54.trans (d55.mono D54.size)
  have W55 : 0 < w55.heap.size := Nat.lt_of_lt_of_le hw0 D54.size
  clear d55 W54
  have T55 := T54
  clear T54
  have D55 := D54
  clear D54
  go_wp2_with fail
  refine (count_L bna gna cna n (notN n (X)) Ln _ HLn sna).mono ?_
  rintro e w56 ⟨rfl, d56⟩
  replace sa := sa.below d56
  replace sb := sb.below d56
  replace sc := sc.below d56
  replace sna := sna.below d56
  replace snb := snb.below d56
  replace sab := sab.below d56
  replace sm := sm.below d56
  replace T55 := hide (T55.out.below d56 W55)
  replace D55 := D55.trans (d56.mono D55.size)
  have W56 : 0 < w56.heap.size := Nat.lt_of_lt_of_le hw0 D55.size
  clear d56 W55
  have T56 := T55
  clear T55
  have D56 := D55
  clear D55
  go_wp2_with fail
  refine (bound_b ba n _ sa.c0).mono ?_
  rintro e w57 ⟨rfl, d57⟩
  replace sa := sa.below d57
  replace sb := sb.below d57
  replace sc := sc.below d57
  replace sna := sna.below d57
  replace snb := snb.below d57
  replace sab := sab.below d57
  replace sm := sm.below d57
  replace T56 := hide (T56.out.below d57 W56)
  replace D56 := D56.trans (d57.mono D56.size)
  have W57 : 0 < w57.heap.size := Nat.lt_of_lt_of_le hw0 D56.size
  clear d57 W56
  have T57 := T56
  clear T56
  have D57 := D56
  clear D56
  clear sa sb sc sna snb sab sm
  go_wp2
  go_ret
  exact ⟨rfl, D57⟩
end Go.Proofs.YtdgmokelmocejaaDoor
