import Derived.Test.YtdgmokelmocejabDoorMixm
namespace Go.Proofs.YtdgmokelmocejabDoor
open Go.RowKit

theorem below_of_g {B g : Nat} {w w' : World} (h : w.grownBy w' (some g)) (hB : B ≤ g) (hs : B ≤ w.heap.size) : Below B w w' :=
  ⟨h.os, h.tape, h.output, h.size, fun k hk => h.block k (by omega) (by simp; omega)⟩

theorem count_zero (b g cap n : Nat) (w : World) (hs : IsSet w b g cap n 0) :
    Calls Tryd.prog 16 #[.pointer (some ⟨b, 0, none⟩)] w fun e w' => e = .returned (.int .i64 0) ∧ w' = w :=
  (count_any b g cap n 0 w hs).mono fun _ _ h => ⟨by rw [h.1]; simp [cnt, elems_zero], h.2⟩
theorem next_zero (b g cap n : Nat) (w : World) (hs : IsSet w b g cap n 0) (hT : TabAt w) :
    Calls Tryd.prog 17 #[.pointer (some ⟨b, 0, none⟩), .int .i64 0] w fun e w' => e = .returned (.int .i64 (-1)) ∧ Below w.heap.size w w' :=
  (next_any b g cap n 0 0 w hs hT).mono fun _ _ h => ⟨by rw [h.1, elems_zero]; rfl, by obtain ⟨q, rfl⟩ := h.2; exact below_drewN' (Below.refl _ _) q⟩
theorem key_K (b g cap n X : Nat) (K : ByteArray) (w : World) (HK : Hid (ByteArray.mk (keyPre n X ((n + 7) / 8)).toArray = K)) (hs : IsSet w b g cap n X) :
    Calls Tryd.prog 7 #[.pointer (some ⟨b, 0, none⟩)] w fun e w' => e = .returned (.string K) ∧ Below w.heap.size w w' :=
  (key_any b g cap n X w hs).mono fun _ _ h => ⟨by rw [h.1, HK.out], h.2⟩

set_option maxRecDepth 100000 in
set_option maxHeartbeats 4000000 in
theorem inPlace_any (v : Value) (N : Int) (A B C : List Int) (w : World) (h : ThreeV w v N A B C) (hT : TabAt w) (hw0 : 0 < w.heap.size) :
    Calls Tryd.prog 3 #[v] w fun e w' => e = .returned (.bool true) ∧ Below w.heap.size w w' := by
  obtain ⟨n1, n2, ⟨a1, p1, a2, p2, a3, p3, rfl, r1, r2, r3⟩, la, lb, lc⟩ := h
  have hA : Below w.heap.size w (w.alloc (.cells #[.int .i64 N, .slice a1 A.length p1, .slice a2 B.length p2, .slice a3 C.length p3] 24)) := (Below.refl _ _).alloc (Nat.le_refl _) _
  have h3 : ThreeV (w.alloc (.cells #[.int .i64 N, .slice a1 A.length p1, .slice a2 B.length p2, .slice a3 C.length p3] 24)) (.agg #[.int .i64 N, .slice a1 A.length p1, .slice a2 B.length p2, .slice a3 C.length p3]) N A B C := ⟨n1, n2, ⟨a1, p1, a2, p2, a3, p3, rfl, r1.below hA, r2.below hA, r3.below hA⟩, la, lb, lc⟩
  have H3 := hide h3
  have hle := boundN_le N
  have HT := hide hT
  clear h3 r1 r2 r3 la lb lc hT
  go_enter Tryd.func3, Tryd.ntmps3
  go_wp2_with fail
  refine (sets_any _ N A B C _ H3.out).mono ?_
  rintro e w1 ⟨ba, ga, ca, bb, gb, cb, bc, gc, cc, rfl, sa, sb, sc, m1, m2, m3, m4, m5, m6, e1, e2, e3, l1, l2, l3, l4, d1⟩
  have D1 : Below w.heap.size w w1 := hA.trans (d1.mono (by simp))
  have T1 := hide (HT.out.below D1 hw0)
  generalize setI (boundN N) A = X at sa
  generalize setI (boundN N) B = Y at sb
  clear sc
  generalize boundN N = n at *
  have W : 0 < w1.heap.size := Nat.lt_of_lt_of_le hw0 D1.size
  have ne_a_b : ba ≠ bb := by omega
  have HM := hide (And.intro sa.blt (And.intro sa.glt (And.intro sb.blt sb.glt)))
  have HZ := hide D1.size
  obtain ⟨K, hK⟩ : ∃ K, ByteArray.mk (keyPre n Y ((n + 7) / 8)).toArray = K := ⟨_, rfl⟩
  have HK := hide hK
  clear hK m1 m2 m3 m4 m5 m6 d1 hA H3 HT e1 e2 e3 l1 l2 l3 l4
  go_wp2_with fail
  refine (known_any _ T1.out W).mono ?_
  rintro e w2 ⟨rfl, d⟩
  replace sa := sa.below d
  replace sb := sb.below d
  replace T1 := hide (T1.out.below d W)
  replace D1 := D1.trans (d.mono D1.size)
  replace W : 0 < w2.heap.size := Nat.lt_of_lt_of_le hw0 D1.size
  clear d
  go_wp2_with fail
  refine (key_K bb gb cb n (Y) K _ HK sb).mono ?_
  rintro e w3 ⟨rfl, d⟩
  replace sa := sa.below d
  replace sb := sb.below d
  replace T1 := hide (T1.out.below d W)
  replace D1 := D1.trans (d.mono D1.size)
  replace W : 0 < w3.heap.size := Nat.lt_of_lt_of_le hw0 D1.size
  clear d
  have HBj := hide (And.intro sa.blt (And.intro sa.glt (And.intro sb.blt sb.glt)))
  have Hsj := hide (And.intro D1.size (And.intro sa.blt sa.glt))
  go_wp2_with fail
  refine (copy_any ba ga ca n (X) _ sa).mono ?_
  rintro e w4 ⟨bj, gj, cj, rfl, sj, m1, m2, nj, d⟩
  replace sa := sa.below d
  replace sb := sb.below d
  replace T1 := hide (T1.out.below d W)
  replace D1 := D1.trans (d.mono D1.size)
  replace W : 0 < w4.heap.size := Nat.lt_of_lt_of_le hw0 D1.size
  have HNj := hide (And.intro m1 (And.intro m2 (And.intro sj.blt sj.glt)))
  clear d m1 m2
  have hq : w.heap.size ≤ gj := by have h1 := Hsj.out; have h2 := HNj.out; omega
  have Hgj := hide hq
  clear hq
  have hq : (ba ≠ gj ∧ ga ≠ gj) ∧ (bj ≠ ga ∧ gj ≠ ga) ∧ bj ≠ ba := by have h1 := HBj.out; have h2 := HNj.out; omega
  have NEaj := hide hq
  clear hq
  have hq : (bb ≠ gj ∧ gb ≠ gj) ∧ (bj ≠ gb ∧ gj ≠ gb) ∧ bj ≠ bb := by have h1 := HBj.out; have h2 := HNj.out; omega
  have NEbj := hide hq
  clear hq
  have HBk := hide (And.intro sa.blt (And.intro sa.glt (And.intro sb.blt sb.glt)))
  have HBkj := hide (And.intro sj.blt sj.glt)
  have Hsk := hide (And.intro D1.size (And.intro sa.blt sa.glt))
  go_wp2_with fail
  refine (copy_any ba ga ca n (X) _ sa).mono ?_
  rintro e w5 ⟨bk, gk, ck, rfl, sk, m1, m2, nk, d⟩
  replace sa := sa.below d
  replace sb := sb.below d
  replace sj := sj.below d
  replace T1 := hide (T1.out.below d W)
  replace D1 := D1.trans (d.mono D1.size)
  replace W : 0 < w5.heap.size := Nat.lt_of_lt_of_le hw0 D1.size
  have HNk := hide (And.intro m1 (And.intro m2 (And.intro sk.blt sk.glt)))
  clear d m1 m2
  have hq : w.heap.size ≤ gk := by have h1 := Hsk.out; have h2 := HNk.out; omega
  have Hgk := hide hq
  clear hq
  have hq : (ba ≠ gk ∧ ga ≠ gk) ∧ (bk ≠ ga ∧ gk ≠ ga) ∧ bk ≠ ba := by have h1 := HBk.out; have h2 := HNk.out; omega
  have NEak := hide hq
  clear hq
  have hq : (bb ≠ gk ∧ gb ≠ gk) ∧ (bk ≠ gb ∧ gk ≠ gb) ∧ bk ≠ bb := by have h1 := HBk.out; have h2 := HNk.out; omega
  have NEbk := hide hq
  clear hq
  have hq : (bj ≠ gk ∧ gj ≠ gk) ∧ (bk ≠ gj ∧ gk ≠ gj) ∧ bk ≠ bj := by have h1 := HBkj.out; have h2 := HNk.out; omega
  have NEjk := hide hq
  clear hq
  have HBd := hide (And.intro sa.blt (And.intro sa.glt (And.intro sb.blt sb.glt)))
  have HBdj := hide (And.intro sj.blt sj.glt)
  have HBdk := hide (And.intro sk.blt sk.glt)
  have Hsd := hide (And.intro D1.size (And.intro sa.blt sa.glt))
  go_wp2_with fail
  refine (copy_any ba ga ca n (X) _ sa).mono ?_
  rintro e w6 ⟨bd, gd, cd, rfl, sd, m1, m2, nd, d⟩
  replace sa := sa.below d
  replace sb := sb.below d
  replace sj := sj.below d
  replace sk := sk.below d
  replace T1 := hide (T1.out.below d W)
  replace D1 := D1.trans (d.mono D1.size)
  replace W : 0 < w6.heap.size := Nat.lt_of_lt_of_le hw0 D1.size
  have HNd := hide (And.intro m1 (And.intro m2 (And.intro sd.blt sd.glt)))
  clear d m1 m2
  have hq : w.heap.size ≤ gd := by have h1 := Hsd.out; have h2 := HNd.out; omega
  have Hgd := hide hq
  clear hq
  have hq : (ba ≠ gd ∧ ga ≠ gd) ∧ (bd ≠ ga ∧ gd ≠ ga) ∧ bd ≠ ba := by have h1 := HBd.out; have h2 := HNd.out; omega
  have NEad := hide hq
  clear hq
  have hq : (bb ≠ gd ∧ gb ≠ gd) ∧ (bd ≠ gb ∧ gd ≠ gb) ∧ bd ≠ bb := by have h1 := HBd.out; have h2 := HNd.out; omega
  have NEbd := hide hq
  clear hq
  have hq : (bj ≠ gd ∧ gj ≠ gd) ∧ (bd ≠ gj ∧ gd ≠ gj) ∧ bd ≠ bj := by have h1 := HBdj.out; have h2 := HNd.out; omega
  have NEjd := hide hq
  clear hq
  have hq : (bk ≠ gd ∧ gk ≠ gd) ∧ (bd ≠ gk ∧ gd ≠ gk) ∧ bd ≠ bk := by have h1 := HBdk.out; have h2 := HNd.out; omega
  have NEkd := hide hq
  clear hq
  go_wp2_with fail
  refine (join_g bj gj cj n (X) bb gb cb (Y) _ sj sb nj NEbj.out.1.1 NEbj.out.1.2).mono ?_
  rintro e w7 ⟨rfl, sj', d⟩
  replace sa := sa.other d NEaj.out.1.1 NEaj.out.1.2
  replace sb := sb.other d NEbj.out.1.1 NEbj.out.1.2
  replace sk := sk.other d NEjk.out.2.1.1 NEjk.out.2.1.2
  replace sd := sd.other d NEjd.out.2.1.1 NEjd.out.2.1.2
  replace sj := sj'
  clear sj'
  have d' := below_of_g (B := w.heap.size) d Hgj.out D1.size
  replace T1 := hide (T1.out.below d' hw0)
  replace D1 := D1.trans d'
  clear d d'
  replace W : 0 < w7.heap.size := Nat.lt_of_lt_of_le hw0 D1.size
  go_wp2_with fail
  refine (cut_g bk gk ck n (X) bb gb cb (Y) _ sk sb nk NEbk.out.1.1 NEbk.out.1.2).mono ?_
  rintro e w8 ⟨rfl, sk', d⟩
  replace sa := sa.other d NEak.out.1.1 NEak.out.1.2
  replace sb := sb.other d NEbk.out.1.1 NEbk.out.1.2
  replace sj := sj.other d NEjk.out.1.1 NEjk.out.1.2
  replace sd := sd.other d NEkd.out.2.1.1 NEkd.out.2.1.2
  replace sk := sk'
  clear sk'
  have d' := below_of_g (B := w.heap.size) d Hgk.out D1.size
  replace T1 := hide (T1.out.below d' hw0)
  replace D1 := D1.trans d'
  clear d d'
  replace W : 0 < w8.heap.size := Nat.lt_of_lt_of_le hw0 D1.size
  go_wp2_with fail
  refine (drop_g bd gd cd n (X) bb gb cb (Y) _ sd sb nd NEbd.out.1.1 NEbd.out.1.2).mono ?_
  rintro e w9 ⟨rfl, sd', d⟩
  replace sa := sa.other d NEad.out.1.1 NEad.out.1.2
  replace sb := sb.other d NEbd.out.1.1 NEbd.out.1.2
  replace sj := sj.other d NEjd.out.1.1 NEjd.out.1.2
  replace sk := sk.other d NEkd.out.1.1 NEkd.out.1.2
  replace sd := sd'
  clear sd'
  have d' := below_of_g (B := w.heap.size) d Hgd.out D1.size
  replace T1 := hide (T1.out.below d' hw0)
  replace D1 := D1.trans d'
  clear d d'
  replace W : 0 < w9.heap.size := Nat.lt_of_lt_of_le hw0 D1.size
  go_wp2_with fail
  refine (key_K bb gb cb n (Y) K _ HK sb).mono ?_
  rintro e w10 ⟨rfl, d⟩
  replace sa := sa.below d
  replace sb := sb.below d
  replace sj := sj.below d
  replace sk := sk.below d
  replace sd := sd.below d
  replace T1 := hide (T1.out.below d W)
  replace D1 := D1.trans (d.mono D1.size)
  replace W : 0 < w10.heap.size := Nat.lt_of_lt_of_le hw0 D1.size
  clear d
  have HBx := hide sj.blt
  go_wp2_with fail
  refine (lunion_any ba ga ca n (X) bb gb cb (Y) _ sa sb).mono ?_
  rintro e w11 ⟨bu, gu, cu, rfl, su, m1, m2, nu, d⟩
  replace sa := sa.below d
  replace sb := sb.below d
  replace sj := sj.below d
  replace sk := sk.below d
  replace sd := sd.below d
  replace T1 := hide (T1.out.below d W)
  replace D1 := D1.trans (d.mono D1.size)
  replace W : 0 < w11.heap.size := Nat.lt_of_lt_of_le hw0 D1.size
  have hq : bj ≠ bu := by have h1 := HBx.out; omega
  have HQ := hide hq
  clear d m1 m2 hq nu HBx
  go_wp2_with fail
  refine (lalike_eq bj gj cj n (X ||| Y) bu gu cu (X ||| Y) _ rfl sj su T1.out HQ.out).mono ?_
  rintro e w12 ⟨rfl, d⟩
  replace sa := sa.below d
  replace sb := sb.below d
  replace sj := sj.below d
  replace sk := sk.below d
  replace sd := sd.below d
  replace su := su.below d
  replace T1 := hide (T1.out.below d W)
  replace D1 := D1.trans (d.mono D1.size)
  replace W : 0 < w12.heap.size := Nat.lt_of_lt_of_le hw0 D1.size
  clear d su HQ
  have HBx := hide sk.blt
  go_wp2_with fail
  refine (lmeet_any ba ga ca n (X) bb gb cb (Y) _ sa sb).mono ?_
  rintro e w13 ⟨bu, gu, cu, rfl, su, m1, m2, nu, d⟩
  replace sa := sa.below d
  replace sb := sb.below d
  replace sj := sj.below d
  replace sk := sk.below d
  replace sd := sd.below d
  replace T1 := hide (T1.out.below d W)
  replace D1 := D1.trans (d.mono D1.size)
  replace W : 0 < w13.heap.size := Nat.lt_of_lt_of_le hw0 D1.size
  have hq : bk ≠ bu := by have h1 := HBx.out; omega
  have HQ := hide hq
  clear d m1 m2 hq nu HBx
  go_wp2_with fail
  refine (lalike_eq bk gk ck n (X &&& Y) bu gu cu (X &&& Y) _ rfl sk su T1.out HQ.out).mono ?_
  rintro e w14 ⟨rfl, d⟩
  replace sa := sa.below d
  replace sb := sb.below d
  replace sj := sj.below d
  replace sk := sk.below d
  replace sd := sd.below d
  replace su := su.below d
  replace T1 := hide (T1.out.below d W)
  replace D1 := D1.trans (d.mono D1.size)
  replace W : 0 < w14.heap.size := Nat.lt_of_lt_of_le hw0 D1.size
  clear d su HQ
  have HBx := hide sd.blt
  go_wp2_with fail
  refine (lminus_any ba ga ca n (X) bb gb cb (Y) _ sa sb).mono ?_
  rintro e w15 ⟨bu, gu, cu, rfl, su, m1, m2, nu, d⟩
  replace sa := sa.below d
  replace sb := sb.below d
  replace sj := sj.below d
  replace sk := sk.below d
  replace sd := sd.below d
  replace T1 := hide (T1.out.below d W)
  replace D1 := D1.trans (d.mono D1.size)
  replace W : 0 < w15.heap.size := Nat.lt_of_lt_of_le hw0 D1.size
  have hq : bd ≠ bu := by have h1 := HBx.out; omega
  have HQ := hide hq
  clear d m1 m2 hq nu HBx
  go_wp2_with fail
  refine (lalike_eq bd gd cd n (minusN X Y) bu gu cu (minusN X Y) _ rfl sd su T1.out HQ.out).mono ?_
  rintro e w16 ⟨rfl, d⟩
  replace sa := sa.below d
  replace sb := sb.below d
  replace sj := sj.below d
  replace sk := sk.below d
  replace sd := sd.below d
  replace su := su.below d
  replace T1 := hide (T1.out.below d W)
  replace D1 := D1.trans (d.mono D1.size)
  replace W : 0 < w16.heap.size := Nat.lt_of_lt_of_le hw0 D1.size
  clear d su HQ
  clear sj sk sd nj nk nd NEaj NEak NEad NEbj NEbk NEbd NEjk NEjd NEkd Hgj Hgk Hgd Hsj Hsk Hsd HNj HNk HNd HBj HBk HBkj HBd HBdj HBdk sb
  have HBs := hide (And.intro sa.blt sa.glt)
  have Hss := hide (And.intro D1.size (And.intro sa.blt sa.glt))
  go_wp2_with fail
  refine (copy_any ba ga ca n (X) _ sa).mono ?_
  rintro e w17 ⟨bs, gs, cs, rfl, ss, m1, m2, ns, d⟩
  replace sa := sa.below d
  replace T1 := hide (T1.out.below d W)
  replace D1 := D1.trans (d.mono D1.size)
  replace W : 0 < w17.heap.size := Nat.lt_of_lt_of_le hw0 D1.size
  have HNs := hide (And.intro m1 (And.intro m2 (And.intro ss.blt ss.glt)))
  clear d m1 m2
  have hq : w.heap.size ≤ gs := by have h1 := Hss.out; have h2 := HNs.out; omega
  have Hgs := hide hq
  clear hq
  have hq : (ba ≠ gs ∧ ga ≠ gs) ∧ (bs ≠ ga ∧ gs ≠ ga) ∧ bs ≠ ba := by have h1 := HBs.out; have h2 := HNs.out; omega
  have NEas := hide hq
  clear hq
  go_wp2_with fail
  refine (join_self bs gs cs n (X) _ ss ns).mono ?_
  rintro e w18 ⟨rfl, ss', d⟩
  replace sa := sa.other d NEas.out.1.1 NEas.out.1.2
  replace ss := ss'
  clear ss'
  have d' := below_of_g (B := w.heap.size) d Hgs.out D1.size
  replace T1 := hide (T1.out.below d' hw0)
  replace D1 := D1.trans d'
  clear d d'
  replace W : 0 < w18.heap.size := Nat.lt_of_lt_of_le hw0 D1.size
  go_wp2_with fail
  refine (cut_self bs gs cs n (X) _ ss ns).mono ?_
  rintro e w19 ⟨rfl, ss', d⟩
  replace sa := sa.other d NEas.out.1.1 NEas.out.1.2
  replace ss := ss'
  clear ss'
  have d' := below_of_g (B := w.heap.size) d Hgs.out D1.size
  replace T1 := hide (T1.out.below d' hw0)
  replace D1 := D1.trans d'
  clear d d'
  replace W : 0 < w19.heap.size := Nat.lt_of_lt_of_le hw0 D1.size
  go_wp2_with fail
  refine (lalike_eq bs gs cs n (X) ba ga ca (X) _ rfl ss sa T1.out NEas.out.2.2).mono ?_
  rintro e w20 ⟨rfl, d⟩
  replace sa := sa.below d
  replace ss := ss.below d
  replace T1 := hide (T1.out.below d W)
  replace D1 := D1.trans (d.mono D1.size)
  replace W : 0 < w20.heap.size := Nat.lt_of_lt_of_le hw0 D1.size
  clear d
  go_wp2_with fail
  refine (drop_self bs gs cs n (X) _ ss ns).mono ?_
  rintro e w21 ⟨rfl, ss', d⟩
  replace sa := sa.other d NEas.out.1.1 NEas.out.1.2
  replace ss := ss'
  clear ss'
  have d' := below_of_g (B := w.heap.size) d Hgs.out D1.size
  replace T1 := hide (T1.out.below d' hw0)
  replace D1 := D1.trans d'
  clear d d'
  replace W : 0 < w21.heap.size := Nat.lt_of_lt_of_le hw0 D1.size
  go_wp2_with fail
  refine (count_zero bs gs cs n _ ss).mono ?_
  rintro e w22 ⟨rfl, rfl⟩
  go_wp2_with fail
  refine (next_zero bs gs cs n _ ss T1.out).mono ?_
  rintro e w22 ⟨rfl, d⟩
  replace sa := sa.below d
  replace ss := ss.below d
  replace T1 := hide (T1.out.below d W)
  replace D1 := D1.trans (d.mono D1.size)
  replace W : 0 < w22.heap.size := Nat.lt_of_lt_of_le hw0 D1.size
  clear d
  have HBx := hide ss.blt
  go_wp2_with fail
  refine (lminus_any ba ga ca n (X) ba ga ca (X) _ sa sa).mono ?_
  rintro e w23 ⟨bu, gu, cu, rfl, su, m1, m2, nu, d⟩
  replace sa := sa.below d
  replace ss := ss.below d
  replace T1 := hide (T1.out.below d W)
  replace D1 := D1.trans (d.mono D1.size)
  replace W : 0 < w23.heap.size := Nat.lt_of_lt_of_le hw0 D1.size
  have hq : bs ≠ bu := by have h1 := HBx.out; omega
  have HQ := hide hq
  clear d m1 m2 hq nu HBx
  go_wp2_with fail
  refine (lalike_eq bs gs cs n 0 bu gu cu (minusN X X) _ (minusN_self X).symm ss su T1.out HQ.out).mono ?_
  rintro e w24 ⟨rfl, d⟩
  replace sa := sa.below d
  replace ss := ss.below d
  replace su := su.below d
  replace T1 := hide (T1.out.below d W)
  replace D1 := D1.trans (d.mono D1.size)
  replace W : 0 < w24.heap.size := Nat.lt_of_lt_of_le hw0 D1.size
  go_wp2
  go_ret
  exact ⟨rfl, D1⟩

end Go.Proofs.YtdgmokelmocejabDoor
