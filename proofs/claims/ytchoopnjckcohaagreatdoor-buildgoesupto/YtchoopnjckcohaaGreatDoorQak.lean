import Derived.Test.YtchoopnjckcohaaGreatDoorCards
import Derived.Test.YtchoopnjckcohaaGreatDoorTie
import Derived.Test.YtchoopnjckcohaaGreatDoorQaj
import Derived.ProofKit
import Derived.OpenShut
import Derived.ShutString
import Derived.Deep.DeepHandedRow
import Derived.Lib.LaidTab
import Derived.Lib.SmallJoins
import Derived.ChangeOld
import Derived.Lay
import Derived.Deep.Slices
set_option maxRecDepth 100000
set_option maxHeartbeats 40000000
namespace Go.Proofs.YtchoopnjckcohaaGreatDoor
open Go.RowKit Go.Maps Go.Shelf
attribute [local go_sem] Oper.semAt_some
theorem ans_rd {f : Nat} {args : Array Value} {w : World} {r : Ans} (h : Calls Tryz.prog f args w (AnsO w r)) {rn rm : Int} {rs rf : List Int} {re : List EdT} {rr : Int} (hr : r = Ans.mk rn rm rs rf re rr) : Calls Tryz.prog f args w fun e w' => ∃ x1 y1 x2 y2 x3 y3, e = .returned (.tuple #[.agg #[.int .i64 rn, .int .i64 rm, .slice x1 rs.length y1, .slice x2 rf.length y2, .slice x3 re.length y3], .int .i64 rr]) ∧ Hid (RdA w' x1 x2 x3 rs rf re) ∧ Below w.heap.size w w' := by
 subst hr
 refine h.mono ?_
 rintro e w' ⟨x1, y1, x2, y2, x3, y3, rfl, HO, D⟩
 exact ⟨x1, y1, x2, y2, x3, y3, rfl, hide ⟨own_rdN HO.out.s, own_rdN HO.out.f, own_rdE HO.out.e⟩, D⟩
theorem ans_rdn {f : Nat} {args : Array Value} {w : World} {r : Ans} (h : Calls Tryz.prog f args w (AnsRN w r)) {rn rm : Int} {rs rf : List Int} {re : List EdT} {rr : Int} (hr : r = Ans.mk rn rm rs rf re rr) : Calls Tryz.prog f args w fun e w' => ∃ x1 y1 x2 y2 x3 y3, e = .returned (.tuple #[.agg #[.int .i64 rn, .int .i64 rm, .slice x1 rs.length y1, .slice x2 rf.length y2, .slice x3 re.length y3], .int .i64 rr]) ∧ Hid (RdA w' x1 x2 x3 rs rf re) ∧ Below w.heap.size w w' := by
 subst hr
 refine h.mono ?_
 rintro e w' ⟨x1, y1, x2, y2, x3, y3, rfl, HO, D⟩
 exact ⟨x1, y1, x2, y2, x3, y3, rfl, hide HO.out.rd, D⟩
theorem tgoes_any (w : World) (n m n' m' : Int) (a1 a2 a3 b1 b2 b3 aw av : Option Addr) (n1 n2 n3 l1 l2 l3 nw nv c1 c2 c3 d1 d2 d3 cw cv : Nat) (Sa Fa Wd Vd : List Int) (Ea : List EdT) (en : Hid (Sa.length = n1 ∧ Fa.length = n2 ∧ Ea.length = n3 ∧ Wd.length = nw ∧ Vd.length = nv)) (hA : Hid (RdA w a1 a2 a3 Sa Fa Ea)) (hU : Hid (RdN w aw Wd)) (hV : Hid (RdN w av Vd)) (h1 : n1 ≤ 1048576) (h2 : n2 ≤ 1048576) (h3 : n3 ≤ 1048576) (h7 : nw ≤ 1048576) (h8 : nv ≤ 1048576) (h78 : nw + nv ≤ 1048576) (hca : n3 ≤ c3) (zw : Hid (aw = none → cw = 0)) (zv : Hid (av = none → cv = 0)) (hT : Hid (TabAt w)) (h0 : 0 < w.heap.size) :
 Calls Tryz.prog 4 #[.agg #[.int .i64 n, .int .i64 m, .slice a1 n1 c1, .slice a2 n2 c2, .slice a3 n3 c3, .int .i64 n', .int .i64 m', .slice b1 l1 d1, .slice b2 l2 d2, .slice b3 l3 d3, .slice aw nw cw, .slice av nv cv]] w fun e w' => e = .returned (.bool true) ∧ Below w.heap.size w w' := by
 obtain ⟨W0, hW0⟩ : ∃ W0, w.alloc (.cells #[.int .i64 n, .int .i64 m, .slice a1 n1 c1, .slice a2 n2 c2, .slice a3 n3 c3, .int .i64 n', .int .i64 m', .slice b1 l1 d1, .slice b2 l2 d2, .slice b3 l3 d3, .slice aw nw cw, .slice av nv cv] 27) = W0 := ⟨_, rfl⟩
 have HB : Hid (W0.heap[w.heap.size]? = some (.cells #[.int .i64 n, .int .i64 m, .slice a1 n1 c1, .slice a2 n2 c2, .slice a3 n3 c3, .int .i64 n', .int .i64 m', .slice b1 l1 d1, .slice b2 l2 d2, .slice b3 l3 d3, .slice aw nw cw, .slice av nv cv] 27 (0, 0)) ∧ Below w.heap.size w W0) := hide (by rw [← hW0]; exact ⟨World.alloc_heap_new _ _, (Below.refl _ _).alloc (Nat.le_refl _) _⟩)
 have TL := lives_any W0
 go_enter Tryz.func4, Tryz.ntmps4
 go_upto_region 3 with (go_at_call 7; refine TL.mono ?_; rintro e wl ⟨rfl, DL⟩)
 have DK : Hid (Below W0.heap.size W0 wl) := hide DL
 clear TL DL hW0
 obtain ⟨y0, y1, y2, y3, y4, y5, y6, y7, y8, y9, y10, y11⟩ := zc12 (blk_on HB.out.1 DK.out)
 have HWB : Hid (Below w.heap.size w wl) := hide (HB.out.2.trans (DK.out.mono HB.out.2.size))
 have TV := rvalid_any wl n m a1 a2 a3 c1 c2 c3 Sa Fa Ea (hide (hA.out.on HWB.out)) (by have := en.out; omega) (by have := en.out; omega) (by have := en.out; omega)
 rw [en.out.1, en.out.2.1, en.out.2.2.1] at TV
 cases em : mayA n m Sa Fa Ea with
 | false =>
  rw [em] at TV
  have TV2 := TV
  simp only [Bool.false_eq_true, if_false] at TV2
  clear TV
  have hs : staA n m Sa Fa Ea = Ans.mk 0 0 [] [] [] 2 := by unfold staA; rw [if_neg (by rw [em]; simp)]; rfl
  have TS : Hid (∀ W, Below w.heap.size w W → Calls Tryz.prog 16 #[.agg #[.int .i64 n, .int .i64 m, .slice a1 n1 c1, .slice a2 n2 c2, .slice a3 n3 c3]] W fun e w' => ∃ x1 y1 x2 y2 x3 y3, e = .returned (.tuple #[.agg #[.int .i64 0, .int .i64 0, .slice x1 0 y1, .slice x2 0 y2, .slice x3 0 y3], .int .i64 2]) ∧ Below W.heap.size W w') := hide (fun W d => by
   have q := ans_rd (mk_sta W n m a1 a2 a3 c1 c2 c3 Sa Fa Ea (hide (hA.out.on d)) (by have := en.out; omega) (by have := en.out; omega) (by have := en.out; omega)) hs
   rw [en.out.1, en.out.2.1, en.out.2.2.1] at q
   exact q.mono fun e w' ⟨x1, y1, x2, y2, x3, y3, he, _, h⟩ => ⟨x1, y1, x2, y2, x3, y3, he, h⟩)
  go_wp2_with (first | (go_at_call 10; refine TV2.mono ?_; rintro e wv ⟨rfl, dV⟩; have HDV := hide (HWB.out.trans (dV.mono HWB.out.size)); obtain ⟨u0, u1, u2, u3, u4, u5, u6, u7, u8, u9, u10, u11⟩ := zc12 (blk_on HB.out.1 (DK.out.trans (dV.mono DK.out.size)))) | (go_at_call 16; refine (TS.out _ HDV.out).mono ?_; rintro e ws ⟨x1, y1, x2, y2, x3, y3, rfl, dS⟩; have HDS := hide (HDV.out.trans (dS.mono HDV.out.size))))
  go_ret
  exact ⟨rfl, HDS.out.trans (((Below.refl _ _).alloc (Nat.le_refl _) _).mono HDS.out.size)⟩
 | true =>
  have HEM := hide em
  rw [em] at TV
  have TV2 := TV
  simp only [if_true] at TV2
  clear TV em
  go_upto_region 7 with (go_at_call 10; refine TV2.mono ?_; rintro e wv ⟨rfl, dV⟩; have HDV := hide dV; obtain ⟨u0, u1, u2, u3, u4, u5, u6, u7, u8, u9, u10, u11⟩ := zc12 (blk_on HB.out.1 (DK.out.trans (dV.mono DK.out.size))); clear dV)
  have HC := HDV
  clear TV2 HDV HWB y0 y1 y2 y3 y4 y5 y6 y7 y8 y9 y10 y11 u0 u1 u2 u3 u4 u5 u6 u7 u8 u9 u10 u11
  replace DK : Hid (Below W0.heap.size W0 wv) := hide (DK.out.trans (HC.out.mono DK.out.size))
  clear HC
  obtain ⟨sw, hsw⟩ : ∃ b, Wd.all (inB m) = b := ⟨_, rfl⟩
  obtain ⟨sv, hsv⟩ : ∃ b, Vd.all (inB m) = b := ⟨_, rfl⟩
  have TY : Hid (∀ W, Below wv.heap.size wv W → Calls Tryz.prog 12 #[.slice aw nw cw, .int .i64 m] W fun e w' => e = .returned (.bool sw) ∧ Below W.heap.size W w') := hide (fun W d => by
   have q := lsyms_any W aw cw Wd m (hide (hU.out.on (HB.out.2.trans ((DK.out.trans (d.mono DK.out.size)).mono HB.out.2.size)))) (by have := en.out; omega)
   rw [en.out.2.2.2.1, hsw] at q
   exact q)
  have TZ : Hid (∀ W, Below wv.heap.size wv W → Calls Tryz.prog 12 #[.slice av nv cv, .int .i64 m] W fun e w' => e = .returned (.bool sv) ∧ Below W.heap.size W w') := hide (fun W d => by
   have q := lsyms_any W av cv Vd m (hide (hV.out.on (HB.out.2.trans ((DK.out.trans (d.mono DK.out.size)).mono HB.out.2.size)))) (by have := en.out; omega)
   rw [en.out.2.2.2.2, hsv] at q
   exact q)
  have HSW := hide hsw
  have HSV := hide hsv
  clear hsw hsv
  go_cut [59] from 50 to 59 (fun v W => v = .bool (sw && sv) ∧ Hid (Below wv.heap.size wv W))
  case first =>
   obtain ⟨y0, y1, y2, y3, y4, y5, y6, y7, y8, y9, y10, y11⟩ := zc12 (blk_on HB.out.1 DK.out)
   cases sw with
   | false =>
    go_wp2_with (go_at_call 12; refine (TY.out _ (Below.refl _ _)).mono ?_; rintro e wa ⟨rfl, dA⟩)
    go_meet
    exact ⟨rfl, hide dA⟩
   | true =>
    go_wp2_with (first | (go_at_call_of 12 aw; refine (TY.out _ (Below.refl _ _)).mono ?_; rintro e wa ⟨rfl, dA⟩; have HDA := hide dA; obtain ⟨u0, u1, u2, u3, u4, u5, u6, u7, u8, u9, u10, u11⟩ := zc12 (blk_on HB.out.1 (DK.out.trans (dA.mono DK.out.size)))) | (go_at_call_of 12 av; refine (TZ.out _ HDA.out).mono ?_; rintro e wb ⟨rfl, dB⟩))
    go_meet
    exact ⟨by simp, hide (HDA.out.trans (dB.mono HDA.out.size))⟩
  case rest =>
   rename World => W1
   obtain ⟨rfl, HC⟩ := hcut
   replace DK : Hid (Below W0.heap.size W0 W1) := hide (DK.out.trans (HC.out.mono DK.out.size))
   clear HC
   clear TY TZ
   go_upto_if 59 with fail
   go_cut [5] from 6 to 195 (fun v5 W => v5 = .int .i64 m ∧ Hid (Below W0.heap.size W0 W))
   case first =>
    cases hss : (sw && sv) with
    | false =>
     go_wp2_with fail
     go_meet
     exact ⟨rfl, DK⟩
    | true =>
     rw [Bool.and_eq_true] at hss
     obtain ⟨rfl, rfl⟩ := hss
     obtain ⟨rnk, rmk, rsk, rfk, rek, rrk, hrk⟩ : ∃ a b c d e f, lefA n m Sa Fa Ea Wd = Ans.mk a b c d e f := ⟨_, _, _, _, _, _, rfl⟩
     have HWB : Hid (Below w.heap.size w W1) := hide (HB.out.2.trans (DK.out.mono HB.out.2.size))
     have TM := ans_rd (mk_lef W1 n m a1 a2 a3 c1 c2 c3 Sa Fa Ea (hide (hA.out.on HWB.out)) (by have := en.out; omega) (by have := en.out; omega) (by have := en.out; omega) aw cw Wd (hide (hU.out.on HWB.out)) (by have := en.out; omega) (hide ⟨hT.out.below HWB.out h0, Nat.lt_of_lt_of_le h0 HWB.out.size⟩)) hrk
     rw [en.out.1, en.out.2.1, en.out.2.2.1, en.out.2.2.2.1] at TM
     have HEk := hide hrk
     clear hrk
     obtain ⟨y0, y1, y2, y3, y4, y5, y6, y7, y8, y9, y10, y11⟩ := zc12 (blk_on HB.out.1 DK.out)
     go_upto_region 9 with (go_at_call 17; refine TM.mono ?_; rintro e wk ⟨x1k, y1k, x2k, y2k, x3k, y3k, rfl, HOk, DQk⟩)
     clear TM y0 y1 y2 y3 y4 y5 y6 y7 y8 y9 y10 y11
     obtain ⟨Wk, hWk⟩ : ∃ W, wk.alloc (.cells #[.int .i64 rnk, .int .i64 rmk, .slice x1k rsk.length y1k, .slice x2k rfk.length y2k, .slice x3k rek.length y3k] 25) = W := ⟨_, rfl⟩
     obtain ⟨pk, hpk⟩ : ∃ p, wk.heap.size = p := ⟨_, rfl⟩
     have HXk : Hid (Wk.heap[pk]? = some (.cells #[.int .i64 rnk, .int .i64 rmk, .slice x1k rsk.length y1k, .slice x2k rfk.length y2k, .slice x3k rek.length y3k] 25 (0, 0)) ∧ RdA Wk x1k x2k x3k rsk rfk rek) := hide (by rw [← hWk, ← hpk]; exact ⟨World.alloc_heap_new _ _, HOk.out.on ((Below.refl _ _).alloc (Nat.le_refl _) _)⟩)
     have HC : Hid (Below W1.heap.size W1 Wk) := hide (by rw [← hWk]; exact DQk.trans (((Below.refl _ _).alloc (Nat.le_refl _) _).mono DQk.size))
     rw [hWk, hpk]
     clear hWk hpk HOk DQk HWB
     replace DK : Hid (Below W0.heap.size W0 Wk) := hide (DK.out.trans (HC.out.mono DK.out.size))
     clear HC
     have HLk : Hid (rsk.length ≤ 2000000 ∧ rfk.length ≤ 2000000 ∧ rek.length ≤ 2000000) := hide (by have q := lef_len n m Sa Fa Ea Wd 1048576 (by have := en.out; omega) (by have := en.out; omega) (by have := en.out; omega); rw [HEk.out] at q; have := en.out; dsimp only at q; omega)
     have HQk : Hid (n = rnk ∧ m = rmk ∧ aftL Ea (riseL Sa) Wd = rsk ∧ riseL Fa = rfk ∧ riseE Ea = rek ∧ 0 = rrk) := hide (by have q := (lef_is HEM.out HSW.out).symm.trans HEk.out; injection q with q1 q2 q3 q4 q5 q6; exact ⟨q1, q2, q3, q4, q5, q6⟩)
     obtain rfl : rrk = 0 := HQk.out.2.2.2.2.2.symm
     obtain ⟨rnj, rmj, rsj, rfj, rej, rrj, hrj⟩ : ∃ a b c d e f, lefA rnk rmk rsk rfk rek Vd = Ans.mk a b c d e f := ⟨_, _, _, _, _, _, rfl⟩
     have HWB : Hid (Below w.heap.size w Wk) := hide (HB.out.2.trans (DK.out.mono HB.out.2.size))
     have TM := ans_rd (mk_lef Wk rnk rmk x1k x2k x3k y1k y2k y3k rsk rfk rek (hide HXk.out.2) (by have := HLk.out; omega) (by have := HLk.out; omega) (by have := HLk.out; omega) av cv Vd (hide (hV.out.on HWB.out)) (by have := en.out; omega) (hide ⟨hT.out.below HWB.out h0, Nat.lt_of_lt_of_le h0 HWB.out.size⟩)) hrj
     rw [en.out.2.2.2.2] at TM
     have HEj := hide hrj
     clear hrj
     obtain ⟨y0, y1, y2, y3, y4, y5, y6, y7, y8, y9, y10, y11⟩ := zc12 (blk_on HB.out.1 DK.out)
     obtain ⟨zk0, zk1, zk2, zk3, zk4⟩ := zc5 HXk.out.1
     go_upto_region 10 with (go_at_call 17; refine TM.mono ?_; rintro e wj ⟨x1j, y1j, x2j, y2j, x3j, y3j, rfl, HOj, DQj⟩)
     clear TM y0 y1 y2 y3 y4 y5 y6 y7 y8 y9 y10 y11 zk0 zk1 zk2 zk3 zk4
     obtain ⟨Wj, hWj⟩ : ∃ W, wj.alloc (.cells #[.int .i64 rnj, .int .i64 rmj, .slice x1j rsj.length y1j, .slice x2j rfj.length y2j, .slice x3j rej.length y3j] 25) = W := ⟨_, rfl⟩
     obtain ⟨pj, hpj⟩ : ∃ p, wj.heap.size = p := ⟨_, rfl⟩
     have HXj : Hid (Wj.heap[pj]? = some (.cells #[.int .i64 rnj, .int .i64 rmj, .slice x1j rsj.length y1j, .slice x2j rfj.length y2j, .slice x3j rej.length y3j] 25 (0, 0)) ∧ RdA Wj x1j x2j x3j rsj rfj rej) := hide (by rw [← hWj, ← hpj]; exact ⟨World.alloc_heap_new _ _, HOj.out.on ((Below.refl _ _).alloc (Nat.le_refl _) _)⟩)
     have HC : Hid (Below Wk.heap.size Wk Wj) := hide (by rw [← hWj]; exact DQj.trans (((Below.refl _ _).alloc (Nat.le_refl _) _).mono DQj.size))
     rw [hWj, hpj]
     clear hWj hpj HOj DQj HWB
     replace DK : Hid (Below W0.heap.size W0 Wj) := hide (DK.out.trans (HC.out.mono DK.out.size))
     replace HXk := hide (And.intro (blk_on HXk.out.1 HC.out) (HXk.out.2.on HC.out))
     clear HC
     have HLj : Hid (rsj.length ≤ 2000000 ∧ rfj.length ≤ 2000000 ∧ rej.length ≤ 2000000) := hide (by have q := lef_len rnk rmk rsk rfk rek Vd 2000000 (by have := HLk.out; omega) (by have := HLk.out; omega) (by have := HLk.out; omega); rw [HEj.out] at q; have := en.out; dsimp only at q; omega)
     obtain ⟨rnx, rmx, rsx, rfx, rex, rrx, hrx⟩ : ∃ a b c d e f, lefA n m Sa Fa Ea (Wd ++ Vd) = Ans.mk a b c d e f := ⟨_, _, _, _, _, _, rfl⟩
     have HEx := hide hrx
     clear hrx
     have HLx : Hid (rsx.length ≤ 2000000 ∧ rfx.length ≤ 2000000 ∧ rex.length ≤ 2000000) := hide (by have q := lef_len n m Sa Fa Ea (Wd ++ Vd) 1048576 (by have := en.out; omega) (by have := en.out; omega) (by have := en.out; omega); rw [HEx.out] at q; have := en.out; dsimp only at q; omega)
     have HJX : Hid (rnj = rnx ∧ rmj = rmx ∧ rsj = rsx ∧ rfj = rfx ∧ rej = rex ∧ rrj = rrx ∧ rrx = 0) := hide (by
      have q := HEj.out
      obtain ⟨k1, k2, k3, k4, k5, _⟩ := HQk.out
      rw [← k1, ← k2, ← k3, ← k4, ← k5, lef_lef HEM.out HSW.out HSV.out, HEx.out] at q
      injection q with q1 q2 q3 q4 q5 q6
      have r := (lef_is HEM.out (all_app.2 ⟨HSW.out, HSV.out⟩)).symm.trans HEx.out
      injection r with _ _ _ _ _ r6
      exact ⟨q1.symm, q2.symm, q3.symm, q4.symm, q5.symm, q6.symm, r6.symm⟩)
     obtain rfl : rrj = rrx := HJX.out.2.2.2.2.2.1
     obtain rfl : rrj = 0 := HJX.out.2.2.2.2.2.2
     have TJ : Hid (∀ W, Below Wj.heap.size Wj W → Calls Tryz.prog 18 #[.slice aw nw cw, .slice av nv cv] W fun e w' => ∃ b c, e = .returned (.slice b (nw + nv) c) ∧ Hid (RdN w' b (Wd ++ Vd)) ∧ Below W.heap.size W w') := hide (fun W d => joined_any W aw av cw cv nw nv Wd Vd (hide ⟨en.out.2.2.2.1, en.out.2.2.2.2⟩) (hide (hU.out.on (HB.out.2.trans ((DK.out.trans (d.mono DK.out.size)).mono HB.out.2.size)))) (hide (hV.out.on (HB.out.2.trans ((DK.out.trans (d.mono DK.out.size)).mono HB.out.2.size)))) zw zv (by have := en.out; omega) (by have := en.out; omega))
     have TX : Hid (∀ W, Below Wj.heap.size Wj W → ∀ (ad : Option Addr) (c : Nat), RdN W ad (Wd ++ Vd) → Calls Tryz.prog 17 #[.slice ad (nw + nv) c, .agg #[.int .i64 n, .int .i64 m, .slice a1 n1 c1, .slice a2 n2 c2, .slice a3 n3 c3]] W (AnsO W ⟨rnx, rmx, rsx, rfx, rex, 0⟩)) := hide (fun W d ad c hr => by
      have q := mk_lef W n m a1 a2 a3 c1 c2 c3 Sa Fa Ea (hide (hA.out.on (HB.out.2.trans ((DK.out.trans (d.mono DK.out.size)).mono HB.out.2.size)))) (by have := en.out; omega) (by have := en.out; omega) (by have := en.out; omega) ad c (Wd ++ Vd) (hide hr) (by rw [List.length_append]; have := en.out; omega) (hide ⟨hT.out.below (HB.out.2.trans ((DK.out.trans (d.mono DK.out.size)).mono HB.out.2.size)) h0, Nat.lt_of_lt_of_le h0 (Below.size (HB.out.2.trans ((DK.out.trans (d.mono DK.out.size)).mono HB.out.2.size)))⟩)
      rw [en.out.1, en.out.2.1, en.out.2.2.1, List.length_append, en.out.2.2.2.1, en.out.2.2.2.2, HEx.out] at q
      exact q)
     go_upto_region 10 with fail
     go_cut [10, 11] from 75 to 85 (fun v10 v11 W => ∃ px x1x y1x x2x y2x x3x y3x, v10 = .pointer (some ⟨px, 0, none⟩) ∧ v11 = .int .i64 0 ∧ Hid (W.heap[px]? = some (.cells #[.int .i64 rnx, .int .i64 rmx, .slice x1x rsx.length y1x, .slice x2x rfx.length y2x, .slice x3x rex.length y3x] 25 (0, 0)) ∧ RdA W x1x x2x x3x rsx rfx rex ∧ Below Wj.heap.size Wj W))
     case first =>
      have hmo : MonIL 0 [vI 0 (.pointer (some ⟨w.heap.size, 10, none⟩)), vI 1 (.slice aw nw cw), vI 2 (.pointer (some ⟨w.heap.size, 11, none⟩)), vI 3 (.slice av nv cv), pI 4 (wdP (nw + nv) (Wd ++ Vd)), vI 5 (.pointer (some ⟨w.heap.size, 0, none⟩)), vI 6 (.agg #[.int .i64 n, .int .i64 m, .slice a1 n1 c1, .slice a2 n2 c2, .slice a3 n3 c3]), pI 7 (tupP Wj.heap.size ⟨rnx, rmx, rsx, rfx, rex, 0⟩), pI 8 (tupP Wj.heap.size ⟨rnx, rmx, rsx, rfx, rex, 0⟩), pI 9 (aggP Wj.heap.size ⟨rnx, rmx, rsx, rfx, rex, 0⟩), vI 10 (.int .i64 0), pI 11 (boxP), ⟨[11], [4, 11], fun y _ _ W => BxA Wj.heap.size ⟨rnx, rmx, rsx, rfx, rex, 0⟩ (y 11) W⟩] := ⟨vI_mono _ _, vI_mono _ _, vI_mono _ _, vI_mono _ _, pI_mono wdP_mono, vI_mono _ _, vI_mono _ _, pI_mono tupP_mono, pI_mono tupP_mono, pI_mono aggP_mono, vI_mono _ _, pI_mono boxP_mono, (fun _ _ _ _ _ _ _ d hy h => by dsimp only at hy h ⊢; rw [hy 11 (Or.inr (by simp))]; exact h.on d), trivial⟩
      refine wp_region_sl _ (by kernel_rfl) (by kernel_rfl) (by kernel_rfl) (by kernel_rfl) hmo ⟨?o0, ?o1, ?o2, ?o3, ?o4, ?o5, ?o6, ?o7, ?o8, ?o9, ?o10, ?o11, ?o12, trivial⟩ ?fin
      case o0 | o2 | o5 =>
       intro At yy W hy hb d hd K hK
       obtain ⟨s1, t1⟩ := zsh (hb 1 rfl) rfl
       clear hd hy hb
       go_simp
       exact zkq hK hmo d (if_pos rfl)
      case o1 =>
       intro At yy W hy hb d hd K hK
       obtain ⟨s76, t76⟩ := zsg 0 76 .data hy hd rfl
       clear hd hy hb
       obtain ⟨y0, y1, y2, y3, y4, y5, y6, y7, y8, y9, y10, y11⟩ := zc12 (blk_on HB.out.1 (DK.out.trans (d.mono DK.out.size)))
       go_simp
       exact zkq hK hmo d (if_pos rfl)
      case o3 =>
       intro At yy W hy hb d hd K hK
       obtain ⟨s78, t78⟩ := zsg 2 78 .data hy hd rfl
       clear hd hy hb
       obtain ⟨y0, y1, y2, y3, y4, y5, y6, y7, y8, y9, y10, y11⟩ := zc12 (blk_on HB.out.1 (DK.out.trans (d.mono DK.out.size)))
       go_simp
       exact zkq hK hmo d (if_pos rfl)
      case o4 =>
       intro At yy W hy hb d hd K hK
       obtain ⟨s77, t77⟩ := zsg 1 77 .data hy hd rfl
       obtain ⟨s79, t79⟩ := zsg 3 79 .data hy hd rfl
       clear hd hy hb
       go_simp
       go_wp2_with (go_at_call 18; refine (TJ.out _ d).mono ?_; rintro e wa ⟨ad, c, rfl, hR, dR⟩)
       exact hK.out _ wa (stp_of hmo d dR) ⟨ad, c, if_pos rfl, hR.out⟩
      case o6 =>
       intro At yy W hy hb d hd K hK
       obtain ⟨s81, t81⟩ := zsg 5 81 .data hy hd rfl
       clear hd hy hb
       obtain ⟨y0, y1, y2, y3, y4, y5, y6, y7, y8, y9, y10, y11⟩ := zc12 (blk_on HB.out.1 (DK.out.trans (d.mono DK.out.size)))
       go_simp
       exact zkq hK hmo d (if_pos rfl)
      case o7 =>
       intro At yy W hy hb d hd K hK
       have f4 := hd ⟨4, .data⟩ (by simp) rfl rfl
       obtain ⟨_, _, _, _, ad, c, e4, h4⟩ := f4
       obtain ⟨s80, t80⟩ := zsr (hy 4 _ 80 rfl rfl) e4
       obtain ⟨s82, t82⟩ := zsg 6 82 .data hy hd rfl
       clear hd hy hb
       go_simp
       go_wp2_with (go_at_call 17; refine (TX.out _ d ad c h4).mono ?_; rintro e wa ⟨k1, h1, k2, h2, k3, h3, rfl, O1, D1⟩)
       exact hK.out _ wa (stp_of hmo d D1) ⟨k1, h1, k2, h2, k3, h3, if_pos rfl, O1.out.down d.size⟩
      case o8 =>
       intro At yy W hy hb d hd K hK
       have f7 := hd ⟨7, .data⟩ (by simp) rfl rfl
       obtain ⟨_, _, _, _, k1, h1, k2, h2, k3, h3, e7, o7⟩ := f7
       obtain ⟨s83, t83⟩ := zsr (hy 7 _ 83 rfl rfl) e7
       clear hd hy hb
       go_simp
       exact zkq hK hmo d ⟨k1, h1, k2, h2, k3, h3, if_pos rfl, o7⟩
      case o9 =>
       intro At yy W hy hb d hd K hK
       have f8 := hd ⟨8, .data⟩ (by simp) rfl rfl
       obtain ⟨_, _, _, _, k1, h1, k2, h2, k3, h3, e8, o8⟩ := f8
       obtain ⟨s75, t75⟩ := zsr (hy 8 _ 75 rfl rfl) e8
       clear hd hy hb
       go_simp
       exact zkq hK hmo d ⟨k1, h1, k2, h2, k3, h3, if_pos rfl, o8⟩
      case o10 =>
       intro At yy W hy hb d hd K hK
       have f8 := hd ⟨8, .data⟩ (by simp) rfl rfl
       obtain ⟨_, _, _, _, k1, h1, k2, h2, k3, h3, e8, o8⟩ := f8
       obtain ⟨s75, t75⟩ := zsr (hy 8 _ 75 rfl rfl) e8
       clear hd hy hb
       go_simp
       exact zkq hK hmo d (if_pos rfl)
      case o11 =>
       intro At yy W hy hb d hd K hK
       clear hd hy hb
       go_simp
       exact hK.out _ _ (stp_of hmo d ((Below.refl _ _).alloc (Nat.le_refl _) _)) ⟨if_pos rfl, by simp, World.alloc_heap_new _ _⟩
      case o12 =>
       intro At yy W hy hb d hd K hK
       have f11 := hd ⟨11, .data⟩ (by simp) rfl rfl
       have f9 := hd ⟨9, .data⟩ (by simp) rfl rfl
       obtain ⟨l11, u11, q11, r11, e11, lt11, z11⟩ := f11
       obtain ⟨_, _, _, _, k1, h1, k2, h2, k3, h3, e9, o9⟩ := f9
       simp only at e9 o9
       obtain ⟨s10, t10⟩ := zsr (hy 11 _ 10 rfl rfl) e11
       obtain ⟨s84, t84⟩ := zsr (hy 9 _ 84 rfl rfl) e9
       clear hd hy hb
       obtain ⟨o0, o1, o2, o3, o4⟩ := zd5 z11 rfl rfl rfl rfl rfl
       have fz0 : W.frozen? ⟨l11, 0, none⟩ = false := fz_of z11
       have fz1 : W.frozen? ⟨l11, 1, none⟩ = false := fz_of z11
       have fz2 : W.frozen? ⟨l11, 2, none⟩ = false := fz_of z11
       have fz3 : W.frozen? ⟨l11, 3, none⟩ = false := fz_of z11
       have fz4 : W.frozen? ⟨l11, 4, none⟩ = false := fz_of z11
       have O6 := And.intro (set5 W l11 _ _ _ _ _ (.int .i64 rnx) (.int .i64 rmx) (.slice k1 rsx.length h1) (.slice k2 rfx.length h2) (.slice k3 rex.length h3) 25 z11) (only5 W l11 (.int .i64 rnx) (.int .i64 rmx) (.slice k1 rsx.length h1) (.slice k2 rfx.length h2) (.slice k3 rex.length h3))
       go_simp
       exact hK.out undef _ (stp_keeps [4, 11] rfl (d.trans (O6.2.toBelow d.size (fun k hk => by omega))) O6.2.size ⟨.inr (fun _ _ _ h => h), .inr (fun _ _ _ h => h), .inr (fun _ _ _ h => h), .inr (fun _ _ _ h => h), .inl (by simp), .inr (fun _ _ _ h => h), .inr (fun _ _ _ h => h), .inr (fun lo hi _ h => tupP_keep (lo := lo) (hi := hi) h z11 O6.2), .inr (fun lo hi _ h => tupP_keep (lo := lo) (hi := hi) h z11 O6.2), .inr (fun lo hi _ h => aggP_keep (lo := lo) (hi := hi) h z11 O6.2), .inr (fun _ _ _ h => h), .inl (by simp), .inl (by simp), trivial⟩) ⟨l11, k1, h1, k2, h2, k3, h3, by rw [show ∀ x, updV yy 12 x 11 = yy 11 from fun x => if_neg (by decide)]; exact e11, q11, O6.1, o9.keep z11 O6.2⟩
      case fin =>
       intro yy lo hi W hM
       show wpList _ _ _ [_] _ _
       have e10 := hM.v 10 (by simp) rfl rfl rfl
       have hB := hM.fact 12 (by simp) rfl (notR_all 12 rfl)
       replace hB : BxA Wj.heap.size ⟨rnx, rmx, rsx, rfx, rex, 0⟩ (yy 11) W := hB
       obtain ⟨px, k1, h1, k2, h2, k3, h3, e11, lp, zt, ot⟩ := hB
       have dd := hM.d
       simp only [fills, Act.put, List.take, List.length, List.setIfInBounds_toArray, List.set_cons_zero, List.set_cons_succ, e10, e11]
       clear hM hmo e10 e11
       simp only at zt ot
       go_wp2_with fail
       go_meet
       exact ⟨px, k1, h1, k2, h2, k3, h3, rfl, rfl, hide ⟨zt, ⟨own_rdN ot.s, own_rdN ot.f, own_rdE ot.e⟩, dd⟩⟩
     case rest =>
      rename World => W2
      obtain ⟨px, x1x, y1x, x2x, y2x, x3x, y3x, rfl, rfl, HXX⟩ := hcut
      have HC := hide HXX.out.2.2
      replace DK : Hid (Below W0.heap.size W0 W2) := hide (DK.out.trans (HC.out.mono DK.out.size))
      replace HXk := hide (And.intro (blk_on HXk.out.1 HC.out) (HXk.out.2.on HC.out))
      replace HXj := hide (And.intro (blk_on HXj.out.1 HC.out) (HXj.out.2.on HC.out))
      clear HC
      have HXx := hide (And.intro HXX.out.1 HXX.out.2.1)
      clear HXX TJ TX
      have TE : Hid (∀ W, Below W2.heap.size W2 W → Calls Tryz.prog 19 #[.agg #[.int .i64 rnj, .int .i64 rmj, .slice x1j rsj.length y1j, .slice x2j rfj.length y2j, .slice x3j rej.length y3j], .agg #[.int .i64 rnx, .int .i64 rmx, .slice x1x rsx.length y1x, .slice x2x rfx.length y2x, .slice x3x rex.length y3x]] W fun e w' => e = .returned (.bool true) ∧ Below W.heap.size W w') := hide (fun W d => by
       have q := requal_any W rnj rmj rnx rmx x1j x2j x3j x1x x2x x3x y1j y2j y3j y1x y2x y3x rsj rfj rej rsx rfx rex (hide (HXj.out.2.on d)) (hide (HXx.out.2.on d)) (by have := HLj.out; omega) (by have := HLj.out; omega) (by have := HLj.out; omega) (by have := HLx.out; omega) (by have := HLx.out; omega) (by have := HLx.out; omega)
       rw [show eqB rnj rmj rnx rmx rsj rfj rej rsx rfx rex = true from decide_eq_true (⟨HJX.out.1, HJX.out.2.1, HJX.out.2.2.1, HJX.out.2.2.2.1, HJX.out.2.2.2.2.1⟩)] at q
       exact q)
      obtain ⟨zj0, zj1, zj2, zj3, zj4⟩ := zc5 HXj.out.1
      obtain ⟨zx0, zx1, zx2, zx3, zx4⟩ := zc5 HXx.out.1
      go_upto_region 13 with (go_at_call 19; refine (TE.out _ (Below.refl _ _)).mono ?_; rintro e w3 ⟨rfl, D3⟩)
      have HC := hide D3
      clear TE D3 zj0 zj1 zj2 zj3 zj4 zx0 zx1 zx2 zx3 zx4
      replace DK : Hid (Below W0.heap.size W0 w3) := hide (DK.out.trans (HC.out.mono DK.out.size))
      replace HXk := hide (And.intro (blk_on HXk.out.1 HC.out) (HXk.out.2.on HC.out))
      replace HXj := hide (And.intro (blk_on HXj.out.1 HC.out) (HXj.out.2.on HC.out))
      replace HXx := hide (And.intro (blk_on HXx.out.1 HC.out) (HXx.out.2.on HC.out))
      clear HC
      clear HXk HEk HQk HLk
      clear HXj HEj HLj HJX
      clear HXx HEx HLx
      obtain ⟨rno, rmo, rso, rfo, reo, rro, hro⟩ : ∃ a b c d e f, onA Wd m = Ans.mk a b c d e f := ⟨_, _, _, _, _, _, rfl⟩
      have HWB : Hid (Below w.heap.size w w3) := hide (HB.out.2.trans (DK.out.mono HB.out.2.size))
      have TM := ans_rd (mk_one w3 aw cw Wd (hide (hU.out.on HWB.out)) (by have := en.out; omega) m) hro
      rw [en.out.2.2.2.1] at TM
      have HEo := hide hro
      clear hro
      obtain ⟨y0, y1, y2, y3, y4, y5, y6, y7, y8, y9, y10, y11⟩ := zc12 (blk_on HB.out.1 DK.out)
      go_upto_region 14 with (go_at_call 20; refine TM.mono ?_; rintro e wo ⟨x1o, y1o, x2o, y2o, x3o, y3o, rfl, HOo, DQo⟩)
      clear TM y0 y1 y2 y3 y4 y5 y6 y7 y8 y9 y10 y11
      obtain ⟨Wo, hWo⟩ : ∃ W, wo.alloc (.cells #[.int .i64 rno, .int .i64 rmo, .slice x1o rso.length y1o, .slice x2o rfo.length y2o, .slice x3o reo.length y3o] 25) = W := ⟨_, rfl⟩
      obtain ⟨po, hpo⟩ : ∃ p, wo.heap.size = p := ⟨_, rfl⟩
      have HXo : Hid (Wo.heap[po]? = some (.cells #[.int .i64 rno, .int .i64 rmo, .slice x1o rso.length y1o, .slice x2o rfo.length y2o, .slice x3o reo.length y3o] 25 (0, 0)) ∧ RdA Wo x1o x2o x3o rso rfo reo) := hide (by rw [← hWo, ← hpo]; exact ⟨World.alloc_heap_new _ _, HOo.out.on ((Below.refl _ _).alloc (Nat.le_refl _) _)⟩)
      have HC : Hid (Below w3.heap.size w3 Wo) := hide (by rw [← hWo]; exact DQo.trans (((Below.refl _ _).alloc (Nat.le_refl _) _).mono DQo.size))
      rw [hWo, hpo]
      clear hWo hpo HOo DQo HWB
      replace DK : Hid (Below W0.heap.size W0 Wo) := hide (DK.out.trans (HC.out.mono DK.out.size))
      clear HC
      have HLo : Hid (rso.length ≤ 2000000 ∧ rfo.length ≤ 2000000 ∧ reo.length ≤ 2000000) := hide (by have q := one_len Wd m; rw [HEo.out] at q; have := en.out; dsimp only at q; omega)
      obtain ⟨rnc, rmc, rsc, rfc, rec, rrc, hrc⟩ : ∃ a b c d e f, conA rno rmo n m rso rfo reo Sa Fa Ea = Ans.mk a b c d e f := ⟨_, _, _, _, _, _, rfl⟩
      have HWB : Hid (Below w.heap.size w Wo) := hide (HB.out.2.trans (DK.out.mono HB.out.2.size))
      have TM := ans_rd (mk_con Wo rno rmo x1o x2o x3o y1o y2o y3o rso rfo reo (hide HXo.out.2) (by have := HLo.out; omega) (by have := HLo.out; omega) (by have := HLo.out; omega) n m a1 a2 a3 c1 c2 c3 Sa Fa Ea (hide (hA.out.on HWB.out)) (by have := en.out; omega) (by have := en.out; omega) (by have := en.out; omega)) hrc
      rw [en.out.1, en.out.2.1, en.out.2.2.1] at TM
      have HEc := hide hrc
      clear hrc
      obtain ⟨y0, y1, y2, y3, y4, y5, y6, y7, y8, y9, y10, y11⟩ := zc12 (blk_on HB.out.1 DK.out)
      obtain ⟨zo0, zo1, zo2, zo3, zo4⟩ := zc5 HXo.out.1
      go_upto_region 15 with (go_at_call 21; refine TM.mono ?_; rintro e wc ⟨x1c, y1c, x2c, y2c, x3c, y3c, rfl, HOc, DQc⟩)
      clear TM y0 y1 y2 y3 y4 y5 y6 y7 y8 y9 y10 y11 zo0 zo1 zo2 zo3 zo4
      obtain ⟨Wc, hWc⟩ : ∃ W, wc.alloc (.cells #[.int .i64 rnc, .int .i64 rmc, .slice x1c rsc.length y1c, .slice x2c rfc.length y2c, .slice x3c rec.length y3c] 25) = W := ⟨_, rfl⟩
      obtain ⟨pc, hpc⟩ : ∃ p, wc.heap.size = p := ⟨_, rfl⟩
      have HXc : Hid (Wc.heap[pc]? = some (.cells #[.int .i64 rnc, .int .i64 rmc, .slice x1c rsc.length y1c, .slice x2c rfc.length y2c, .slice x3c rec.length y3c] 25 (0, 0)) ∧ RdA Wc x1c x2c x3c rsc rfc rec) := hide (by rw [← hWc, ← hpc]; exact ⟨World.alloc_heap_new _ _, HOc.out.on ((Below.refl _ _).alloc (Nat.le_refl _) _)⟩)
      have HC : Hid (Below Wo.heap.size Wo Wc) := hide (by rw [← hWc]; exact DQc.trans (((Below.refl _ _).alloc (Nat.le_refl _) _).mono DQc.size))
      rw [hWc, hpc]
      clear hWc hpc HOc DQc HWB
      replace DK : Hid (Below W0.heap.size W0 Wc) := hide (DK.out.trans (HC.out.mono DK.out.size))
      replace HXo := hide (And.intro (blk_on HXo.out.1 HC.out) (HXo.out.2.on HC.out))
      clear HC
      have HLc : Hid (rsc.length ≤ 2000000 ∧ rfc.length ≤ 2000000 ∧ rec.length ≤ 2000000) := hide (by have q := con_len rno rmo n m rso rfo reo Sa Fa Ea; rw [HEc.out] at q; have q2 := one_len Wd m; rw [HEo.out] at q2; have := en.out; dsimp only at q q2; omega)
      obtain ⟨rnf, rmf, rsf, rff, ref, rrf, hrf⟩ : ∃ a b c d e f, lefA rnc rmc rsc rfc rec Wd = Ans.mk a b c d e f := ⟨_, _, _, _, _, _, rfl⟩
      have HWB : Hid (Below w.heap.size w Wc) := hide (HB.out.2.trans (DK.out.mono HB.out.2.size))
      have TM := ans_rd (mk_lef Wc rnc rmc x1c x2c x3c y1c y2c y3c rsc rfc rec (hide HXc.out.2) (by have := HLc.out; omega) (by have := HLc.out; omega) (by have := HLc.out; omega) aw cw Wd (hide (hU.out.on HWB.out)) (by have := en.out; omega) (hide ⟨hT.out.below HWB.out h0, Nat.lt_of_lt_of_le h0 HWB.out.size⟩)) hrf
      rw [en.out.2.2.2.1] at TM
      have HEf := hide hrf
      clear hrf
      obtain ⟨y0, y1, y2, y3, y4, y5, y6, y7, y8, y9, y10, y11⟩ := zc12 (blk_on HB.out.1 DK.out)
      obtain ⟨zc0, zc1, zc2, zc3, zc4⟩ := zc5 HXc.out.1
      go_upto_region 16 with (go_at_call 17; refine TM.mono ?_; rintro e wf ⟨x1f, y1f, x2f, y2f, x3f, y3f, rfl, HOf, DQf⟩)
      clear TM y0 y1 y2 y3 y4 y5 y6 y7 y8 y9 y10 y11 zc0 zc1 zc2 zc3 zc4
      obtain ⟨Wf, hWf⟩ : ∃ W, wf.alloc (.cells #[.int .i64 rnf, .int .i64 rmf, .slice x1f rsf.length y1f, .slice x2f rff.length y2f, .slice x3f ref.length y3f] 25) = W := ⟨_, rfl⟩
      obtain ⟨pf, hpf⟩ : ∃ p, wf.heap.size = p := ⟨_, rfl⟩
      have HXf : Hid (Wf.heap[pf]? = some (.cells #[.int .i64 rnf, .int .i64 rmf, .slice x1f rsf.length y1f, .slice x2f rff.length y2f, .slice x3f ref.length y3f] 25 (0, 0)) ∧ RdA Wf x1f x2f x3f rsf rff ref) := hide (by rw [← hWf, ← hpf]; exact ⟨World.alloc_heap_new _ _, HOf.out.on ((Below.refl _ _).alloc (Nat.le_refl _) _)⟩)
      have HC : Hid (Below Wc.heap.size Wc Wf) := hide (by rw [← hWf]; exact DQf.trans (((Below.refl _ _).alloc (Nat.le_refl _) _).mono DQf.size))
      rw [hWf, hpf]
      clear hWf hpf HOf DQf HWB
      replace DK : Hid (Below W0.heap.size W0 Wf) := hide (DK.out.trans (HC.out.mono DK.out.size))
      replace HXo := hide (And.intro (blk_on HXo.out.1 HC.out) (HXo.out.2.on HC.out))
      replace HXc := hide (And.intro (blk_on HXc.out.1 HC.out) (HXc.out.2.on HC.out))
      clear HC
      have HLf : Hid (rsf.length ≤ 2000000 ∧ rff.length ≤ 2000000 ∧ ref.length ≤ 2000000) := hide (by have q := lef_len rnc rmc rsc rfc rec Wd 2000000 (by have := HLc.out; omega) (by have := HLc.out; omega) (by have := HLc.out; omega); rw [HEf.out] at q; have := en.out; dsimp only at q; omega)
      obtain ⟨va, hva⟩ : ∃ v, tkF n m Sa Fa Ea Vd = v := ⟨_, rfl⟩
      have HVA := hide hva
      clear hva
      obtain ⟨vf, hvf⟩ : ∃ v, tkF rnf rmf rsf rff ref Vd = v := ⟨_, rfl⟩
      have HVf : Hid (rro = 0 → rrc = 0 → vf = va) := hide (fun e1 e2 => by
       have q := (goes_con (n := n) (Sa := Sa) (Fa := Fa) (Ea := Ea) (V := Vd) HSW.out HEo.out e1 HEc.out e2).2
       rw [HEf.out, HVA.out] at q
       rw [← hvf]
       exact q)
      have TK : Hid (∀ W, Below Wf.heap.size Wf W → Calls Tryz.prog 11 #[.agg #[.int .i64 rnf, .int .i64 rmf, .slice x1f rsf.length y1f, .slice x2f rff.length y2f, .slice x3f ref.length y3f], .slice av nv cv] W fun e w' => e = .returned (.bool vf) ∧ Below W.heap.size W w') := hide (fun W d => by
       have q := ltakes_any W rnf rmf x1f x2f x3f y1f y2f y3f rsf rff ref av cv Vd (hide (HXf.out.2.on d)) (hide (hV.out.on (HB.out.2.trans ((DK.out.trans (d.mono DK.out.size)).mono HB.out.2.size)))) (by have := HLf.out; omega) (by have := HLf.out; omega) (by have := HLf.out; omega) (by have := en.out; omega)
       rw [en.out.2.2.2.2, hvf] at q
       exact q)
      clear hvf
      have TA : Hid (∀ W, Below Wf.heap.size Wf W → Calls Tryz.prog 11 #[.agg #[.int .i64 n, .int .i64 m, .slice a1 n1 c1, .slice a2 n2 c2, .slice a3 n3 c3], .slice av nv cv] W fun e w' => e = .returned (.bool va) ∧ Below W.heap.size W w') := hide (fun W d => by
       have q := ltakes_any W n m a1 a2 a3 c1 c2 c3 Sa Fa Ea av cv Vd (hide (hA.out.on (HB.out.2.trans ((DK.out.trans (d.mono DK.out.size)).mono HB.out.2.size)))) (hide (hV.out.on (HB.out.2.trans ((DK.out.trans (d.mono DK.out.size)).mono HB.out.2.size)))) (by have := en.out; omega) (by have := en.out; omega) (by have := en.out; omega) (by have := en.out; omega)
       rw [en.out.1, en.out.2.1, en.out.2.2.1, en.out.2.2.2.2, HVA.out] at q
       exact q)
      go_upto_region 16 with fail
      go_cut [140] from 123 to 140 (fun v W => v = .bool false ∧ Hid (Below Wf.heap.size Wf W))
      case first =>
       by_cases he1 : rro = 0
       · subst he1
         by_cases he2 : rrc = 0
         · subst he2
           obtain rfl : va = vf := (HVf.out rfl rfl).symm
           have hmo : MonIL 0 [vI 0 (.int .i64 0), vI 1 (.bool true), vI 2 (.bool true), vI 3 (.int .i64 0), vI 4 (.bool true), vI 5 (.bool true), vI 6 (.bool true), vI 7 (.agg #[.int .i64 rnf, .int .i64 rmf, .slice x1f rsf.length y1f, .slice x2f rff.length y2f, .slice x3f ref.length y3f]), vI 8 (.pointer (some ⟨w.heap.size, 11, none⟩)), vI 9 (.slice av nv cv), vI 10 (.bool va), vI 11 (.pointer (some ⟨w.heap.size, 0, none⟩)), vI 12 (.agg #[.int .i64 n, .int .i64 m, .slice a1 n1 c1, .slice a2 n2 c2, .slice a3 n3 c3]), vI 13 (.pointer (some ⟨w.heap.size, 11, none⟩)), vI 14 (.slice av nv cv), vI 15 (.bool va), vI 16 (.bool false), vI 17 (.bool false)] := ⟨vI_mono _ _, vI_mono _ _, vI_mono _ _, vI_mono _ _, vI_mono _ _, vI_mono _ _, vI_mono _ _, vI_mono _ _, vI_mono _ _, vI_mono _ _, vI_mono _ _, vI_mono _ _, vI_mono _ _, vI_mono _ _, vI_mono _ _, vI_mono _ _, vI_mono _ _, vI_mono _ _, trivial⟩
           refine wp_region_sl _ (by kernel_rfl) (by kernel_rfl) (by kernel_rfl) (by kernel_rfl) hmo ⟨?o0, ?o1, ?o2, ?o3, ?o4, ?o5, ?o6, ?o7, ?o8, ?o9, ?o10, ?o11, ?o12, ?o13, ?o14, ?o15, ?o16, ?o17, trivial⟩ ?fin
           case o0 =>
            intro At yy W hy hb d hd K hK
            obtain ⟨s13, t13⟩ := zsh (hb 13 rfl) rfl
            clear hd hy hb
            go_simp
            exact zkq hK hmo d (if_pos rfl)
           case o1 =>
            intro At yy W hy hb d hd K hK
            obtain ⟨s123, t123⟩ := zsg 0 123 .data hy hd rfl
            clear hd hy hb
            go_simp
            exact zkq hK hmo d (if_pos rfl)
           case o2 =>
            intro At yy W hy hb d hd K hK
            obtain ⟨s124, t124⟩ := zsg 1 124 .data hy hd rfl
            clear hd hy hb
            go_simp
            exact zkq hK hmo d (if_pos rfl)
           case o3 =>
            intro At yy W hy hb d hd K hK
            obtain ⟨s15, t15⟩ := zsh (hb 15 rfl) rfl
            have g125 := zgd 2 125 hy hd rfl
            clear hd hy hb
            go_simp
            exact zkq hK hmo d (if_pos rfl)
           case o4 =>
            intro At yy W hy hb d hd K hK
            obtain ⟨s126, t126⟩ := zsg 3 126 .data hy hd rfl
            have g125 := zgd 2 125 hy hd rfl
            clear hd hy hb
            go_simp
            exact zkq hK hmo d (if_pos rfl)
           case o5 =>
            intro At yy W hy hb d hd K hK
            obtain ⟨s125, t125⟩ := zsg 2 125 .data hy hd rfl
            obtain ⟨s127, t127⟩ := zsg 4 127 .data hy hd rfl
            clear hd hy hb
            go_simp
            exact zkq hK hmo d (if_pos rfl)
           case o6 =>
            intro At yy W hy hb d hd K hK
            obtain ⟨s128, t128⟩ := zsg 5 128 .data hy hd rfl
            clear hd hy hb
            go_simp
            exact zkq hK hmo d (if_pos rfl)
           case o7 =>
            intro At yy W hy hb d hd K hK
            obtain ⟨s16, t16⟩ := zsh (hb 16 rfl) rfl
            have g129 := zgd 6 129 hy hd rfl
            clear hd hy hb
            obtain ⟨z0, z1, z2, z3, z4⟩ := zc5 (blk_on HXf.out.1 d)
            go_simp
            exact zkq hK hmo d (if_pos rfl)
           case o8 | o11 | o13 =>
            intro At yy W hy hb d hd K hK
            obtain ⟨s1, t1⟩ := zsh (hb 1 rfl) rfl
            have g129 := zgd 6 129 hy hd rfl
            clear hd hy hb
            go_simp
            exact zkq hK hmo d (if_pos rfl)
           case o9 =>
            intro At yy W hy hb d hd K hK
            obtain ⟨s131, t131⟩ := zsg 8 131 .data hy hd rfl
            have g129 := zgd 6 129 hy hd rfl
            clear hd hy hb
            obtain ⟨y0, y1, y2, y3, y4, y5, y6, y7, y8, y9, y10, y11⟩ := zc12 (blk_on HB.out.1 (DK.out.trans (d.mono DK.out.size)))
            go_simp
            exact zkq hK hmo d (if_pos rfl)
           case o10 =>
            intro At yy W hy hb d hd K hK
            obtain ⟨s130, t130⟩ := zsg 7 130 .data hy hd rfl
            obtain ⟨s132, t132⟩ := zsg 9 132 .data hy hd rfl
            have g129 := zgd 6 129 hy hd rfl
            clear hd hy hb
            go_simp
            go_wp2_with (go_at_call 11; refine (TK.out _ d).mono ?_; rintro e wa ⟨rfl, dR⟩)
            exact hK.out _ wa (stp_of hmo d dR) (if_pos rfl)
           case o12 =>
            intro At yy W hy hb d hd K hK
            obtain ⟨s134, t134⟩ := zsg 11 134 .data hy hd rfl
            have g129 := zgd 6 129 hy hd rfl
            clear hd hy hb
            obtain ⟨y0, y1, y2, y3, y4, y5, y6, y7, y8, y9, y10, y11⟩ := zc12 (blk_on HB.out.1 (DK.out.trans (d.mono DK.out.size)))
            go_simp
            exact zkq hK hmo d (if_pos rfl)
           case o14 =>
            intro At yy W hy hb d hd K hK
            obtain ⟨s136, t136⟩ := zsg 13 136 .data hy hd rfl
            have g129 := zgd 6 129 hy hd rfl
            clear hd hy hb
            obtain ⟨y0, y1, y2, y3, y4, y5, y6, y7, y8, y9, y10, y11⟩ := zc12 (blk_on HB.out.1 (DK.out.trans (d.mono DK.out.size)))
            go_simp
            exact zkq hK hmo d (if_pos rfl)
           case o15 =>
            intro At yy W hy hb d hd K hK
            obtain ⟨s135, t135⟩ := zsg 12 135 .data hy hd rfl
            obtain ⟨s137, t137⟩ := zsg 14 137 .data hy hd rfl
            have g129 := zgd 6 129 hy hd rfl
            clear hd hy hb
            go_simp
            go_wp2_with (go_at_call 11; refine (TA.out _ d).mono ?_; rintro e wa ⟨rfl, dR⟩)
            exact hK.out _ wa (stp_of hmo d dR) (if_pos rfl)
           case o16 =>
            intro At yy W hy hb d hd K hK
            obtain ⟨s133, t133⟩ := zsg 10 133 .data hy hd rfl
            obtain ⟨s138, t138⟩ := zsg 15 138 .data hy hd rfl
            have g129 := zgd 6 129 hy hd rfl
            clear hd hy hb
            go_simp
            exact zkq hK hmo d (if_pos rfl)
           case o17 =>
            intro At yy W hy hb d hd K hK
            obtain ⟨s129, t129⟩ := zsg 6 129 .data hy hd rfl
            obtain ⟨s139, t139⟩ := zsg 16 139 .data hy hd rfl
            clear hd hy hb
            go_simp
            exact zkq hK hmo d (if_pos rfl)
           case fin =>
            intro yy lo hi W hM
            show wpList _ _ _ [] _ _
            have e17 := hM.v 17 (by simp) rfl rfl rfl
            have DW := hide hM.d
            simp only [fills, Act.put, List.take, List.length, List.setIfInBounds_toArray, List.set_cons_zero, List.set_cons_succ, e17]
            clear hM hmo e17
            go_wp2_with fail
            go_meet
            exact ⟨rfl, DW⟩
         · have heb : (rrc == 0) = false := by simp [he2]
           have hmo : MonIL 0 [vI 0 (.int .i64 0), vI 1 (.bool true), vI 2 (.bool true), vI 3 (.int .i64 rrc), vI 4 (.bool false), vI 5 (.bool false), vI 6 (.bool false), vI 7 undef, vI 8 undef, vI 9 undef, vI 10 undef, vI 11 undef, vI 12 undef, vI 13 undef, vI 14 undef, vI 15 undef, vI 16 undef, vI 17 (.bool false)] := ⟨vI_mono _ _, vI_mono _ _, vI_mono _ _, vI_mono _ _, vI_mono _ _, vI_mono _ _, vI_mono _ _, vI_mono _ _, vI_mono _ _, vI_mono _ _, vI_mono _ _, vI_mono _ _, vI_mono _ _, vI_mono _ _, vI_mono _ _, vI_mono _ _, vI_mono _ _, vI_mono _ _, trivial⟩
           refine wp_region_sl _ (by kernel_rfl) (by kernel_rfl) (by kernel_rfl) (by kernel_rfl) hmo ⟨?o0, ?o1, ?o2, ?o3, ?o4, ?o5, ?o6, ?o7, ?o8, ?o9, ?o10, ?o11, ?o12, ?o13, ?o14, ?o15, ?o16, ?o17, trivial⟩ ?fin
           case o0 =>
            intro At yy W hy hb d hd K hK
            obtain ⟨s13, t13⟩ := zsh (hb 13 rfl) rfl
            clear hd hy hb
            go_simp
            exact zkq hK hmo d (if_pos rfl)
           case o1 =>
            intro At yy W hy hb d hd K hK
            obtain ⟨s123, t123⟩ := zsg 0 123 .data hy hd rfl
            clear hd hy hb
            go_simp
            exact zkq hK hmo d (if_pos rfl)
           case o2 =>
            intro At yy W hy hb d hd K hK
            obtain ⟨s124, t124⟩ := zsg 1 124 .data hy hd rfl
            clear hd hy hb
            go_simp
            exact zkq hK hmo d (if_pos rfl)
           case o3 =>
            intro At yy W hy hb d hd K hK
            obtain ⟨s15, t15⟩ := zsh (hb 15 rfl) rfl
            have g125 := zgd 2 125 hy hd rfl
            clear hd hy hb
            go_simp
            exact zkq hK hmo d (if_pos rfl)
           case o4 =>
            intro At yy W hy hb d hd K hK
            obtain ⟨s126, t126⟩ := zsg 3 126 .data hy hd rfl
            have g125 := zgd 2 125 hy hd rfl
            clear hd hy hb
            go_simp
            exact zkq hK hmo d (if_pos rfl)
           case o5 =>
            intro At yy W hy hb d hd K hK
            obtain ⟨s125, t125⟩ := zsg 2 125 .data hy hd rfl
            obtain ⟨s127, t127⟩ := zsg 4 127 .data hy hd rfl
            clear hd hy hb
            go_simp
            exact zkq hK hmo d (if_pos rfl)
           case o6 =>
            intro At yy W hy hb d hd K hK
            obtain ⟨s128, t128⟩ := zsg 5 128 .data hy hd rfl
            clear hd hy hb
            go_simp
            exact zkq hK hmo d (if_pos rfl)
           case o7 | o8 | o9 | o10 | o11 | o12 | o13 | o14 | o15 | o16 =>
            intro At yy W hy hb d hd K hK
            have g129 := zgd 6 129 hy hd rfl
            clear hd hy hb
            go_simp
            exact zkq hK hmo d (if_pos rfl)
           case o17 =>
            intro At yy W hy hb d hd K hK
            obtain ⟨s129, t129⟩ := zsg 6 129 .data hy hd rfl
            obtain ⟨s139, t139⟩ := zsg 16 139 .data hy hd rfl
            clear hd hy hb
            go_simp
            exact zkq hK hmo d (if_pos rfl)
           case fin =>
            intro yy lo hi W hM
            show wpList _ _ _ [] _ _
            have e17 := hM.v 17 (by simp) rfl rfl rfl
            have DW := hide hM.d
            simp only [fills, Act.put, List.take, List.length, List.setIfInBounds_toArray, List.set_cons_zero, List.set_cons_succ, e17]
            clear hM hmo e17
            go_wp2_with fail
            go_meet
            exact ⟨rfl, DW⟩
       · have heb : (rro == 0) = false := by simp [he1]
         have hmo : MonIL 0 [vI 0 (.int .i64 rro), vI 1 (.bool false), vI 2 (.bool false), vI 3 undef, vI 4 undef, vI 5 (.bool false), vI 6 (.bool false), vI 7 undef, vI 8 undef, vI 9 undef, vI 10 undef, vI 11 undef, vI 12 undef, vI 13 undef, vI 14 undef, vI 15 undef, vI 16 undef, vI 17 (.bool false)] := ⟨vI_mono _ _, vI_mono _ _, vI_mono _ _, vI_mono _ _, vI_mono _ _, vI_mono _ _, vI_mono _ _, vI_mono _ _, vI_mono _ _, vI_mono _ _, vI_mono _ _, vI_mono _ _, vI_mono _ _, vI_mono _ _, vI_mono _ _, vI_mono _ _, vI_mono _ _, vI_mono _ _, trivial⟩
         refine wp_region_sl _ (by kernel_rfl) (by kernel_rfl) (by kernel_rfl) (by kernel_rfl) hmo ⟨?o0, ?o1, ?o2, ?o3, ?o4, ?o5, ?o6, ?o7, ?o8, ?o9, ?o10, ?o11, ?o12, ?o13, ?o14, ?o15, ?o16, ?o17, trivial⟩ ?fin
         case o0 =>
          intro At yy W hy hb d hd K hK
          obtain ⟨s13, t13⟩ := zsh (hb 13 rfl) rfl
          clear hd hy hb
          go_simp
          exact zkq hK hmo d (if_pos rfl)
         case o1 =>
          intro At yy W hy hb d hd K hK
          obtain ⟨s123, t123⟩ := zsg 0 123 .data hy hd rfl
          clear hd hy hb
          go_simp
          exact zkq hK hmo d (if_pos rfl)
         case o2 =>
          intro At yy W hy hb d hd K hK
          obtain ⟨s124, t124⟩ := zsg 1 124 .data hy hd rfl
          clear hd hy hb
          go_simp
          exact zkq hK hmo d (if_pos rfl)
         case o3 | o4 =>
          intro At yy W hy hb d hd K hK
          have g125 := zgd 2 125 hy hd rfl
          clear hd hy hb
          go_simp
          exact zkq hK hmo d (if_pos rfl)
         case o5 =>
          intro At yy W hy hb d hd K hK
          obtain ⟨s125, t125⟩ := zsg 2 125 .data hy hd rfl
          obtain ⟨s127, t127⟩ := zsg 4 127 .data hy hd rfl
          clear hd hy hb
          go_simp
          exact zkq hK hmo d (if_pos rfl)
         case o6 =>
          intro At yy W hy hb d hd K hK
          obtain ⟨s128, t128⟩ := zsg 5 128 .data hy hd rfl
          clear hd hy hb
          go_simp
          exact zkq hK hmo d (if_pos rfl)
         case o7 | o8 | o9 | o10 | o11 | o12 | o13 | o14 | o15 | o16 =>
          intro At yy W hy hb d hd K hK
          have g129 := zgd 6 129 hy hd rfl
          clear hd hy hb
          go_simp
          exact zkq hK hmo d (if_pos rfl)
         case o17 =>
          intro At yy W hy hb d hd K hK
          obtain ⟨s129, t129⟩ := zsg 6 129 .data hy hd rfl
          obtain ⟨s139, t139⟩ := zsg 16 139 .data hy hd rfl
          clear hd hy hb
          go_simp
          exact zkq hK hmo d (if_pos rfl)
         case fin =>
          intro yy lo hi W hM
          show wpList _ _ _ [] _ _
          have e17 := hM.v 17 (by simp) rfl rfl rfl
          have DW := hide hM.d
          simp only [fills, Act.put, List.take, List.length, List.setIfInBounds_toArray, List.set_cons_zero, List.set_cons_succ, e17]
          clear hM hmo e17
          go_wp2_with fail
          go_meet
          exact ⟨rfl, DW⟩
      case rest =>
       rename World => W4
       obtain ⟨rfl, HC⟩ := hcut
       replace DK : Hid (Below W0.heap.size W0 W4) := hide (DK.out.trans (HC.out.mono DK.out.size))
       replace HXo := hide (And.intro (blk_on HXo.out.1 HC.out) (HXo.out.2.on HC.out))
       replace HXc := hide (And.intro (blk_on HXc.out.1 HC.out) (HXc.out.2.on HC.out))
       replace HXf := hide (And.intro (blk_on HXf.out.1 HC.out) (HXf.out.2.on HC.out))
       clear HC
       clear HXo HEo HLo
       clear HXc HEc HLc
       clear HXf HEf HLf HVf TK TA
       obtain ⟨rns, rms, rss, rfs, res, rrs, hrs⟩ : ∃ a b c d e f, staA n m Sa Fa Ea = Ans.mk a b c d e f := ⟨_, _, _, _, _, _, rfl⟩
       have HWB : Hid (Below w.heap.size w W4) := hide (HB.out.2.trans (DK.out.mono HB.out.2.size))
       have TM := ans_rd (mk_sta W4 n m a1 a2 a3 c1 c2 c3 Sa Fa Ea (hide (hA.out.on HWB.out)) (by have := en.out; omega) (by have := en.out; omega) (by have := en.out; omega)) hrs
       rw [en.out.1, en.out.2.1, en.out.2.2.1] at TM
       have HEs := hide hrs
       clear hrs
       obtain ⟨y0, y1, y2, y3, y4, y5, y6, y7, y8, y9, y10, y11⟩ := zc12 (blk_on HB.out.1 DK.out)
       go_upto_region 19 with (go_at_call 16; refine TM.mono ?_; rintro e ws ⟨x1s, y1s, x2s, y2s, x3s, y3s, rfl, HOs, DQs⟩)
       clear TM y0 y1 y2 y3 y4 y5 y6 y7 y8 y9 y10 y11
       obtain ⟨Ws, hWs⟩ : ∃ W, ws.alloc (.cells #[.int .i64 rns, .int .i64 rms, .slice x1s rss.length y1s, .slice x2s rfs.length y2s, .slice x3s res.length y3s] 25) = W := ⟨_, rfl⟩
       obtain ⟨ps, hps⟩ : ∃ p, ws.heap.size = p := ⟨_, rfl⟩
       have HXs : Hid (Ws.heap[ps]? = some (.cells #[.int .i64 rns, .int .i64 rms, .slice x1s rss.length y1s, .slice x2s rfs.length y2s, .slice x3s res.length y3s] 25 (0, 0)) ∧ RdA Ws x1s x2s x3s rss rfs res) := hide (by rw [← hWs, ← hps]; exact ⟨World.alloc_heap_new _ _, HOs.out.on ((Below.refl _ _).alloc (Nat.le_refl _) _)⟩)
       have HC : Hid (Below W4.heap.size W4 Ws) := hide (by rw [← hWs]; exact DQs.trans (((Below.refl _ _).alloc (Nat.le_refl _) _).mono DQs.size))
       rw [hWs, hps]
       clear hWs hps HOs DQs HWB
       replace DK : Hid (Below W0.heap.size W0 Ws) := hide (DK.out.trans (HC.out.mono DK.out.size))
       clear HC
       have HLs : Hid (rss.length ≤ 2000000 ∧ rfs.length ≤ 2000000 ∧ res.length ≤ 2000000) := hide (by have q := sta_len n m Sa Fa Ea; rw [HEs.out] at q; have := en.out; dsimp only at q; omega)
       obtain ⟨rnh, rmh, rsh, rfh, reh, rrh, hrh⟩ : ∃ a b c d e f, staA rns rms rss rfs res = Ans.mk a b c d e f := ⟨_, _, _, _, _, _, rfl⟩
       have HWB : Hid (Below w.heap.size w Ws) := hide (HB.out.2.trans (DK.out.mono HB.out.2.size))
       have TM := ans_rd (mk_sta Ws rns rms x1s x2s x3s y1s y2s y3s rss rfs res (hide HXs.out.2) (by have := HLs.out; omega) (by have := HLs.out; omega) (by have := HLs.out; omega)) hrh
       have HEh := hide hrh
       clear hrh
       obtain ⟨y0, y1, y2, y3, y4, y5, y6, y7, y8, y9, y10, y11⟩ := zc12 (blk_on HB.out.1 DK.out)
       obtain ⟨zs0, zs1, zs2, zs3, zs4⟩ := zc5 HXs.out.1
       go_upto_region 20 with (go_at_call 16; refine TM.mono ?_; rintro e wh ⟨x1h, y1h, x2h, y2h, x3h, y3h, rfl, HOh, DQh⟩)
       clear TM y0 y1 y2 y3 y4 y5 y6 y7 y8 y9 y10 y11 zs0 zs1 zs2 zs3 zs4
       obtain ⟨Wh, hWh⟩ : ∃ W, wh.alloc (.cells #[.int .i64 rnh, .int .i64 rmh, .slice x1h rsh.length y1h, .slice x2h rfh.length y2h, .slice x3h reh.length y3h] 25) = W := ⟨_, rfl⟩
       obtain ⟨ph, hph⟩ : ∃ p, wh.heap.size = p := ⟨_, rfl⟩
       have HXh : Hid (Wh.heap[ph]? = some (.cells #[.int .i64 rnh, .int .i64 rmh, .slice x1h rsh.length y1h, .slice x2h rfh.length y2h, .slice x3h reh.length y3h] 25 (0, 0)) ∧ RdA Wh x1h x2h x3h rsh rfh reh) := hide (by rw [← hWh, ← hph]; exact ⟨World.alloc_heap_new _ _, HOh.out.on ((Below.refl _ _).alloc (Nat.le_refl _) _)⟩)
       have HC : Hid (Below Ws.heap.size Ws Wh) := hide (by rw [← hWh]; exact DQh.trans (((Below.refl _ _).alloc (Nat.le_refl _) _).mono DQh.size))
       rw [hWh, hph]
       clear hWh hph HOh DQh HWB
       replace DK : Hid (Below W0.heap.size W0 Wh) := hide (DK.out.trans (HC.out.mono DK.out.size))
       replace HXs := hide (And.intro (blk_on HXs.out.1 HC.out) (HXs.out.2.on HC.out))
       clear HC
       have HLh : Hid (rsh.length ≤ 4000000 ∧ rfh.length ≤ 4000000 ∧ reh.length ≤ 4000000) := hide (by have q := sta_len rns rms rss rfs res; rw [HEh.out] at q; have := HLs.out; dsimp only at q; omega)
       obtain ⟨vs, hvs⟩ : ∃ v, tkF rns rms rss rfs res Vd = v := ⟨_, rfl⟩
       obtain ⟨vh, hvh⟩ : ∃ v, tkF rnh rmh rsh rfh reh Vd = v := ⟨_, rfl⟩
       have HVs : Hid (rrs = 0 → rrh = 0 → vs = vh) := hide (fun e1 e2 => by
        have q := goes_sta HSV.out HEs.out e1 HEh.out e2
        rw [← hvs, ← hvh]
        exact q)
       have TK : Hid (∀ W, Below Wh.heap.size Wh W → Calls Tryz.prog 11 #[.agg #[.int .i64 rns, .int .i64 rms, .slice x1s rss.length y1s, .slice x2s rfs.length y2s, .slice x3s res.length y3s], .slice av nv cv] W fun e w' => e = .returned (.bool vs) ∧ Below W.heap.size W w') := hide (fun W d => by
        have q := ltakes_any W rns rms x1s x2s x3s y1s y2s y3s rss rfs res av cv Vd (hide (HXs.out.2.on d)) (hide (hV.out.on (HB.out.2.trans ((DK.out.trans (d.mono DK.out.size)).mono HB.out.2.size)))) (by have := HLs.out; omega) (by have := HLs.out; omega) (by have := HLs.out; omega) (by have := en.out; omega)
        rw [en.out.2.2.2.2, hvs] at q
        exact q)
       have TK2 : Hid (∀ W, Below Wh.heap.size Wh W → Calls Tryz.prog 11 #[.agg #[.int .i64 rnh, .int .i64 rmh, .slice x1h rsh.length y1h, .slice x2h rfh.length y2h, .slice x3h reh.length y3h], .slice av nv cv] W fun e w' => e = .returned (.bool vh) ∧ Below W.heap.size W w') := hide (fun W d => by
        have q := ltakes_any W rnh rmh x1h x2h x3h y1h y2h y3h rsh rfh reh av cv Vd (hide (HXh.out.2.on d)) (hide (hV.out.on (HB.out.2.trans ((DK.out.trans (d.mono DK.out.size)).mono HB.out.2.size)))) (by have := HLh.out; omega) (by have := HLh.out; omega) (by have := HLh.out; omega) (by have := en.out; omega)
        rw [en.out.2.2.2.2, hvh] at q
        exact q)
       clear hvs hvh
       go_upto_region 20 with fail
       go_cut [168] from 152 to 168 (fun v W => v = .bool false ∧ Hid (Below Wh.heap.size Wh W))
       case first =>
        by_cases he1 : rrs = 0
        · subst he1
          by_cases he2 : rrh = 0
          · subst he2
            obtain rfl : vs = vh := HVs.out rfl rfl
            have hmo : MonIL 0 [vI 0 (.int .i64 0), vI 1 (.bool true), vI 2 (.bool true), vI 3 (.int .i64 0), vI 4 (.bool true), vI 5 (.bool true), vI 6 (.bool true), vI 7 (.agg #[.int .i64 rns, .int .i64 rms, .slice x1s rss.length y1s, .slice x2s rfs.length y2s, .slice x3s res.length y3s]), vI 8 (.pointer (some ⟨w.heap.size, 11, none⟩)), vI 9 (.slice av nv cv), vI 10 (.bool vs), vI 11 (.agg #[.int .i64 rnh, .int .i64 rmh, .slice x1h rsh.length y1h, .slice x2h rfh.length y2h, .slice x3h reh.length y3h]), vI 12 (.pointer (some ⟨w.heap.size, 11, none⟩)), vI 13 (.slice av nv cv), vI 14 (.bool vs), vI 15 (.bool false), vI 16 (.bool false)] := ⟨vI_mono _ _, vI_mono _ _, vI_mono _ _, vI_mono _ _, vI_mono _ _, vI_mono _ _, vI_mono _ _, vI_mono _ _, vI_mono _ _, vI_mono _ _, vI_mono _ _, vI_mono _ _, vI_mono _ _, vI_mono _ _, vI_mono _ _, vI_mono _ _, vI_mono _ _, trivial⟩
            refine wp_region_sl _ (by kernel_rfl) (by kernel_rfl) (by kernel_rfl) (by kernel_rfl) hmo ⟨?o0, ?o1, ?o2, ?o3, ?o4, ?o5, ?o6, ?o7, ?o8, ?o9, ?o10, ?o11, ?o12, ?o13, ?o14, ?o15, ?o16, trivial⟩ ?fin
            case o0 =>
             intro At yy W hy hb d hd K hK
             obtain ⟨s19, t19⟩ := zsh (hb 19 rfl) rfl
             clear hd hy hb
             go_simp
             exact zkq hK hmo d (if_pos rfl)
            case o1 =>
             intro At yy W hy hb d hd K hK
             obtain ⟨s152, t152⟩ := zsg 0 152 .data hy hd rfl
             clear hd hy hb
             go_simp
             exact zkq hK hmo d (if_pos rfl)
            case o2 =>
             intro At yy W hy hb d hd K hK
             obtain ⟨s153, t153⟩ := zsg 1 153 .data hy hd rfl
             clear hd hy hb
             go_simp
             exact zkq hK hmo d (if_pos rfl)
            case o3 =>
             intro At yy W hy hb d hd K hK
             obtain ⟨s21, t21⟩ := zsh (hb 21 rfl) rfl
             have g154 := zgd 2 154 hy hd rfl
             clear hd hy hb
             go_simp
             exact zkq hK hmo d (if_pos rfl)
            case o4 =>
             intro At yy W hy hb d hd K hK
             obtain ⟨s155, t155⟩ := zsg 3 155 .data hy hd rfl
             have g154 := zgd 2 154 hy hd rfl
             clear hd hy hb
             go_simp
             exact zkq hK hmo d (if_pos rfl)
            case o5 =>
             intro At yy W hy hb d hd K hK
             obtain ⟨s154, t154⟩ := zsg 2 154 .data hy hd rfl
             obtain ⟨s156, t156⟩ := zsg 4 156 .data hy hd rfl
             clear hd hy hb
             go_simp
             exact zkq hK hmo d (if_pos rfl)
            case o6 =>
             intro At yy W hy hb d hd K hK
             obtain ⟨s157, t157⟩ := zsg 5 157 .data hy hd rfl
             clear hd hy hb
             go_simp
             exact zkq hK hmo d (if_pos rfl)
            case o7 =>
             intro At yy W hy hb d hd K hK
             obtain ⟨s18, t18⟩ := zsh (hb 18 rfl) rfl
             have g158 := zgd 6 158 hy hd rfl
             clear hd hy hb
             obtain ⟨z0, z1, z2, z3, z4⟩ := zc5 (blk_on HXs.out.1 d)
             go_simp
             exact zkq hK hmo d (if_pos rfl)
            case o8 | o12 =>
             intro At yy W hy hb d hd K hK
             obtain ⟨s1, t1⟩ := zsh (hb 1 rfl) rfl
             have g158 := zgd 6 158 hy hd rfl
             clear hd hy hb
             go_simp
             exact zkq hK hmo d (if_pos rfl)
            case o9 =>
             intro At yy W hy hb d hd K hK
             obtain ⟨s160, t160⟩ := zsg 8 160 .data hy hd rfl
             have g158 := zgd 6 158 hy hd rfl
             clear hd hy hb
             obtain ⟨y0, y1, y2, y3, y4, y5, y6, y7, y8, y9, y10, y11⟩ := zc12 (blk_on HB.out.1 (DK.out.trans (d.mono DK.out.size)))
             go_simp
             exact zkq hK hmo d (if_pos rfl)
            case o10 =>
             intro At yy W hy hb d hd K hK
             obtain ⟨s159, t159⟩ := zsg 7 159 .data hy hd rfl
             obtain ⟨s161, t161⟩ := zsg 9 161 .data hy hd rfl
             have g158 := zgd 6 158 hy hd rfl
             clear hd hy hb
             go_simp
             go_wp2_with (go_at_call_of 11 x1s; refine (TK.out _ d).mono ?_; rintro e wa ⟨rfl, dR⟩)
             exact hK.out _ wa (stp_of hmo d dR) (if_pos rfl)
            case o11 =>
             intro At yy W hy hb d hd K hK
             obtain ⟨s20, t20⟩ := zsh (hb 20 rfl) rfl
             have g158 := zgd 6 158 hy hd rfl
             clear hd hy hb
             obtain ⟨z0, z1, z2, z3, z4⟩ := zc5 (blk_on HXh.out.1 d)
             go_simp
             exact zkq hK hmo d (if_pos rfl)
            case o13 =>
             intro At yy W hy hb d hd K hK
             obtain ⟨s164, t164⟩ := zsg 12 164 .data hy hd rfl
             have g158 := zgd 6 158 hy hd rfl
             clear hd hy hb
             obtain ⟨y0, y1, y2, y3, y4, y5, y6, y7, y8, y9, y10, y11⟩ := zc12 (blk_on HB.out.1 (DK.out.trans (d.mono DK.out.size)))
             go_simp
             exact zkq hK hmo d (if_pos rfl)
            case o14 =>
             intro At yy W hy hb d hd K hK
             obtain ⟨s163, t163⟩ := zsg 11 163 .data hy hd rfl
             obtain ⟨s165, t165⟩ := zsg 13 165 .data hy hd rfl
             have g158 := zgd 6 158 hy hd rfl
             clear hd hy hb
             go_simp
             go_wp2_with (go_at_call_of 11 x1h; refine (TK2.out _ d).mono ?_; rintro e wa ⟨rfl, dR⟩)
             exact hK.out _ wa (stp_of hmo d dR) (if_pos rfl)
            case o15 =>
             intro At yy W hy hb d hd K hK
             obtain ⟨s162, t162⟩ := zsg 10 162 .data hy hd rfl
             obtain ⟨s166, t166⟩ := zsg 14 166 .data hy hd rfl
             have g158 := zgd 6 158 hy hd rfl
             clear hd hy hb
             go_simp
             exact zkq hK hmo d (if_pos rfl)
            case o16 =>
             intro At yy W hy hb d hd K hK
             obtain ⟨s158, t158⟩ := zsg 6 158 .data hy hd rfl
             obtain ⟨s167, t167⟩ := zsg 15 167 .data hy hd rfl
             clear hd hy hb
             go_simp
             exact zkq hK hmo d (if_pos rfl)
            case fin =>
             intro yy lo hi W hM
             show wpList _ _ _ [] _ _
             have e16 := hM.v 16 (by simp) rfl rfl rfl
             have DW := hide hM.d
             simp only [fills, Act.put, List.take, List.length, List.setIfInBounds_toArray, List.set_cons_zero, List.set_cons_succ, e16]
             clear hM hmo e16
             go_wp2_with fail
             go_meet
             exact ⟨rfl, DW⟩
          · have heb : (rrh == 0) = false := by simp [he2]
            have hmo : MonIL 0 [vI 0 (.int .i64 0), vI 1 (.bool true), vI 2 (.bool true), vI 3 (.int .i64 rrh), vI 4 (.bool false), vI 5 (.bool false), vI 6 (.bool false), vI 7 undef, vI 8 undef, vI 9 undef, vI 10 undef, vI 11 undef, vI 12 undef, vI 13 undef, vI 14 undef, vI 15 undef, vI 16 (.bool false)] := ⟨vI_mono _ _, vI_mono _ _, vI_mono _ _, vI_mono _ _, vI_mono _ _, vI_mono _ _, vI_mono _ _, vI_mono _ _, vI_mono _ _, vI_mono _ _, vI_mono _ _, vI_mono _ _, vI_mono _ _, vI_mono _ _, vI_mono _ _, vI_mono _ _, vI_mono _ _, trivial⟩
            refine wp_region_sl _ (by kernel_rfl) (by kernel_rfl) (by kernel_rfl) (by kernel_rfl) hmo ⟨?o0, ?o1, ?o2, ?o3, ?o4, ?o5, ?o6, ?o7, ?o8, ?o9, ?o10, ?o11, ?o12, ?o13, ?o14, ?o15, ?o16, trivial⟩ ?fin
            case o0 =>
             intro At yy W hy hb d hd K hK
             obtain ⟨s19, t19⟩ := zsh (hb 19 rfl) rfl
             clear hd hy hb
             go_simp
             exact zkq hK hmo d (if_pos rfl)
            case o1 =>
             intro At yy W hy hb d hd K hK
             obtain ⟨s152, t152⟩ := zsg 0 152 .data hy hd rfl
             clear hd hy hb
             go_simp
             exact zkq hK hmo d (if_pos rfl)
            case o2 =>
             intro At yy W hy hb d hd K hK
             obtain ⟨s153, t153⟩ := zsg 1 153 .data hy hd rfl
             clear hd hy hb
             go_simp
             exact zkq hK hmo d (if_pos rfl)
            case o3 =>
             intro At yy W hy hb d hd K hK
             obtain ⟨s21, t21⟩ := zsh (hb 21 rfl) rfl
             have g154 := zgd 2 154 hy hd rfl
             clear hd hy hb
             go_simp
             exact zkq hK hmo d (if_pos rfl)
            case o4 =>
             intro At yy W hy hb d hd K hK
             obtain ⟨s155, t155⟩ := zsg 3 155 .data hy hd rfl
             have g154 := zgd 2 154 hy hd rfl
             clear hd hy hb
             go_simp
             exact zkq hK hmo d (if_pos rfl)
            case o5 =>
             intro At yy W hy hb d hd K hK
             obtain ⟨s154, t154⟩ := zsg 2 154 .data hy hd rfl
             obtain ⟨s156, t156⟩ := zsg 4 156 .data hy hd rfl
             clear hd hy hb
             go_simp
             exact zkq hK hmo d (if_pos rfl)
            case o6 =>
             intro At yy W hy hb d hd K hK
             obtain ⟨s157, t157⟩ := zsg 5 157 .data hy hd rfl
             clear hd hy hb
             go_simp
             exact zkq hK hmo d (if_pos rfl)
            case o7 | o8 | o9 | o10 | o11 | o12 | o13 | o14 | o15 =>
             intro At yy W hy hb d hd K hK
             have g158 := zgd 6 158 hy hd rfl
             clear hd hy hb
             go_simp
             exact zkq hK hmo d (if_pos rfl)
            case o16 =>
             intro At yy W hy hb d hd K hK
             obtain ⟨s158, t158⟩ := zsg 6 158 .data hy hd rfl
             obtain ⟨s167, t167⟩ := zsg 15 167 .data hy hd rfl
             clear hd hy hb
             go_simp
             exact zkq hK hmo d (if_pos rfl)
            case fin =>
             intro yy lo hi W hM
             show wpList _ _ _ [] _ _
             have e16 := hM.v 16 (by simp) rfl rfl rfl
             have DW := hide hM.d
             simp only [fills, Act.put, List.take, List.length, List.setIfInBounds_toArray, List.set_cons_zero, List.set_cons_succ, e16]
             clear hM hmo e16
             go_wp2_with fail
             go_meet
             exact ⟨rfl, DW⟩
        · have heb : (rrs == 0) = false := by simp [he1]
          have hmo : MonIL 0 [vI 0 (.int .i64 rrs), vI 1 (.bool false), vI 2 (.bool false), vI 3 undef, vI 4 undef, vI 5 (.bool false), vI 6 (.bool false), vI 7 undef, vI 8 undef, vI 9 undef, vI 10 undef, vI 11 undef, vI 12 undef, vI 13 undef, vI 14 undef, vI 15 undef, vI 16 (.bool false)] := ⟨vI_mono _ _, vI_mono _ _, vI_mono _ _, vI_mono _ _, vI_mono _ _, vI_mono _ _, vI_mono _ _, vI_mono _ _, vI_mono _ _, vI_mono _ _, vI_mono _ _, vI_mono _ _, vI_mono _ _, vI_mono _ _, vI_mono _ _, vI_mono _ _, vI_mono _ _, trivial⟩
          refine wp_region_sl _ (by kernel_rfl) (by kernel_rfl) (by kernel_rfl) (by kernel_rfl) hmo ⟨?o0, ?o1, ?o2, ?o3, ?o4, ?o5, ?o6, ?o7, ?o8, ?o9, ?o10, ?o11, ?o12, ?o13, ?o14, ?o15, ?o16, trivial⟩ ?fin
          case o0 =>
           intro At yy W hy hb d hd K hK
           obtain ⟨s19, t19⟩ := zsh (hb 19 rfl) rfl
           clear hd hy hb
           go_simp
           exact zkq hK hmo d (if_pos rfl)
          case o1 =>
           intro At yy W hy hb d hd K hK
           obtain ⟨s152, t152⟩ := zsg 0 152 .data hy hd rfl
           clear hd hy hb
           go_simp
           exact zkq hK hmo d (if_pos rfl)
          case o2 =>
           intro At yy W hy hb d hd K hK
           obtain ⟨s153, t153⟩ := zsg 1 153 .data hy hd rfl
           clear hd hy hb
           go_simp
           exact zkq hK hmo d (if_pos rfl)
          case o3 | o4 =>
           intro At yy W hy hb d hd K hK
           have g154 := zgd 2 154 hy hd rfl
           clear hd hy hb
           go_simp
           exact zkq hK hmo d (if_pos rfl)
          case o5 =>
           intro At yy W hy hb d hd K hK
           obtain ⟨s154, t154⟩ := zsg 2 154 .data hy hd rfl
           obtain ⟨s156, t156⟩ := zsg 4 156 .data hy hd rfl
           clear hd hy hb
           go_simp
           exact zkq hK hmo d (if_pos rfl)
          case o6 =>
           intro At yy W hy hb d hd K hK
           obtain ⟨s157, t157⟩ := zsg 5 157 .data hy hd rfl
           clear hd hy hb
           go_simp
           exact zkq hK hmo d (if_pos rfl)
          case o7 | o8 | o9 | o10 | o11 | o12 | o13 | o14 | o15 =>
           intro At yy W hy hb d hd K hK
           have g158 := zgd 6 158 hy hd rfl
           clear hd hy hb
           go_simp
           exact zkq hK hmo d (if_pos rfl)
          case o16 =>
           intro At yy W hy hb d hd K hK
           obtain ⟨s158, t158⟩ := zsg 6 158 .data hy hd rfl
           obtain ⟨s167, t167⟩ := zsg 15 167 .data hy hd rfl
           clear hd hy hb
           go_simp
           exact zkq hK hmo d (if_pos rfl)
          case fin =>
           intro yy lo hi W hM
           show wpList _ _ _ [] _ _
           have e16 := hM.v 16 (by simp) rfl rfl rfl
           have DW := hide hM.d
           simp only [fills, Act.put, List.take, List.length, List.setIfInBounds_toArray, List.set_cons_zero, List.set_cons_succ, e16]
           clear hM hmo e16
           go_wp2_with fail
           go_meet
           exact ⟨rfl, DW⟩
       case rest =>
        rename World => W5
        obtain ⟨rfl, HC⟩ := hcut
        replace DK : Hid (Below W0.heap.size W0 W5) := hide (DK.out.trans (HC.out.mono DK.out.size))
        replace HXs := hide (And.intro (blk_on HXs.out.1 HC.out) (HXs.out.2.on HC.out))
        replace HXh := hide (And.intro (blk_on HXh.out.1 HC.out) (HXh.out.2.on HC.out))
        clear HC
        clear HXs HEs HLs TK
        clear HXh HEh HLh HVs TK2
        obtain ⟨rna, rma, rsa, rfa, rea, rra, hra⟩ : ∃ a b c d e f, alA m = Ans.mk a b c d e f := ⟨_, _, _, _, _, _, rfl⟩
        have HWB : Hid (Below w.heap.size w W5) := hide (HB.out.2.trans (DK.out.mono HB.out.2.size))
        have TM := ans_rd (mk_all W5 m) hra
        have HEa := hide hra
        clear hra
        obtain ⟨y0, y1, y2, y3, y4, y5, y6, y7, y8, y9, y10, y11⟩ := zc12 (blk_on HB.out.1 DK.out)
        go_upto_region 23 with (go_at_call 22; refine TM.mono ?_; rintro e wa ⟨x1a, y1a, x2a, y2a, x3a, y3a, rfl, HOa, DQa⟩)
        clear TM y0 y1 y2 y3 y4 y5 y6 y7 y8 y9 y10 y11
        obtain ⟨Wa, hWa⟩ : ∃ W, wa.alloc (.cells #[.int .i64 rna, .int .i64 rma, .slice x1a rsa.length y1a, .slice x2a rfa.length y2a, .slice x3a rea.length y3a] 25) = W := ⟨_, rfl⟩
        obtain ⟨pa, hpa⟩ : ∃ p, wa.heap.size = p := ⟨_, rfl⟩
        have HXa : Hid (Wa.heap[pa]? = some (.cells #[.int .i64 rna, .int .i64 rma, .slice x1a rsa.length y1a, .slice x2a rfa.length y2a, .slice x3a rea.length y3a] 25 (0, 0)) ∧ RdA Wa x1a x2a x3a rsa rfa rea) := hide (by rw [← hWa, ← hpa]; exact ⟨World.alloc_heap_new _ _, HOa.out.on ((Below.refl _ _).alloc (Nat.le_refl _) _)⟩)
        have HC : Hid (Below W5.heap.size W5 Wa) := hide (by rw [← hWa]; exact DQa.trans (((Below.refl _ _).alloc (Nat.le_refl _) _).mono DQa.size))
        rw [hWa, hpa]
        clear hWa hpa HOa DQa HWB
        replace DK : Hid (Below W0.heap.size W0 Wa) := hide (DK.out.trans (HC.out.mono DK.out.size))
        clear HC
        have HLa : Hid (rsa.length ≤ 2000000 ∧ rfa.length ≤ 2000000 ∧ rea.length ≤ 2000000) := hide (by have q := al_len m; rw [HEa.out] at q; have := en.out; dsimp only at q; omega)
        have HWB : Hid (Below w.heap.size w Wa) := hide (HB.out.2.trans (DK.out.mono HB.out.2.size))
        have TM := meet_any Wa n m rna rma 0 a1 a2 a3 x1a x2a x3a c1 c2 c3 y1a y2a y3a Sa Fa rsa rfa Ea rea (hide (hA.out.on HWB.out)) (hide HXa.out.2) (by have := en.out; omega) (by have := en.out; omega) (by have := en.out; omega) (by have := HLa.out; omega) (by have := HLa.out; omega) (by have := HLa.out; omega)
        rw [en.out.1, en.out.2.1, en.out.2.2.1] at TM
        obtain ⟨y0, y1, y2, y3, y4, y5, y6, y7, y8, y9, y10, y11⟩ := zc12 (blk_on HB.out.1 DK.out)
        obtain ⟨za0, za1, za2, za3, za4⟩ := zc5 HXa.out.1
        go_upto_region 24 with (go_at_call 23; refine TM.mono ?_; rintro e wm ⟨rnm, rmm, rrm, psm, rsm, rfm, rem, x1m, y1m, x2m, y2m, x3m, y3m, xpm, ypm, rfl, HOm, DQm⟩)
        clear TM y0 y1 y2 y3 y4 y5 y6 y7 y8 y9 y10 y11 za0 za1 za2 za3 za4
        obtain ⟨Wm, hWm⟩ : ∃ W, wm.alloc (.cells #[.int .i64 rnm, .int .i64 rmm, .slice x1m rsm.length y1m, .slice x2m rfm.length y2m, .slice x3m rem.length y3m] 25) = W := ⟨_, rfl⟩
        obtain ⟨pm, hpm⟩ : ∃ p, wm.heap.size = p := ⟨_, rfl⟩
        have HXm : Hid (Wm.heap[pm]? = some (.cells #[.int .i64 rnm, .int .i64 rmm, .slice x1m rsm.length y1m, .slice x2m rfm.length y2m, .slice x3m rem.length y3m] 25 (0, 0)) ∧ RdA Wm x1m x2m x3m rsm rfm rem) := hide (by rw [← hWm, ← hpm]; exact ⟨World.alloc_heap_new _ _, (⟨own_rdN HOm.out.1.s, own_rdN HOm.out.1.f, own_rdE HOm.out.1.e⟩ : RdA wm x1m x2m x3m rsm rfm rem).on ((Below.refl _ _).alloc (Nat.le_refl _) _)⟩)
        have HQm : Hid (rrm = 0 → rnm = (psm.length : Int) ∧ rmm = m ∧ rsm.length ≤ 4096 ∧ rfm.length ≤ 4096 ∧ rem.length ≤ 65536 ∧ MetQ n m rna rma Sa Fa Ea rsa rfa rea psm rsm rfm rem) := hide (fun e => (HOm.out.2.resolve_left (fun k => k e)).2)
        have HC : Hid (Below Wa.heap.size Wa Wm) := hide (by rw [← hWm]; exact DQm.trans (((Below.refl _ _).alloc (Nat.le_refl _) _).mono DQm.size))
        rw [hWm, hpm]
        clear hWm hpm HOm DQm HWB
        replace DK : Hid (Below W0.heap.size W0 Wm) := hide (DK.out.trans (HC.out.mono DK.out.size))
        replace HXa := hide (And.intro (blk_on HXa.out.1 HC.out) (HXa.out.2.on HC.out))
        clear HC
        have TA : Hid (∀ W, Below Wm.heap.size Wm W → Calls Tryz.prog 11 #[.agg #[.int .i64 n, .int .i64 m, .slice a1 n1 c1, .slice a2 n2 c2, .slice a3 n3 c3], .slice av nv cv] W fun e w' => e = .returned (.bool va) ∧ Below W.heap.size W w') := hide (fun W d => by
         have q := ltakes_any W n m a1 a2 a3 c1 c2 c3 Sa Fa Ea av cv Vd (hide (hA.out.on (HB.out.2.trans ((DK.out.trans (d.mono DK.out.size)).mono HB.out.2.size)))) (hide (hV.out.on (HB.out.2.trans ((DK.out.trans (d.mono DK.out.size)).mono HB.out.2.size)))) (by have := en.out; omega) (by have := en.out; omega) (by have := en.out; omega) (by have := en.out; omega)
         rw [en.out.1, en.out.2.1, en.out.2.2.1, en.out.2.2.2.2, HVA.out] at q
         exact q)
        go_upto_region 24 with fail
        go_cut [195] from 182 to 195 (fun v W => v = .bool false ∧ Hid (Below Wm.heap.size Wm W))
        case first =>
         by_cases he : rrm = 0
         · subst he
           obtain ⟨e1, e2, l1', l2', l3', hR⟩ := HQm.out rfl
           have hv : Hid (tkF rnm rmm rsm rfm rem Vd = va) := hide (by
            have q := tk_all (all_er HEM.out) Vd HSV.out
            rw [HEa.out] at q
            rw [e1, e2, tk_meet hR l3' Vd, HVA.out, show tkF rna rma rsa rfa rea Vd = true from q, Bool.and_true])
           have HLm : Hid (rsm.length ≤ 4096 ∧ rfm.length ≤ 4096 ∧ rem.length ≤ 65536) := hide ⟨l1', l2', l3'⟩
           have TK : Hid (∀ W, Below Wm.heap.size Wm W → Calls Tryz.prog 11 #[.agg #[.int .i64 rnm, .int .i64 rmm, .slice x1m rsm.length y1m, .slice x2m rfm.length y2m, .slice x3m rem.length y3m], .slice av nv cv] W fun e w' => e = .returned (.bool va) ∧ Below W.heap.size W w') := hide (fun W d => by
            have q := ltakes_any W rnm rmm x1m x2m x3m y1m y2m y3m rsm rfm rem av cv Vd (hide (HXm.out.2.on d)) (hide (hV.out.on (HB.out.2.trans ((DK.out.trans (d.mono DK.out.size)).mono HB.out.2.size)))) (by have := HLm.out; omega) (by have := HLm.out; omega) (by have := HLm.out; omega) (by have := en.out; omega)
            rw [en.out.2.2.2.2, hv.out] at q
            exact q)
           clear hR l1' l2' l3' e1 e2
           have hmo : MonIL 0 [vI 0 (.int .i64 0), vI 1 (.bool true), vI 2 (.bool true), vI 3 (.agg #[.int .i64 rnm, .int .i64 rmm, .slice x1m rsm.length y1m, .slice x2m rfm.length y2m, .slice x3m rem.length y3m]), vI 4 (.pointer (some ⟨w.heap.size, 11, none⟩)), vI 5 (.slice av nv cv), vI 6 (.bool va), vI 7 (.pointer (some ⟨w.heap.size, 0, none⟩)), vI 8 (.agg #[.int .i64 n, .int .i64 m, .slice a1 n1 c1, .slice a2 n2 c2, .slice a3 n3 c3]), vI 9 (.pointer (some ⟨w.heap.size, 11, none⟩)), vI 10 (.slice av nv cv), vI 11 (.bool va), vI 12 (.bool false), vI 13 (.bool false)] := ⟨vI_mono _ _, vI_mono _ _, vI_mono _ _, vI_mono _ _, vI_mono _ _, vI_mono _ _, vI_mono _ _, vI_mono _ _, vI_mono _ _, vI_mono _ _, vI_mono _ _, vI_mono _ _, vI_mono _ _, vI_mono _ _, trivial⟩
           refine wp_region_sl _ (by kernel_rfl) (by kernel_rfl) (by kernel_rfl) (by kernel_rfl) hmo ⟨?o0, ?o1, ?o2, ?o3, ?o4, ?o5, ?o6, ?o7, ?o8, ?o9, ?o10, ?o11, ?o12, ?o13, trivial⟩ ?fin
           case o0 =>
            intro At yy W hy hb d hd K hK
            obtain ⟨s26, t26⟩ := zsh (hb 26 rfl) rfl
            clear hd hy hb
            go_simp
            exact zkq hK hmo d (if_pos rfl)
           case o1 =>
            intro At yy W hy hb d hd K hK
            obtain ⟨s182, t182⟩ := zsg 0 182 .data hy hd rfl
            clear hd hy hb
            go_simp
            exact zkq hK hmo d (if_pos rfl)
           case o2 =>
            intro At yy W hy hb d hd K hK
            obtain ⟨s183, t183⟩ := zsg 1 183 .data hy hd rfl
            clear hd hy hb
            go_simp
            exact zkq hK hmo d (if_pos rfl)
           case o3 =>
            intro At yy W hy hb d hd K hK
            obtain ⟨s24, t24⟩ := zsh (hb 24 rfl) rfl
            have g184 := zgd 2 184 hy hd rfl
            clear hd hy hb
            obtain ⟨z0, z1, z2, z3, z4⟩ := zc5 (blk_on HXm.out.1 d)
            go_simp
            exact zkq hK hmo d (if_pos rfl)
           case o4 | o7 | o9 =>
            intro At yy W hy hb d hd K hK
            obtain ⟨s1, t1⟩ := zsh (hb 1 rfl) rfl
            have g184 := zgd 2 184 hy hd rfl
            clear hd hy hb
            go_simp
            exact zkq hK hmo d (if_pos rfl)
           case o5 =>
            intro At yy W hy hb d hd K hK
            obtain ⟨s186, t186⟩ := zsg 4 186 .data hy hd rfl
            have g184 := zgd 2 184 hy hd rfl
            clear hd hy hb
            obtain ⟨y0, y1, y2, y3, y4, y5, y6, y7, y8, y9, y10, y11⟩ := zc12 (blk_on HB.out.1 (DK.out.trans (d.mono DK.out.size)))
            go_simp
            exact zkq hK hmo d (if_pos rfl)
           case o6 =>
            intro At yy W hy hb d hd K hK
            obtain ⟨s185, t185⟩ := zsg 3 185 .data hy hd rfl
            obtain ⟨s187, t187⟩ := zsg 5 187 .data hy hd rfl
            have g184 := zgd 2 184 hy hd rfl
            clear hd hy hb
            go_simp
            go_wp2_with (go_at_call_of 11 x1m; refine (TK.out _ d).mono ?_; rintro e wa ⟨rfl, dR⟩)
            exact hK.out _ wa (stp_of hmo d dR) (if_pos rfl)
           case o8 =>
            intro At yy W hy hb d hd K hK
            obtain ⟨s189, t189⟩ := zsg 7 189 .data hy hd rfl
            have g184 := zgd 2 184 hy hd rfl
            clear hd hy hb
            obtain ⟨y0, y1, y2, y3, y4, y5, y6, y7, y8, y9, y10, y11⟩ := zc12 (blk_on HB.out.1 (DK.out.trans (d.mono DK.out.size)))
            go_simp
            exact zkq hK hmo d (if_pos rfl)
           case o10 =>
            intro At yy W hy hb d hd K hK
            obtain ⟨s191, t191⟩ := zsg 9 191 .data hy hd rfl
            have g184 := zgd 2 184 hy hd rfl
            clear hd hy hb
            obtain ⟨y0, y1, y2, y3, y4, y5, y6, y7, y8, y9, y10, y11⟩ := zc12 (blk_on HB.out.1 (DK.out.trans (d.mono DK.out.size)))
            go_simp
            exact zkq hK hmo d (if_pos rfl)
           case o11 =>
            intro At yy W hy hb d hd K hK
            obtain ⟨s190, t190⟩ := zsg 8 190 .data hy hd rfl
            obtain ⟨s192, t192⟩ := zsg 10 192 .data hy hd rfl
            have g184 := zgd 2 184 hy hd rfl
            clear hd hy hb
            go_simp
            go_wp2_with (go_at_call_of 11 a1; refine (TA.out _ d).mono ?_; rintro e wa ⟨rfl, dR⟩)
            exact hK.out _ wa (stp_of hmo d dR) (if_pos rfl)
           case o12 =>
            intro At yy W hy hb d hd K hK
            obtain ⟨s188, t188⟩ := zsg 6 188 .data hy hd rfl
            obtain ⟨s193, t193⟩ := zsg 11 193 .data hy hd rfl
            have g184 := zgd 2 184 hy hd rfl
            clear hd hy hb
            go_simp
            exact zkq hK hmo d (if_pos rfl)
           case o13 =>
            intro At yy W hy hb d hd K hK
            obtain ⟨s184, t184⟩ := zsg 2 184 .data hy hd rfl
            obtain ⟨s194, t194⟩ := zsg 12 194 .data hy hd rfl
            clear hd hy hb
            go_simp
            exact zkq hK hmo d (if_pos rfl)
           case fin =>
            intro yy lo hi W hM
            show wpList _ _ _ [] _ _
            have e13 := hM.v 13 (by simp) rfl rfl rfl
            have DW := hide hM.d
            simp only [fills, Act.put, List.take, List.length, List.setIfInBounds_toArray, List.set_cons_zero, List.set_cons_succ, e13]
            clear hM hmo e13
            go_wp2_with fail
            go_meet
            exact ⟨rfl, DW⟩
         · have heb : (rrm == 0) = false := by simp [he]
           have hmo : MonIL 0 [vI 0 (.int .i64 rrm), vI 1 (.bool false), vI 2 (.bool false), vI 3 undef, vI 4 undef, vI 5 undef, vI 6 undef, vI 7 undef, vI 8 undef, vI 9 undef, vI 10 undef, vI 11 undef, vI 12 undef, vI 13 (.bool false)] := ⟨vI_mono _ _, vI_mono _ _, vI_mono _ _, vI_mono _ _, vI_mono _ _, vI_mono _ _, vI_mono _ _, vI_mono _ _, vI_mono _ _, vI_mono _ _, vI_mono _ _, vI_mono _ _, vI_mono _ _, vI_mono _ _, trivial⟩
           refine wp_region_sl _ (by kernel_rfl) (by kernel_rfl) (by kernel_rfl) (by kernel_rfl) hmo ⟨?o0, ?o1, ?o2, ?o3, ?o4, ?o5, ?o6, ?o7, ?o8, ?o9, ?o10, ?o11, ?o12, ?o13, trivial⟩ ?fin
           case o0 =>
            intro At yy W hy hb d hd K hK
            obtain ⟨s26, t26⟩ := zsh (hb 26 rfl) rfl
            clear hd hy hb
            go_simp
            exact zkq hK hmo d (if_pos rfl)
           case o1 =>
            intro At yy W hy hb d hd K hK
            obtain ⟨s182, t182⟩ := zsg 0 182 .data hy hd rfl
            clear hd hy hb
            go_simp
            exact zkq hK hmo d (if_pos rfl)
           case o2 =>
            intro At yy W hy hb d hd K hK
            obtain ⟨s183, t183⟩ := zsg 1 183 .data hy hd rfl
            clear hd hy hb
            go_simp
            exact zkq hK hmo d (if_pos rfl)
           case o3 | o4 | o5 | o6 | o7 | o8 | o9 | o10 | o11 | o12 =>
            intro At yy W hy hb d hd K hK
            have g184 := zgd 2 184 hy hd rfl
            clear hd hy hb
            go_simp
            exact zkq hK hmo d (if_pos rfl)
           case o13 =>
            intro At yy W hy hb d hd K hK
            obtain ⟨s184, t184⟩ := zsg 2 184 .data hy hd rfl
            obtain ⟨s194, t194⟩ := zsg 12 194 .data hy hd rfl
            clear hd hy hb
            go_simp
            exact zkq hK hmo d (if_pos rfl)
           case fin =>
            intro yy lo hi W hM
            show wpList _ _ _ [] _ _
            have e13 := hM.v 13 (by simp) rfl rfl rfl
            have DW := hide hM.d
            simp only [fills, Act.put, List.take, List.length, List.setIfInBounds_toArray, List.set_cons_zero, List.set_cons_succ, e13]
            clear hM hmo e13
            go_wp2_with fail
            go_meet
            exact ⟨rfl, DW⟩
        case rest =>
         rename World => W6
         obtain ⟨rfl, HC⟩ := hcut
         replace DK : Hid (Below W0.heap.size W0 W6) := hide (DK.out.trans (HC.out.mono DK.out.size))
         replace HXa := hide (And.intro (blk_on HXa.out.1 HC.out) (HXa.out.2.on HC.out))
         replace HXm := hide (And.intro (blk_on HXm.out.1 HC.out) (HXm.out.2.on HC.out))
         clear HC
         go_wp2_with fail
         go_meet
         exact ⟨rfl, DK⟩
   case rest =>
    rename World => wq
    obtain ⟨rfl, HZ⟩ := hcut
    replace DK := HZ
    clear HZ
    obtain ⟨rnz, rmz, rsz, rfz, rez, rrz, hrz⟩ : ∃ a b c d e f, noA m = Ans.mk a b c d e f := ⟨_, _, _, _, _, _, rfl⟩
    have HWB : Hid (Below w.heap.size w wq) := hide (HB.out.2.trans (DK.out.mono HB.out.2.size))
    have TM := ans_rd (mk_non wq m) hrz
    have HEz := hide hrz
    clear hrz
    obtain ⟨y0, y1, y2, y3, y4, y5, y6, y7, y8, y9, y10, y11⟩ := zc12 (blk_on HB.out.1 DK.out)
    go_upto_region 27 with (go_at_call 24; refine TM.mono ?_; rintro e wz ⟨x1z, y1z, x2z, y2z, x3z, y3z, rfl, HOz, DQz⟩)
    clear TM y0 y1 y2 y3 y4 y5 y6 y7 y8 y9 y10 y11
    obtain ⟨Wz, hWz⟩ : ∃ W, wz.alloc (.cells #[.int .i64 rnz, .int .i64 rmz, .slice x1z rsz.length y1z, .slice x2z rfz.length y2z, .slice x3z rez.length y3z] 25) = W := ⟨_, rfl⟩
    obtain ⟨pz, hpz⟩ : ∃ p, wz.heap.size = p := ⟨_, rfl⟩
    have HXz : Hid (Wz.heap[pz]? = some (.cells #[.int .i64 rnz, .int .i64 rmz, .slice x1z rsz.length y1z, .slice x2z rfz.length y2z, .slice x3z rez.length y3z] 25 (0, 0)) ∧ RdA Wz x1z x2z x3z rsz rfz rez) := hide (by rw [← hWz, ← hpz]; exact ⟨World.alloc_heap_new _ _, HOz.out.on ((Below.refl _ _).alloc (Nat.le_refl _) _)⟩)
    have HC : Hid (Below wq.heap.size wq Wz) := hide (by rw [← hWz]; exact DQz.trans (((Below.refl _ _).alloc (Nat.le_refl _) _).mono DQz.size))
    rw [hWz, hpz]
    clear hWz hpz HOz DQz HWB
    replace DK : Hid (Below W0.heap.size W0 Wz) := hide (DK.out.trans (HC.out.mono DK.out.size))
    clear HC
    have HLz : Hid (rsz.length ≤ 2000000 ∧ rfz.length ≤ 2000000 ∧ rez.length ≤ 2000000) := hide (by have q := no_len m; rw [HEz.out] at q; have := en.out; dsimp only at q; omega)
    obtain ⟨rnu, rmu, rsu, rfu, reu, rru, hru⟩ : ∃ a b c d e f, uniAns n m rnz rmz Sa Fa Ea rsz rfz rez = Ans.mk a b c d e f := ⟨_, _, _, _, _, _, rfl⟩
    have HWB : Hid (Below w.heap.size w Wz) := hide (HB.out.2.trans (DK.out.mono HB.out.2.size))
    have TM := ans_rd (mk_uni Wz n m a1 a2 a3 c1 c2 c3 Sa Fa Ea (hide (hA.out.on HWB.out)) (by have := en.out; omega) (by have := en.out; omega) (by have := en.out; omega) rnz rmz x1z x2z x3z y1z y2z y3z rsz rfz rez (hide HXz.out.2) (by have := HLz.out; omega) (by have := HLz.out; omega) (by have := HLz.out; omega)) hru
    rw [en.out.1, en.out.2.1, en.out.2.2.1] at TM
    have HEu := hide hru
    clear hru
    obtain ⟨y0, y1, y2, y3, y4, y5, y6, y7, y8, y9, y10, y11⟩ := zc12 (blk_on HB.out.1 DK.out)
    obtain ⟨zz0, zz1, zz2, zz3, zz4⟩ := zc5 HXz.out.1
    go_upto_region 28 with (go_at_call 25; refine TM.mono ?_; rintro e wu ⟨x1u, y1u, x2u, y2u, x3u, y3u, rfl, HOu, DQu⟩)
    clear TM y0 y1 y2 y3 y4 y5 y6 y7 y8 y9 y10 y11 zz0 zz1 zz2 zz3 zz4
    obtain ⟨Wu, hWu⟩ : ∃ W, wu.alloc (.cells #[.int .i64 rnu, .int .i64 rmu, .slice x1u rsu.length y1u, .slice x2u rfu.length y2u, .slice x3u reu.length y3u] 25) = W := ⟨_, rfl⟩
    obtain ⟨pu, hpu⟩ : ∃ p, wu.heap.size = p := ⟨_, rfl⟩
    have HXu : Hid (Wu.heap[pu]? = some (.cells #[.int .i64 rnu, .int .i64 rmu, .slice x1u rsu.length y1u, .slice x2u rfu.length y2u, .slice x3u reu.length y3u] 25 (0, 0)) ∧ RdA Wu x1u x2u x3u rsu rfu reu) := hide (by rw [← hWu, ← hpu]; exact ⟨World.alloc_heap_new _ _, HOu.out.on ((Below.refl _ _).alloc (Nat.le_refl _) _)⟩)
    have HC : Hid (Below Wz.heap.size Wz Wu) := hide (by rw [← hWu]; exact DQu.trans (((Below.refl _ _).alloc (Nat.le_refl _) _).mono DQu.size))
    rw [hWu, hpu]
    clear hWu hpu HOu DQu HWB
    replace DK : Hid (Below W0.heap.size W0 Wu) := hide (DK.out.trans (HC.out.mono DK.out.size))
    replace HXz := hide (And.intro (blk_on HXz.out.1 HC.out) (HXz.out.2.on HC.out))
    clear HC
    obtain ⟨rng, rmg, rsg, rfg, reg, rrg, hrg⟩ : ∃ a b c d e f, normAns n m Sa Fa Ea = Ans.mk a b c d e f := ⟨_, _, _, _, _, _, rfl⟩
    have HWB : Hid (Below w.heap.size w Wu) := hide (HB.out.2.trans (DK.out.mono HB.out.2.size))
    have TM := ans_rdn (rnormal_ans Wu n m a1 a2 a3 c1 c2 c3 Sa Fa Ea (hide (hA.out.on HWB.out)) (by have := en.out; omega) (by have := en.out; omega) (by have := en.out; omega) (by have := en.out; omega)) hrg
    rw [en.out.1, en.out.2.1, en.out.2.2.1] at TM
    have HEg := hide hrg
    clear hrg
    obtain ⟨y0, y1, y2, y3, y4, y5, y6, y7, y8, y9, y10, y11⟩ := zc12 (blk_on HB.out.1 DK.out)
    go_upto_region 29 with (go_at_call 26; refine TM.mono ?_; rintro e wg ⟨x1g, y1g, x2g, y2g, x3g, y3g, rfl, HOg, DQg⟩)
    clear TM y0 y1 y2 y3 y4 y5 y6 y7 y8 y9 y10 y11
    obtain ⟨Wg, hWg⟩ : ∃ W, wg.alloc (.cells #[.int .i64 rng, .int .i64 rmg, .slice x1g rsg.length y1g, .slice x2g rfg.length y2g, .slice x3g reg.length y3g] 25) = W := ⟨_, rfl⟩
    obtain ⟨pg, hpg⟩ : ∃ p, wg.heap.size = p := ⟨_, rfl⟩
    have HXg : Hid (Wg.heap[pg]? = some (.cells #[.int .i64 rng, .int .i64 rmg, .slice x1g rsg.length y1g, .slice x2g rfg.length y2g, .slice x3g reg.length y3g] 25 (0, 0)) ∧ RdA Wg x1g x2g x3g rsg rfg reg) := hide (by rw [← hWg, ← hpg]; exact ⟨World.alloc_heap_new _ _, HOg.out.on ((Below.refl _ _).alloc (Nat.le_refl _) _)⟩)
    have HC : Hid (Below Wu.heap.size Wu Wg) := hide (by rw [← hWg]; exact DQg.trans (((Below.refl _ _).alloc (Nat.le_refl _) _).mono DQg.size))
    rw [hWg, hpg]
    clear hWg hpg HOg DQg HWB
    replace DK : Hid (Below W0.heap.size W0 Wg) := hide (DK.out.trans (HC.out.mono DK.out.size))
    replace HXz := hide (And.intro (blk_on HXz.out.1 HC.out) (HXz.out.2.on HC.out))
    replace HXu := hide (And.intro (blk_on HXu.out.1 HC.out) (HXu.out.2.on HC.out))
    clear HC
    have HUG : Hid (rnu = rng ∧ rmu = rmg ∧ rsu = rsg ∧ rfu = rfg ∧ reu = reg ∧ rru = rrg) := hide (by
     have q := HEu.out
     have z := goes_uni HEM.out HEz.out
     dsimp only at z
     rw [z, HEg.out] at q
     injection q with q1 q2 q3 q4 q5 q6
     exact ⟨q1.symm, q2.symm, q3.symm, q4.symm, q5.symm, q6.symm⟩)
    have HLg : Hid (rsg.length ≤ 2000000 ∧ rfg.length ≤ 2000000 ∧ reg.length ≤ 2000000) := hide (by have q := nor_len n m Sa Fa Ea 1048576 (by have := en.out; omega) (by have := en.out; omega) (by have := en.out; omega); rw [HEg.out] at q; have := en.out; dsimp only at q; omega)
    have HLu : Hid (rsu.length ≤ 2000000 ∧ rfu.length ≤ 2000000 ∧ reu.length ≤ 2000000) := hide (by have := HLg.out; rw [HUG.out.2.2.1, HUG.out.2.2.2.1, HUG.out.2.2.2.2.1]; exact this)
    have TE : Hid (∀ W, Below Wg.heap.size Wg W → Calls Tryz.prog 19 #[.agg #[.int .i64 rnu, .int .i64 rmu, .slice x1u rsu.length y1u, .slice x2u rfu.length y2u, .slice x3u reu.length y3u], .agg #[.int .i64 rng, .int .i64 rmg, .slice x1g rsg.length y1g, .slice x2g rfg.length y2g, .slice x3g reg.length y3g]] W fun e w' => e = .returned (.bool true) ∧ Below W.heap.size W w') := hide (fun W d => by
     have q := requal_any W rnu rmu rng rmg x1u x2u x3u x1g x2g x3g y1u y2u y3u y1g y2g y3g rsu rfu reu rsg rfg reg (hide (HXu.out.2.on d)) (hide (HXg.out.2.on d)) (by have := HLu.out; omega) (by have := HLu.out; omega) (by have := HLu.out; omega) (by have := HLg.out; omega) (by have := HLg.out; omega) (by have := HLg.out; omega)
     rw [show eqB rnu rmu rng rmg rsu rfu reu rsg rfg reg = true from decide_eq_true (⟨HUG.out.1, HUG.out.2.1, HUG.out.2.2.1, HUG.out.2.2.2.1, HUG.out.2.2.2.2.1⟩)] at q
     exact q)
    obtain rfl : rru = rrg := HUG.out.2.2.2.2.2
    have hqq : (rru == rru) = true := by simp
    obtain ⟨zu0, zu1, zu2, zu3, zu4⟩ := zc5 HXu.out.1
    obtain ⟨zg0, zg1, zg2, zg3, zg4⟩ := zc5 HXg.out.1
    go_wp2_with (go_at_call 19; refine (TE.out _ (Below.refl _ _)).mono ?_; rintro e we ⟨rfl, dE⟩; have HDE := hide (HB.out.2.trans ((DK.out.trans (dE.mono DK.out.size)).mono HB.out.2.size)))
    go_ret
    exact ⟨rfl, HDE.out⟩
end Go.Proofs.YtchoopnjckcohaaGreatDoor
namespace Go.Proofs.YtchoopnjckcohaaGreatDoor.frame
open Go.ChangeShapes Go.WideShapes Go.ChangeAt Go.RowKit Go.Joins Go.Deep
theorem own : ownKnob Tryz.prog.godebug = none := by kernel_rfl
theorem laidOut : laidOutB Tryz.prog = true := by kernel_rfl
theorem gTab : Tryz.prog.globalNamed "math/bits.deBruijn64tab" = some 0 := by kernel_rfl
theorem gTabType : (Tryz.prog.globals[0]?).map (·.type) = some 161 := by kernel_rfl
theorem cells161 : Tryz.prog.cellsOf 161 = 64 := by kernel_rfl
theorem cells5 : Tryz.prog.cellsOf 5 = 1 := by kernel_rfl
theorem cells3 : Tryz.prog.cellsOf 3 = 1 := by kernel_rfl
theorem cells25 : Tryz.prog.cellsOf 25 = 5 := by kernel_rfl
theorem cells59 : Tryz.prog.cellsOf 61 = 3 := by kernel_rfl
theorem cellsI : Tryz.prog.cellsOf 22 = 1 := by kernel_rfl
theorem cellsEs : Tryz.prog.cellsOf 23 = 1 := by kernel_rfl
theorem table {W : World} (h : laidMetH Tryz.prog [("math/bits.deBruijn64tab", Rows.laid_math_bits_deBruijn64tab)] W) : Lib.TabIs Tryz.prog W "math/bits.deBruijn64tab" .u8 (Lib.deBruijn64tab.map fun (n : Nat) => (n : Int)) :=
 Lib.tabIs_of_head (rest := []) gTab gTabType Tryz.underlying161 Tryz.underlying5 cells5 cells161 h
theorem tabAt {W : World} (h : laidMetH Tryz.prog [("math/bits.deBruijn64tab", Rows.laid_math_bits_deBruijn64tab)] W) : TabAt W := by
 intro j hj
 have h1 : j < (Lib.deBruijn64tab.map fun (n : Nat) => (n : Int)).length := by simpa [Lib.deBruijn64tab] using hj
 have := (table h).cell gTab j h1
 rw [this]
 congr 2
 simp only [List.getD_eq_getElem?_getD, List.getElem?_map]
 cases Lib.deBruijn64tab[j]? <;> rfl
theorem heap_pos {W : World} (h : TabAt W) : 0 < W.heap.size := World.block_lt_of_cell? W ⟨0, 0, none⟩ (h 0 (by decide))
theorem bulk_pos {H : Type} (d : DataW H) : 0 < Rows.uptoBulk d := by
 cases d
 case lit l => cases l <;> simp [Rows.uptoBulk]
 all_goals simp [Rows.uptoBulk]
theorem bulk_list {H : Type} (l : List (DataW H)) : l.length ≤ Rows.uptoBulkAll l ∧ ∀ d ∈ l, Rows.uptoBulk d ≤ Rows.uptoBulkAll l := by
 induction l with
 | nil => exact ⟨Nat.zero_le _, fun s hs => by cases hs⟩
 | cons x r ih =>
  have e : Rows.uptoBulkAll (x :: r) = Rows.uptoBulk x + Rows.uptoBulkAll r := by simp [Rows.uptoBulkAll]
  have := bulk_pos x
  rw [e]
  refine ⟨by simp; omega, fun s hs => ?_⟩
  rcases List.mem_cons.1 hs with rfl | h
  · omega
  · have := ih.2 s h; omega
theorem list1 {α : Type} {l : List α} (h : l.length = 1) : ∃ c0, l = [c0] := by
 match l, h with
 | [c0], _ => exact ⟨c0, rfl⟩
theorem list3 {α : Type} {l : List α} (h : l.length = 3) : ∃ c0 c1 c2, l = [c0, c1, c2] := by
 match l, h with
 | [c0, c1, c2], _ => exact ⟨c0, c1, c2, rfl⟩
theorem list_open {H : Type} {enc : TypeId × Value → H} {W : World} {n : Nat} {v : Value} {y : DataW H × List MemPlace} {T e sz : Nat} {α : Type} [Inhabited α] (At : Nat → Nat → α → Prop) (Z : α → Nat → Prop) (hZ : ∀ x a b, a ≤ b → Z x a → Z x b)
 (hT : Tryz.prog.underlying T = some (.slice e)) (hc : Tryz.prog.cellsOf e = sz)
 (item : ∀ {n' : Nat} {a : Addr} {cs : List Value} {z : DataW H × List MemPlace}, W.cells? 0 a sz = some cs → DataW.trod enc Tryz.prog W 0 (fun _ => true) true n' e cs = some z → ∃ x : α, At a.block a.off x ∧ a.spot = none ∧ Z x (Rows.uptoBulk z.1))
 (h : DataW.trod enc Tryz.prog W 0 (fun _ => true) true n T [v] = some y) :
 ∃ aL cL, ∃ L : List α, v = .slice aL L.length cL ∧ (∀ (k : Nat) (hk : k < L.length), ∃ g o, aL = some ⟨g, o, none⟩ ∧ At g (o + k * sz) L[k]) ∧ L.length ≤ Rows.uptoBulk y.1 ∧ ∀ x ∈ L, Z x (Rows.uptoBulk y.1) := by
 rcases open_slice hT h with ⟨hcs, _⟩ | ⟨a, len, cap, m, n', D, Pl, hcs, _, hl, _, hmm, hy, hx⟩
 · simp only [List.cons.injEq, and_true] at hcs
   exact ⟨none, 0, [], hcs, fun k hk => by simp at hk, by simp, fun s hs => by cases hs⟩
 · simp only [List.cons.injEq, and_true] at hcs
   simp only [if_true] at hmm
   have hsp : 0 < len → a.spot = none := by
    intro h0
    obtain ⟨cs', h1, h2⟩ := hx 0 (by omega)
    rw [hc] at h1
    obtain ⟨x, _, sp, _⟩ := item h1 h2
    simpa [Addr.add] using sp
   have each : ∀ i, i < len → ∃ x : α, At a.block (a.off + i * sz) x ∧ a.spot = none ∧ Z x (Rows.uptoBulk (D i)) := by
    intro i hi
    obtain ⟨cs', h1, h2⟩ := hx i (by omega)
    rw [hc] at h1
    obtain ⟨x, o, _, z⟩ := item h1 h2
    obtain ⟨ab, ao, spot⟩ := a
    have hs : spot = none := hsp (by omega)
    subst hs
    rw [Addr.add_lit] at o
    exact ⟨x, o, rfl, z⟩
   have hb := bulk_list (H := H) ((List.range len).map D)
   have hyb : Rows.uptoBulkAll ((List.range len).map D) ≤ Rows.uptoBulk y.1 := by rw [hy]; simp only [Rows.uptoBulk]; omega
   obtain ⟨q, hq⟩ := choose_lt each
   refine ⟨some a, cap, (List.range len).map q, by simpa using hcs, fun k hk => ?_, ?_, fun x hx2 => ?_⟩
   · have hk' : k < len := by simpa using hk
     obtain ⟨ab, ao, spot⟩ := a
     have hsp : spot = none := (hq k hk').2.1
     subst hsp
     refine ⟨ab, ao, rfl, ?_⟩
     have := (hq k hk').1
     simpa using this
   · have := hb.1
     simp at this
     simp
     omega
   · obtain ⟨i, hi, rfl⟩ := List.mem_map.1 hx2
     have hi' := List.mem_range.1 hi
     have h1 := (hq i hi').2.2
     have h2 := hb.2 (D i) (List.mem_map_of_mem hi)
     exact hZ _ _ _ (by omega) h1
theorem list5 {α : Type} {l : List α} (h : l.length = 5) : ∃ c0 c1 c2 c3 c4, l = [c0, c1, c2, c3, c4] := by
 match l, h with
 | [c0, c1, c2, c3, c4], _ => exact ⟨c0, c1, c2, c3, c4, rfl⟩
theorem num_item {H : Type} {enc : TypeId × Value → H} {W : World} {n : Nat} {a : Addr} {cs : List Value} {y : DataW H × List MemPlace} (h1 : W.cells? 0 a 1 = some cs) (h : DataW.trod enc Tryz.prog W 0 (fun _ => true) true n 3 cs = some y) :
 ∃ x : Int, W.cell? ⟨a.block, a.off, none⟩ = some (.int .i64 x) ∧ a.spot = none := by
 obtain ⟨_, hlen, hcell⟩ := World.cells?_some h1
 obtain ⟨v0, rfl⟩ := list1 hlen
 obtain ⟨k, e1, _, _⟩ := DataW.trod_int Tryz.underlying3 h
 simp only [List.cons.injEq, and_true] at e1
 subst e1
 have c0 := hcell 0 (by omega)
 obtain ⟨ab, ao, spot⟩ := a
 have hspot : spot = none := by simpa [Addr.add] using World.cell?_spot c0
 subst hspot
 rw [Addr.add_lit] at c0
 exact ⟨k, c0, rfl⟩
theorem ed_item {H : Type} {enc : TypeId × Value → H} {W : World} {n : Nat} {a : Addr} {cs : List Value} {y : DataW H × List MemPlace} (h1 : W.cells? 0 a 3 = some cs) (h : DataW.trod enc Tryz.prog W 0 (fun _ => true) true n 61 cs = some y) :
 ∃ x : EdT, (W.cell? ⟨a.block, a.off, none⟩ = some (.int .i64 x.1) ∧ W.cell? ⟨a.block, a.off + 1, none⟩ = some (.int .i64 x.2.1) ∧ W.cell? ⟨a.block, a.off + 2, none⟩ = some (.int .i64 x.2.2)) ∧ a.spot = none := by
 obtain ⟨_, hlen, hcell⟩ := World.cells?_some h1
 obtain ⟨v0, v1, v2, rfl⟩ := list3 hlen
 obtain ⟨xs, n', _, hx, hl, hlen2, hfl⟩ := DataW.trod_struct Tryz.underlying61 h
 obtain ⟨y0, y1, y2, rfl⟩ := list3 hlen2
 have g0 := hfl 0 _ rfl
 have g1 := hfl 1 _ rfl
 have g2 := hfl 2 _ rfl
 simp [cells3] at g0 g1 g2
 obtain ⟨s, e0, _, _⟩ := DataW.trod_int Tryz.underlying3 g0
 obtain ⟨t, e1, _, _⟩ := DataW.trod_int Tryz.underlying3 g1
 obtain ⟨u, e2, _, _⟩ := DataW.trod_int Tryz.underlying3 g2
 simp only [List.cons.injEq, and_true] at e0 e1 e2
 subst e0 e1 e2
 have c0 := hcell 0 (by omega)
 have c1 := hcell 1 (by omega)
 have c2 := hcell 2 (by omega)
 obtain ⟨ab, ao, spot⟩ := a
 have hspot : spot = none := by simpa [Addr.add] using World.cell?_spot c0
 subst hspot
 rw [Addr.add_lit] at c0 c1 c2
 exact ⟨(s, t, u), ⟨c0, c1, c2⟩, rfl⟩
theorem nums_open {H : Type} {enc : TypeId × Value → H} {W : World} {n : Nat} {v : Value} {y : DataW H × List MemPlace} (h : DataW.trod enc Tryz.prog W 0 (fun _ => true) true n 22 [v] = some y) :
 ∃ (a : Option Addr) (c : Nat) (L : List Int), v = .slice a L.length c ∧ RdN W a L ∧ L.length ≤ Rows.uptoBulk y.1 := by
 obtain ⟨a, k, L, rfl, hL, l1, _⟩ := list_open (α := Int) (fun g o x => W.cell? ⟨g, o, none⟩ = some (.int .i64 x)) (fun _ _ => True) (fun _ _ _ _ q => q) Tryz.underlying22 cells3 (fun h1 h2 => by obtain ⟨x, q, s⟩ := num_item h1 h2; exact ⟨x, q, s, trivial⟩) h
 refine ⟨a, k, L, rfl, fun k hk => ?_, l1⟩
 obtain ⟨g, o, e, q⟩ := hL k hk
 exact ⟨g, o, e, by rw [Nat.mul_one] at q; exact q⟩
theorem auto_open {H : Type} {enc : TypeId × Value → H} {W : World} {n : Nat} {v0 v1 v2 v3 v4 : Value} {y : DataW H × List MemPlace} (h : DataW.trod enc Tryz.prog W 0 (fun _ => true) true n 25 [v0, v1, v2, v3, v4] = some y) :
 ∃ (nn mm : Int) (a1 a2 a3 : Option Addr) (c1 c2 c3 : Nat) (St Fi : List Int) (Ed : List EdT), v0 = .int .i64 nn ∧ v1 = .int .i64 mm ∧ v2 = .slice a1 St.length c1 ∧ v3 = .slice a2 Fi.length c2 ∧ v4 = .slice a3 Ed.length c3 ∧ RdA W a1 a2 a3 St Fi Ed ∧
  St.length ≤ Rows.uptoBulk y.1 ∧ Fi.length ≤ Rows.uptoBulk y.1 ∧ Ed.length ≤ Rows.uptoBulk y.1 := by
 obtain ⟨ys, n2, _, hx2, hl2, hlen2, hfl2⟩ := DataW.trod_struct Tryz.underlying25 h
 obtain ⟨z0, z1, z2, z3, z4, rfl⟩ := list5 hlen2
 have g0 := hfl2 0 _ rfl
 have g1 := hfl2 1 _ rfl
 have g2 := hfl2 2 _ rfl
 have g3 := hfl2 3 _ rfl
 have g4 := hfl2 4 _ rfl
 simp [cells3, cellsI, cellsEs] at g0 g1 g2 g3 g4
 obtain ⟨nn, e0, _, _⟩ := DataW.trod_int Tryz.underlying3 g0
 obtain ⟨mm, e1, _, _⟩ := DataW.trod_int Tryz.underlying3 g1
 simp only [List.cons.injEq, and_true] at e0 e1
 have hb0 : Rows.uptoBulk z2.1 ≤ Rows.uptoBulk y.1 ∧ Rows.uptoBulk z3.1 ≤ Rows.uptoBulk y.1 ∧ Rows.uptoBulk z4.1 ≤ Rows.uptoBulk y.1 := by
  rw [hx2]
  simp only [List.map_cons, List.map_nil, Rows.uptoBulk, Rows.uptoBulkAll]
  exact ⟨by omega, by omega, by omega⟩
 obtain ⟨a1, k1, St, e2, hSt, l1⟩ := nums_open g2
 obtain ⟨a2, k2, Fi, e3, hFi, l2⟩ := nums_open g3
 obtain ⟨a3, k3, Ed, e4, hEd, l3, _⟩ := list_open (α := EdT) (fun g o x => W.cell? ⟨g, o, none⟩ = some (.int .i64 x.1) ∧ W.cell? ⟨g, o + 1, none⟩ = some (.int .i64 x.2.1) ∧ W.cell? ⟨g, o + 2, none⟩ = some (.int .i64 x.2.2)) (fun _ _ => True) (fun _ _ _ _ q => q) Tryz.underlying23 cells59 (fun h1 h2 => by obtain ⟨x, q, s⟩ := ed_item h1 h2; exact ⟨x, q, s, trivial⟩) g4
 exact ⟨nn, mm, a1, a2, a3, k1, k2, k3, St, Fi, Ed, e0, e1, e2, e3, e4, ⟨hSt, hFi, hEd⟩, by omega, by omega, by omega⟩
theorem cellsM : Tryz.prog.cellsOf 27 = 12 := by kernel_rfl
theorem list12 {α : Type} {l : List α} (h : l.length = 12) : ∃ a b c d e f g h i j k o, l = [a, b, c, d, e, f, g, h, i, j, k, o] := by
 match l, h with
 | [a, b, c, d, e, f, g, h, i, j, k, o], _ => exact ⟨a, b, c, d, e, f, g, h, i, j, k, o, rfl⟩
theorem list4 {α : Type} {l : List α} (h : l.length = 4) : ∃ a b c d, l = [a, b, c, d] := by
 match l, h with
 | [a, b, c, d], _ => exact ⟨a, b, c, d, rfl⟩
theorem slice_room {H : Type} {enc : TypeId × Value → H} {W : World} {n : Nat} {a : Option Addr} {l c T e : Nat} {y : DataW H × List MemPlace} (hT : Tryz.prog.underlying T = some (.slice e)) (h : DataW.trod enc Tryz.prog W 0 (fun _ => true) true n T [.slice a l c] = some y) : l ≤ c ∧ (a = none → c = 0) := by
 rcases open_slice hT h with ⟨hcs, _⟩ | ⟨_, len, cap, _, _, _, _, hcs, _, hlc, _⟩
 · simp only [List.cons.injEq, and_true] at hcs
   injection hcs with e1 e2 e3
   exact ⟨by omega, fun _ => e3⟩
 · simp only [List.cons.injEq, and_true] at hcs
   injection hcs with e1 e2 e3
   exact ⟨by omega, fun h => by rw [e1] at h; cases h⟩
theorem auto_full {H : Type} {enc : TypeId × Value → H} {W : World} {n : Nat} {v0 v1 v2 v3 v4 : Value} {y : DataW H × List MemPlace} (h : DataW.trod enc Tryz.prog W 0 (fun _ => true) true n 25 [v0, v1, v2, v3, v4] = some y) :
 ∃ (nn mm : Int) (a1 a2 a3 : Option Addr) (c1 c2 c3 : Nat) (St Fi : List Int) (Ed : List EdT), v0 = .int .i64 nn ∧ v1 = .int .i64 mm ∧ v2 = .slice a1 St.length c1 ∧ v3 = .slice a2 Fi.length c2 ∧ v4 = .slice a3 Ed.length c3 ∧ RdA W a1 a2 a3 St Fi Ed ∧
  (St.length ≤ Rows.uptoBulk y.1 ∧ Fi.length ≤ Rows.uptoBulk y.1 ∧ Ed.length ≤ Rows.uptoBulk y.1) ∧ (a1 = none → c1 = 0) ∧ (a2 = none → c2 = 0) ∧ (a3 = none → c3 = 0) ∧ Ed.length ≤ c3 := by
 obtain ⟨nn, mm, a1, a2, a3, c1, c2, c3, St, Fi, Ed, e0, e1, e2, e3, e4, hr, l1, l2, l3⟩ := auto_open h
 subst e2 e3 e4
 obtain ⟨ys, n2, _, hx2, hl2, hlen2, hfl2⟩ := DataW.trod_struct Tryz.underlying25 h
 obtain ⟨z0, z1, z2, z3, z4, rfl⟩ := list5 hlen2
 have g2 := hfl2 2 _ rfl
 have g3 := hfl2 3 _ rfl
 have g4 := hfl2 4 _ rfl
 simp [cellsI, cellsEs] at g2 g3 g4
 have r2 := slice_room Tryz.underlying22 g2
 have r3 := slice_room Tryz.underlying22 g3
 have r4 := slice_room Tryz.underlying23 g4
 exact ⟨nn, mm, a1, a2, a3, c1, c2, c3, St, Fi, Ed, e0, e1, rfl, rfl, rfl, hr, ⟨l1, l2, l3⟩, r2.2, r3.2, r4.2, r4.1⟩
theorem means_full {H : Type} {enc : TypeId × Value → H} {W : World} {base : Nat} {v : Value} {d : DataW H} {p : List MemPlace} (hv : Value.okWide Tryz.prog W .any base 27 v) (h : DataW.Trod enc Tryz.prog W 0 (fun _ => true) true 27 v d p) (hk : Rows.uptoBulk d ≤ 1048576) :
 ∃ (n m n' m' : Int) (a1 a2 a3 b1 b2 b3 aw av : Option Addr) (c1 c2 c3 d1 d2 d3 cw cv : Nat) (St Fi Sb Fb Wd Vd : List Int) (Ed Eb : List EdT), v = .agg #[.int .i64 n, .int .i64 m, .slice a1 St.length c1, .slice a2 Fi.length c2, .slice a3 Ed.length c3, .int .i64 n', .int .i64 m', .slice b1 Sb.length d1, .slice b2 Fb.length d2, .slice b3 Eb.length d3, .slice aw Wd.length cw, .slice av Vd.length cv] ∧ RdA W a1 a2 a3 St Fi Ed ∧ RdA W b1 b2 b3 Sb Fb Eb ∧ RdN W aw Wd ∧ RdN W av Vd ∧ (St.length ≤ 1048576 ∧ Fi.length ≤ 1048576 ∧ Ed.length ≤ 1048576) ∧ (Sb.length ≤ 1048576 ∧ Fb.length ≤ 1048576 ∧ Eb.length ≤ 1048576) ∧ (Wd.length ≤ 1048576 ∧ Wd.length ≤ cw ∧ (aw = none → cw = 0)) ∧ (Vd.length ≤ 1048576 ∧ (av = none → cv = 0)) ∧ Ed.length ≤ c3 ∧ Wd.length + Vd.length ≤ 1048576 := by
 obtain ⟨cs, rfl, hsz⟩ := okWide_struct Tryz.underlying27 hv
 obtain ⟨l⟩ := cs
 have hl12 : l.length = 12 := hsz.trans cellsM
 obtain ⟨x0, x1, x2, x3, x4, x5, x6, x7, x8, x9, x10, x11, rfl⟩ := list12 hl12
 obtain ⟨fuel, hf⟩ := h
 obtain ⟨xs, n, _, hx, hl, hlen, hfl⟩ := DataW.trod_struct Tryz.underlying27 hf
 obtain ⟨y0, y1, y2, y3, rfl⟩ := list4 hlen
 have h0 := hfl 0 _ rfl
 have h1 := hfl 1 _ rfl
 have h2 := hfl 2 _ rfl
 have h3 := hfl 3 _ rfl
 simp [Value.cells, cellsI, cells25] at h0 h1 h2 h3
 simp only [Prod.mk.injEq] at hx
 rw [hx.1] at hk
 simp only [List.map_cons, List.map_nil, Rows.uptoBulk, Rows.uptoBulkAll] at hk
 obtain ⟨n, m, a1, a2, a3, k1, k2, k3, St, Fi, Ed, rfl, rfl, rfl, rfl, rfl, rA, ⟨e1, e2, e3⟩, zA⟩ := auto_full h0
 obtain ⟨n', m', b1, b2, b3, j1, j2, j3, Sb, Fb, Eb, rfl, rfl, rfl, rfl, rfl, rB, f1, f2, f3⟩ := auto_open h1
 obtain ⟨aw, cw, Wd, rfl, rW, l4⟩ := nums_open h2
 obtain ⟨av, cv, Vd, rfl, rV, l6⟩ := nums_open h3
 have zW := slice_room Tryz.underlying22 h2
 have zV := slice_room Tryz.underlying22 h3
 exact ⟨n, m, n', m', a1, a2, a3, b1, b2, b3, aw, av, k1, k2, k3, j1, j2, j3, cw, cv, St, Fi, Sb, Fb, Wd, Vd, Ed, Eb, rfl, rA, rB, rW, rV, ⟨by omega, by omega, by omega⟩, ⟨by omega, by omega, by omega⟩, ⟨by omega, zW.1, zW.2⟩, ⟨by omega, zV.2⟩, zA.2.2.2, by omega⟩
end Go.Proofs.YtchoopnjckcohaaGreatDoor.frame
