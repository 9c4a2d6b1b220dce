import Derived.Test.YtchoopnjckcohaaGreatDoorCards
import Derived.Test.YtchoopnjckcohaaGreatDoorTie
import Derived.Test.YtchoopnjckcohaaGreatDoorQaj
import Derived.ProofKit
import Derived.OpenShut
import Derived.ShutString
import Derived.Deep.DeepHandedRow
import Derived.Lib.LaidTab
import Derived.Lib.SmallJoins
import Derived.ChangeOld
import Derived.Lay
import Derived.Deep.Slices
set_option maxRecDepth 100000
set_option maxHeartbeats 40000000
namespace Go.Proofs.YtchoopnjckcohaaGreatDoor
open Go.RowKit Go.Maps Go.Shelf
attribute [local go_sem] Oper.semAt_some
theorem ans_rd {f : Nat} {args : Array Value} {w : World} {r : Ans} (h : Calls Tryz.prog f args w (AnsO w r)) {rn rm : Int} {rs rf : List Int} {re : List EdT} {rr : Int} (hr : r = Ans.mk rn rm rs rf re rr) : Calls Tryz.prog f args w fun e w' => ∃ x1 y1 x2 y2 x3 y3, e = .returned (.tuple #[.agg #[.int .i64 rn, .int .i64 rm, .slice x1 rs.length y1, .slice x2 rf.length y2, .slice x3 re.length y3], .int .i64 rr]) ∧ Hid (RdA w' x1 x2 x3 rs rf re) ∧ Below w.heap.size w w' := by
 subst hr
 refine h.mono ?_
 rintro e w' ⟨x1, y1, x2, y2, x3, y3, rfl, HO, D⟩
 exact ⟨x1, y1, x2, y2, x3, y3, rfl, hide ⟨own_rdN HO.out.s, own_rdN HO.out.f, own_rdE HO.out.e⟩, D⟩
theorem lef_er (n m : Int) (Sa Fa : List Int) (Ea : List EdT) (V : List Int) : (lefA n m Sa Fa Ea V).er = wordErr n m Sa Fa Ea V := by
 unfold lefA
 split
 · rename_i h; exact h.symm
 · rfl
theorem rig_er (n m : Int) (Sa Fa : List Int) (Ea : List EdT) (V : List Int) : (rigA n m Sa Fa Ea V).er = wordErr n m Sa Fa Ea V := by
 unfold rigA
 split
 · rename_i h; exact h.symm
 · rfl
theorem al_no_er (m : Int) : (alA m).er = (noA m).er := by
 unfold alA noA
 split <;> rfl
theorem tmeans_any (w : World) (n m n' m' : Int) (a1 a2 a3 b1 b2 b3 aw av : Option Addr) (n1 n2 n3 l1 l2 l3 nw nv c1 c2 c3 d1 d2 d3 cw cv : Nat) (Sa Fa Sb Fb Wd Vd : List Int) (Ea Eb : List EdT) (en : Hid (Sa.length = n1 ∧ Fa.length = n2 ∧ Ea.length = n3 ∧ Sb.length = l1 ∧ Fb.length = l2 ∧ Eb.length = l3 ∧ Wd.length = nw ∧ Vd.length = nv)) (hA : Hid (RdA w a1 a2 a3 Sa Fa Ea)) (hB : Hid (RdA w b1 b2 b3 Sb Fb Eb)) (hU : Hid (RdN w aw Wd)) (hV : Hid (RdN w av Vd)) (h1 : n1 ≤ 1048576) (h2 : n2 ≤ 1048576) (h3 : n3 ≤ 1048576) (h4 : l1 ≤ 1048576) (h5 : l2 ≤ 1048576) (h6 : l3 ≤ 1048576) (h7 : nw ≤ 1048576) (h8 : nv ≤ 1048576) (hca : n3 ≤ c3) (hcw : nw ≤ cw) (zw : Hid (aw = none → cw = 0)) (zv : Hid (av = none → cv = 0)) (hT : Hid (TabAt w)) (h0 : 0 < w.heap.size) :
 Calls Tryz.prog 5 #[.agg #[.int .i64 n, .int .i64 m, .slice a1 n1 c1, .slice a2 n2 c2, .slice a3 n3 c3, .int .i64 n', .int .i64 m', .slice b1 l1 d1, .slice b2 l2 d2, .slice b3 l3 d3, .slice aw nw cw, .slice av nv cv]] w fun e w' => e = .returned (.bool true) ∧ Below w.heap.size w w' := by
 obtain ⟨W0, hW0⟩ : ∃ W0, w.alloc (.cells #[.int .i64 n, .int .i64 m, .slice a1 n1 c1, .slice a2 n2 c2, .slice a3 n3 c3, .int .i64 n', .int .i64 m', .slice b1 l1 d1, .slice b2 l2 d2, .slice b3 l3 d3, .slice aw nw cw, .slice av nv cv] 27) = W0 := ⟨_, rfl⟩
 have HB : Hid (W0.heap[w.heap.size]? = some (.cells #[.int .i64 n, .int .i64 m, .slice a1 n1 c1, .slice a2 n2 c2, .slice a3 n3 c3, .int .i64 n', .int .i64 m', .slice b1 l1 d1, .slice b2 l2 d2, .slice b3 l3 d3, .slice aw nw cw, .slice av nv cv] 27 (0, 0)) ∧ Below w.heap.size w W0) := hide (by rw [← hW0]; exact ⟨World.alloc_heap_new _ _, (Below.refl _ _).alloc (Nat.le_refl _) _⟩)
 have HW : Hid (Wd.length = nw) := hide en.out.2.2.2.2.2.2.1
 have TL := lives_any W0
 go_enter Tryz.func5, Tryz.ntmps5
 go_upto_region 3 with (go_at_call 7; refine TL.mono ?_; rintro e wl ⟨rfl, DL⟩)
 have DK : Hid (Below W0.heap.size W0 wl) := hide DL
 clear TL DL hW0
 obtain ⟨y0, y1, y2, y3, y4, y5, y6, y7, y8, y9, y10, y11⟩ := zc12 (blk_on HB.out.1 DK.out)
 have TY := lsyms_any wl aw cw Wd m (hide (hU.out.on (HB.out.2.trans (DK.out.mono HB.out.2.size)))) (by have := en.out; omega)
 rw [en.out.2.2.2.2.2.2.1] at TY
 go_upto_if 31 with (go_at_call 12; refine TY.mono ?_; rintro e wy ⟨rfl, DY⟩)
 have HC := hide DY
 clear TY DY y0 y1 y2 y3 y4 y5 y6 y7 y8 y9 y10 y11
 replace DK : Hid (Below W0.heap.size W0 wy) := hide (DK.out.trans (HC.out.mono DK.out.size))
 clear HC
 go_cut [3] from 4 to 149 (fun v3 W => v3 = .slice aw nw cw ∧ Hid (Below W0.heap.size W0 W))
 case first =>
  cases hsy : Wd.all (inB m) with
  | false =>
   go_wp2_with fail
   go_meet
   exact ⟨rfl, DK⟩
  | true =>
   have HSY := hide hsy
   obtain ⟨rns, rms, rss, rfs, res, rrs, hrs⟩ : ∃ a b c d e f, staA n m Sa Fa Ea = Ans.mk a b c d e f := ⟨_, _, _, _, _, _, rfl⟩
   have HWB : Hid (Below w.heap.size w wy) := hide (HB.out.2.trans (DK.out.mono HB.out.2.size))
   have TM := mk_sta wy n m a1 a2 a3 c1 c2 c3 Sa Fa Ea (hide (hA.out.on HWB.out)) (by have := en.out; omega) (by have := en.out; omega) (by have := en.out; omega)
   replace TM := ans_rd TM hrs
   rw [en.out.1, en.out.2.1, en.out.2.2.1] at TM
   have HEs := hide hrs
   clear hrs
   obtain ⟨y0, y1, y2, y3, y4, y5, y6, y7, y8, y9, y10, y11⟩ := zc12 (blk_on HB.out.1 DK.out)
   go_upto_region 6 with (go_at_call 16; refine TM.mono ?_; rintro e ws ⟨x1s, y1s, x2s, y2s, x3s, y3s, rfl, HOs, DQs⟩)
   clear TM y0 y1 y2 y3 y4 y5 y6 y7 y8 y9 y10 y11
   obtain ⟨Ws, hWs⟩ : ∃ W, ws.alloc (.cells #[.int .i64 rns, .int .i64 rms, .slice x1s rss.length y1s, .slice x2s rfs.length y2s, .slice x3s res.length y3s] 25) = W := ⟨_, rfl⟩
   obtain ⟨ps, hps⟩ : ∃ p, ws.heap.size = p := ⟨_, rfl⟩
   have HXs : Hid (Ws.heap[ps]? = some (.cells #[.int .i64 rns, .int .i64 rms, .slice x1s rss.length y1s, .slice x2s rfs.length y2s, .slice x3s res.length y3s] 25 (0, 0)) ∧ RdA Ws x1s x2s x3s rss rfs res) := hide (by rw [← hWs, ← hps]; exact ⟨World.alloc_heap_new _ _, HOs.out.on ((Below.refl _ _).alloc (Nat.le_refl _) _)⟩)
   have HC : Hid (Below wy.heap.size wy Ws) := hide (by rw [← hWs]; exact DQs.trans (((Below.refl _ _).alloc (Nat.le_refl _) _).mono DQs.size))
   rw [hWs, hps]
   clear hWs hps HOs DQs HWB
   replace DK : Hid (Below W0.heap.size W0 Ws) := hide (DK.out.trans (HC.out.mono DK.out.size))
   clear HC
   have HLNs : Hid (rss.length ≤ 4000000 ∧ rfs.length ≤ 4000000 ∧ res.length ≤ 1000000) := hide (by have q := mkA_len (k := 2) (n := n) (m := m) (Sa := Sa) (Fa := Fa) (Ea := Ea) (n' := n') (m' := m') (Sb := Sb) (Fb := Fb) (Eb := Eb) (Wd := Vd) (s := m) (by have := en.out; omega) (by have := en.out; omega) (by have := en.out; omega) (by have := en.out; omega) (by have := en.out; omega); rw [show mkA 2 n m Sa Fa Ea n' m' Sb Fb Eb Vd m = staA n m Sa Fa Ea from rfl, HEs.out] at q; exact q)
   obtain ⟨vs, hvs⟩ : ∃ v, tkF rns rms rss rfs res Wd = v := ⟨_, rfl⟩
   have HVs : Hid (rrs = 0 → staB (tkF n m Sa Fa Ea) Wd nw = vs) := hide (fun e => by
    have h0 : (staA n m Sa Fa Ea).er = 0 := by rw [HEs.out]; exact e
    have q := tk_sta h0 Wd HSY.out
    rw [HEs.out] at q
    rw [← hvs, Bool.eq_iff_iff, staB_iff, List.take_of_length_le (by rw [HW.out]; exact Nat.le_refl _)]
    exact q.symm)
   have TK : Hid (∀ W, Below Ws.heap.size Ws W → Calls Tryz.prog 11 #[.agg #[.int .i64 rns, .int .i64 rms, .slice x1s rss.length y1s, .slice x2s rfs.length y2s, .slice x3s res.length y3s], .slice aw nw cw] W fun e w' => e = .returned (.bool vs) ∧ Below W.heap.size W w') := hide (fun W d => by
    have q := ltakes_any W rns rms x1s x2s x3s y1s y2s y3s rss rfs res aw cw Wd (hide (HXs.out.2.on d)) (hide (hU.out.on (HB.out.2.trans ((DK.out.trans (d.mono DK.out.size)).mono HB.out.2.size)))) (by have := HLNs.out; omega) (by have := HLNs.out; omega) (by have := HLNs.out; omega) (by have := en.out; omega)
    rw [HW.out, hvs] at q
    exact q)
   clear hvs
   have TZ : Hid (∀ W, Below Ws.heap.size Ws W → Calls Tryz.prog 27 #[.agg #[.int .i64 n, .int .i64 m, .slice a1 n1 c1, .slice a2 n2 c2, .slice a3 n3 c3], .slice aw nw cw] W fun e w' => e = .returned (.bool (staB (tkF n m Sa Fa Ea) Wd nw)) ∧ Below W.heap.size W w') := hide (fun W d => starred_any W n m a1 a2 a3 c1 c2 c3 n1 n2 n3 Sa Fa Ea (hide ⟨en.out.1, en.out.2.1, en.out.2.2.1⟩) (hide (hA.out.on (HB.out.2.trans ((DK.out.trans (d.mono DK.out.size)).mono HB.out.2.size)))) (by have := en.out; omega) (by have := en.out; omega) (by have := en.out; omega) aw nw cw Wd HW (hide (hU.out.on (HB.out.2.trans ((DK.out.trans (d.mono DK.out.size)).mono HB.out.2.size)))) hcw (by have := en.out; omega))
   go_upto_region 6 with fail
   go_cut [49] from 38 to 49 (fun v W => v = .bool false ∧ Hid (Below Ws.heap.size Ws W))
   case first =>
    by_cases he : rrs = 0
    · subst he
      rw [HVs.out rfl] at TZ
      have hmo : MonIL 0 [vI 0 (.int .i64 0), vI 1 (.bool true), vI 2 (.bool true), vI 3 (.agg #[.int .i64 rns, .int .i64 rms, .slice x1s rss.length y1s, .slice x2s rfs.length y2s, .slice x3s res.length y3s]), vI 4 (.slice aw nw cw), vI 5 (.bool vs), vI 6 (.pointer (some ⟨w.heap.size, 0, none⟩)), vI 7 (.agg #[.int .i64 n, .int .i64 m, .slice a1 n1 c1, .slice a2 n2 c2, .slice a3 n3 c3]), vI 8 (.slice aw nw cw), vI 9 (.bool vs), vI 10 (.bool false), vI 11 (.bool false)] := ⟨vI_mono _ _, vI_mono _ _, vI_mono _ _, vI_mono _ _, vI_mono _ _, vI_mono _ _, vI_mono _ _, vI_mono _ _, vI_mono _ _, vI_mono _ _, vI_mono _ _, vI_mono _ _, trivial⟩
      refine wp_region_sl _ (by kernel_rfl) (by kernel_rfl) (by kernel_rfl) (by kernel_rfl) hmo ⟨?o0, ?o1, ?o2, ?o3, ?o4, ?o5, ?o6, ?o7, ?o8, ?o9, ?o10, ?o11, trivial⟩ ?fin
      case o0 =>
       intro At yy W hy hb d hd K hK
       obtain ⟨s5, t5⟩ := zsh (hb 5 rfl) rfl
       clear hd hy hb
       go_simp
       exact zkq hK hmo d (if_pos rfl)
      case o1 =>
       intro At yy W hy hb d hd K hK
       obtain ⟨s38, t38⟩ := zsg 0 38 .data hy hd rfl
       clear hd hy hb
       go_simp
       exact zkq hK hmo d (if_pos rfl)
      case o2 =>
       intro At yy W hy hb d hd K hK
       obtain ⟨s39, t39⟩ := zsg 1 39 .data hy hd rfl
       clear hd hy hb
       go_simp
       exact zkq hK hmo d (if_pos rfl)
      case o3 =>
       intro At yy W hy hb d hd K hK
       obtain ⟨s4, t4⟩ := zsh (hb 4 rfl) rfl
       have g40 := zgd 2 40 hy hd rfl
       clear hd hy hb
       obtain ⟨z0, z1, z2, z3, z4⟩ := zc5 (blk_on HXs.out.1 d)
       go_simp
       exact zkq hK hmo d (if_pos rfl)
      case o4 | o8 =>
       intro At yy W hy hb d hd K hK
       obtain ⟨s3, t3⟩ := zsh (hb 3 rfl) rfl
       have g40 := zgd 2 40 hy hd rfl
       clear hd hy hb
       go_simp
       exact zkq hK hmo d (if_pos rfl)
      case o5 =>
       intro At yy W hy hb d hd K hK
       obtain ⟨s41, t41⟩ := zsg 3 41 .data hy hd rfl
       obtain ⟨s42, t42⟩ := zsg 4 42 .data hy hd rfl
       have g40 := zgd 2 40 hy hd rfl
       clear hd hy hb
       go_simp
       go_wp2_with (go_at_call 11; refine (TK.out _ d).mono ?_; rintro e wa ⟨rfl, dR⟩)
       exact hK.out _ wa (stp_of hmo d dR) (if_pos rfl)
      case o6 =>
       intro At yy W hy hb d hd K hK
       obtain ⟨s1, t1⟩ := zsh (hb 1 rfl) rfl
       have g40 := zgd 2 40 hy hd rfl
       clear hd hy hb
       go_simp
       exact zkq hK hmo d (if_pos rfl)
      case o7 =>
       intro At yy W hy hb d hd K hK
       obtain ⟨s44, t44⟩ := zsg 6 44 .data hy hd rfl
       have g40 := zgd 2 40 hy hd rfl
       clear hd hy hb
       obtain ⟨y0, y1, y2, y3, y4, y5, y6, y7, y8, y9, y10, y11⟩ := zc12 (blk_on HB.out.1 (DK.out.trans (d.mono DK.out.size)))
       go_simp
       exact zkq hK hmo d (if_pos rfl)
      case o9 =>
       intro At yy W hy hb d hd K hK
       obtain ⟨s45, t45⟩ := zsg 7 45 .data hy hd rfl
       obtain ⟨s46, t46⟩ := zsg 8 46 .data hy hd rfl
       have g40 := zgd 2 40 hy hd rfl
       clear hd hy hb
       go_simp
       go_wp2_with (go_at_call 27; refine (TZ.out _ d).mono ?_; rintro e wa ⟨rfl, dR⟩)
       exact hK.out _ wa (stp_of hmo d dR) (if_pos rfl)
      case o10 =>
       intro At yy W hy hb d hd K hK
       obtain ⟨s43, t43⟩ := zsg 5 43 .data hy hd rfl
       obtain ⟨s47, t47⟩ := zsg 9 47 .data hy hd rfl
       have g40 := zgd 2 40 hy hd rfl
       clear hd hy hb
       go_simp
       exact zkq hK hmo d (if_pos rfl)
      case o11 =>
       intro At yy W hy hb d hd K hK
       obtain ⟨s40, t40⟩ := zsg 2 40 .data hy hd rfl
       obtain ⟨s48, t48⟩ := zsg 10 48 .data hy hd rfl
       clear hd hy hb
       go_simp
       exact zkq hK hmo d (if_pos rfl)
      case fin =>
       intro yy lo hi W hM
       show wpList _ _ _ [] _ _
       have e11 := hM.v 11 (by simp) rfl rfl rfl
       have DW := hide hM.d
       simp only [fills, Act.put, List.take, List.length, List.setIfInBounds_toArray, List.set_cons_zero, List.set_cons_succ, e11]
       clear hM hmo e11
       go_wp2_with fail
       go_meet
       exact ⟨rfl, DW⟩
    · have heb : (rrs == 0) = false := by simp [he]
      have hmo : MonIL 0 [vI 0 (.int .i64 rrs), vI 1 (.bool false), vI 2 (.bool false), vI 3 undef, vI 4 undef, vI 5 undef, vI 6 undef, vI 7 undef, vI 8 undef, vI 9 undef, vI 10 undef, vI 11 (.bool false)] := ⟨vI_mono _ _, vI_mono _ _, vI_mono _ _, vI_mono _ _, vI_mono _ _, vI_mono _ _, vI_mono _ _, vI_mono _ _, vI_mono _ _, vI_mono _ _, vI_mono _ _, vI_mono _ _, trivial⟩
      refine wp_region_sl _ (by kernel_rfl) (by kernel_rfl) (by kernel_rfl) (by kernel_rfl) hmo ⟨?o0, ?o1, ?o2, ?o3, ?o4, ?o5, ?o6, ?o7, ?o8, ?o9, ?o10, ?o11, trivial⟩ ?fin
      case o0 =>
       intro At yy W hy hb d hd K hK
       obtain ⟨s5, t5⟩ := zsh (hb 5 rfl) rfl
       clear hd hy hb
       go_simp
       exact zkq hK hmo d (if_pos rfl)
      case o1 =>
       intro At yy W hy hb d hd K hK
       obtain ⟨s38, t38⟩ := zsg 0 38 .data hy hd rfl
       clear hd hy hb
       go_simp
       exact zkq hK hmo d (if_pos rfl)
      case o2 =>
       intro At yy W hy hb d hd K hK
       obtain ⟨s39, t39⟩ := zsg 1 39 .data hy hd rfl
       clear hd hy hb
       go_simp
       exact zkq hK hmo d (if_pos rfl)
      case o3 | o4 | o5 | o6 | o7 | o8 | o9 | o10 =>
       intro At yy W hy hb d hd K hK
       have g40 := zgd 2 40 hy hd rfl
       clear hd hy hb
       go_simp
       exact zkq hK hmo d (if_pos rfl)
      case o11 =>
       intro At yy W hy hb d hd K hK
       obtain ⟨s40, t40⟩ := zsg 2 40 .data hy hd rfl
       obtain ⟨s48, t48⟩ := zsg 10 48 .data hy hd rfl
       clear hd hy hb
       go_simp
       exact zkq hK hmo d (if_pos rfl)
      case fin =>
       intro yy lo hi W hM
       show wpList _ _ _ [] _ _
       have e11 := hM.v 11 (by simp) rfl rfl rfl
       have DW := hide hM.d
       simp only [fills, Act.put, List.take, List.length, List.setIfInBounds_toArray, List.set_cons_zero, List.set_cons_succ, e11]
       clear hM hmo e11
       go_wp2_with fail
       go_meet
       exact ⟨rfl, DW⟩
   case rest =>
    rename World => W1
    obtain ⟨rfl, HC⟩ := hcut
    replace DK : Hid (Below W0.heap.size W0 W1) := hide (DK.out.trans (HC.out.mono DK.out.size))
    replace HXs := hide (And.intro (blk_on HXs.out.1 HC.out) (HXs.out.2.on HC.out))
    clear HC
    clear HXs HLNs HEs HVs TK TZ
    obtain ⟨rno, rmo, rso, rfo, reo, rro, hro⟩ : ∃ a b c d e f, onA Vd m = Ans.mk a b c d e f := ⟨_, _, _, _, _, _, rfl⟩
    have HWB : Hid (Below w.heap.size w W1) := hide (HB.out.2.trans (DK.out.mono HB.out.2.size))
    have TM := mk_one W1 av cv Vd (hide (hV.out.on HWB.out)) (by have := en.out; omega) m
    replace TM := ans_rd TM hro
    rw [en.out.2.2.2.2.2.2.2] at TM
    have HEo := hide hro
    clear hro
    obtain ⟨y0, y1, y2, y3, y4, y5, y6, y7, y8, y9, y10, y11⟩ := zc12 (blk_on HB.out.1 DK.out)
    go_upto_region 9 with (go_at_call 20; refine TM.mono ?_; rintro e wo ⟨x1o, y1o, x2o, y2o, x3o, y3o, rfl, HOo, DQo⟩)
    clear TM y0 y1 y2 y3 y4 y5 y6 y7 y8 y9 y10 y11
    obtain ⟨Wo, hWo⟩ : ∃ W, wo.alloc (.cells #[.int .i64 rno, .int .i64 rmo, .slice x1o rso.length y1o, .slice x2o rfo.length y2o, .slice x3o reo.length y3o] 25) = W := ⟨_, rfl⟩
    obtain ⟨po, hpo⟩ : ∃ p, wo.heap.size = p := ⟨_, rfl⟩
    have HXo : Hid (Wo.heap[po]? = some (.cells #[.int .i64 rno, .int .i64 rmo, .slice x1o rso.length y1o, .slice x2o rfo.length y2o, .slice x3o reo.length y3o] 25 (0, 0)) ∧ RdA Wo x1o x2o x3o rso rfo reo) := hide (by rw [← hWo, ← hpo]; exact ⟨World.alloc_heap_new _ _, HOo.out.on ((Below.refl _ _).alloc (Nat.le_refl _) _)⟩)
    have HC : Hid (Below W1.heap.size W1 Wo) := hide (by rw [← hWo]; exact DQo.trans (((Below.refl _ _).alloc (Nat.le_refl _) _).mono DQo.size))
    rw [hWo, hpo]
    clear hWo hpo HOo DQo HWB
    replace DK : Hid (Below W0.heap.size W0 Wo) := hide (DK.out.trans (HC.out.mono DK.out.size))
    clear HC
    have HLNo : Hid (rso.length ≤ 4000000 ∧ rfo.length ≤ 4000000 ∧ reo.length ≤ 1000000) := hide (by have q := mkA_len (k := 7) (n := n) (m := m) (Sa := Sa) (Fa := Fa) (Ea := Ea) (n' := n') (m' := m') (Sb := Sb) (Fb := Fb) (Eb := Eb) (Wd := Vd) (s := m) (by have := en.out; omega) (by have := en.out; omega) (by have := en.out; omega) (by have := en.out; omega) (by have := en.out; omega); rw [show mkA 7 n m Sa Fa Ea n' m' Sb Fb Eb Vd m = onA Vd m from rfl, HEo.out] at q; exact q)
    obtain ⟨vo, hvo⟩ : ∃ v, tkF rno rmo rso rfo reo Wd = v := ⟨_, rfl⟩
    have HVo : Hid (rro = 0 → decide (Wd = Vd) = vo) := hide (fun e => by
     have h0 : (onA Vd m).er = 0 := by rw [HEo.out]; exact e
     have q := tk_one h0 Wd
     rw [HEo.out] at q
     rw [← hvo, Bool.eq_iff_iff, decide_eq_true_eq]
     exact q.symm)
    have TK : Hid (∀ W, Below Wo.heap.size Wo W → Calls Tryz.prog 11 #[.agg #[.int .i64 rno, .int .i64 rmo, .slice x1o rso.length y1o, .slice x2o rfo.length y2o, .slice x3o reo.length y3o], .slice aw nw cw] W fun e w' => e = .returned (.bool vo) ∧ Below W.heap.size W w') := hide (fun W d => by
     have q := ltakes_any W rno rmo x1o x2o x3o y1o y2o y3o rso rfo reo aw cw Wd (hide (HXo.out.2.on d)) (hide (hU.out.on (HB.out.2.trans ((DK.out.trans (d.mono DK.out.size)).mono HB.out.2.size)))) (by have := HLNo.out; omega) (by have := HLNo.out; omega) (by have := HLNo.out; omega) (by have := en.out; omega)
     rw [HW.out, hvo] at q
     exact q)
    clear hvo
    have TZ : Hid (∀ W, Below Wo.heap.size Wo W → Calls Tryz.prog 28 #[.slice aw nw cw, .slice av nv cv] W fun e w' => e = .returned (.bool (decide (Wd = Vd))) ∧ Below W.heap.size W w') := hide (fun W d => by
     have q := sameInts_any W aw av Wd Vd cw cv (hide (hU.out.on (HB.out.2.trans ((DK.out.trans (d.mono DK.out.size)).mono HB.out.2.size)))) (hide (hV.out.on (HB.out.2.trans ((DK.out.trans (d.mono DK.out.size)).mono HB.out.2.size)))) (by have := en.out; omega) (by have := en.out; omega)
     rw [en.out.2.2.2.2.2.2.1, en.out.2.2.2.2.2.2.2] at q
     exact q)
    go_upto_region 9 with fail
    go_cut [70] from 59 to 70 (fun v W => v = .bool false ∧ Hid (Below Wo.heap.size Wo W))
    case first =>
     by_cases he : rro = 0
     · subst he
       rw [HVo.out rfl] at TZ
       have hmo : MonIL 0 [vI 0 (.int .i64 0), vI 1 (.bool true), vI 2 (.bool true), vI 3 (.agg #[.int .i64 rno, .int .i64 rmo, .slice x1o rso.length y1o, .slice x2o rfo.length y2o, .slice x3o reo.length y3o]), vI 4 (.slice aw nw cw), vI 5 (.bool vo), vI 6 (.slice aw nw cw), vI 7 (.pointer (some ⟨w.heap.size, 11, none⟩)), vI 8 (.slice av nv cv), vI 9 (.bool vo), vI 10 (.bool false), vI 11 (.bool false)] := ⟨vI_mono _ _, vI_mono _ _, vI_mono _ _, vI_mono _ _, vI_mono _ _, vI_mono _ _, vI_mono _ _, vI_mono _ _, vI_mono _ _, vI_mono _ _, vI_mono _ _, vI_mono _ _, trivial⟩
       refine wp_region_sl _ (by kernel_rfl) (by kernel_rfl) (by kernel_rfl) (by kernel_rfl) hmo ⟨?o0, ?o1, ?o2, ?o3, ?o4, ?o5, ?o6, ?o7, ?o8, ?o9, ?o10, ?o11, trivial⟩ ?fin
       case o0 =>
        intro At yy W hy hb d hd K hK
        obtain ⟨s7, t7⟩ := zsh (hb 7 rfl) rfl
        clear hd hy hb
        go_simp
        exact zkq hK hmo d (if_pos rfl)
       case o1 =>
        intro At yy W hy hb d hd K hK
        obtain ⟨s59, t59⟩ := zsg 0 59 .data hy hd rfl
        clear hd hy hb
        go_simp
        exact zkq hK hmo d (if_pos rfl)
       case o2 =>
        intro At yy W hy hb d hd K hK
        obtain ⟨s60, t60⟩ := zsg 1 60 .data hy hd rfl
        clear hd hy hb
        go_simp
        exact zkq hK hmo d (if_pos rfl)
       case o3 =>
        intro At yy W hy hb d hd K hK
        obtain ⟨s6, t6⟩ := zsh (hb 6 rfl) rfl
        have g61 := zgd 2 61 hy hd rfl
        clear hd hy hb
        obtain ⟨z0, z1, z2, z3, z4⟩ := zc5 (blk_on HXo.out.1 d)
        go_simp
        exact zkq hK hmo d (if_pos rfl)
       case o4 | o6 =>
        intro At yy W hy hb d hd K hK
        obtain ⟨s3, t3⟩ := zsh (hb 3 rfl) rfl
        have g61 := zgd 2 61 hy hd rfl
        clear hd hy hb
        go_simp
        exact zkq hK hmo d (if_pos rfl)
       case o5 =>
        intro At yy W hy hb d hd K hK
        obtain ⟨s62, t62⟩ := zsg 3 62 .data hy hd rfl
        obtain ⟨s63, t63⟩ := zsg 4 63 .data hy hd rfl
        have g61 := zgd 2 61 hy hd rfl
        clear hd hy hb
        go_simp
        go_wp2_with (go_at_call 11; refine (TK.out _ d).mono ?_; rintro e wa ⟨rfl, dR⟩)
        exact hK.out _ wa (stp_of hmo d dR) (if_pos rfl)
       case o7 =>
        intro At yy W hy hb d hd K hK
        obtain ⟨s1, t1⟩ := zsh (hb 1 rfl) rfl
        have g61 := zgd 2 61 hy hd rfl
        clear hd hy hb
        go_simp
        exact zkq hK hmo d (if_pos rfl)
       case o8 =>
        intro At yy W hy hb d hd K hK
        obtain ⟨s66, t66⟩ := zsg 7 66 .data hy hd rfl
        have g61 := zgd 2 61 hy hd rfl
        clear hd hy hb
        obtain ⟨y0, y1, y2, y3, y4, y5, y6, y7, y8, y9, y10, y11⟩ := zc12 (blk_on HB.out.1 (DK.out.trans (d.mono DK.out.size)))
        go_simp
        exact zkq hK hmo d (if_pos rfl)
       case o9 =>
        intro At yy W hy hb d hd K hK
        obtain ⟨s65, t65⟩ := zsg 6 65 .data hy hd rfl
        obtain ⟨s67, t67⟩ := zsg 8 67 .data hy hd rfl
        have g61 := zgd 2 61 hy hd rfl
        clear hd hy hb
        go_simp
        go_wp2_with (go_at_call 28; refine (TZ.out _ d).mono ?_; rintro e wa ⟨rfl, dR⟩)
        exact hK.out _ wa (stp_of hmo d dR) (if_pos rfl)
       case o10 =>
        intro At yy W hy hb d hd K hK
        obtain ⟨s64, t64⟩ := zsg 5 64 .data hy hd rfl
        obtain ⟨s68, t68⟩ := zsg 9 68 .data hy hd rfl
        have g61 := zgd 2 61 hy hd rfl
        clear hd hy hb
        go_simp
        exact zkq hK hmo d (if_pos rfl)
       case o11 =>
        intro At yy W hy hb d hd K hK
        obtain ⟨s61, t61⟩ := zsg 2 61 .data hy hd rfl
        obtain ⟨s69, t69⟩ := zsg 10 69 .data hy hd rfl
        clear hd hy hb
        go_simp
        exact zkq hK hmo d (if_pos rfl)
       case fin =>
        intro yy lo hi W hM
        show wpList _ _ _ [] _ _
        have e11 := hM.v 11 (by simp) rfl rfl rfl
        have DW := hide hM.d
        simp only [fills, Act.put, List.take, List.length, List.setIfInBounds_toArray, List.set_cons_zero, List.set_cons_succ, e11]
        clear hM hmo e11
        go_wp2_with fail
        go_meet
        exact ⟨rfl, DW⟩
     · have heb : (rro == 0) = false := by simp [he]
       have hmo : MonIL 0 [vI 0 (.int .i64 rro), vI 1 (.bool false), vI 2 (.bool false), vI 3 undef, vI 4 undef, vI 5 undef, vI 6 undef, vI 7 undef, vI 8 undef, vI 9 undef, vI 10 undef, vI 11 (.bool false)] := ⟨vI_mono _ _, vI_mono _ _, vI_mono _ _, vI_mono _ _, vI_mono _ _, vI_mono _ _, vI_mono _ _, vI_mono _ _, vI_mono _ _, vI_mono _ _, vI_mono _ _, vI_mono _ _, trivial⟩
       refine wp_region_sl _ (by kernel_rfl) (by kernel_rfl) (by kernel_rfl) (by kernel_rfl) hmo ⟨?o0, ?o1, ?o2, ?o3, ?o4, ?o5, ?o6, ?o7, ?o8, ?o9, ?o10, ?o11, trivial⟩ ?fin
       case o0 =>
        intro At yy W hy hb d hd K hK
        obtain ⟨s7, t7⟩ := zsh (hb 7 rfl) rfl
        clear hd hy hb
        go_simp
        exact zkq hK hmo d (if_pos rfl)
       case o1 =>
        intro At yy W hy hb d hd K hK
        obtain ⟨s59, t59⟩ := zsg 0 59 .data hy hd rfl
        clear hd hy hb
        go_simp
        exact zkq hK hmo d (if_pos rfl)
       case o2 =>
        intro At yy W hy hb d hd K hK
        obtain ⟨s60, t60⟩ := zsg 1 60 .data hy hd rfl
        clear hd hy hb
        go_simp
        exact zkq hK hmo d (if_pos rfl)
       case o3 | o4 | o5 | o6 | o7 | o8 | o9 | o10 =>
        intro At yy W hy hb d hd K hK
        have g61 := zgd 2 61 hy hd rfl
        clear hd hy hb
        go_simp
        exact zkq hK hmo d (if_pos rfl)
       case o11 =>
        intro At yy W hy hb d hd K hK
        obtain ⟨s61, t61⟩ := zsg 2 61 .data hy hd rfl
        obtain ⟨s69, t69⟩ := zsg 10 69 .data hy hd rfl
        clear hd hy hb
        go_simp
        exact zkq hK hmo d (if_pos rfl)
       case fin =>
        intro yy lo hi W hM
        show wpList _ _ _ [] _ _
        have e11 := hM.v 11 (by simp) rfl rfl rfl
        have DW := hide hM.d
        simp only [fills, Act.put, List.take, List.length, List.setIfInBounds_toArray, List.set_cons_zero, List.set_cons_succ, e11]
        clear hM hmo e11
        go_wp2_with fail
        go_meet
        exact ⟨rfl, DW⟩
    case rest =>
     rename World => W2
     obtain ⟨rfl, HC⟩ := hcut
     replace DK : Hid (Below W0.heap.size W0 W2) := hide (DK.out.trans (HC.out.mono DK.out.size))
     replace HXo := hide (And.intro (blk_on HXo.out.1 HC.out) (HXo.out.2.on HC.out))
     clear HC
     clear HXo HLNo HEo HVo TK TZ
     obtain ⟨rnk, rmk, rsk, rfk, rek, rrk, hrk⟩ : ∃ a b c d e f, lefA n m Sa Fa Ea Vd = Ans.mk a b c d e f := ⟨_, _, _, _, _, _, rfl⟩
     have HWB : Hid (Below w.heap.size w W2) := hide (HB.out.2.trans (DK.out.mono HB.out.2.size))
     have TM := mk_lef W2 n m a1 a2 a3 c1 c2 c3 Sa Fa Ea (hide (hA.out.on HWB.out)) (by have := en.out; omega) (by have := en.out; omega) (by have := en.out; omega) av cv Vd (hide (hV.out.on HWB.out)) (by have := en.out; omega) (hide ⟨hT.out.below HWB.out h0, Nat.lt_of_lt_of_le h0 HWB.out.size⟩)
     replace TM := ans_rd TM hrk
     rw [en.out.1, en.out.2.1, en.out.2.2.1, en.out.2.2.2.2.2.2.2] at TM
     have HEk := hide hrk
     clear hrk
     obtain ⟨y0, y1, y2, y3, y4, y5, y6, y7, y8, y9, y10, y11⟩ := zc12 (blk_on HB.out.1 DK.out)
     go_upto_region 12 with (go_at_call 17; refine TM.mono ?_; rintro e wk ⟨x1k, y1k, x2k, y2k, x3k, y3k, rfl, HOk, DQk⟩)
     clear TM y0 y1 y2 y3 y4 y5 y6 y7 y8 y9 y10 y11
     obtain ⟨Wk, hWk⟩ : ∃ W, wk.alloc (.cells #[.int .i64 rnk, .int .i64 rmk, .slice x1k rsk.length y1k, .slice x2k rfk.length y2k, .slice x3k rek.length y3k] 25) = W := ⟨_, rfl⟩
     obtain ⟨pk, hpk⟩ : ∃ p, wk.heap.size = p := ⟨_, rfl⟩
     have HXk : Hid (Wk.heap[pk]? = some (.cells #[.int .i64 rnk, .int .i64 rmk, .slice x1k rsk.length y1k, .slice x2k rfk.length y2k, .slice x3k rek.length y3k] 25 (0, 0)) ∧ RdA Wk x1k x2k x3k rsk rfk rek) := hide (by rw [← hWk, ← hpk]; exact ⟨World.alloc_heap_new _ _, HOk.out.on ((Below.refl _ _).alloc (Nat.le_refl _) _)⟩)
     have HC : Hid (Below W2.heap.size W2 Wk) := hide (by rw [← hWk]; exact DQk.trans (((Below.refl _ _).alloc (Nat.le_refl _) _).mono DQk.size))
     rw [hWk, hpk]
     clear hWk hpk HOk DQk HWB
     replace DK : Hid (Below W0.heap.size W0 Wk) := hide (DK.out.trans (HC.out.mono DK.out.size))
     clear HC
     have HLNk : Hid (rsk.length ≤ 4000000 ∧ rfk.length ≤ 4000000 ∧ rek.length ≤ 1000000) := hide (by have q := mkA_len (k := 5) (n := n) (m := m) (Sa := Sa) (Fa := Fa) (Ea := Ea) (n' := n') (m' := m') (Sb := Sb) (Fb := Fb) (Eb := Eb) (Wd := Vd) (s := m) (by have := en.out; omega) (by have := en.out; omega) (by have := en.out; omega) (by have := en.out; omega) (by have := en.out; omega); rw [show mkA 5 n m Sa Fa Ea n' m' Sb Fb Eb Vd m = lefA n m Sa Fa Ea Vd from rfl, HEk.out] at q; exact q)
     obtain ⟨rnj, rmj, rsj, rfj, rej, rrj, hrj⟩ : ∃ a b c d e f, rigA n m Sa Fa Ea Vd = Ans.mk a b c d e f := ⟨_, _, _, _, _, _, rfl⟩
     have HWB : Hid (Below w.heap.size w Wk) := hide (HB.out.2.trans (DK.out.mono HB.out.2.size))
     have TM := mk_rig Wk n m a1 a2 a3 c1 c2 c3 Sa Fa Ea (hide (hA.out.on HWB.out)) (by have := en.out; omega) (by have := en.out; omega) (by have := en.out; omega) av cv Vd (hide (hV.out.on HWB.out)) (by have := en.out; omega) (hide ⟨hT.out.below HWB.out h0, Nat.lt_of_lt_of_le h0 HWB.out.size⟩) (by have := en.out; omega)
     replace TM := ans_rd TM hrj
     rw [en.out.1, en.out.2.1, en.out.2.2.1, en.out.2.2.2.2.2.2.2] at TM
     have HEj := hide hrj
     clear hrj
     obtain ⟨y0, y1, y2, y3, y4, y5, y6, y7, y8, y9, y10, y11⟩ := zc12 (blk_on HB.out.1 DK.out)
     go_upto_region 13 with (go_at_call 29; refine TM.mono ?_; rintro e wj ⟨x1j, y1j, x2j, y2j, x3j, y3j, rfl, HOj, DQj⟩)
     clear TM y0 y1 y2 y3 y4 y5 y6 y7 y8 y9 y10 y11
     obtain ⟨Wj, hWj⟩ : ∃ W, wj.alloc (.cells #[.int .i64 rnj, .int .i64 rmj, .slice x1j rsj.length y1j, .slice x2j rfj.length y2j, .slice x3j rej.length y3j] 25) = W := ⟨_, rfl⟩
     obtain ⟨pj, hpj⟩ : ∃ p, wj.heap.size = p := ⟨_, rfl⟩
     have HXj : Hid (Wj.heap[pj]? = some (.cells #[.int .i64 rnj, .int .i64 rmj, .slice x1j rsj.length y1j, .slice x2j rfj.length y2j, .slice x3j rej.length y3j] 25 (0, 0)) ∧ RdA Wj x1j x2j x3j rsj rfj rej) := hide (by rw [← hWj, ← hpj]; exact ⟨World.alloc_heap_new _ _, HOj.out.on ((Below.refl _ _).alloc (Nat.le_refl _) _)⟩)
     have HC : Hid (Below Wk.heap.size Wk Wj) := hide (by rw [← hWj]; exact DQj.trans (((Below.refl _ _).alloc (Nat.le_refl _) _).mono DQj.size))
     rw [hWj, hpj]
     clear hWj hpj HOj DQj HWB
     replace DK : Hid (Below W0.heap.size W0 Wj) := hide (DK.out.trans (HC.out.mono DK.out.size))
     replace HXk := hide (And.intro (blk_on HXk.out.1 HC.out) (HXk.out.2.on HC.out))
     clear HC
     have HLNj : Hid (rsj.length ≤ 4000000 ∧ rfj.length ≤ 4000000 ∧ rej.length ≤ 1000000) := hide (by have q := mkA_len (k := 6) (n := n) (m := m) (Sa := Sa) (Fa := Fa) (Ea := Ea) (n' := n') (m' := m') (Sb := Sb) (Fb := Fb) (Eb := Eb) (Wd := Vd) (s := m) (by have := en.out; omega) (by have := en.out; omega) (by have := en.out; omega) (by have := en.out; omega) (by have := en.out; omega); rw [show mkA 6 n m Sa Fa Ea n' m' Sb Fb Eb Vd m = rigA n m Sa Fa Ea Vd from rfl, HEj.out] at q; exact q)
     obtain ⟨vl, hvl⟩ : ∃ v, tkF rnk rmk rsk rfk rek Wd = v := ⟨_, rfl⟩
     obtain ⟨vr, hvr⟩ : ∃ v, tkF rnj rmj rsj rfj rej Wd = v := ⟨_, rfl⟩
     have HVl : Hid (rrk = 0 → tkF n m Sa Fa Ea (Vd ++ Wd) = vl) := hide (fun e => by
      have h0 : (lefA n m Sa Fa Ea Vd).er = 0 := by rw [HEk.out]; exact e
      have q := tk_lef h0 Wd
      rw [HEk.out] at q
      rw [← hvl]
      exact q.symm)
     have HVr : Hid (rrj = 0 → tkF n m Sa Fa Ea (Wd ++ Vd) = vr) := hide (fun e => by
      have h0 : (rigA n m Sa Fa Ea Vd).er = 0 := by rw [HEj.out]; exact e
      have q := tk_rig h0 Wd
      rw [HEj.out] at q
      rw [← hvr]
      exact q.symm)
     have TK : Hid (∀ W, Below Wj.heap.size Wj W → Calls Tryz.prog 11 #[.agg #[.int .i64 rnk, .int .i64 rmk, .slice x1k rsk.length y1k, .slice x2k rfk.length y2k, .slice x3k rek.length y3k], .slice aw nw cw] W fun e w' => e = .returned (.bool vl) ∧ Below W.heap.size W w') := hide (fun W d => by
      have q := ltakes_any W rnk rmk x1k x2k x3k y1k y2k y3k rsk rfk rek aw cw Wd (hide (HXk.out.2.on d)) (hide (hU.out.on (HB.out.2.trans ((DK.out.trans (d.mono DK.out.size)).mono HB.out.2.size)))) (by have := HLNk.out; omega) (by have := HLNk.out; omega) (by have := HLNk.out; omega) (by have := en.out; omega)
      rw [HW.out, hvl] at q
      exact q)
     have TK2 : Hid (∀ W, Below Wj.heap.size Wj W → Calls Tryz.prog 11 #[.agg #[.int .i64 rnj, .int .i64 rmj, .slice x1j rsj.length y1j, .slice x2j rfj.length y2j, .slice x3j rej.length y3j], .slice aw nw cw] W fun e w' => e = .returned (.bool vr) ∧ Below W.heap.size W w') := hide (fun W d => by
      have q := ltakes_any W rnj rmj x1j x2j x3j y1j y2j y3j rsj rfj rej aw cw Wd (hide (HXj.out.2.on d)) (hide (hU.out.on (HB.out.2.trans ((DK.out.trans (d.mono DK.out.size)).mono HB.out.2.size)))) (by have := HLNj.out; omega) (by have := HLNj.out; omega) (by have := HLNj.out; omega) (by have := en.out; omega)
      rw [HW.out, hvr] at q
      exact q)
     clear hvl hvr
     have TJ : Hid (∀ W, Below Wj.heap.size Wj W → ∀ (ad : Option Addr) (c : Nat), RdN W ad (Vd ++ Wd) → Calls Tryz.prog 11 #[.agg #[.int .i64 n, .int .i64 m, .slice a1 n1 c1, .slice a2 n2 c2, .slice a3 n3 c3], .slice ad (nv + nw) c] W fun e w' => e = .returned (.bool (tkF n m Sa Fa Ea (Vd ++ Wd))) ∧ Below W.heap.size W w') := hide (fun W d ad c hr => by
      have q := ltakes_any W n m a1 a2 a3 c1 c2 c3 Sa Fa Ea ad c (Vd ++ Wd) (hide (hA.out.on (HB.out.2.trans ((DK.out.trans (d.mono DK.out.size)).mono HB.out.2.size)))) (hide hr) (by have := en.out; omega) (by have := en.out; omega) (by have := en.out; omega) (by rw [List.length_append]; have := en.out; omega)
      rw [en.out.1, en.out.2.1, en.out.2.2.1, List.length_append, en.out.2.2.2.2.2.2.2, en.out.2.2.2.2.2.2.1] at q
      exact q)
     have TJ2 : Hid (∀ W, Below Wj.heap.size Wj W → ∀ (ad : Option Addr) (c : Nat), RdN W ad (Wd ++ Vd) → Calls Tryz.prog 11 #[.agg #[.int .i64 n, .int .i64 m, .slice a1 n1 c1, .slice a2 n2 c2, .slice a3 n3 c3], .slice ad (nw + nv) c] W fun e w' => e = .returned (.bool (tkF n m Sa Fa Ea (Wd ++ Vd))) ∧ Below W.heap.size W w') := hide (fun W d ad c hr => by
      have q := ltakes_any W n m a1 a2 a3 c1 c2 c3 Sa Fa Ea ad c (Wd ++ Vd) (hide (hA.out.on (HB.out.2.trans ((DK.out.trans (d.mono DK.out.size)).mono HB.out.2.size)))) (hide hr) (by have := en.out; omega) (by have := en.out; omega) (by have := en.out; omega) (by rw [List.length_append]; have := en.out; omega)
      rw [en.out.1, en.out.2.1, en.out.2.2.1, List.length_append, en.out.2.2.2.2.2.2.1, en.out.2.2.2.2.2.2.2] at q
      exact q)
     have TV : Hid (∀ W, Below Wj.heap.size Wj W → Calls Tryz.prog 18 #[.slice av nv cv, .slice aw nw cw] W fun e w' => ∃ b c, e = .returned (.slice b (nv + nw) c) ∧ Hid (RdN w' b (Vd ++ Wd)) ∧ Below W.heap.size W w') := hide (fun W d => joined_any W av aw cv cw nv nw Vd Wd (hide ⟨en.out.2.2.2.2.2.2.2, en.out.2.2.2.2.2.2.1⟩) (hide (hV.out.on (HB.out.2.trans ((DK.out.trans (d.mono DK.out.size)).mono HB.out.2.size)))) (hide (hU.out.on (HB.out.2.trans ((DK.out.trans (d.mono DK.out.size)).mono HB.out.2.size)))) zv zw (by have := en.out; omega) (by have := en.out; omega))
     have TV2 : Hid (∀ W, Below Wj.heap.size Wj W → Calls Tryz.prog 18 #[.slice aw nw cw, .slice av nv cv] W fun e w' => ∃ b c, e = .returned (.slice b (nw + nv) c) ∧ Hid (RdN w' b (Wd ++ Vd)) ∧ Below W.heap.size W w') := hide (fun W d => joined_any W aw av cw cv nw nv Wd Vd (hide ⟨en.out.2.2.2.2.2.2.1, en.out.2.2.2.2.2.2.2⟩) (hide (hU.out.on (HB.out.2.trans ((DK.out.trans (d.mono DK.out.size)).mono HB.out.2.size)))) (hide (hV.out.on (HB.out.2.trans ((DK.out.trans (d.mono DK.out.size)).mono HB.out.2.size)))) zw zv (by have := en.out; omega) (by have := en.out; omega))
     obtain rfl : rrk = rrj := by
      have q1 := lef_er n m Sa Fa Ea Vd
      have q2 := rig_er n m Sa Fa Ea Vd
      rw [HEk.out] at q1
      rw [HEj.out] at q2
      exact q1.trans q2.symm
     go_upto_region 13 with fail
     go_cut [118] from 87 to 118 (fun v W => v = .bool false ∧ Hid (Below Wj.heap.size Wj W))
     case first =>
      by_cases he : rrk = 0
      · subst he
        rw [HVl.out rfl] at TJ
        rw [HVr.out rfl] at TJ2
        have hmo : MonIL 0 [vI 0 (.int .i64 0), vI 1 (.bool true), vI 2 (.bool true), vI 3 (.agg #[.int .i64 rnk, .int .i64 rmk, .slice x1k rsk.length y1k, .slice x2k rfk.length y2k, .slice x3k rek.length y3k]), vI 4 (.slice aw nw cw), vI 5 (.bool vl), vI 6 (.pointer (some ⟨w.heap.size, 0, none⟩)), vI 7 (.agg #[.int .i64 n, .int .i64 m, .slice a1 n1 c1, .slice a2 n2 c2, .slice a3 n3 c3]), vI 8 (.pointer (some ⟨w.heap.size, 11, none⟩)), vI 9 (.slice av nv cv), vI 10 (.slice aw nw cw), pI 11 (wdP (nv + nw) (Vd ++ Wd)), vI 12 (.bool vl), vI 13 (.bool false), vI 14 (.bool false), vI 15 (.bool false), vI 16 (.int .i64 0), vI 17 (.bool true), vI 18 (.bool true), vI 19 (.agg #[.int .i64 rnj, .int .i64 rmj, .slice x1j rsj.length y1j, .slice x2j rfj.length y2j, .slice x3j rej.length y3j]), vI 20 (.slice aw nw cw), vI 21 (.bool vr), vI 22 (.pointer (some ⟨w.heap.size, 0, none⟩)), vI 23 (.agg #[.int .i64 n, .int .i64 m, .slice a1 n1 c1, .slice a2 n2 c2, .slice a3 n3 c3]), vI 24 (.slice aw nw cw), vI 25 (.pointer (some ⟨w.heap.size, 11, none⟩)), vI 26 (.slice av nv cv), pI 27 (wdP (nw + nv) (Wd ++ Vd)), vI 28 (.bool vr), vI 29 (.bool false), vI 30 (.bool false), vI 31 (.bool false)] := ⟨vI_mono _ _, vI_mono _ _, vI_mono _ _, vI_mono _ _, vI_mono _ _, vI_mono _ _, vI_mono _ _, vI_mono _ _, vI_mono _ _, vI_mono _ _, vI_mono _ _, pI_mono wdP_mono, vI_mono _ _, vI_mono _ _, vI_mono _ _, vI_mono _ _, vI_mono _ _, vI_mono _ _, vI_mono _ _, vI_mono _ _, vI_mono _ _, vI_mono _ _, vI_mono _ _, vI_mono _ _, vI_mono _ _, vI_mono _ _, vI_mono _ _, pI_mono wdP_mono, vI_mono _ _, vI_mono _ _, vI_mono _ _, vI_mono _ _, trivial⟩
        refine wp_region_sl _ (by kernel_rfl) (by kernel_rfl) (by kernel_rfl) (by kernel_rfl) hmo ⟨?o0, ?o1, ?o2, ?o3, ?o4, ?o5, ?o6, ?o7, ?o8, ?o9, ?o10, ?o11, ?o12, ?o13, ?o14, ?o15, ?o16, ?o17, ?o18, ?o19, ?o20, ?o21, ?o22, ?o23, ?o24, ?o25, ?o26, ?o27, ?o28, ?o29, ?o30, ?o31, trivial⟩ ?fin
        case o0 =>
         intro At yy W hy hb d hd K hK
         obtain ⟨s9, t9⟩ := zsh (hb 9 rfl) rfl
         clear hd hy hb
         go_simp
         exact zkq hK hmo d (if_pos rfl)
        case o1 =>
         intro At yy W hy hb d hd K hK
         obtain ⟨s87, t87⟩ := zsg 0 87 .data hy hd rfl
         clear hd hy hb
         go_simp
         exact zkq hK hmo d (if_pos rfl)
        case o2 =>
         intro At yy W hy hb d hd K hK
         obtain ⟨s88, t88⟩ := zsg 1 88 .data hy hd rfl
         clear hd hy hb
         go_simp
         exact zkq hK hmo d (if_pos rfl)
        case o3 =>
         intro At yy W hy hb d hd K hK
         obtain ⟨s8, t8⟩ := zsh (hb 8 rfl) rfl
         have g89 := zgd 2 89 hy hd rfl
         clear hd hy hb
         obtain ⟨z0, z1, z2, z3, z4⟩ := zc5 (blk_on HXk.out.1 d)
         go_simp
         exact zkq hK hmo d (if_pos rfl)
        case o4 | o10 =>
         intro At yy W hy hb d hd K hK
         obtain ⟨s3, t3⟩ := zsh (hb 3 rfl) rfl
         have g89 := zgd 2 89 hy hd rfl
         clear hd hy hb
         go_simp
         exact zkq hK hmo d (if_pos rfl)
        case o5 =>
         intro At yy W hy hb d hd K hK
         obtain ⟨s90, t90⟩ := zsg 3 90 .data hy hd rfl
         obtain ⟨s91, t91⟩ := zsg 4 91 .data hy hd rfl
         have g89 := zgd 2 89 hy hd rfl
         clear hd hy hb
         go_simp
         go_wp2_with (go_at_call 11; refine (TK.out _ d).mono ?_; rintro e wa ⟨rfl, dR⟩)
         exact hK.out _ wa (stp_of hmo d dR) (if_pos rfl)
        case o6 | o8 =>
         intro At yy W hy hb d hd K hK
         obtain ⟨s1, t1⟩ := zsh (hb 1 rfl) rfl
         have g89 := zgd 2 89 hy hd rfl
         clear hd hy hb
         go_simp
         exact zkq hK hmo d (if_pos rfl)
        case o7 =>
         intro At yy W hy hb d hd K hK
         obtain ⟨s93, t93⟩ := zsg 6 93 .data hy hd rfl
         have g89 := zgd 2 89 hy hd rfl
         clear hd hy hb
         obtain ⟨y0, y1, y2, y3, y4, y5, y6, y7, y8, y9, y10, y11⟩ := zc12 (blk_on HB.out.1 (DK.out.trans (d.mono DK.out.size)))
         go_simp
         exact zkq hK hmo d (if_pos rfl)
        case o9 =>
         intro At yy W hy hb d hd K hK
         obtain ⟨s95, t95⟩ := zsg 8 95 .data hy hd rfl
         have g89 := zgd 2 89 hy hd rfl
         clear hd hy hb
         obtain ⟨y0, y1, y2, y3, y4, y5, y6, y7, y8, y9, y10, y11⟩ := zc12 (blk_on HB.out.1 (DK.out.trans (d.mono DK.out.size)))
         go_simp
         exact zkq hK hmo d (if_pos rfl)
        case o11 =>
         intro At yy W hy hb d hd K hK
         obtain ⟨s96, t96⟩ := zsg 9 96 .data hy hd rfl
         obtain ⟨s97, t97⟩ := zsg 10 97 .data hy hd rfl
         have g89 := zgd 2 89 hy hd rfl
         clear hd hy hb
         go_simp
         go_wp2_with (go_at_call 18; refine (TV.out _ d).mono ?_; rintro e wa ⟨ad, c, rfl, hR, dR⟩)
         exact hK.out _ wa (stp_of hmo d dR) ⟨ad, c, if_pos rfl, hR.out⟩
        case o12 =>
         intro At yy W hy hb d hd K hK
         have f11 := hd ⟨11, .data⟩ (by simp) rfl rfl
         obtain ⟨_, _, _, _, ad, c, e11, h11⟩ := f11
         obtain ⟨s94, t94⟩ := zsg 7 94 .data hy hd rfl
         obtain ⟨s98, t98⟩ := zsr (hy 11 _ 98 rfl rfl) e11
         have g89 := zgd 2 89 hy hd rfl
         clear hd hy hb
         go_simp
         go_wp2_with (go_at_call 11; refine (TJ.out _ d ad c h11).mono ?_; rintro e wa ⟨rfl, dR⟩)
         exact hK.out _ wa (stp_of hmo d dR) (if_pos rfl)
        case o13 =>
         intro At yy W hy hb d hd K hK
         obtain ⟨s92, t92⟩ := zsg 5 92 .data hy hd rfl
         obtain ⟨s99, t99⟩ := zsg 12 99 .data hy hd rfl
         have g89 := zgd 2 89 hy hd rfl
         clear hd hy hb
         go_simp
         exact zkq hK hmo d (if_pos rfl)
        case o14 =>
         intro At yy W hy hb d hd K hK
         obtain ⟨s89, t89⟩ := zsg 2 89 .data hy hd rfl
         obtain ⟨s100, t100⟩ := zsg 13 100 .data hy hd rfl
         clear hd hy hb
         go_simp
         exact zkq hK hmo d (if_pos rfl)
        case o15 =>
         intro At yy W hy hb d hd K hK
         obtain ⟨s101, t101⟩ := zsg 14 101 .data hy hd rfl
         clear hd hy hb
         go_simp
         exact zkq hK hmo d (if_pos rfl)
        case o16 =>
         intro At yy W hy hb d hd K hK
         obtain ⟨s11, t11⟩ := zsh (hb 11 rfl) rfl
         have g102 := zgd 15 102 hy hd rfl
         clear hd hy hb
         go_simp
         exact zkq hK hmo d (if_pos rfl)
        case o17 =>
         intro At yy W hy hb d hd K hK
         obtain ⟨s103, t103⟩ := zsg 16 103 .data hy hd rfl
         have g102 := zgd 15 102 hy hd rfl
         clear hd hy hb
         go_simp
         exact zkq hK hmo d (if_pos rfl)
        case o18 =>
         intro At yy W hy hb d hd K hK
         obtain ⟨s104, t104⟩ := zsg 17 104 .data hy hd rfl
         have g102 := zgd 15 102 hy hd rfl
         clear hd hy hb
         go_simp
         exact zkq hK hmo d (if_pos rfl)
        case o19 =>
         intro At yy W hy hb d hd K hK
         obtain ⟨s10, t10⟩ := zsh (hb 10 rfl) rfl
         have g105 := zgd 18 105 hy hd rfl
         clear hd hy hb
         obtain ⟨z0, z1, z2, z3, z4⟩ := zc5 (blk_on HXj.out.1 d)
         go_simp
         exact zkq hK hmo d (if_pos rfl)
        case o20 | o24 =>
         intro At yy W hy hb d hd K hK
         obtain ⟨s3, t3⟩ := zsh (hb 3 rfl) rfl
         have g105 := zgd 18 105 hy hd rfl
         clear hd hy hb
         go_simp
         exact zkq hK hmo d (if_pos rfl)
        case o21 =>
         intro At yy W hy hb d hd K hK
         obtain ⟨s106, t106⟩ := zsg 19 106 .data hy hd rfl
         obtain ⟨s107, t107⟩ := zsg 20 107 .data hy hd rfl
         have g105 := zgd 18 105 hy hd rfl
         clear hd hy hb
         go_simp
         go_wp2_with (go_at_call 11; refine (TK2.out _ d).mono ?_; rintro e wa ⟨rfl, dR⟩)
         exact hK.out _ wa (stp_of hmo d dR) (if_pos rfl)
        case o22 | o25 =>
         intro At yy W hy hb d hd K hK
         obtain ⟨s1, t1⟩ := zsh (hb 1 rfl) rfl
         have g105 := zgd 18 105 hy hd rfl
         clear hd hy hb
         go_simp
         exact zkq hK hmo d (if_pos rfl)
        case o23 =>
         intro At yy W hy hb d hd K hK
         obtain ⟨s109, t109⟩ := zsg 22 109 .data hy hd rfl
         have g105 := zgd 18 105 hy hd rfl
         clear hd hy hb
         obtain ⟨y0, y1, y2, y3, y4, y5, y6, y7, y8, y9, y10, y11⟩ := zc12 (blk_on HB.out.1 (DK.out.trans (d.mono DK.out.size)))
         go_simp
         exact zkq hK hmo d (if_pos rfl)
        case o26 =>
         intro At yy W hy hb d hd K hK
         obtain ⟨s112, t112⟩ := zsg 25 112 .data hy hd rfl
         have g105 := zgd 18 105 hy hd rfl
         clear hd hy hb
         obtain ⟨y0, y1, y2, y3, y4, y5, y6, y7, y8, y9, y10, y11⟩ := zc12 (blk_on HB.out.1 (DK.out.trans (d.mono DK.out.size)))
         go_simp
         exact zkq hK hmo d (if_pos rfl)
        case o27 =>
         intro At yy W hy hb d hd K hK
         obtain ⟨s111, t111⟩ := zsg 24 111 .data hy hd rfl
         obtain ⟨s113, t113⟩ := zsg 26 113 .data hy hd rfl
         have g105 := zgd 18 105 hy hd rfl
         clear hd hy hb
         go_simp
         go_wp2_with (go_at_call 18; refine (TV2.out _ d).mono ?_; rintro e wa ⟨ad, c, rfl, hR, dR⟩)
         exact hK.out _ wa (stp_of hmo d dR) ⟨ad, c, if_pos rfl, hR.out⟩
        case o28 =>
         intro At yy W hy hb d hd K hK
         have f27 := hd ⟨27, .data⟩ (by simp) rfl rfl
         obtain ⟨_, _, _, _, ad, c, e27, h27⟩ := f27
         obtain ⟨s110, t110⟩ := zsg 23 110 .data hy hd rfl
         obtain ⟨s114, t114⟩ := zsr (hy 27 _ 114 rfl rfl) e27
         have g105 := zgd 18 105 hy hd rfl
         clear hd hy hb
         go_simp
         go_wp2_with (go_at_call 11; refine (TJ2.out _ d ad c h27).mono ?_; rintro e wa ⟨rfl, dR⟩)
         exact hK.out _ wa (stp_of hmo d dR) (if_pos rfl)
        case o29 =>
         intro At yy W hy hb d hd K hK
         obtain ⟨s108, t108⟩ := zsg 21 108 .data hy hd rfl
         obtain ⟨s115, t115⟩ := zsg 28 115 .data hy hd rfl
         have g105 := zgd 18 105 hy hd rfl
         clear hd hy hb
         go_simp
         exact zkq hK hmo d (if_pos rfl)
        case o30 =>
         intro At yy W hy hb d hd K hK
         obtain ⟨s105, t105⟩ := zsg 18 105 .data hy hd rfl
         obtain ⟨s116, t116⟩ := zsg 29 116 .data hy hd rfl
         have g102 := zgd 15 102 hy hd rfl
         clear hd hy hb
         go_simp
         exact zkq hK hmo d (if_pos rfl)
        case o31 =>
         intro At yy W hy hb d hd K hK
         obtain ⟨s102, t102⟩ := zsg 15 102 .data hy hd rfl
         obtain ⟨s117, t117⟩ := zsg 30 117 .data hy hd rfl
         clear hd hy hb
         go_simp
         exact zkq hK hmo d (if_pos rfl)
        case fin =>
         intro yy lo hi W hM
         show wpList _ _ _ [] _ _
         have e31 := hM.v 31 (by simp) rfl rfl rfl
         have DW := hide hM.d
         obtain ⟨_, _, e11, _⟩ := hM.fact 11 (by simp) rfl (notR_all 11 rfl)
         obtain ⟨_, _, e27, _⟩ := hM.fact 27 (by simp) rfl (notR_all 27 rfl)
         simp only [fills, Act.put, List.take, List.length, List.setIfInBounds_toArray, List.set_cons_zero, List.set_cons_succ, e31, e11, e27]
         clear hM hmo e31 e11 e27
         go_wp2_with fail
         go_meet
         exact ⟨rfl, DW⟩
      · have heb : (rrk == 0) = false := by simp [he]
        have hmo : MonIL 0 [vI 0 (.int .i64 rrk), vI 1 (.bool false), vI 2 (.bool false), vI 3 undef, vI 4 undef, vI 5 undef, vI 6 undef, vI 7 undef, vI 8 undef, vI 9 undef, vI 10 undef, vI 11 undef, vI 12 undef, vI 13 undef, vI 14 (.bool false), vI 15 (.bool false), vI 16 (.int .i64 rrk), vI 17 (.bool false), vI 18 (.bool false), vI 19 undef, vI 20 undef, vI 21 undef, vI 22 undef, vI 23 undef, vI 24 undef, vI 25 undef, vI 26 undef, vI 27 undef, vI 28 undef, vI 29 undef, vI 30 (.bool false), vI 31 (.bool false)] := ⟨vI_mono _ _, vI_mono _ _, vI_mono _ _, vI_mono _ _, vI_mono _ _, vI_mono _ _, vI_mono _ _, vI_mono _ _, vI_mono _ _, vI_mono _ _, vI_mono _ _, vI_mono _ _, vI_mono _ _, vI_mono _ _, vI_mono _ _, vI_mono _ _, vI_mono _ _, vI_mono _ _, vI_mono _ _, vI_mono _ _, vI_mono _ _, vI_mono _ _, vI_mono _ _, vI_mono _ _, vI_mono _ _, vI_mono _ _, vI_mono _ _, vI_mono _ _, vI_mono _ _, vI_mono _ _, vI_mono _ _, vI_mono _ _, trivial⟩
        refine wp_region_sl _ (by kernel_rfl) (by kernel_rfl) (by kernel_rfl) (by kernel_rfl) hmo ⟨?o0, ?o1, ?o2, ?o3, ?o4, ?o5, ?o6, ?o7, ?o8, ?o9, ?o10, ?o11, ?o12, ?o13, ?o14, ?o15, ?o16, ?o17, ?o18, ?o19, ?o20, ?o21, ?o22, ?o23, ?o24, ?o25, ?o26, ?o27, ?o28, ?o29, ?o30, ?o31, trivial⟩ ?fin
        case o0 =>
         intro At yy W hy hb d hd K hK
         obtain ⟨s9, t9⟩ := zsh (hb 9 rfl) rfl
         clear hd hy hb
         go_simp
         exact zkq hK hmo d (if_pos rfl)
        case o1 =>
         intro At yy W hy hb d hd K hK
         obtain ⟨s87, t87⟩ := zsg 0 87 .data hy hd rfl
         clear hd hy hb
         go_simp
         exact zkq hK hmo d (if_pos rfl)
        case o2 =>
         intro At yy W hy hb d hd K hK
         obtain ⟨s88, t88⟩ := zsg 1 88 .data hy hd rfl
         clear hd hy hb
         go_simp
         exact zkq hK hmo d (if_pos rfl)
        case o3 | o4 | o5 | o6 | o7 | o8 | o9 | o10 | o11 | o12 | o13 =>
         intro At yy W hy hb d hd K hK
         have g89 := zgd 2 89 hy hd rfl
         clear hd hy hb
         go_simp
         exact zkq hK hmo d (if_pos rfl)
        case o14 =>
         intro At yy W hy hb d hd K hK
         obtain ⟨s89, t89⟩ := zsg 2 89 .data hy hd rfl
         obtain ⟨s100, t100⟩ := zsg 13 100 .data hy hd rfl
         clear hd hy hb
         go_simp
         exact zkq hK hmo d (if_pos rfl)
        case o15 =>
         intro At yy W hy hb d hd K hK
         obtain ⟨s101, t101⟩ := zsg 14 101 .data hy hd rfl
         clear hd hy hb
         go_simp
         exact zkq hK hmo d (if_pos rfl)
        case o16 =>
         intro At yy W hy hb d hd K hK
         obtain ⟨s11, t11⟩ := zsh (hb 11 rfl) rfl
         have g102 := zgd 15 102 hy hd rfl
         clear hd hy hb
         go_simp
         exact zkq hK hmo d (if_pos rfl)
        case o17 =>
         intro At yy W hy hb d hd K hK
         obtain ⟨s103, t103⟩ := zsg 16 103 .data hy hd rfl
         have g102 := zgd 15 102 hy hd rfl
         clear hd hy hb
         go_simp
         exact zkq hK hmo d (if_pos rfl)
        case o18 =>
         intro At yy W hy hb d hd K hK
         obtain ⟨s104, t104⟩ := zsg 17 104 .data hy hd rfl
         have g102 := zgd 15 102 hy hd rfl
         clear hd hy hb
         go_simp
         exact zkq hK hmo d (if_pos rfl)
        case o19 | o20 | o21 | o22 | o23 | o24 | o25 | o26 | o27 | o28 | o29 =>
         intro At yy W hy hb d hd K hK
         have g105 := zgd 18 105 hy hd rfl
         clear hd hy hb
         go_simp
         exact zkq hK hmo d (if_pos rfl)
        case o30 =>
         intro At yy W hy hb d hd K hK
         obtain ⟨s105, t105⟩ := zsg 18 105 .data hy hd rfl
         obtain ⟨s116, t116⟩ := zsg 29 116 .data hy hd rfl
         have g102 := zgd 15 102 hy hd rfl
         clear hd hy hb
         go_simp
         exact zkq hK hmo d (if_pos rfl)
        case o31 =>
         intro At yy W hy hb d hd K hK
         obtain ⟨s102, t102⟩ := zsg 15 102 .data hy hd rfl
         obtain ⟨s117, t117⟩ := zsg 30 117 .data hy hd rfl
         clear hd hy hb
         go_simp
         exact zkq hK hmo d (if_pos rfl)
        case fin =>
         intro yy lo hi W hM
         show wpList _ _ _ [] _ _
         have e31 := hM.v 31 (by simp) rfl rfl rfl
         have DW := hide hM.d
         simp only [fills, Act.put, List.take, List.length, List.setIfInBounds_toArray, List.set_cons_zero, List.set_cons_succ, e31]
         clear hM hmo e31
         go_wp2_with fail
         go_meet
         exact ⟨rfl, DW⟩
     case rest =>
      rename World => W3
      obtain ⟨rfl, HC⟩ := hcut
      replace DK : Hid (Below W0.heap.size W0 W3) := hide (DK.out.trans (HC.out.mono DK.out.size))
      replace HXk := hide (And.intro (blk_on HXk.out.1 HC.out) (HXk.out.2.on HC.out))
      replace HXj := hide (And.intro (blk_on HXj.out.1 HC.out) (HXj.out.2.on HC.out))
      clear HC
      clear HXk HLNk HEk HVl TK TJ TV
      clear HXj HLNj HEj HVr TK2 TJ2 TV2
      obtain ⟨rna, rma, rsa, rfa, rea, rra, hra⟩ : ∃ a b c d e f, alA m = Ans.mk a b c d e f := ⟨_, _, _, _, _, _, rfl⟩
      have HWB : Hid (Below w.heap.size w W3) := hide (HB.out.2.trans (DK.out.mono HB.out.2.size))
      have TM := mk_all W3 m
      replace TM := ans_rd TM hra
      have HEa := hide hra
      clear hra
      obtain ⟨y0, y1, y2, y3, y4, y5, y6, y7, y8, y9, y10, y11⟩ := zc12 (blk_on HB.out.1 DK.out)
      go_upto_region 16 with (go_at_call 22; refine TM.mono ?_; rintro e wa ⟨x1a, y1a, x2a, y2a, x3a, y3a, rfl, HOa, DQa⟩)
      clear TM y0 y1 y2 y3 y4 y5 y6 y7 y8 y9 y10 y11
      obtain ⟨Wa, hWa⟩ : ∃ W, wa.alloc (.cells #[.int .i64 rna, .int .i64 rma, .slice x1a rsa.length y1a, .slice x2a rfa.length y2a, .slice x3a rea.length y3a] 25) = W := ⟨_, rfl⟩
      obtain ⟨pa, hpa⟩ : ∃ p, wa.heap.size = p := ⟨_, rfl⟩
      have HXa : Hid (Wa.heap[pa]? = some (.cells #[.int .i64 rna, .int .i64 rma, .slice x1a rsa.length y1a, .slice x2a rfa.length y2a, .slice x3a rea.length y3a] 25 (0, 0)) ∧ RdA Wa x1a x2a x3a rsa rfa rea) := hide (by rw [← hWa, ← hpa]; exact ⟨World.alloc_heap_new _ _, HOa.out.on ((Below.refl _ _).alloc (Nat.le_refl _) _)⟩)
      have HC : Hid (Below W3.heap.size W3 Wa) := hide (by rw [← hWa]; exact DQa.trans (((Below.refl _ _).alloc (Nat.le_refl _) _).mono DQa.size))
      rw [hWa, hpa]
      clear hWa hpa HOa DQa HWB
      replace DK : Hid (Below W0.heap.size W0 Wa) := hide (DK.out.trans (HC.out.mono DK.out.size))
      clear HC
      have HLNa : Hid (rsa.length ≤ 4000000 ∧ rfa.length ≤ 4000000 ∧ rea.length ≤ 1000000) := hide (by have q := mkA_len (k := 8) (n := n) (m := m) (Sa := Sa) (Fa := Fa) (Ea := Ea) (n' := n') (m' := m') (Sb := Sb) (Fb := Fb) (Eb := Eb) (Wd := Vd) (s := m) (by have := en.out; omega) (by have := en.out; omega) (by have := en.out; omega) (by have := en.out; omega) (by have := en.out; omega); rw [show mkA 8 n m Sa Fa Ea n' m' Sb Fb Eb Vd m = alA m from rfl, HEa.out] at q; exact q)
      obtain ⟨rnz, rmz, rsz, rfz, rez, rrz, hrz⟩ : ∃ a b c d e f, noA m = Ans.mk a b c d e f := ⟨_, _, _, _, _, _, rfl⟩
      have HWB : Hid (Below w.heap.size w Wa) := hide (HB.out.2.trans (DK.out.mono HB.out.2.size))
      have TM := mk_non Wa m
      replace TM := ans_rd TM hrz
      have HEz := hide hrz
      clear hrz
      obtain ⟨y0, y1, y2, y3, y4, y5, y6, y7, y8, y9, y10, y11⟩ := zc12 (blk_on HB.out.1 DK.out)
      go_upto_region 17 with (go_at_call 24; refine TM.mono ?_; rintro e wz ⟨x1z, y1z, x2z, y2z, x3z, y3z, rfl, HOz, DQz⟩)
      clear TM y0 y1 y2 y3 y4 y5 y6 y7 y8 y9 y10 y11
      obtain ⟨Wz, hWz⟩ : ∃ W, wz.alloc (.cells #[.int .i64 rnz, .int .i64 rmz, .slice x1z rsz.length y1z, .slice x2z rfz.length y2z, .slice x3z rez.length y3z] 25) = W := ⟨_, rfl⟩
      obtain ⟨pz, hpz⟩ : ∃ p, wz.heap.size = p := ⟨_, rfl⟩
      have HXz : Hid (Wz.heap[pz]? = some (.cells #[.int .i64 rnz, .int .i64 rmz, .slice x1z rsz.length y1z, .slice x2z rfz.length y2z, .slice x3z rez.length y3z] 25 (0, 0)) ∧ RdA Wz x1z x2z x3z rsz rfz rez) := hide (by rw [← hWz, ← hpz]; exact ⟨World.alloc_heap_new _ _, HOz.out.on ((Below.refl _ _).alloc (Nat.le_refl _) _)⟩)
      have HC : Hid (Below Wa.heap.size Wa Wz) := hide (by rw [← hWz]; exact DQz.trans (((Below.refl _ _).alloc (Nat.le_refl _) _).mono DQz.size))
      rw [hWz, hpz]
      clear hWz hpz HOz DQz HWB
      replace DK : Hid (Below W0.heap.size W0 Wz) := hide (DK.out.trans (HC.out.mono DK.out.size))
      replace HXa := hide (And.intro (blk_on HXa.out.1 HC.out) (HXa.out.2.on HC.out))
      clear HC
      have HLNz : Hid (rsz.length ≤ 4000000 ∧ rfz.length ≤ 4000000 ∧ rez.length ≤ 1000000) := hide (by have q := mkA_len (k := 9) (n := n) (m := m) (Sa := Sa) (Fa := Fa) (Ea := Ea) (n' := n') (m' := m') (Sb := Sb) (Fb := Fb) (Eb := Eb) (Wd := Vd) (s := m) (by have := en.out; omega) (by have := en.out; omega) (by have := en.out; omega) (by have := en.out; omega) (by have := en.out; omega); rw [show mkA 9 n m Sa Fa Ea n' m' Sb Fb Eb Vd m = noA m from rfl, HEz.out] at q; exact q)
      obtain rfl : rra = rrz := by
       have q1 := al_no_er m
       rw [HEa.out, HEz.out] at q1
       exact q1
      have HVa : Hid (rra = 0 → tkF rna rma rsa rfa rea Wd = true) := hide (fun e => by
       have h0 : (alA m).er = 0 := by rw [HEa.out]; exact e
       have q := tk_all h0 Wd HSY.out
       rw [HEa.out] at q
       exact q)
      have HVe : Hid (tkF rnz rmz rsz rfz rez Wd = false) := hide (by
       have q := tk_non (s := m) Wd
       rw [HEz.out] at q
       exact q)
      have TK : Hid (∀ W, Below Wz.heap.size Wz W → Calls Tryz.prog 11 #[.agg #[.int .i64 rna, .int .i64 rma, .slice x1a rsa.length y1a, .slice x2a rfa.length y2a, .slice x3a rea.length y3a], .slice aw nw cw] W fun e w' => e = .returned (.bool (tkF rna rma rsa rfa rea Wd)) ∧ Below W.heap.size W w') := hide (fun W d => by
       have q := ltakes_any W rna rma x1a x2a x3a y1a y2a y3a rsa rfa rea aw cw Wd (hide (HXa.out.2.on d)) (hide (hU.out.on (HB.out.2.trans ((DK.out.trans (d.mono DK.out.size)).mono HB.out.2.size)))) (by have := HLNa.out; omega) (by have := HLNa.out; omega) (by have := HLNa.out; omega) (by have := en.out; omega)
       rw [HW.out] at q
       exact q)
      have TK2 : Hid (∀ W, Below Wz.heap.size Wz W → Calls Tryz.prog 11 #[.agg #[.int .i64 rnz, .int .i64 rmz, .slice x1z rsz.length y1z, .slice x2z rfz.length y2z, .slice x3z rez.length y3z], .slice aw nw cw] W fun e w' => e = .returned (.bool false) ∧ Below W.heap.size W w') := hide (fun W d => by
       have q := ltakes_any W rnz rmz x1z x2z x3z y1z y2z y3z rsz rfz rez aw cw Wd (hide (HXz.out.2.on d)) (hide (hU.out.on (HB.out.2.trans ((DK.out.trans (d.mono DK.out.size)).mono HB.out.2.size)))) (by have := HLNz.out; omega) (by have := HLNz.out; omega) (by have := HLNz.out; omega) (by have := en.out; omega)
       rw [HW.out, HVe.out] at q
       exact q)
      by_cases he : rra = 0
      · subst he
        rw [HVa.out rfl] at TK
        obtain ⟨za0, za1, za2, za3, za4⟩ := zc5 (blk_on HXa.out.1 (Below.refl _ _))
        go_wp2_with (first | (go_at_call_of 11 x1a; refine (TK.out _ (Below.refl _ _)).mono ?_; rintro e wa ⟨rfl, dR⟩; have HDR := hide dR; obtain ⟨zz0, zz1, zz2, zz3, zz4⟩ := zc5 (blk_on HXz.out.1 dR); clear dR) | (go_at_call_of 11 x1z; refine (TK2.out _ HDR.out).mono ?_; rintro e wb ⟨rfl, dS⟩))
        go_meet
        exact ⟨rfl, hide (DK.out.trans ((HDR.out.trans (dS.mono HDR.out.size)).mono DK.out.size))⟩
      · have heb : (rra == 0) = false := by simp [he]
        go_wp2_with fail
        go_meet
        exact ⟨rfl, DK⟩
 case rest =>
  rename World => wz
  obtain ⟨rfl, HZ⟩ := hcut
  replace DK := HZ
  clear HZ
  obtain ⟨rnu, rmu, rsu, rfu, reu, rru, hru⟩ : ∃ a b c d e f, uniAns n m n' m' Sa Fa Ea Sb Fb Eb = Ans.mk a b c d e f := ⟨_, _, _, _, _, _, rfl⟩
  have HWB : Hid (Below w.heap.size w wz) := hide (HB.out.2.trans (DK.out.mono HB.out.2.size))
  have TM := mk_uni wz n m a1 a2 a3 c1 c2 c3 Sa Fa Ea (hide (hA.out.on HWB.out)) (by have := en.out; omega) (by have := en.out; omega) (by have := en.out; omega) n' m' b1 b2 b3 d1 d2 d3 Sb Fb Eb (hide (hB.out.on HWB.out)) (by have := en.out; omega) (by have := en.out; omega) (by have := en.out; omega)
  replace TM := ans_rd TM hru
  rw [en.out.1, en.out.2.1, en.out.2.2.1, en.out.2.2.2.1, en.out.2.2.2.2.1, en.out.2.2.2.2.2.1] at TM
  have HEu := hide hru
  clear hru
  obtain ⟨y0, y1, y2, y3, y4, y5, y6, y7, y8, y9, y10, y11⟩ := zc12 (blk_on HB.out.1 DK.out)
  go_upto_region 20 with (go_at_call 25; refine TM.mono ?_; rintro e wu ⟨x1u, y1u, x2u, y2u, x3u, y3u, rfl, HOu, DQu⟩)
  clear TM y0 y1 y2 y3 y4 y5 y6 y7 y8 y9 y10 y11
  obtain ⟨Wu, hWu⟩ : ∃ W, wu.alloc (.cells #[.int .i64 rnu, .int .i64 rmu, .slice x1u rsu.length y1u, .slice x2u rfu.length y2u, .slice x3u reu.length y3u] 25) = W := ⟨_, rfl⟩
  obtain ⟨pu, hpu⟩ : ∃ p, wu.heap.size = p := ⟨_, rfl⟩
  have HXu : Hid (Wu.heap[pu]? = some (.cells #[.int .i64 rnu, .int .i64 rmu, .slice x1u rsu.length y1u, .slice x2u rfu.length y2u, .slice x3u reu.length y3u] 25 (0, 0)) ∧ RdA Wu x1u x2u x3u rsu rfu reu) := hide (by rw [← hWu, ← hpu]; exact ⟨World.alloc_heap_new _ _, HOu.out.on ((Below.refl _ _).alloc (Nat.le_refl _) _)⟩)
  have HC : Hid (Below wz.heap.size wz Wu) := hide (by rw [← hWu]; exact DQu.trans (((Below.refl _ _).alloc (Nat.le_refl _) _).mono DQu.size))
  rw [hWu, hpu]
  clear hWu hpu HOu DQu HWB
  replace DK : Hid (Below W0.heap.size W0 Wu) := hide (DK.out.trans (HC.out.mono DK.out.size))
  clear HC
  have HLNu : Hid (rsu.length ≤ 4000000 ∧ rfu.length ≤ 4000000 ∧ reu.length ≤ 1000000) := hide (by have q := mkA_len (k := 0) (n := n) (m := m) (Sa := Sa) (Fa := Fa) (Ea := Ea) (n' := n') (m' := m') (Sb := Sb) (Fb := Fb) (Eb := Eb) (Wd := Vd) (s := m) (by have := en.out; omega) (by have := en.out; omega) (by have := en.out; omega) (by have := en.out; omega) (by have := en.out; omega); rw [show mkA 0 n m Sa Fa Ea n' m' Sb Fb Eb Vd m = uniAns n m n' m' Sa Fa Ea Sb Fb Eb from rfl, HEu.out] at q; exact q)
  obtain ⟨rnc, rmc, rsc, rfc, rec, rrc, hrc⟩ : ∃ a b c d e f, conA n m n' m' Sa Fa Ea Sb Fb Eb = Ans.mk a b c d e f := ⟨_, _, _, _, _, _, rfl⟩
  have HWB : Hid (Below w.heap.size w Wu) := hide (HB.out.2.trans (DK.out.mono HB.out.2.size))
  have TM := mk_con Wu n m a1 a2 a3 c1 c2 c3 Sa Fa Ea (hide (hA.out.on HWB.out)) (by have := en.out; omega) (by have := en.out; omega) (by have := en.out; omega) n' m' b1 b2 b3 d1 d2 d3 Sb Fb Eb (hide (hB.out.on HWB.out)) (by have := en.out; omega) (by have := en.out; omega) (by have := en.out; omega)
  replace TM := ans_rd TM hrc
  rw [en.out.1, en.out.2.1, en.out.2.2.1, en.out.2.2.2.1, en.out.2.2.2.2.1, en.out.2.2.2.2.2.1] at TM
  have HEc := hide hrc
  clear hrc
  obtain ⟨y0, y1, y2, y3, y4, y5, y6, y7, y8, y9, y10, y11⟩ := zc12 (blk_on HB.out.1 DK.out)
  go_upto_region 21 with (go_at_call 21; refine TM.mono ?_; rintro e wc ⟨x1c, y1c, x2c, y2c, x3c, y3c, rfl, HOc, DQc⟩)
  clear TM y0 y1 y2 y3 y4 y5 y6 y7 y8 y9 y10 y11
  obtain ⟨Wc, hWc⟩ : ∃ W, wc.alloc (.cells #[.int .i64 rnc, .int .i64 rmc, .slice x1c rsc.length y1c, .slice x2c rfc.length y2c, .slice x3c rec.length y3c] 25) = W := ⟨_, rfl⟩
  obtain ⟨pc, hpc⟩ : ∃ p, wc.heap.size = p := ⟨_, rfl⟩
  have HXc : Hid (Wc.heap[pc]? = some (.cells #[.int .i64 rnc, .int .i64 rmc, .slice x1c rsc.length y1c, .slice x2c rfc.length y2c, .slice x3c rec.length y3c] 25 (0, 0)) ∧ RdA Wc x1c x2c x3c rsc rfc rec) := hide (by rw [← hWc, ← hpc]; exact ⟨World.alloc_heap_new _ _, HOc.out.on ((Below.refl _ _).alloc (Nat.le_refl _) _)⟩)
  have HC : Hid (Below Wu.heap.size Wu Wc) := hide (by rw [← hWc]; exact DQc.trans (((Below.refl _ _).alloc (Nat.le_refl _) _).mono DQc.size))
  rw [hWc, hpc]
  clear hWc hpc HOc DQc HWB
  replace DK : Hid (Below W0.heap.size W0 Wc) := hide (DK.out.trans (HC.out.mono DK.out.size))
  replace HXu := hide (And.intro (blk_on HXu.out.1 HC.out) (HXu.out.2.on HC.out))
  clear HC
  have HLNc : Hid (rsc.length ≤ 4000000 ∧ rfc.length ≤ 4000000 ∧ rec.length ≤ 1000000) := hide (by have q := mkA_len (k := 1) (n := n) (m := m) (Sa := Sa) (Fa := Fa) (Ea := Ea) (n' := n') (m' := m') (Sb := Sb) (Fb := Fb) (Eb := Eb) (Wd := Vd) (s := m) (by have := en.out; omega) (by have := en.out; omega) (by have := en.out; omega) (by have := en.out; omega) (by have := en.out; omega); rw [show mkA 1 n m Sa Fa Ea n' m' Sb Fb Eb Vd m = conA n m n' m' Sa Fa Ea Sb Fb Eb from rfl, HEc.out] at q; exact q)
  have HWB : Hid (Below w.heap.size w Wc) := hide (HB.out.2.trans (DK.out.mono HB.out.2.size))
  have TM := meet_any Wc n m n' m' 400 a1 a2 a3 b1 b2 b3 c1 c2 c3 d1 d2 d3 Sa Fa Sb Fb Ea Eb (hide (hA.out.on HWB.out)) (hide (hB.out.on HWB.out)) (by have := en.out; omega) (by have := en.out; omega) (by have := en.out; omega) (by have := en.out; omega) (by have := en.out; omega) (by have := en.out; omega)
  rw [en.out.1, en.out.2.1, en.out.2.2.1, en.out.2.2.2.1, en.out.2.2.2.2.1, en.out.2.2.2.2.2.1] at TM
  obtain ⟨y0, y1, y2, y3, y4, y5, y6, y7, y8, y9, y10, y11⟩ := zc12 (blk_on HB.out.1 DK.out)
  go_upto_region 22 with (go_at_call 23; refine TM.mono ?_; rintro e wm ⟨rnm, rmm, rrm, psm, rsm, rfm, rem, x1m, y1m, x2m, y2m, x3m, y3m, xpm, ypm, rfl, HOm, DQm⟩)
  clear TM y0 y1 y2 y3 y4 y5 y6 y7 y8 y9 y10 y11
  obtain ⟨Wm, hWm⟩ : ∃ W, wm.alloc (.cells #[.int .i64 rnm, .int .i64 rmm, .slice x1m rsm.length y1m, .slice x2m rfm.length y2m, .slice x3m rem.length y3m] 25) = W := ⟨_, rfl⟩
  obtain ⟨pm, hpm⟩ : ∃ p, wm.heap.size = p := ⟨_, rfl⟩
  have HXm : Hid (Wm.heap[pm]? = some (.cells #[.int .i64 rnm, .int .i64 rmm, .slice x1m rsm.length y1m, .slice x2m rfm.length y2m, .slice x3m rem.length y3m] 25 (0, 0)) ∧ RdA Wm x1m x2m x3m rsm rfm rem) := hide (by rw [← hWm, ← hpm]; exact ⟨World.alloc_heap_new _ _, (⟨own_rdN HOm.out.1.s, own_rdN HOm.out.1.f, own_rdE HOm.out.1.e⟩ : RdA wm x1m x2m x3m rsm rfm rem).on ((Below.refl _ _).alloc (Nat.le_refl _) _)⟩)
  have HQm : Hid (rrm = 0 → rnm = (psm.length : Int) ∧ rmm = m ∧ rsm.length ≤ 4096 ∧ rfm.length ≤ 4096 ∧ rem.length ≤ 65536 ∧ MetQ n m n' m' Sa Fa Ea Sb Fb Eb psm rsm rfm rem) := hide (fun e => (HOm.out.2.resolve_left (fun k => k e)).2)
  have HC : Hid (Below Wc.heap.size Wc Wm) := hide (by rw [← hWm]; exact DQm.trans (((Below.refl _ _).alloc (Nat.le_refl _) _).mono DQm.size))
  rw [hWm, hpm]
  clear hWm hpm HOm DQm HWB
  replace DK : Hid (Below W0.heap.size W0 Wm) := hide (DK.out.trans (HC.out.mono DK.out.size))
  replace HXu := hide (And.intro (blk_on HXu.out.1 HC.out) (HXu.out.2.on HC.out))
  replace HXc := hide (And.intro (blk_on HXc.out.1 HC.out) (HXc.out.2.on HC.out))
  clear HC
  obtain ⟨va, hva⟩ : ∃ v, tkF n m Sa Fa Ea Wd = v := ⟨_, rfl⟩
  obtain ⟨vb, hvb⟩ : ∃ v, tkF n' m' Sb Fb Eb Wd = v := ⟨_, rfl⟩
  have HVA := hide hva
  have HVB := hide hvb
  clear hva hvb
  have TA : Hid (∀ W, Below Wm.heap.size Wm W → Calls Tryz.prog 11 #[.agg #[.int .i64 n, .int .i64 m, .slice a1 n1 c1, .slice a2 n2 c2, .slice a3 n3 c3], .slice aw nw cw] W fun e w' => e = .returned (.bool va) ∧ Below W.heap.size W w') := hide (fun W d => by
   have q := ltakes_any W n m a1 a2 a3 c1 c2 c3 Sa Fa Ea aw cw Wd (hide (hA.out.on (HB.out.2.trans ((DK.out.trans (d.mono DK.out.size)).mono HB.out.2.size)))) (hide (hU.out.on (HB.out.2.trans ((DK.out.trans (d.mono DK.out.size)).mono HB.out.2.size)))) (by have := en.out; omega) (by have := en.out; omega) (by have := en.out; omega) (by have := en.out; omega)
   rw [en.out.1, en.out.2.1, en.out.2.2.1, HW.out, HVA.out] at q
   exact q)
  have TB : Hid (∀ W, Below Wm.heap.size Wm W → Calls Tryz.prog 11 #[.agg #[.int .i64 n', .int .i64 m', .slice b1 l1 d1, .slice b2 l2 d2, .slice b3 l3 d3], .slice aw nw cw] W fun e w' => e = .returned (.bool vb) ∧ Below W.heap.size W w') := hide (fun W d => by
   have q := ltakes_any W n' m' b1 b2 b3 d1 d2 d3 Sb Fb Eb aw cw Wd (hide (hB.out.on (HB.out.2.trans ((DK.out.trans (d.mono DK.out.size)).mono HB.out.2.size)))) (hide (hU.out.on (HB.out.2.trans ((DK.out.trans (d.mono DK.out.size)).mono HB.out.2.size)))) (by have := en.out; omega) (by have := en.out; omega) (by have := en.out; omega) (by have := en.out; omega)
   rw [en.out.2.2.2.1, en.out.2.2.2.2.1, en.out.2.2.2.2.2.1, HW.out, HVB.out] at q
   exact q)
  obtain ⟨vu, hvu⟩ : ∃ v, tkF rnu rmu rsu rfu reu Wd = v := ⟨_, rfl⟩
  have HVu : Hid (rru = 0 → (va || vb) = vu) := hide (fun e => by
   have h0 : (uniAns n m n' m' Sa Fa Ea Sb Fb Eb).er = 0 := by rw [HEu.out]; exact e
   have q := tk_uni h0 Wd
   rw [HEu.out, HVA.out, HVB.out] at q
   rw [← hvu]
   exact q.symm)
  have TK : Hid (∀ W, Below Wm.heap.size Wm W → Calls Tryz.prog 11 #[.agg #[.int .i64 rnu, .int .i64 rmu, .slice x1u rsu.length y1u, .slice x2u rfu.length y2u, .slice x3u reu.length y3u], .slice aw nw cw] W fun e w' => e = .returned (.bool vu) ∧ Below W.heap.size W w') := hide (fun W d => by
   have q := ltakes_any W rnu rmu x1u x2u x3u y1u y2u y3u rsu rfu reu aw cw Wd (hide (HXu.out.2.on d)) (hide (hU.out.on (HB.out.2.trans ((DK.out.trans (d.mono DK.out.size)).mono HB.out.2.size)))) (by have := HLNu.out; omega) (by have := HLNu.out; omega) (by have := HLNu.out; omega) (by have := en.out; omega)
   rw [HW.out, hvu] at q
   exact q)
  clear hvu
  go_upto_region 22 with fail
  go_cut [192] from 175 to 192 (fun v W => v = .bool false ∧ Hid (Below Wm.heap.size Wm W))
  case first =>
   by_cases he : rru = 0
   · subst he
     have hv := HVu.out rfl
     cases va with
     | true =>
      obtain rfl : vu = true := by simpa using hv.symm
      clear hv
      have hmo : MonIL 0 [vI 0 (.int .i64 0), vI 1 (.bool true), vI 2 (.bool true), vI 3 (.agg #[.int .i64 rnu, .int .i64 rmu, .slice x1u rsu.length y1u, .slice x2u rfu.length y2u, .slice x3u reu.length y3u]), vI 4 (.slice aw nw cw), vI 5 (.bool true), vI 6 (.pointer (some ⟨w.heap.size, 0, none⟩)), vI 7 (.agg #[.int .i64 n, .int .i64 m, .slice a1 n1 c1, .slice a2 n2 c2, .slice a3 n3 c3]), vI 8 (.slice aw nw cw), vI 9 (.bool true), vI 10 (.bool true), vI 11 undef, vI 12 undef, vI 13 undef, vI 14 undef, vI 15 (.bool true), vI 16 (.bool false), vI 17 (.bool false)] := ⟨vI_mono _ _, vI_mono _ _, vI_mono _ _, vI_mono _ _, vI_mono _ _, vI_mono _ _, vI_mono _ _, vI_mono _ _, vI_mono _ _, vI_mono _ _, vI_mono _ _, vI_mono _ _, vI_mono _ _, vI_mono _ _, vI_mono _ _, vI_mono _ _, vI_mono _ _, vI_mono _ _, trivial⟩
      refine wp_region_sl _ (by kernel_rfl) (by kernel_rfl) (by kernel_rfl) (by kernel_rfl) hmo ⟨?o0, ?o1, ?o2, ?o3, ?o4, ?o5, ?o6, ?o7, ?o8, ?o9, ?o10, ?o11, ?o12, ?o13, ?o14, ?o15, ?o16, ?o17, trivial⟩ ?fin
      case o0 =>
       intro At yy W hy hb d hd K hK
       obtain ⟨s17, t17⟩ := zsh (hb 17 rfl) rfl
       clear hd hy hb
       go_simp
       exact zkq hK hmo d (if_pos rfl)
      case o1 =>
       intro At yy W hy hb d hd K hK
       obtain ⟨s175, t175⟩ := zsg 0 175 .data hy hd rfl
       clear hd hy hb
       go_simp
       exact zkq hK hmo d (if_pos rfl)
      case o2 =>
       intro At yy W hy hb d hd K hK
       obtain ⟨s176, t176⟩ := zsg 1 176 .data hy hd rfl
       clear hd hy hb
       go_simp
       exact zkq hK hmo d (if_pos rfl)
      case o3 =>
       intro At yy W hy hb d hd K hK
       obtain ⟨s16, t16⟩ := zsh (hb 16 rfl) rfl
       have g177 := zgd 2 177 hy hd rfl
       clear hd hy hb
       obtain ⟨z0, z1, z2, z3, z4⟩ := zc5 (blk_on HXu.out.1 d)
       go_simp
       exact zkq hK hmo d (if_pos rfl)
      case o4 | o8 =>
       intro At yy W hy hb d hd K hK
       obtain ⟨s3, t3⟩ := zsh (hb 3 rfl) rfl
       have g177 := zgd 2 177 hy hd rfl
       clear hd hy hb
       go_simp
       exact zkq hK hmo d (if_pos rfl)
      case o5 =>
       intro At yy W hy hb d hd K hK
       obtain ⟨s178, t178⟩ := zsg 3 178 .data hy hd rfl
       obtain ⟨s179, t179⟩ := zsg 4 179 .data hy hd rfl
       have g177 := zgd 2 177 hy hd rfl
       clear hd hy hb
       go_simp
       go_wp2_with (go_at_call 11; refine (TK.out _ d).mono ?_; rintro e wa ⟨rfl, dR⟩)
       exact hK.out _ wa (stp_of hmo d dR) (if_pos rfl)
      case o6 =>
       intro At yy W hy hb d hd K hK
       obtain ⟨s1, t1⟩ := zsh (hb 1 rfl) rfl
       have g177 := zgd 2 177 hy hd rfl
       clear hd hy hb
       go_simp
       exact zkq hK hmo d (if_pos rfl)
      case o7 =>
       intro At yy W hy hb d hd K hK
       obtain ⟨s181, t181⟩ := zsg 6 181 .data hy hd rfl
       have g177 := zgd 2 177 hy hd rfl
       clear hd hy hb
       obtain ⟨y0, y1, y2, y3, y4, y5, y6, y7, y8, y9, y10, y11⟩ := zc12 (blk_on HB.out.1 (DK.out.trans (d.mono DK.out.size)))
       go_simp
       exact zkq hK hmo d (if_pos rfl)
      case o9 =>
       intro At yy W hy hb d hd K hK
       obtain ⟨s182, t182⟩ := zsg 7 182 .data hy hd rfl
       obtain ⟨s183, t183⟩ := zsg 8 183 .data hy hd rfl
       have g177 := zgd 2 177 hy hd rfl
       clear hd hy hb
       go_simp
       go_wp2_with (go_at_call 11; refine (TA.out _ d).mono ?_; rintro e wa ⟨rfl, dR⟩)
       exact hK.out _ wa (stp_of hmo d dR) (if_pos rfl)
      case o10 =>
       intro At yy W hy hb d hd K hK
       obtain ⟨s184, t184⟩ := zsg 9 184 .data hy hd rfl
       have g177 := zgd 2 177 hy hd rfl
       clear hd hy hb
       go_simp
       exact zkq hK hmo d (if_pos rfl)
      case o11 | o12 | o13 | o14 =>
       intro At yy W hy hb d hd K hK
       have g185 := zgd 10 185 hy hd rfl
       clear hd hy hb
       go_simp
       exact zkq hK hmo d (if_pos rfl)
      case o15 =>
       intro At yy W hy hb d hd K hK
       obtain ⟨s185, t185⟩ := zsg 10 185 .data hy hd rfl
       obtain ⟨s189, t189⟩ := zsg 14 189 .data hy hd rfl
       have g177 := zgd 2 177 hy hd rfl
       clear hd hy hb
       go_simp
       exact zkq hK hmo d (if_pos rfl)
      case o16 =>
       intro At yy W hy hb d hd K hK
       obtain ⟨s180, t180⟩ := zsg 5 180 .data hy hd rfl
       obtain ⟨s190, t190⟩ := zsg 15 190 .data hy hd rfl
       have g177 := zgd 2 177 hy hd rfl
       clear hd hy hb
       go_simp
       exact zkq hK hmo d (if_pos rfl)
      case o17 =>
       intro At yy W hy hb d hd K hK
       obtain ⟨s177, t177⟩ := zsg 2 177 .data hy hd rfl
       obtain ⟨s191, t191⟩ := zsg 16 191 .data hy hd rfl
       clear hd hy hb
       go_simp
       exact zkq hK hmo d (if_pos rfl)
      case fin =>
       intro yy lo hi W hM
       show wpList _ _ _ [] _ _
       have e17 := hM.v 17 (by simp) rfl rfl rfl
       have DW := hide hM.d
       simp only [fills, Act.put, List.take, List.length, List.setIfInBounds_toArray, List.set_cons_zero, List.set_cons_succ, e17]
       clear hM hmo e17
       go_wp2_with fail
       go_meet
       exact ⟨rfl, DW⟩
     | false =>
      obtain rfl : vb = vu := by simpa using hv
      clear hv
      have hmo : MonIL 0 [vI 0 (.int .i64 0), vI 1 (.bool true), vI 2 (.bool true), vI 3 (.agg #[.int .i64 rnu, .int .i64 rmu, .slice x1u rsu.length y1u, .slice x2u rfu.length y2u, .slice x3u reu.length y3u]), vI 4 (.slice aw nw cw), vI 5 (.bool vb), vI 6 (.pointer (some ⟨w.heap.size, 0, none⟩)), vI 7 (.agg #[.int .i64 n, .int .i64 m, .slice a1 n1 c1, .slice a2 n2 c2, .slice a3 n3 c3]), vI 8 (.slice aw nw cw), vI 9 (.bool false), vI 10 (.bool false), vI 11 (.pointer (some ⟨w.heap.size, 5, none⟩)), vI 12 (.agg #[.int .i64 n', .int .i64 m', .slice b1 l1 d1, .slice b2 l2 d2, .slice b3 l3 d3]), vI 13 (.slice aw nw cw), vI 14 (.bool vb), vI 15 (.bool vb), vI 16 (.bool false), vI 17 (.bool false)] := ⟨vI_mono _ _, vI_mono _ _, vI_mono _ _, vI_mono _ _, vI_mono _ _, vI_mono _ _, vI_mono _ _, vI_mono _ _, vI_mono _ _, vI_mono _ _, vI_mono _ _, vI_mono _ _, vI_mono _ _, vI_mono _ _, vI_mono _ _, vI_mono _ _, vI_mono _ _, vI_mono _ _, trivial⟩
      refine wp_region_sl _ (by kernel_rfl) (by kernel_rfl) (by kernel_rfl) (by kernel_rfl) hmo ⟨?o0, ?o1, ?o2, ?o3, ?o4, ?o5, ?o6, ?o7, ?o8, ?o9, ?o10, ?o11, ?o12, ?o13, ?o14, ?o15, ?o16, ?o17, trivial⟩ ?fin
      case o0 =>
       intro At yy W hy hb d hd K hK
       obtain ⟨s17, t17⟩ := zsh (hb 17 rfl) rfl
       clear hd hy hb
       go_simp
       exact zkq hK hmo d (if_pos rfl)
      case o1 =>
       intro At yy W hy hb d hd K hK
       obtain ⟨s175, t175⟩ := zsg 0 175 .data hy hd rfl
       clear hd hy hb
       go_simp
       exact zkq hK hmo d (if_pos rfl)
      case o2 =>
       intro At yy W hy hb d hd K hK
       obtain ⟨s176, t176⟩ := zsg 1 176 .data hy hd rfl
       clear hd hy hb
       go_simp
       exact zkq hK hmo d (if_pos rfl)
      case o3 =>
       intro At yy W hy hb d hd K hK
       obtain ⟨s16, t16⟩ := zsh (hb 16 rfl) rfl
       have g177 := zgd 2 177 hy hd rfl
       clear hd hy hb
       obtain ⟨z0, z1, z2, z3, z4⟩ := zc5 (blk_on HXu.out.1 d)
       go_simp
       exact zkq hK hmo d (if_pos rfl)
      case o4 | o8 =>
       intro At yy W hy hb d hd K hK
       obtain ⟨s3, t3⟩ := zsh (hb 3 rfl) rfl
       have g177 := zgd 2 177 hy hd rfl
       clear hd hy hb
       go_simp
       exact zkq hK hmo d (if_pos rfl)
      case o5 =>
       intro At yy W hy hb d hd K hK
       obtain ⟨s178, t178⟩ := zsg 3 178 .data hy hd rfl
       obtain ⟨s179, t179⟩ := zsg 4 179 .data hy hd rfl
       have g177 := zgd 2 177 hy hd rfl
       clear hd hy hb
       go_simp
       go_wp2_with (go_at_call 11; refine (TK.out _ d).mono ?_; rintro e wa ⟨rfl, dR⟩)
       exact hK.out _ wa (stp_of hmo d dR) (if_pos rfl)
      case o6 =>
       intro At yy W hy hb d hd K hK
       obtain ⟨s1, t1⟩ := zsh (hb 1 rfl) rfl
       have g177 := zgd 2 177 hy hd rfl
       clear hd hy hb
       go_simp
       exact zkq hK hmo d (if_pos rfl)
      case o7 =>
       intro At yy W hy hb d hd K hK
       obtain ⟨s181, t181⟩ := zsg 6 181 .data hy hd rfl
       have g177 := zgd 2 177 hy hd rfl
       clear hd hy hb
       obtain ⟨y0, y1, y2, y3, y4, y5, y6, y7, y8, y9, y10, y11⟩ := zc12 (blk_on HB.out.1 (DK.out.trans (d.mono DK.out.size)))
       go_simp
       exact zkq hK hmo d (if_pos rfl)
      case o9 =>
       intro At yy W hy hb d hd K hK
       obtain ⟨s182, t182⟩ := zsg 7 182 .data hy hd rfl
       obtain ⟨s183, t183⟩ := zsg 8 183 .data hy hd rfl
       have g177 := zgd 2 177 hy hd rfl
       clear hd hy hb
       go_simp
       go_wp2_with (go_at_call 11; refine (TA.out _ d).mono ?_; rintro e wa ⟨rfl, dR⟩)
       exact hK.out _ wa (stp_of hmo d dR) (if_pos rfl)
      case o10 =>
       intro At yy W hy hb d hd K hK
       obtain ⟨s184, t184⟩ := zsg 9 184 .data hy hd rfl
       have g177 := zgd 2 177 hy hd rfl
       clear hd hy hb
       go_simp
       exact zkq hK hmo d (if_pos rfl)
      case o11 =>
       intro At yy W hy hb d hd K hK
       obtain ⟨s1, t1⟩ := zsh (hb 1 rfl) rfl
       have g185 := zgd 10 185 hy hd rfl
       clear hd hy hb
       go_simp
       exact zkq hK hmo d (if_pos rfl)
      case o12 =>
       intro At yy W hy hb d hd K hK
       obtain ⟨s186, t186⟩ := zsg 11 186 .data hy hd rfl
       have g185 := zgd 10 185 hy hd rfl
       clear hd hy hb
       obtain ⟨y0, y1, y2, y3, y4, y5, y6, y7, y8, y9, y10, y11⟩ := zc12 (blk_on HB.out.1 (DK.out.trans (d.mono DK.out.size)))
       go_simp
       exact zkq hK hmo d (if_pos rfl)
      case o13 =>
       intro At yy W hy hb d hd K hK
       obtain ⟨s3, t3⟩ := zsh (hb 3 rfl) rfl
       have g185 := zgd 10 185 hy hd rfl
       clear hd hy hb
       go_simp
       exact zkq hK hmo d (if_pos rfl)
      case o14 =>
       intro At yy W hy hb d hd K hK
       obtain ⟨s187, t187⟩ := zsg 12 187 .data hy hd rfl
       obtain ⟨s188, t188⟩ := zsg 13 188 .data hy hd rfl
       have g185 := zgd 10 185 hy hd rfl
       clear hd hy hb
       go_simp
       go_wp2_with (go_at_call 11; refine (TB.out _ d).mono ?_; rintro e wa ⟨rfl, dR⟩)
       exact hK.out _ wa (stp_of hmo d dR) (if_pos rfl)
      case o15 =>
       intro At yy W hy hb d hd K hK
       obtain ⟨s185, t185⟩ := zsg 10 185 .data hy hd rfl
       obtain ⟨s189, t189⟩ := zsg 14 189 .data hy hd rfl
       have g177 := zgd 2 177 hy hd rfl
       clear hd hy hb
       go_simp
       exact zkq hK hmo d (if_pos rfl)
      case o16 =>
       intro At yy W hy hb d hd K hK
       obtain ⟨s180, t180⟩ := zsg 5 180 .data hy hd rfl
       obtain ⟨s190, t190⟩ := zsg 15 190 .data hy hd rfl
       have g177 := zgd 2 177 hy hd rfl
       clear hd hy hb
       go_simp
       exact zkq hK hmo d (if_pos rfl)
      case o17 =>
       intro At yy W hy hb d hd K hK
       obtain ⟨s177, t177⟩ := zsg 2 177 .data hy hd rfl
       obtain ⟨s191, t191⟩ := zsg 16 191 .data hy hd rfl
       clear hd hy hb
       go_simp
       exact zkq hK hmo d (if_pos rfl)
      case fin =>
       intro yy lo hi W hM
       show wpList _ _ _ [] _ _
       have e17 := hM.v 17 (by simp) rfl rfl rfl
       have DW := hide hM.d
       simp only [fills, Act.put, List.take, List.length, List.setIfInBounds_toArray, List.set_cons_zero, List.set_cons_succ, e17]
       clear hM hmo e17
       go_wp2_with fail
       go_meet
       exact ⟨rfl, DW⟩
   · have heb : (rru == 0) = false := by simp [he]
     have hmo : MonIL 0 [vI 0 (.int .i64 rru), vI 1 (.bool false), vI 2 (.bool false), vI 3 undef, vI 4 undef, vI 5 undef, vI 6 undef, vI 7 undef, vI 8 undef, vI 9 undef, vI 10 undef, vI 11 undef, vI 12 undef, vI 13 undef, vI 14 undef, vI 15 undef, vI 16 undef, vI 17 (.bool false)] := ⟨vI_mono _ _, vI_mono _ _, vI_mono _ _, vI_mono _ _, vI_mono _ _, vI_mono _ _, vI_mono _ _, vI_mono _ _, vI_mono _ _, vI_mono _ _, vI_mono _ _, vI_mono _ _, vI_mono _ _, vI_mono _ _, vI_mono _ _, vI_mono _ _, vI_mono _ _, vI_mono _ _, trivial⟩
     refine wp_region_sl _ (by kernel_rfl) (by kernel_rfl) (by kernel_rfl) (by kernel_rfl) hmo ⟨?o0, ?o1, ?o2, ?o3, ?o4, ?o5, ?o6, ?o7, ?o8, ?o9, ?o10, ?o11, ?o12, ?o13, ?o14, ?o15, ?o16, ?o17, trivial⟩ ?fin
     case o0 =>
      intro At yy W hy hb d hd K hK
      obtain ⟨s17, t17⟩ := zsh (hb 17 rfl) rfl
      clear hd hy hb
      go_simp
      exact zkq hK hmo d (if_pos rfl)
     case o1 =>
      intro At yy W hy hb d hd K hK
      obtain ⟨s175, t175⟩ := zsg 0 175 .data hy hd rfl
      clear hd hy hb
      go_simp
      exact zkq hK hmo d (if_pos rfl)
     case o2 =>
      intro At yy W hy hb d hd K hK
      obtain ⟨s176, t176⟩ := zsg 1 176 .data hy hd rfl
      clear hd hy hb
      go_simp
      exact zkq hK hmo d (if_pos rfl)
     case o3 | o4 | o5 | o6 | o7 | o8 | o9 | o10 | o15 | o16 =>
      intro At yy W hy hb d hd K hK
      have g177 := zgd 2 177 hy hd rfl
      clear hd hy hb
      go_simp
      exact zkq hK hmo d (if_pos rfl)
     case o11 | o12 | o13 | o14 =>
      intro At yy W hy hb d hd K hK
      have g185 := zgu 10 185 hy hd rfl
      clear hd hy hb
      rcases g185 with g185 | g185
      all_goals
       go_simp
       exact zkq hK hmo d (if_pos rfl)
     case o17 =>
      intro At yy W hy hb d hd K hK
      obtain ⟨s177, t177⟩ := zsg 2 177 .data hy hd rfl
      obtain ⟨s191, t191⟩ := zsg 16 191 .data hy hd rfl
      clear hd hy hb
      go_simp
      exact zkq hK hmo d (if_pos rfl)
     case fin =>
      intro yy lo hi W hM
      show wpList _ _ _ [] _ _
      have e17 := hM.v 17 (by simp) rfl rfl rfl
      have DW := hide hM.d
      simp only [fills, Act.put, List.take, List.length, List.setIfInBounds_toArray, List.set_cons_zero, List.set_cons_succ, e17]
      clear hM hmo e17
      go_wp2_with fail
      go_meet
      exact ⟨rfl, DW⟩
  case rest =>
   rename World => W4
   obtain ⟨rfl, HC⟩ := hcut
   replace DK : Hid (Below W0.heap.size W0 W4) := hide (DK.out.trans (HC.out.mono DK.out.size))
   replace HXu := hide (And.intro (blk_on HXu.out.1 HC.out) (HXu.out.2.on HC.out))
   replace HXc := hide (And.intro (blk_on HXc.out.1 HC.out) (HXc.out.2.on HC.out))
   replace HXm := hide (And.intro (blk_on HXm.out.1 HC.out) (HXm.out.2.on HC.out))
   clear HC
   clear HXu HLNu HEu HVu TK TA TB
   obtain ⟨vc, hvc⟩ : ∃ v, tkF rnc rmc rsc rfc rec Wd = v := ⟨_, rfl⟩
   have HVc : Hid (rrc = 0 → splB (tkF n m Sa Fa Ea) (tkF n' m' Sb Fb Eb) Wd = vc) := hide (fun e => by
    have h0 : (conA n m n' m' Sa Fa Ea Sb Fb Eb).er = 0 := by rw [HEc.out]; exact e
    have q := tk_con h0 Wd
    rw [HEc.out] at q
    rw [← hvc, Bool.eq_iff_iff, spl_iff]
    exact q.symm)
   have TK : Hid (∀ W, Below W4.heap.size W4 W → Calls Tryz.prog 11 #[.agg #[.int .i64 rnc, .int .i64 rmc, .slice x1c rsc.length y1c, .slice x2c rfc.length y2c, .slice x3c rec.length y3c], .slice aw nw cw] W fun e w' => e = .returned (.bool vc) ∧ Below W.heap.size W w') := hide (fun W d => by
    have q := ltakes_any W rnc rmc x1c x2c x3c y1c y2c y3c rsc rfc rec aw cw Wd (hide (HXc.out.2.on d)) (hide (hU.out.on (HB.out.2.trans ((DK.out.trans (d.mono DK.out.size)).mono HB.out.2.size)))) (by have := HLNc.out; omega) (by have := HLNc.out; omega) (by have := HLNc.out; omega) (by have := en.out; omega)
    rw [HW.out, hvc] at q
    exact q)
   clear hvc
   have TZ : Hid (∀ W, Below W4.heap.size W4 W → Calls Tryz.prog 30 #[.agg #[.int .i64 n, .int .i64 m, .slice a1 n1 c1, .slice a2 n2 c2, .slice a3 n3 c3], .agg #[.int .i64 n', .int .i64 m', .slice b1 l1 d1, .slice b2 l2 d2, .slice b3 l3 d3], .slice aw nw cw] W fun e w' => e = .returned (.bool (splB (tkF n m Sa Fa Ea) (tkF n' m' Sb Fb Eb) Wd)) ∧ Below W.heap.size W w') := hide (fun W d => split_any W n m n' m' a1 a2 a3 b1 b2 b3 c1 c2 c3 d1 d2 d3 n1 n2 n3 l1 l2 l3 Sa Fa Sb Fb Ea Eb (hide ⟨en.out.1, en.out.2.1, en.out.2.2.1, en.out.2.2.2.1, en.out.2.2.2.2.1, en.out.2.2.2.2.2.1⟩) (hide (hA.out.on (HB.out.2.trans ((DK.out.trans (d.mono DK.out.size)).mono HB.out.2.size)))) (hide (hB.out.on (HB.out.2.trans ((DK.out.trans (d.mono DK.out.size)).mono HB.out.2.size)))) (by have := en.out; omega) (by have := en.out; omega) (by have := en.out; omega) (by have := en.out; omega) (by have := en.out; omega) (by have := en.out; omega) aw nw cw Wd HW (hide (hU.out.on (HB.out.2.trans ((DK.out.trans (d.mono DK.out.size)).mono HB.out.2.size)))) hcw (by have := en.out; omega))
   go_upto_region 24 with fail
   go_cut [206] from 193 to 206 (fun v W => v = .bool false ∧ Hid (Below W4.heap.size W4 W))
   case first =>
    by_cases he : rrc = 0
    · subst he
      rw [HVc.out rfl] at TZ
      have hmo : MonIL 0 [vI 0 (.int .i64 0), vI 1 (.bool true), vI 2 (.bool true), vI 3 (.agg #[.int .i64 rnc, .int .i64 rmc, .slice x1c rsc.length y1c, .slice x2c rfc.length y2c, .slice x3c rec.length y3c]), vI 4 (.slice aw nw cw), vI 5 (.bool vc), vI 6 (.pointer (some ⟨w.heap.size, 0, none⟩)), vI 7 (.agg #[.int .i64 n, .int .i64 m, .slice a1 n1 c1, .slice a2 n2 c2, .slice a3 n3 c3]), vI 8 (.pointer (some ⟨w.heap.size, 5, none⟩)), vI 9 (.agg #[.int .i64 n', .int .i64 m', .slice b1 l1 d1, .slice b2 l2 d2, .slice b3 l3 d3]), vI 10 (.slice aw nw cw), vI 11 (.bool vc), vI 12 (.bool false), vI 13 (.bool false)] := ⟨vI_mono _ _, vI_mono _ _, vI_mono _ _, vI_mono _ _, vI_mono _ _, vI_mono _ _, vI_mono _ _, vI_mono _ _, vI_mono _ _, vI_mono _ _, vI_mono _ _, vI_mono _ _, vI_mono _ _, vI_mono _ _, trivial⟩
      refine wp_region_sl _ (by kernel_rfl) (by kernel_rfl) (by kernel_rfl) (by kernel_rfl) hmo ⟨?o0, ?o1, ?o2, ?o3, ?o4, ?o5, ?o6, ?o7, ?o8, ?o9, ?o10, ?o11, ?o12, ?o13, trivial⟩ ?fin
      case o0 =>
       intro At yy W hy hb d hd K hK
       obtain ⟨s19, t19⟩ := zsh (hb 19 rfl) rfl
       clear hd hy hb
       go_simp
       exact zkq hK hmo d (if_pos rfl)
      case o1 =>
       intro At yy W hy hb d hd K hK
       obtain ⟨s193, t193⟩ := zsg 0 193 .data hy hd rfl
       clear hd hy hb
       go_simp
       exact zkq hK hmo d (if_pos rfl)
      case o2 =>
       intro At yy W hy hb d hd K hK
       obtain ⟨s194, t194⟩ := zsg 1 194 .data hy hd rfl
       clear hd hy hb
       go_simp
       exact zkq hK hmo d (if_pos rfl)
      case o3 =>
       intro At yy W hy hb d hd K hK
       obtain ⟨s18, t18⟩ := zsh (hb 18 rfl) rfl
       have g195 := zgd 2 195 hy hd rfl
       clear hd hy hb
       obtain ⟨z0, z1, z2, z3, z4⟩ := zc5 (blk_on HXc.out.1 d)
       go_simp
       exact zkq hK hmo d (if_pos rfl)
      case o4 | o10 =>
       intro At yy W hy hb d hd K hK
       obtain ⟨s3, t3⟩ := zsh (hb 3 rfl) rfl
       have g195 := zgd 2 195 hy hd rfl
       clear hd hy hb
       go_simp
       exact zkq hK hmo d (if_pos rfl)
      case o5 =>
       intro At yy W hy hb d hd K hK
       obtain ⟨s196, t196⟩ := zsg 3 196 .data hy hd rfl
       obtain ⟨s197, t197⟩ := zsg 4 197 .data hy hd rfl
       have g195 := zgd 2 195 hy hd rfl
       clear hd hy hb
       go_simp
       go_wp2_with (go_at_call 11; refine (TK.out _ d).mono ?_; rintro e wa ⟨rfl, dR⟩)
       exact hK.out _ wa (stp_of hmo d dR) (if_pos rfl)
      case o6 | o8 =>
       intro At yy W hy hb d hd K hK
       obtain ⟨s1, t1⟩ := zsh (hb 1 rfl) rfl
       have g195 := zgd 2 195 hy hd rfl
       clear hd hy hb
       go_simp
       exact zkq hK hmo d (if_pos rfl)
      case o7 =>
       intro At yy W hy hb d hd K hK
       obtain ⟨s199, t199⟩ := zsg 6 199 .data hy hd rfl
       have g195 := zgd 2 195 hy hd rfl
       clear hd hy hb
       obtain ⟨y0, y1, y2, y3, y4, y5, y6, y7, y8, y9, y10, y11⟩ := zc12 (blk_on HB.out.1 (DK.out.trans (d.mono DK.out.size)))
       go_simp
       exact zkq hK hmo d (if_pos rfl)
      case o9 =>
       intro At yy W hy hb d hd K hK
       obtain ⟨s201, t201⟩ := zsg 8 201 .data hy hd rfl
       have g195 := zgd 2 195 hy hd rfl
       clear hd hy hb
       obtain ⟨y0, y1, y2, y3, y4, y5, y6, y7, y8, y9, y10, y11⟩ := zc12 (blk_on HB.out.1 (DK.out.trans (d.mono DK.out.size)))
       go_simp
       exact zkq hK hmo d (if_pos rfl)
      case o11 =>
       intro At yy W hy hb d hd K hK
       obtain ⟨s200, t200⟩ := zsg 7 200 .data hy hd rfl
       obtain ⟨s202, t202⟩ := zsg 9 202 .data hy hd rfl
       obtain ⟨s203, t203⟩ := zsg 10 203 .data hy hd rfl
       have g195 := zgd 2 195 hy hd rfl
       clear hd hy hb
       go_simp
       go_wp2_with (go_at_call 30; refine (TZ.out _ d).mono ?_; rintro e wa ⟨rfl, dR⟩)
       exact hK.out _ wa (stp_of hmo d dR) (if_pos rfl)
      case o12 =>
       intro At yy W hy hb d hd K hK
       obtain ⟨s198, t198⟩ := zsg 5 198 .data hy hd rfl
       obtain ⟨s204, t204⟩ := zsg 11 204 .data hy hd rfl
       have g195 := zgd 2 195 hy hd rfl
       clear hd hy hb
       go_simp
       exact zkq hK hmo d (if_pos rfl)
      case o13 =>
       intro At yy W hy hb d hd K hK
       obtain ⟨s195, t195⟩ := zsg 2 195 .data hy hd rfl
       obtain ⟨s205, t205⟩ := zsg 12 205 .data hy hd rfl
       clear hd hy hb
       go_simp
       exact zkq hK hmo d (if_pos rfl)
      case fin =>
       intro yy lo hi W hM
       show wpList _ _ _ [] _ _
       have e13 := hM.v 13 (by simp) rfl rfl rfl
       have DW := hide hM.d
       simp only [fills, Act.put, List.take, List.length, List.setIfInBounds_toArray, List.set_cons_zero, List.set_cons_succ, e13]
       clear hM hmo e13
       go_wp2_with fail
       go_meet
       exact ⟨rfl, DW⟩
    · have heb : (rrc == 0) = false := by simp [he]
      have hmo : MonIL 0 [vI 0 (.int .i64 rrc), vI 1 (.bool false), vI 2 (.bool false), vI 3 undef, vI 4 undef, vI 5 undef, vI 6 undef, vI 7 undef, vI 8 undef, vI 9 undef, vI 10 undef, vI 11 undef, vI 12 undef, vI 13 (.bool false)] := ⟨vI_mono _ _, vI_mono _ _, vI_mono _ _, vI_mono _ _, vI_mono _ _, vI_mono _ _, vI_mono _ _, vI_mono _ _, vI_mono _ _, vI_mono _ _, vI_mono _ _, vI_mono _ _, vI_mono _ _, vI_mono _ _, trivial⟩
      refine wp_region_sl _ (by kernel_rfl) (by kernel_rfl) (by kernel_rfl) (by kernel_rfl) hmo ⟨?o0, ?o1, ?o2, ?o3, ?o4, ?o5, ?o6, ?o7, ?o8, ?o9, ?o10, ?o11, ?o12, ?o13, trivial⟩ ?fin
      case o0 =>
       intro At yy W hy hb d hd K hK
       obtain ⟨s19, t19⟩ := zsh (hb 19 rfl) rfl
       clear hd hy hb
       go_simp
       exact zkq hK hmo d (if_pos rfl)
      case o1 =>
       intro At yy W hy hb d hd K hK
       obtain ⟨s193, t193⟩ := zsg 0 193 .data hy hd rfl
       clear hd hy hb
       go_simp
       exact zkq hK hmo d (if_pos rfl)
      case o2 =>
       intro At yy W hy hb d hd K hK
       obtain ⟨s194, t194⟩ := zsg 1 194 .data hy hd rfl
       clear hd hy hb
       go_simp
       exact zkq hK hmo d (if_pos rfl)
      case o3 | o4 | o5 | o6 | o7 | o8 | o9 | o10 | o11 | o12 =>
       intro At yy W hy hb d hd K hK
       have g195 := zgd 2 195 hy hd rfl
       clear hd hy hb
       go_simp
       exact zkq hK hmo d (if_pos rfl)
      case o13 =>
       intro At yy W hy hb d hd K hK
       obtain ⟨s195, t195⟩ := zsg 2 195 .data hy hd rfl
       obtain ⟨s205, t205⟩ := zsg 12 205 .data hy hd rfl
       clear hd hy hb
       go_simp
       exact zkq hK hmo d (if_pos rfl)
      case fin =>
       intro yy lo hi W hM
       show wpList _ _ _ [] _ _
       have e13 := hM.v 13 (by simp) rfl rfl rfl
       have DW := hide hM.d
       simp only [fills, Act.put, List.take, List.length, List.setIfInBounds_toArray, List.set_cons_zero, List.set_cons_succ, e13]
       clear hM hmo e13
       go_wp2_with fail
       go_meet
       exact ⟨rfl, DW⟩
   case rest =>
    rename World => W5
    obtain ⟨rfl, HC⟩ := hcut
    replace DK : Hid (Below W0.heap.size W0 W5) := hide (DK.out.trans (HC.out.mono DK.out.size))
    replace HXc := hide (And.intro (blk_on HXc.out.1 HC.out) (HXc.out.2.on HC.out))
    replace HXm := hide (And.intro (blk_on HXm.out.1 HC.out) (HXm.out.2.on HC.out))
    clear HC
    clear HXc HLNc HEc HVc TK TZ
    have TA : Hid (∀ W, Below W5.heap.size W5 W → Calls Tryz.prog 11 #[.agg #[.int .i64 n, .int .i64 m, .slice a1 n1 c1, .slice a2 n2 c2, .slice a3 n3 c3], .slice aw nw cw] W fun e w' => e = .returned (.bool va) ∧ Below W.heap.size W w') := hide (fun W d => by
     have q := ltakes_any W n m a1 a2 a3 c1 c2 c3 Sa Fa Ea aw cw Wd (hide (hA.out.on (HB.out.2.trans ((DK.out.trans (d.mono DK.out.size)).mono HB.out.2.size)))) (hide (hU.out.on (HB.out.2.trans ((DK.out.trans (d.mono DK.out.size)).mono HB.out.2.size)))) (by have := en.out; omega) (by have := en.out; omega) (by have := en.out; omega) (by have := en.out; omega)
     rw [en.out.1, en.out.2.1, en.out.2.2.1, HW.out, HVA.out] at q
     exact q)
    have TB : Hid (∀ W, Below W5.heap.size W5 W → Calls Tryz.prog 11 #[.agg #[.int .i64 n', .int .i64 m', .slice b1 l1 d1, .slice b2 l2 d2, .slice b3 l3 d3], .slice aw nw cw] W fun e w' => e = .returned (.bool vb) ∧ Below W.heap.size W w') := hide (fun W d => by
     have q := ltakes_any W n' m' b1 b2 b3 d1 d2 d3 Sb Fb Eb aw cw Wd (hide (hB.out.on (HB.out.2.trans ((DK.out.trans (d.mono DK.out.size)).mono HB.out.2.size)))) (hide (hU.out.on (HB.out.2.trans ((DK.out.trans (d.mono DK.out.size)).mono HB.out.2.size)))) (by have := en.out; omega) (by have := en.out; omega) (by have := en.out; omega) (by have := en.out; omega)
     rw [en.out.2.2.2.1, en.out.2.2.2.2.1, en.out.2.2.2.2.2.1, HW.out, HVB.out] at q
     exact q)
    go_upto_region 26 with fail
    by_cases he : rrm = 0
    · subst he
      obtain ⟨e1, e2, l1', l2', l3', hR⟩ := HQm.out rfl
      subst e1
      obtain rfl : m = rmm := e2.symm
      have hv : Hid (tkF (psm.length : Int) m rsm rfm rem Wd = (va && vb)) := hide (by rw [tk_meet hR l3' Wd, HVA.out, HVB.out])
      have TK : Hid (∀ W, Below W5.heap.size W5 W → Calls Tryz.prog 11 #[.agg #[.int .i64 (psm.length : Int), .int .i64 m, .slice x1m rsm.length y1m, .slice x2m rfm.length y2m, .slice x3m rem.length y3m], .slice aw nw cw] W fun e w' => e = .returned (.bool (va && vb)) ∧ Below W.heap.size W w') := hide (fun W d => by
       have q := ltakes_any W (psm.length : Int) m x1m x2m x3m y1m y2m y3m rsm rfm rem aw cw Wd (hide (HXm.out.2.on d)) (hide (hU.out.on (HB.out.2.trans ((DK.out.trans (d.mono DK.out.size)).mono HB.out.2.size)))) (by omega) (by omega) (by omega) (by have := en.out; omega)
       rw [HW.out, hv.out] at q
       exact q)
      clear hv hR l1' l2' l3' e2
      cases va with
      | true =>
       rw [Bool.true_and] at TK
       have hmo : MonIL 0 [vI 0 (.int .i64 0), vI 1 (.bool false), vI 2 (.bool false), vI 3 (.agg #[.int .i64 (psm.length : Int), .int .i64 m, .slice x1m rsm.length y1m, .slice x2m rfm.length y2m, .slice x3m rem.length y3m]), vI 4 (.slice aw nw cw), vI 5 (.bool vb), vI 6 (.pointer (some ⟨w.heap.size, 0, none⟩)), vI 7 (.agg #[.int .i64 n, .int .i64 m, .slice a1 n1 c1, .slice a2 n2 c2, .slice a3 n3 c3]), vI 8 (.slice aw nw cw), vI 9 (.bool true), vI 10 (.bool true), vI 11 (.pointer (some ⟨w.heap.size, 5, none⟩)), vI 12 (.agg #[.int .i64 n', .int .i64 m', .slice b1 l1 d1, .slice b2 l2 d2, .slice b3 l3 d3]), vI 13 (.slice aw nw cw), vI 14 (.bool vb), vI 15 (.bool vb), vI 16 (.bool true), vI 17 (.bool true), vI 18 (.slice xpm psm.length ypm), vI 19 (.int .i64 (psm.length : Int)), vI 20 (.pointer (some ⟨pm, 0, none⟩)), vI 21 (.int .i64 (psm.length : Int)), vI 22 (.bool true), vI 23 (.bool true), vI 24 (.bool true)] := ⟨vI_mono _ _, vI_mono _ _, vI_mono _ _, vI_mono _ _, vI_mono _ _, vI_mono _ _, vI_mono _ _, vI_mono _ _, vI_mono _ _, vI_mono _ _, vI_mono _ _, vI_mono _ _, vI_mono _ _, vI_mono _ _, vI_mono _ _, vI_mono _ _, vI_mono _ _, vI_mono _ _, vI_mono _ _, vI_mono _ _, vI_mono _ _, vI_mono _ _, vI_mono _ _, vI_mono _ _, vI_mono _ _, trivial⟩
       refine wp_region_sl _ (by kernel_rfl) (stB_dir (by kernel_rfl)) (by kernel_rfl) (by kernel_rfl) hmo ⟨?o0, ?o1, ?o2, ?o3, ?o4, ?o5, ?o6, ?o7, ?o8, ?o9, ?o10, ?o11, ?o12, ?o13, ?o14, ?o15, ?o16, ?o17, ?o18, ?o19, ?o20, ?o21, ?o22, ?o23, ?o24, trivial⟩ ?fin
       case o0 =>
        intro At yy W hy hb d hd K hK
        obtain ⟨s22, t22⟩ := zsh (hb 22 rfl) rfl
        clear hd hy hb
        go_simp
        exact zkq hK hmo d (if_pos rfl)
       case o1 =>
        intro At yy W hy hb d hd K hK
        obtain ⟨s207, t207⟩ := zsg 0 207 .data hy hd rfl
        clear hd hy hb
        go_simp
        exact zkq hK hmo d (if_pos rfl)
       case o2 =>
        intro At yy W hy hb d hd K hK
        obtain ⟨s208, t208⟩ := zsg 1 208 .data hy hd rfl
        clear hd hy hb
        go_simp
        exact zkq hK hmo d (if_pos rfl)
       case o3 =>
        intro At yy W hy hb d hd K hK
        obtain ⟨s20, t20⟩ := zsh (hb 20 rfl) rfl
        have g209 := zgd 2 209 hy hd rfl
        clear hd hy hb
        obtain ⟨z0, z1, z2, z3, z4⟩ := zc5 (blk_on HXm.out.1 d)
        go_simp
        exact zkq hK hmo d (if_pos rfl)
       case o4 | o8 =>
        intro At yy W hy hb d hd K hK
        obtain ⟨s3, t3⟩ := zsh (hb 3 rfl) rfl
        have g209 := zgd 2 209 hy hd rfl
        clear hd hy hb
        go_simp
        exact zkq hK hmo d (if_pos rfl)
       case o5 =>
        intro At yy W hy hb d hd K hK
        obtain ⟨s210, t210⟩ := zsg 3 210 .data hy hd rfl
        obtain ⟨s211, t211⟩ := zsg 4 211 .data hy hd rfl
        have g209 := zgd 2 209 hy hd rfl
        clear hd hy hb
        go_simp
        go_wp2_with (go_at_call 11; refine (TK.out _ d).mono ?_; rintro e wa ⟨rfl, dR⟩)
        exact hK.out _ wa (stp_of hmo d dR) (if_pos rfl)
       case o6 =>
        intro At yy W hy hb d hd K hK
        obtain ⟨s1, t1⟩ := zsh (hb 1 rfl) rfl
        have g209 := zgd 2 209 hy hd rfl
        clear hd hy hb
        go_simp
        exact zkq hK hmo d (if_pos rfl)
       case o7 =>
        intro At yy W hy hb d hd K hK
        obtain ⟨s213, t213⟩ := zsg 6 213 .data hy hd rfl
        have g209 := zgd 2 209 hy hd rfl
        clear hd hy hb
        obtain ⟨y0, y1, y2, y3, y4, y5, y6, y7, y8, y9, y10, y11⟩ := zc12 (blk_on HB.out.1 (DK.out.trans (d.mono DK.out.size)))
        go_simp
        exact zkq hK hmo d (if_pos rfl)
       case o9 =>
        intro At yy W hy hb d hd K hK
        obtain ⟨s214, t214⟩ := zsg 7 214 .data hy hd rfl
        obtain ⟨s215, t215⟩ := zsg 8 215 .data hy hd rfl
        have g209 := zgd 2 209 hy hd rfl
        clear hd hy hb
        go_simp
        go_wp2_with (go_at_call 11; refine (TA.out _ d).mono ?_; rintro e wa ⟨rfl, dR⟩)
        exact hK.out _ wa (stp_of hmo d dR) (if_pos rfl)
       case o10 =>
        intro At yy W hy hb d hd K hK
        obtain ⟨s216, t216⟩ := zsg 9 216 .data hy hd rfl
        have g209 := zgd 2 209 hy hd rfl
        clear hd hy hb
        go_simp
        exact zkq hK hmo d (if_pos rfl)
       case o11 =>
        intro At yy W hy hb d hd K hK
        obtain ⟨s1, t1⟩ := zsh (hb 1 rfl) rfl
        have g217 := zgd 10 217 hy hd rfl
        clear hd hy hb
        go_simp
        exact zkq hK hmo d (if_pos rfl)
       case o12 =>
        intro At yy W hy hb d hd K hK
        obtain ⟨s218, t218⟩ := zsg 11 218 .data hy hd rfl
        have g217 := zgd 10 217 hy hd rfl
        clear hd hy hb
        obtain ⟨y0, y1, y2, y3, y4, y5, y6, y7, y8, y9, y10, y11⟩ := zc12 (blk_on HB.out.1 (DK.out.trans (d.mono DK.out.size)))
        go_simp
        exact zkq hK hmo d (if_pos rfl)
       case o13 =>
        intro At yy W hy hb d hd K hK
        obtain ⟨s3, t3⟩ := zsh (hb 3 rfl) rfl
        have g217 := zgd 10 217 hy hd rfl
        clear hd hy hb
        go_simp
        exact zkq hK hmo d (if_pos rfl)
       case o14 =>
        intro At yy W hy hb d hd K hK
        obtain ⟨s219, t219⟩ := zsg 12 219 .data hy hd rfl
        obtain ⟨s220, t220⟩ := zsg 13 220 .data hy hd rfl
        have g217 := zgd 10 217 hy hd rfl
        clear hd hy hb
        go_simp
        go_wp2_with (go_at_call 11; refine (TB.out _ d).mono ?_; rintro e wa ⟨rfl, dR⟩)
        exact hK.out _ wa (stp_of hmo d dR) (if_pos rfl)
       case o15 =>
        intro At yy W hy hb d hd K hK
        obtain ⟨s217, t217⟩ := zsg 10 217 .data hy hd rfl
        obtain ⟨s221, t221⟩ := zsg 14 221 .data hy hd rfl
        have g209 := zgd 2 209 hy hd rfl
        clear hd hy hb
        go_simp
        exact zkq hK hmo d (if_pos rfl)
       case o16 =>
        intro At yy W hy hb d hd K hK
        obtain ⟨s212, t212⟩ := zsg 5 212 .data hy hd rfl
        obtain ⟨s222, t222⟩ := zsg 15 222 .data hy hd rfl
        have g209 := zgd 2 209 hy hd rfl
        clear hd hy hb
        go_simp
        exact zkq hK hmo d (if_pos rfl)
       case o17 =>
        intro At yy W hy hb d hd K hK
        obtain ⟨s223, t223⟩ := zsg 16 223 .data hy hd rfl
        have g209 := zgd 2 209 hy hd rfl
        clear hd hy hb
        go_simp
        exact zkq hK hmo d (if_pos rfl)
       case o18 =>
        intro At yy W hy hb d hd K hK
        obtain ⟨s21, t21⟩ := zsh (hb 21 rfl) rfl
        have g224 := zgd 17 224 hy hd rfl
        clear hd hy hb
        go_simp
        exact zkq hK hmo d (if_pos rfl)
       case o19 =>
        intro At yy W hy hb d hd K hK
        obtain ⟨s225, t225⟩ := zsg 18 225 .data hy hd rfl
        have g224 := zgd 17 224 hy hd rfl
        clear hd hy hb
        go_simp
        exact zkq hK hmo d (if_pos rfl)
       case o20 =>
        intro At yy W hy hb d hd K hK
        obtain ⟨s20, t20⟩ := zsh (hb 20 rfl) rfl
        have g224 := zgd 17 224 hy hd rfl
        clear hd hy hb
        go_simp
        exact zkq hK hmo d (if_pos rfl)
       case o21 =>
        intro At yy W hy hb d hd K hK
        obtain ⟨s227, t227⟩ := zsg 20 227 .data hy hd rfl
        have g224 := zgd 17 224 hy hd rfl
        clear hd hy hb
        obtain ⟨z0, z1, z2, z3, z4⟩ := zc5 (blk_on HXm.out.1 d)
        go_simp
        exact zkq hK hmo d (if_pos rfl)
       case o22 =>
        intro At yy W hy hb d hd K hK
        obtain ⟨s226, t226⟩ := zsg 19 226 .data hy hd rfl
        obtain ⟨s228, t228⟩ := zsg 21 228 .data hy hd rfl
        have g224 := zgd 17 224 hy hd rfl
        clear hd hy hb
        go_simp
        exact zkq hK hmo d (if_pos rfl)
       case o23 =>
        intro At yy W hy hb d hd K hK
        obtain ⟨s224, t224⟩ := zsg 17 224 .data hy hd rfl
        obtain ⟨s229, t229⟩ := zsg 22 229 .data hy hd rfl
        have g209 := zgd 2 209 hy hd rfl
        clear hd hy hb
        go_simp
        exact zkq hK hmo d (if_pos rfl)
       case o24 =>
        intro At yy W hy hb d hd K hK
        obtain ⟨s209, t209⟩ := zsg 2 209 .data hy hd rfl
        obtain ⟨s230, t230⟩ := zsg 23 230 .data hy hd rfl
        clear hd hy hb
        go_simp
        exact zkq hK hmo d (if_pos rfl)
       case fin =>
        intro yy lo hi W hM
        show wpList _ _ _ [_] _ _
        have e24 := hM.v 24 (by simp) rfl rfl rfl
        have HDD : Hid (Below w.heap.size w W) := hide (HB.out.2.trans ((DK.out.trans (hM.d.mono DK.out.size)).mono HB.out.2.size))
        simp only [fills, Act.put, List.take, List.length, List.setIfInBounds_toArray, List.set_cons_zero, List.set_cons_succ, e24]
        clear hM hmo e24
        go_wp2_with fail
        go_ret
        exact ⟨rfl, HDD.out⟩
      | false =>
       rw [Bool.false_and] at TK
       have hmo : MonIL 0 [vI 0 (.int .i64 0), vI 1 (.bool false), vI 2 (.bool false), vI 3 (.agg #[.int .i64 (psm.length : Int), .int .i64 m, .slice x1m rsm.length y1m, .slice x2m rfm.length y2m, .slice x3m rem.length y3m]), vI 4 (.slice aw nw cw), vI 5 (.bool false), vI 6 (.pointer (some ⟨w.heap.size, 0, none⟩)), vI 7 (.agg #[.int .i64 n, .int .i64 m, .slice a1 n1 c1, .slice a2 n2 c2, .slice a3 n3 c3]), vI 8 (.slice aw nw cw), vI 9 (.bool false), vI 10 (.bool false), vI 11 undef, vI 12 undef, vI 13 undef, vI 14 undef, vI 15 (.bool false), vI 16 (.bool true), vI 17 (.bool true), vI 18 (.slice xpm psm.length ypm), vI 19 (.int .i64 (psm.length : Int)), vI 20 (.pointer (some ⟨pm, 0, none⟩)), vI 21 (.int .i64 (psm.length : Int)), vI 22 (.bool true), vI 23 (.bool true), vI 24 (.bool true)] := ⟨vI_mono _ _, vI_mono _ _, vI_mono _ _, vI_mono _ _, vI_mono _ _, vI_mono _ _, vI_mono _ _, vI_mono _ _, vI_mono _ _, vI_mono _ _, vI_mono _ _, vI_mono _ _, vI_mono _ _, vI_mono _ _, vI_mono _ _, vI_mono _ _, vI_mono _ _, vI_mono _ _, vI_mono _ _, vI_mono _ _, vI_mono _ _, vI_mono _ _, vI_mono _ _, vI_mono _ _, vI_mono _ _, trivial⟩
       refine wp_region_sl _ (by kernel_rfl) (stB_dir (by kernel_rfl)) (by kernel_rfl) (by kernel_rfl) hmo ⟨?o0, ?o1, ?o2, ?o3, ?o4, ?o5, ?o6, ?o7, ?o8, ?o9, ?o10, ?o11, ?o12, ?o13, ?o14, ?o15, ?o16, ?o17, ?o18, ?o19, ?o20, ?o21, ?o22, ?o23, ?o24, trivial⟩ ?fin
       case o0 =>
        intro At yy W hy hb d hd K hK
        obtain ⟨s22, t22⟩ := zsh (hb 22 rfl) rfl
        clear hd hy hb
        go_simp
        exact zkq hK hmo d (if_pos rfl)
       case o1 =>
        intro At yy W hy hb d hd K hK
        obtain ⟨s207, t207⟩ := zsg 0 207 .data hy hd rfl
        clear hd hy hb
        go_simp
        exact zkq hK hmo d (if_pos rfl)
       case o2 =>
        intro At yy W hy hb d hd K hK
        obtain ⟨s208, t208⟩ := zsg 1 208 .data hy hd rfl
        clear hd hy hb
        go_simp
        exact zkq hK hmo d (if_pos rfl)
       case o3 =>
        intro At yy W hy hb d hd K hK
        obtain ⟨s20, t20⟩ := zsh (hb 20 rfl) rfl
        have g209 := zgd 2 209 hy hd rfl
        clear hd hy hb
        obtain ⟨z0, z1, z2, z3, z4⟩ := zc5 (blk_on HXm.out.1 d)
        go_simp
        exact zkq hK hmo d (if_pos rfl)
       case o4 | o8 =>
        intro At yy W hy hb d hd K hK
        obtain ⟨s3, t3⟩ := zsh (hb 3 rfl) rfl
        have g209 := zgd 2 209 hy hd rfl
        clear hd hy hb
        go_simp
        exact zkq hK hmo d (if_pos rfl)
       case o5 =>
        intro At yy W hy hb d hd K hK
        obtain ⟨s210, t210⟩ := zsg 3 210 .data hy hd rfl
        obtain ⟨s211, t211⟩ := zsg 4 211 .data hy hd rfl
        have g209 := zgd 2 209 hy hd rfl
        clear hd hy hb
        go_simp
        go_wp2_with (go_at_call 11; refine (TK.out _ d).mono ?_; rintro e wa ⟨rfl, dR⟩)
        exact hK.out _ wa (stp_of hmo d dR) (if_pos rfl)
       case o6 =>
        intro At yy W hy hb d hd K hK
        obtain ⟨s1, t1⟩ := zsh (hb 1 rfl) rfl
        have g209 := zgd 2 209 hy hd rfl
        clear hd hy hb
        go_simp
        exact zkq hK hmo d (if_pos rfl)
       case o7 =>
        intro At yy W hy hb d hd K hK
        obtain ⟨s213, t213⟩ := zsg 6 213 .data hy hd rfl
        have g209 := zgd 2 209 hy hd rfl
        clear hd hy hb
        obtain ⟨y0, y1, y2, y3, y4, y5, y6, y7, y8, y9, y10, y11⟩ := zc12 (blk_on HB.out.1 (DK.out.trans (d.mono DK.out.size)))
        go_simp
        exact zkq hK hmo d (if_pos rfl)
       case o9 =>
        intro At yy W hy hb d hd K hK
        obtain ⟨s214, t214⟩ := zsg 7 214 .data hy hd rfl
        obtain ⟨s215, t215⟩ := zsg 8 215 .data hy hd rfl
        have g209 := zgd 2 209 hy hd rfl
        clear hd hy hb
        go_simp
        go_wp2_with (go_at_call 11; refine (TA.out _ d).mono ?_; rintro e wa ⟨rfl, dR⟩)
        exact hK.out _ wa (stp_of hmo d dR) (if_pos rfl)
       case o10 =>
        intro At yy W hy hb d hd K hK
        obtain ⟨s216, t216⟩ := zsg 9 216 .data hy hd rfl
        have g209 := zgd 2 209 hy hd rfl
        clear hd hy hb
        go_simp
        exact zkq hK hmo d (if_pos rfl)
       case o11 | o12 | o13 | o14 =>
        intro At yy W hy hb d hd K hK
        have g217 := zgd 10 217 hy hd rfl
        clear hd hy hb
        go_simp
        exact zkq hK hmo d (if_pos rfl)
       case o15 =>
        intro At yy W hy hb d hd K hK
        obtain ⟨s217, t217⟩ := zsg 10 217 .data hy hd rfl
        obtain ⟨s221, t221⟩ := zsg 14 221 .data hy hd rfl
        have g209 := zgd 2 209 hy hd rfl
        clear hd hy hb
        go_simp
        exact zkq hK hmo d (if_pos rfl)
       case o16 =>
        intro At yy W hy hb d hd K hK
        obtain ⟨s212, t212⟩ := zsg 5 212 .data hy hd rfl
        obtain ⟨s222, t222⟩ := zsg 15 222 .data hy hd rfl
        have g209 := zgd 2 209 hy hd rfl
        clear hd hy hb
        go_simp
        exact zkq hK hmo d (if_pos rfl)
       case o17 =>
        intro At yy W hy hb d hd K hK
        obtain ⟨s223, t223⟩ := zsg 16 223 .data hy hd rfl
        have g209 := zgd 2 209 hy hd rfl
        clear hd hy hb
        go_simp
        exact zkq hK hmo d (if_pos rfl)
       case o18 =>
        intro At yy W hy hb d hd K hK
        obtain ⟨s21, t21⟩ := zsh (hb 21 rfl) rfl
        have g224 := zgd 17 224 hy hd rfl
        clear hd hy hb
        go_simp
        exact zkq hK hmo d (if_pos rfl)
       case o19 =>
        intro At yy W hy hb d hd K hK
        obtain ⟨s225, t225⟩ := zsg 18 225 .data hy hd rfl
        have g224 := zgd 17 224 hy hd rfl
        clear hd hy hb
        go_simp
        exact zkq hK hmo d (if_pos rfl)
       case o20 =>
        intro At yy W hy hb d hd K hK
        obtain ⟨s20, t20⟩ := zsh (hb 20 rfl) rfl
        have g224 := zgd 17 224 hy hd rfl
        clear hd hy hb
        go_simp
        exact zkq hK hmo d (if_pos rfl)
       case o21 =>
        intro At yy W hy hb d hd K hK
        obtain ⟨s227, t227⟩ := zsg 20 227 .data hy hd rfl
        have g224 := zgd 17 224 hy hd rfl
        clear hd hy hb
        obtain ⟨z0, z1, z2, z3, z4⟩ := zc5 (blk_on HXm.out.1 d)
        go_simp
        exact zkq hK hmo d (if_pos rfl)
       case o22 =>
        intro At yy W hy hb d hd K hK
        obtain ⟨s226, t226⟩ := zsg 19 226 .data hy hd rfl
        obtain ⟨s228, t228⟩ := zsg 21 228 .data hy hd rfl
        have g224 := zgd 17 224 hy hd rfl
        clear hd hy hb
        go_simp
        exact zkq hK hmo d (if_pos rfl)
       case o23 =>
        intro At yy W hy hb d hd K hK
        obtain ⟨s224, t224⟩ := zsg 17 224 .data hy hd rfl
        obtain ⟨s229, t229⟩ := zsg 22 229 .data hy hd rfl
        have g209 := zgd 2 209 hy hd rfl
        clear hd hy hb
        go_simp
        exact zkq hK hmo d (if_pos rfl)
       case o24 =>
        intro At yy W hy hb d hd K hK
        obtain ⟨s209, t209⟩ := zsg 2 209 .data hy hd rfl
        obtain ⟨s230, t230⟩ := zsg 23 230 .data hy hd rfl
        clear hd hy hb
        go_simp
        exact zkq hK hmo d (if_pos rfl)
       case fin =>
        intro yy lo hi W hM
        show wpList _ _ _ [_] _ _
        have e24 := hM.v 24 (by simp) rfl rfl rfl
        have HDD : Hid (Below w.heap.size w W) := hide (HB.out.2.trans ((DK.out.trans (hM.d.mono DK.out.size)).mono HB.out.2.size))
        simp only [fills, Act.put, List.take, List.length, List.setIfInBounds_toArray, List.set_cons_zero, List.set_cons_succ, e24]
        clear hM hmo e24
        go_wp2_with fail
        go_ret
        exact ⟨rfl, HDD.out⟩
    · have heb : (rrm == 0) = false := by simp [he]
      have hen : (rrm != 0) = true := by simp [he]
      have hmo : MonIL 0 [vI 0 (.int .i64 rrm), vI 1 (.bool true), vI 2 (.bool true), vI 3 undef, vI 4 undef, vI 5 undef, vI 6 undef, vI 7 undef, vI 8 undef, vI 9 undef, vI 10 undef, vI 11 undef, vI 12 undef, vI 13 undef, vI 14 undef, vI 15 undef, vI 16 undef, vI 17 undef, vI 18 undef, vI 19 undef, vI 20 undef, vI 21 undef, vI 22 undef, vI 23 undef, vI 24 (.bool true)] := ⟨vI_mono _ _, vI_mono _ _, vI_mono _ _, vI_mono _ _, vI_mono _ _, vI_mono _ _, vI_mono _ _, vI_mono _ _, vI_mono _ _, vI_mono _ _, vI_mono _ _, vI_mono _ _, vI_mono _ _, vI_mono _ _, vI_mono _ _, vI_mono _ _, vI_mono _ _, vI_mono _ _, vI_mono _ _, vI_mono _ _, vI_mono _ _, vI_mono _ _, vI_mono _ _, vI_mono _ _, vI_mono _ _, trivial⟩
      refine wp_region_sl _ (by kernel_rfl) (stB_dir (by kernel_rfl)) (by kernel_rfl) (by kernel_rfl) hmo ⟨?o0, ?o1, ?o2, ?o3, ?o4, ?o5, ?o6, ?o7, ?o8, ?o9, ?o10, ?o11, ?o12, ?o13, ?o14, ?o15, ?o16, ?o17, ?o18, ?o19, ?o20, ?o21, ?o22, ?o23, ?o24, trivial⟩ ?fin
      case o0 =>
       intro At yy W hy hb d hd K hK
       obtain ⟨s22, t22⟩ := zsh (hb 22 rfl) rfl
       clear hd hy hb
       go_simp
       exact zkq hK hmo d (if_pos rfl)
      case o1 =>
       intro At yy W hy hb d hd K hK
       obtain ⟨s207, t207⟩ := zsg 0 207 .data hy hd rfl
       clear hd hy hb
       go_simp
       exact zkq hK hmo d (if_pos rfl)
      case o2 =>
       intro At yy W hy hb d hd K hK
       obtain ⟨s208, t208⟩ := zsg 1 208 .data hy hd rfl
       clear hd hy hb
       go_simp
       exact zkq hK hmo d (if_pos rfl)
      case o3 | o4 | o5 | o6 | o7 | o8 | o9 | o10 | o15 | o16 | o17 | o23 =>
       intro At yy W hy hb d hd K hK
       have g209 := zgd 2 209 hy hd rfl
       clear hd hy hb
       go_simp
       exact zkq hK hmo d (if_pos rfl)
      case o11 | o12 | o13 | o14 =>
       intro At yy W hy hb d hd K hK
       have g217 := zgu 10 217 hy hd rfl
       clear hd hy hb
       rcases g217 with g217 | g217
       all_goals
        go_simp
        exact zkq hK hmo d (if_pos rfl)
      case o18 | o19 | o20 | o21 | o22 =>
       intro At yy W hy hb d hd K hK
       have g224 := zgu 17 224 hy hd rfl
       clear hd hy hb
       rcases g224 with g224 | g224
       all_goals
        go_simp
        exact zkq hK hmo d (if_pos rfl)
      case o24 =>
       intro At yy W hy hb d hd K hK
       obtain ⟨s209, t209⟩ := zsg 2 209 .data hy hd rfl
       obtain ⟨s230, t230⟩ := zsg 23 230 .data hy hd rfl
       clear hd hy hb
       go_simp
       exact zkq hK hmo d (if_pos rfl)
      case fin =>
       intro yy lo hi W hM
       show wpList _ _ _ [_] _ _
       have e24 := hM.v 24 (by simp) rfl rfl rfl
       have HDD : Hid (Below w.heap.size w W) := hide (HB.out.2.trans ((DK.out.trans (hM.d.mono DK.out.size)).mono HB.out.2.size))
       simp only [fills, Act.put, List.take, List.length, List.setIfInBounds_toArray, List.set_cons_zero, List.set_cons_succ, e24]
       clear hM hmo e24
       go_wp2_with fail
       go_ret
       exact ⟨rfl, HDD.out⟩
end Go.Proofs.YtchoopnjckcohaaGreatDoor
namespace Go.Proofs.YtchoopnjckcohaaGreatDoor.frame
open Go.ChangeShapes Go.WideShapes Go.ChangeAt Go.RowKit Go.Joins Go.Deep
theorem own : ownKnob Tryz.prog.godebug = none := by kernel_rfl
theorem laidOut : laidOutB Tryz.prog = true := by kernel_rfl
theorem gTab : Tryz.prog.globalNamed "math/bits.deBruijn64tab" = some 0 := by kernel_rfl
theorem gTabType : (Tryz.prog.globals[0]?).map (·.type) = some 161 := by kernel_rfl
theorem cells161 : Tryz.prog.cellsOf 161 = 64 := by kernel_rfl
theorem cells5 : Tryz.prog.cellsOf 5 = 1 := by kernel_rfl
theorem cells3 : Tryz.prog.cellsOf 3 = 1 := by kernel_rfl
theorem cells25 : Tryz.prog.cellsOf 25 = 5 := by kernel_rfl
theorem cells59 : Tryz.prog.cellsOf 61 = 3 := by kernel_rfl
theorem cellsI : Tryz.prog.cellsOf 22 = 1 := by kernel_rfl
theorem cellsEs : Tryz.prog.cellsOf 23 = 1 := by kernel_rfl
theorem table {W : World} (h : laidMetH Tryz.prog [("math/bits.deBruijn64tab", Rows.laid_math_bits_deBruijn64tab)] W) : Lib.TabIs Tryz.prog W "math/bits.deBruijn64tab" .u8 (Lib.deBruijn64tab.map fun (n : Nat) => (n : Int)) :=
 Lib.tabIs_of_head (rest := []) gTab gTabType Tryz.underlying161 Tryz.underlying5 cells5 cells161 h
theorem tabAt {W : World} (h : laidMetH Tryz.prog [("math/bits.deBruijn64tab", Rows.laid_math_bits_deBruijn64tab)] W) : TabAt W := by
 intro j hj
 have h1 : j < (Lib.deBruijn64tab.map fun (n : Nat) => (n : Int)).length := by simpa [Lib.deBruijn64tab] using hj
 have := (table h).cell gTab j h1
 rw [this]
 congr 2
 simp only [List.getD_eq_getElem?_getD, List.getElem?_map]
 cases Lib.deBruijn64tab[j]? <;> rfl
theorem heap_pos {W : World} (h : TabAt W) : 0 < W.heap.size := World.block_lt_of_cell? W ⟨0, 0, none⟩ (h 0 (by decide))
theorem bulk_pos {H : Type} (d : DataW H) : 0 < Rows.uptoBulk d := by
 cases d
 case lit l => cases l <;> simp [Rows.uptoBulk]
 all_goals simp [Rows.uptoBulk]
theorem bulk_list {H : Type} (l : List (DataW H)) : l.length ≤ Rows.uptoBulkAll l ∧ ∀ d ∈ l, Rows.uptoBulk d ≤ Rows.uptoBulkAll l := by
 induction l with
 | nil => exact ⟨Nat.zero_le _, fun s hs => by cases hs⟩
 | cons x r ih =>
  have e : Rows.uptoBulkAll (x :: r) = Rows.uptoBulk x + Rows.uptoBulkAll r := by simp [Rows.uptoBulkAll]
  have := bulk_pos x
  rw [e]
  refine ⟨by simp; omega, fun s hs => ?_⟩
  rcases List.mem_cons.1 hs with rfl | h
  · omega
  · have := ih.2 s h; omega
theorem list1 {α : Type} {l : List α} (h : l.length = 1) : ∃ c0, l = [c0] := by
 match l, h with
 | [c0], _ => exact ⟨c0, rfl⟩
theorem list3 {α : Type} {l : List α} (h : l.length = 3) : ∃ c0 c1 c2, l = [c0, c1, c2] := by
 match l, h with
 | [c0, c1, c2], _ => exact ⟨c0, c1, c2, rfl⟩
theorem list_open {H : Type} {enc : TypeId × Value → H} {W : World} {n : Nat} {v : Value} {y : DataW H × List MemPlace} {T e sz : Nat} {α : Type} [Inhabited α] (At : Nat → Nat → α → Prop) (Z : α → Nat → Prop) (hZ : ∀ x a b, a ≤ b → Z x a → Z x b)
 (hT : Tryz.prog.underlying T = some (.slice e)) (hc : Tryz.prog.cellsOf e = sz)
 (item : ∀ {n' : Nat} {a : Addr} {cs : List Value} {z : DataW H × List MemPlace}, W.cells? 0 a sz = some cs → DataW.trod enc Tryz.prog W 0 (fun _ => true) true n' e cs = some z → ∃ x : α, At a.block a.off x ∧ a.spot = none ∧ Z x (Rows.uptoBulk z.1))
 (h : DataW.trod enc Tryz.prog W 0 (fun _ => true) true n T [v] = some y) :
 ∃ aL cL, ∃ L : List α, v = .slice aL L.length cL ∧ (∀ (k : Nat) (hk : k < L.length), ∃ g o, aL = some ⟨g, o, none⟩ ∧ At g (o + k * sz) L[k]) ∧ L.length ≤ Rows.uptoBulk y.1 ∧ ∀ x ∈ L, Z x (Rows.uptoBulk y.1) := by
 rcases open_slice hT h with ⟨hcs, _⟩ | ⟨a, len, cap, m, n', D, Pl, hcs, _, hl, _, hmm, hy, hx⟩
 · simp only [List.cons.injEq, and_true] at hcs
   exact ⟨none, 0, [], hcs, fun k hk => by simp at hk, by simp, fun s hs => by cases hs⟩
 · simp only [List.cons.injEq, and_true] at hcs
   simp only [if_true] at hmm
   have hsp : 0 < len → a.spot = none := by
    intro h0
    obtain ⟨cs', h1, h2⟩ := hx 0 (by omega)
    rw [hc] at h1
    obtain ⟨x, _, sp, _⟩ := item h1 h2
    simpa [Addr.add] using sp
   have each : ∀ i, i < len → ∃ x : α, At a.block (a.off + i * sz) x ∧ a.spot = none ∧ Z x (Rows.uptoBulk (D i)) := by
    intro i hi
    obtain ⟨cs', h1, h2⟩ := hx i (by omega)
    rw [hc] at h1
    obtain ⟨x, o, _, z⟩ := item h1 h2
    obtain ⟨ab, ao, spot⟩ := a
    have hs : spot = none := hsp (by omega)
    subst hs
    rw [Addr.add_lit] at o
    exact ⟨x, o, rfl, z⟩
   have hb := bulk_list (H := H) ((List.range len).map D)
   have hyb : Rows.uptoBulkAll ((List.range len).map D) ≤ Rows.uptoBulk y.1 := by rw [hy]; simp only [Rows.uptoBulk]; omega
   obtain ⟨q, hq⟩ := choose_lt each
   refine ⟨some a, cap, (List.range len).map q, by simpa using hcs, fun k hk => ?_, ?_, fun x hx2 => ?_⟩
   · have hk' : k < len := by simpa using hk
     obtain ⟨ab, ao, spot⟩ := a
     have hsp : spot = none := (hq k hk').2.1
     subst hsp
     refine ⟨ab, ao, rfl, ?_⟩
     have := (hq k hk').1
     simpa using this
   · have := hb.1
     simp at this
     simp
     omega
   · obtain ⟨i, hi, rfl⟩ := List.mem_map.1 hx2
     have hi' := List.mem_range.1 hi
     have h1 := (hq i hi').2.2
     have h2 := hb.2 (D i) (List.mem_map_of_mem hi)
     exact hZ _ _ _ (by omega) h1
theorem list5 {α : Type} {l : List α} (h : l.length = 5) : ∃ c0 c1 c2 c3 c4, l = [c0, c1, c2, c3, c4] := by
 match l, h with
 | [c0, c1, c2, c3, c4], _ => exact ⟨c0, c1, c2, c3, c4, rfl⟩
theorem num_item {H : Type} {enc : TypeId × Value → H} {W : World} {n : Nat} {a : Addr} {cs : List Value} {y : DataW H × List MemPlace} (h1 : W.cells? 0 a 1 = some cs) (h : DataW.trod enc Tryz.prog W 0 (fun _ => true) true n 3 cs = some y) :
 ∃ x : Int, W.cell? ⟨a.block, a.off, none⟩ = some (.int .i64 x) ∧ a.spot = none := by
 obtain ⟨_, hlen, hcell⟩ := World.cells?_some h1
 obtain ⟨v0, rfl⟩ := list1 hlen
 obtain ⟨k, e1, _, _⟩ := DataW.trod_int Tryz.underlying3 h
 simp only [List.cons.injEq, and_true] at e1
 subst e1
 have c0 := hcell 0 (by omega)
 obtain ⟨ab, ao, spot⟩ := a
 have hspot : spot = none := by simpa [Addr.add] using World.cell?_spot c0
 subst hspot
 rw [Addr.add_lit] at c0
 exact ⟨k, c0, rfl⟩
theorem ed_item {H : Type} {enc : TypeId × Value → H} {W : World} {n : Nat} {a : Addr} {cs : List Value} {y : DataW H × List MemPlace} (h1 : W.cells? 0 a 3 = some cs) (h : DataW.trod enc Tryz.prog W 0 (fun _ => true) true n 61 cs = some y) :
 ∃ x : EdT, (W.cell? ⟨a.block, a.off, none⟩ = some (.int .i64 x.1) ∧ W.cell? ⟨a.block, a.off + 1, none⟩ = some (.int .i64 x.2.1) ∧ W.cell? ⟨a.block, a.off + 2, none⟩ = some (.int .i64 x.2.2)) ∧ a.spot = none := by
 obtain ⟨_, hlen, hcell⟩ := World.cells?_some h1
 obtain ⟨v0, v1, v2, rfl⟩ := list3 hlen
 obtain ⟨xs, n', _, hx, hl, hlen2, hfl⟩ := DataW.trod_struct Tryz.underlying61 h
 obtain ⟨y0, y1, y2, rfl⟩ := list3 hlen2
 have g0 := hfl 0 _ rfl
 have g1 := hfl 1 _ rfl
 have g2 := hfl 2 _ rfl
 simp [cells3] at g0 g1 g2
 obtain ⟨s, e0, _, _⟩ := DataW.trod_int Tryz.underlying3 g0
 obtain ⟨t, e1, _, _⟩ := DataW.trod_int Tryz.underlying3 g1
 obtain ⟨u, e2, _, _⟩ := DataW.trod_int Tryz.underlying3 g2
 simp only [List.cons.injEq, and_true] at e0 e1 e2
 subst e0 e1 e2
 have c0 := hcell 0 (by omega)
 have c1 := hcell 1 (by omega)
 have c2 := hcell 2 (by omega)
 obtain ⟨ab, ao, spot⟩ := a
 have hspot : spot = none := by simpa [Addr.add] using World.cell?_spot c0
 subst hspot
 rw [Addr.add_lit] at c0 c1 c2
 exact ⟨(s, t, u), ⟨c0, c1, c2⟩, rfl⟩
theorem nums_open {H : Type} {enc : TypeId × Value → H} {W : World} {n : Nat} {v : Value} {y : DataW H × List MemPlace} (h : DataW.trod enc Tryz.prog W 0 (fun _ => true) true n 22 [v] = some y) :
 ∃ (a : Option Addr) (c : Nat) (L : List Int), v = .slice a L.length c ∧ RdN W a L ∧ L.length ≤ Rows.uptoBulk y.1 := by
 obtain ⟨a, k, L, rfl, hL, l1, _⟩ := list_open (α := Int) (fun g o x => W.cell? ⟨g, o, none⟩ = some (.int .i64 x)) (fun _ _ => True) (fun _ _ _ _ q => q) Tryz.underlying22 cells3 (fun h1 h2 => by obtain ⟨x, q, s⟩ := num_item h1 h2; exact ⟨x, q, s, trivial⟩) h
 refine ⟨a, k, L, rfl, fun k hk => ?_, l1⟩
 obtain ⟨g, o, e, q⟩ := hL k hk
 exact ⟨g, o, e, by rw [Nat.mul_one] at q; exact q⟩
theorem auto_open {H : Type} {enc : TypeId × Value → H} {W : World} {n : Nat} {v0 v1 v2 v3 v4 : Value} {y : DataW H × List MemPlace} (h : DataW.trod enc Tryz.prog W 0 (fun _ => true) true n 25 [v0, v1, v2, v3, v4] = some y) :
 ∃ (nn mm : Int) (a1 a2 a3 : Option Addr) (c1 c2 c3 : Nat) (St Fi : List Int) (Ed : List EdT), v0 = .int .i64 nn ∧ v1 = .int .i64 mm ∧ v2 = .slice a1 St.length c1 ∧ v3 = .slice a2 Fi.length c2 ∧ v4 = .slice a3 Ed.length c3 ∧ RdA W a1 a2 a3 St Fi Ed ∧
  St.length ≤ Rows.uptoBulk y.1 ∧ Fi.length ≤ Rows.uptoBulk y.1 ∧ Ed.length ≤ Rows.uptoBulk y.1 := by
 obtain ⟨ys, n2, _, hx2, hl2, hlen2, hfl2⟩ := DataW.trod_struct Tryz.underlying25 h
 obtain ⟨z0, z1, z2, z3, z4, rfl⟩ := list5 hlen2
 have g0 := hfl2 0 _ rfl
 have g1 := hfl2 1 _ rfl
 have g2 := hfl2 2 _ rfl
 have g3 := hfl2 3 _ rfl
 have g4 := hfl2 4 _ rfl
 simp [cells3, cellsI, cellsEs] at g0 g1 g2 g3 g4
 obtain ⟨nn, e0, _, _⟩ := DataW.trod_int Tryz.underlying3 g0
 obtain ⟨mm, e1, _, _⟩ := DataW.trod_int Tryz.underlying3 g1
 simp only [List.cons.injEq, and_true] at e0 e1
 have hb0 : Rows.uptoBulk z2.1 ≤ Rows.uptoBulk y.1 ∧ Rows.uptoBulk z3.1 ≤ Rows.uptoBulk y.1 ∧ Rows.uptoBulk z4.1 ≤ Rows.uptoBulk y.1 := by
  rw [hx2]
  simp only [List.map_cons, List.map_nil, Rows.uptoBulk, Rows.uptoBulkAll]
  exact ⟨by omega, by omega, by omega⟩
 obtain ⟨a1, k1, St, e2, hSt, l1⟩ := nums_open g2
 obtain ⟨a2, k2, Fi, e3, hFi, l2⟩ := nums_open g3
 obtain ⟨a3, k3, Ed, e4, hEd, l3, _⟩ := list_open (α := EdT) (fun g o x => W.cell? ⟨g, o, none⟩ = some (.int .i64 x.1) ∧ W.cell? ⟨g, o + 1, none⟩ = some (.int .i64 x.2.1) ∧ W.cell? ⟨g, o + 2, none⟩ = some (.int .i64 x.2.2)) (fun _ _ => True) (fun _ _ _ _ q => q) Tryz.underlying23 cells59 (fun h1 h2 => by obtain ⟨x, q, s⟩ := ed_item h1 h2; exact ⟨x, q, s, trivial⟩) g4
 exact ⟨nn, mm, a1, a2, a3, k1, k2, k3, St, Fi, Ed, e0, e1, e2, e3, e4, ⟨hSt, hFi, hEd⟩, by omega, by omega, by omega⟩
theorem cellsM : Tryz.prog.cellsOf 27 = 12 := by kernel_rfl
theorem list12 {α : Type} {l : List α} (h : l.length = 12) : ∃ a b c d e f g h i j k o, l = [a, b, c, d, e, f, g, h, i, j, k, o] := by
 match l, h with
 | [a, b, c, d, e, f, g, h, i, j, k, o], _ => exact ⟨a, b, c, d, e, f, g, h, i, j, k, o, rfl⟩
theorem list4 {α : Type} {l : List α} (h : l.length = 4) : ∃ a b c d, l = [a, b, c, d] := by
 match l, h with
 | [a, b, c, d], _ => exact ⟨a, b, c, d, rfl⟩
theorem slice_room {H : Type} {enc : TypeId × Value → H} {W : World} {n : Nat} {a : Option Addr} {l c T e : Nat} {y : DataW H × List MemPlace} (hT : Tryz.prog.underlying T = some (.slice e)) (h : DataW.trod enc Tryz.prog W 0 (fun _ => true) true n T [.slice a l c] = some y) : l ≤ c ∧ (a = none → c = 0) := by
 rcases open_slice hT h with ⟨hcs, _⟩ | ⟨_, len, cap, _, _, _, _, hcs, _, hlc, _⟩
 · simp only [List.cons.injEq, and_true] at hcs
   injection hcs with e1 e2 e3
   exact ⟨by omega, fun _ => e3⟩
 · simp only [List.cons.injEq, and_true] at hcs
   injection hcs with e1 e2 e3
   exact ⟨by omega, fun h => by rw [e1] at h; cases h⟩
theorem auto_full {H : Type} {enc : TypeId × Value → H} {W : World} {n : Nat} {v0 v1 v2 v3 v4 : Value} {y : DataW H × List MemPlace} (h : DataW.trod enc Tryz.prog W 0 (fun _ => true) true n 25 [v0, v1, v2, v3, v4] = some y) :
 ∃ (nn mm : Int) (a1 a2 a3 : Option Addr) (c1 c2 c3 : Nat) (St Fi : List Int) (Ed : List EdT), v0 = .int .i64 nn ∧ v1 = .int .i64 mm ∧ v2 = .slice a1 St.length c1 ∧ v3 = .slice a2 Fi.length c2 ∧ v4 = .slice a3 Ed.length c3 ∧ RdA W a1 a2 a3 St Fi Ed ∧
  (St.length ≤ Rows.uptoBulk y.1 ∧ Fi.length ≤ Rows.uptoBulk y.1 ∧ Ed.length ≤ Rows.uptoBulk y.1) ∧ (a1 = none → c1 = 0) ∧ (a2 = none → c2 = 0) ∧ (a3 = none → c3 = 0) ∧ Ed.length ≤ c3 := by
 obtain ⟨nn, mm, a1, a2, a3, c1, c2, c3, St, Fi, Ed, e0, e1, e2, e3, e4, hr, l1, l2, l3⟩ := auto_open h
 subst e2 e3 e4
 obtain ⟨ys, n2, _, hx2, hl2, hlen2, hfl2⟩ := DataW.trod_struct Tryz.underlying25 h
 obtain ⟨z0, z1, z2, z3, z4, rfl⟩ := list5 hlen2
 have g2 := hfl2 2 _ rfl
 have g3 := hfl2 3 _ rfl
 have g4 := hfl2 4 _ rfl
 simp [cellsI, cellsEs] at g2 g3 g4
 have r2 := slice_room Tryz.underlying22 g2
 have r3 := slice_room Tryz.underlying22 g3
 have r4 := slice_room Tryz.underlying23 g4
 exact ⟨nn, mm, a1, a2, a3, c1, c2, c3, St, Fi, Ed, e0, e1, rfl, rfl, rfl, hr, ⟨l1, l2, l3⟩, r2.2, r3.2, r4.2, r4.1⟩
theorem means_full {H : Type} {enc : TypeId × Value → H} {W : World} {base : Nat} {v : Value} {d : DataW H} {p : List MemPlace} (hv : Value.okWide Tryz.prog W .any base 27 v) (h : DataW.Trod enc Tryz.prog W 0 (fun _ => true) true 27 v d p) (hk : Rows.uptoBulk d ≤ 1048576) :
 ∃ (n m n' m' : Int) (a1 a2 a3 b1 b2 b3 aw av : Option Addr) (c1 c2 c3 d1 d2 d3 cw cv : Nat) (St Fi Sb Fb Wd Vd : List Int) (Ed Eb : List EdT), v = .agg #[.int .i64 n, .int .i64 m, .slice a1 St.length c1, .slice a2 Fi.length c2, .slice a3 Ed.length c3, .int .i64 n', .int .i64 m', .slice b1 Sb.length d1, .slice b2 Fb.length d2, .slice b3 Eb.length d3, .slice aw Wd.length cw, .slice av Vd.length cv] ∧ RdA W a1 a2 a3 St Fi Ed ∧ RdA W b1 b2 b3 Sb Fb Eb ∧ RdN W aw Wd ∧ RdN W av Vd ∧ (St.length ≤ 1048576 ∧ Fi.length ≤ 1048576 ∧ Ed.length ≤ 1048576) ∧ (Sb.length ≤ 1048576 ∧ Fb.length ≤ 1048576 ∧ Eb.length ≤ 1048576) ∧ (Wd.length ≤ 1048576 ∧ Wd.length ≤ cw ∧ (aw = none → cw = 0)) ∧ (Vd.length ≤ 1048576 ∧ (av = none → cv = 0)) ∧ Ed.length ≤ c3 := by
 obtain ⟨cs, rfl, hsz⟩ := okWide_struct Tryz.underlying27 hv
 obtain ⟨l⟩ := cs
 have hl12 : l.length = 12 := hsz.trans cellsM
 obtain ⟨x0, x1, x2, x3, x4, x5, x6, x7, x8, x9, x10, x11, rfl⟩ := list12 hl12
 obtain ⟨fuel, hf⟩ := h
 obtain ⟨xs, n, _, hx, hl, hlen, hfl⟩ := DataW.trod_struct Tryz.underlying27 hf
 obtain ⟨y0, y1, y2, y3, rfl⟩ := list4 hlen
 have h0 := hfl 0 _ rfl
 have h1 := hfl 1 _ rfl
 have h2 := hfl 2 _ rfl
 have h3 := hfl 3 _ rfl
 simp [Value.cells, cellsI, cells25] at h0 h1 h2 h3
 simp only [Prod.mk.injEq] at hx
 rw [hx.1] at hk
 simp only [List.map_cons, List.map_nil, Rows.uptoBulk, Rows.uptoBulkAll] at hk
 obtain ⟨n, m, a1, a2, a3, k1, k2, k3, St, Fi, Ed, rfl, rfl, rfl, rfl, rfl, rA, ⟨e1, e2, e3⟩, zA⟩ := auto_full h0
 obtain ⟨n', m', b1, b2, b3, j1, j2, j3, Sb, Fb, Eb, rfl, rfl, rfl, rfl, rfl, rB, f1, f2, f3⟩ := auto_open h1
 obtain ⟨aw, cw, Wd, rfl, rW, l4⟩ := nums_open h2
 obtain ⟨av, cv, Vd, rfl, rV, l6⟩ := nums_open h3
 have zW := slice_room Tryz.underlying22 h2
 have zV := slice_room Tryz.underlying22 h3
 exact ⟨n, m, n', m', a1, a2, a3, b1, b2, b3, aw, av, k1, k2, k3, j1, j2, j3, cw, cv, St, Fi, Sb, Fb, Wd, Vd, Ed, Eb, rfl, rA, rB, rW, rV, ⟨by omega, by omega, by omega⟩, ⟨by omega, by omega, by omega⟩, ⟨by omega, zW.1, zW.2⟩, ⟨by omega, zV.2⟩, zA.2.2.2⟩
end Go.Proofs.YtchoopnjckcohaaGreatDoor.frame
