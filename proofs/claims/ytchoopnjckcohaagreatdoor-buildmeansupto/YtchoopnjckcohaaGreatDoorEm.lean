import Derived.Test.YtchoopnjckcohaaGreatDoorQbc
set_option maxRecDepth 100000
set_option maxHeartbeats 40000000
namespace Go.Proofs.YtchoopnjckcohaaGreatDoor
open Go.RowKit Go.Maps Go.Shelf
attribute [local go_sem] Oper.semAt_some
theorem rwA_low {B C : Nat} {W : World} {m R : Nat} {E : List EdT} {a : Option Addr} {n c g : Nat} (h : RwA B W m R E a n c g) (hC : C ≤ B) : RwA C W m R E a n c g := ⟨owns_down h.ow hC, h.fi, Nat.le_trans hC h.ge⟩
def dFi (f : Nat → Bool) (n : Nat) : MkP := fun x _ _ W => ∃ g, x = .slice (some ⟨g, 0, none⟩) n n ∧ Mrw W g 4 n (fun c => .bool (f c)) n
theorem dFi_mono {f : Nat → Bool} {n : Nat} : MonoP (dFi f n) := fun _ _ _ _ _ _ d ⟨g, e, h⟩ => ⟨g, e, h.below d h.lt⟩
def dEn (B : Nat) (Fn : List Int) : MkP := fun x _ _ W => ∃ aF cF, x = .slice aF Fn.length cF ∧ W.ownsRow B 3 1 (.slice aF Fn.length cF) Fn.length (Fn.map (Value.int .i64))
theorem dEn_mono {B : Nat} {Fn : List Int} : MonoP (dEn B Fn) := fun _ _ _ _ _ _ d ⟨a, c, e, h⟩ => ⟨a, c, e, own_below h d⟩
theorem nd_of {L : List Int} (h : L.Pairwise (· < ·)) : L.Nodup := h.imp fun h e => by omega
theorem prsL_nd {X Y : List Int} (d1 : X.Nodup) (d2 : Y.Nodup) : (prsL X Y).Nodup := by
 unfold prsL List.Nodup
 rw [List.pairwise_flatMap]
 refine ⟨fun a _ => List.pairwise_map.2 (d2.imp fun hne e => hne (Prod.mk.inj e).2), d1.imp fun hne x hx y hy e => ?_⟩
 obtain ⟨u, _, rfl⟩ := List.mem_map.1 hx
 obtain ⟨v, _, rfl⟩ := List.mem_map.1 hy
 exact hne (Prod.mk.inj e).1
theorem prsL_ok {X Y : List Int} {N M : Nat} (h1 : ∀ x ∈ X, ∃ q : Nat, q < N ∧ x = (q : Int)) (h2 : ∀ x ∈ Y, ∃ q : Nat, q < M ∧ x = (q : Int)) : ∀ t ∈ prsL X Y, ∃ p q : Nat, t = ((p : Int), (q : Int)) ∧ p < N ∧ q < M := by
 intro t ht
 unfold prsL at ht
 obtain ⟨a, ha, h⟩ := List.mem_flatMap.1 ht
 obtain ⟨b, hb, rfl⟩ := List.mem_map.1 h
 obtain ⟨p, hp, rfl⟩ := h1 a ha
 obtain ⟨q, hq, rfl⟩ := h2 b hb
 exact ⟨p, q, rfl, hp, hq⟩
theorem rnI_start {E1 E2 : List EdT} {m N M : Nat} {S1 S2 : List Int} {bud : Int} {ps : List PrT} {ns : List Int} (he : metF bud false [] (prsL S1 S2) [] = (0, ps, ns)) (ho : ∀ t ∈ prsL S1 S2, ∃ p q : Nat, t = ((p : Int), (q : Int)) ∧ p < N ∧ q < M) : RnI E1 E2 m N M ps ps [] 0 0 := by
 obtain ⟨_, k2, k3, _, _⟩ := metF_inv _ _ _ _ _ _ _ _ he List.nodup_nil
 have hh : ∀ a c, ¬ hnd m 0 0 a c := fun a c => by unfold hnd; omega
 refine ⟨⟨[], by simp⟩, k2, fun x hx => ?_, by simp, fun a c x y _ h => absurd h (hh a c), fun _ e => ?_⟩
 · rcases k3 x hx with e | e
   · simp at e
   · exact ho x e
 · constructor
   · intro e; simp at e
   · rintro ⟨a, c, x, y, _, h, _⟩
     exact absurd h (hh a c)
theorem nil_own {kv : Nat} : ∀ k, (Value.slice none 0 0).ownBlock = some k → k ≠ kv := fun k hk => by cases hk
theorem start_blk {w8 : World} {B D b n : Nat} {av : Option Addr} {S0 : List Int} {cv : Nat} {vp : Value} {xs : List Value} (o : w8.ownsRow B 3 1 (.slice av S0.length cv) S0.length (S0.map (Value.int .i64))) (po : w8.ownsRow D 79 2 vp n xs) (hb : b < w8.heap.size) (hbD : b < D) : ∃ kv, kv < w8.heap.size ∧ (∀ k, (.slice av S0.length cv : Value).ownBlock = some k → k = kv) ∧ ∀ k, vp.ownBlock = some k → k ≠ kv := by
 rcases h : (.slice av S0.length cv : Value).ownBlock with _ | kv
 · refine ⟨b, hb, fun k e => ?_, fun k hk e => ?_⟩
   · cases e
   · have := (po.lt k hk).1; omega
 · refine ⟨kv, (o.lt kv h).2, fun k e => ?_, fun k hk e => ?_⟩
   · cases e; rfl
   · subst e; exact rows_differ po o (by decide) hk h
theorem p14_of {w9 : World} {g : Nat} {x0 x1 x2 x3 x4 u0 u4 : Value} (z : w9.heap[g]? = some (.cells #[x0, x1, x2, x3, x4] 25 (0, 0))) : Only w9 ((w9.setCell ⟨g, 0, none⟩ u0).setCell ⟨g, 4, none⟩ u4).drew (fun k => k = g) ∧ ((w9.setCell ⟨g, 0, none⟩ u0).setCell ⟨g, 4, none⟩ u4).drew.heap[g]? = some (.cells #[u0, x1, x2, x3, u4] 25 (0, 0)) := by
 have o := (only_set w9 g 0 u0).trans (only_set _ g 4 u4)
 refine ⟨⟨o.os, o.tape, o.output, o.size, o.block⟩, ?_⟩
 show ((w9.setCell ⟨g, 0, none⟩ u0).setCell ⟨g, 4, none⟩ u4).heap[g]? = _
 have := heap_setCell_same _ g 4 _ 25 u4 (heap_setCell_same w9 g 0 _ 25 u0 z)
 simpa using this
theorem p15_of {w9 W14 W : World} {g : Nat} {x0 x1 x2 x4 : Value} {aF : Option Addr} {cF : Nat} {Fn : List Int} (d : Below W14.heap.size W14 W) (z : W.heap[g]? = some (.cells #[x0, x1, x2, .slice none 0 0, x4] 25 (0, 0))) (y : W.ownsRow W14.heap.size 3 1 (.slice aF Fn.length cF) Fn.length (Fn.map (Value.int .i64))) (o : Only w9 W14 (fun k => k = g)) :
 Only w9 (W.setCell ⟨g, 3, none⟩ (.slice aF Fn.length cF)) (fun k => k = g) ∧ (W.setCell ⟨g, 3, none⟩ (.slice aF Fn.length cF)).heap[g]? = some (.cells #[x0, x1, x2, .slice aF Fn.length cF, x4] 25 (0, 0)) ∧ (W.setCell ⟨g, 3, none⟩ (.slice aF Fn.length cF)).ownsRow W14.heap.size 3 1 (.slice aF Fn.length cF) Fn.length (Fn.map (Value.int .i64)) := by
 have o2 := only_set W g 3 (.slice aF Fn.length cF)
 have s := heap_setCell_same W g 3 _ 25 (.slice aF Fn.length cF) z
 refine ⟨(o.trans (Only.ofBelow d)).trans o2, by simpa using s, own_keep y z (by decide) o2⟩
theorem paired_ok (w : World) (N M m : Nat) (bud0 : Int) (a1 a2 a3 o1 o2 o3 : Option Addr) (c1 c2 c3 d1 d2 d3 : Nat) (Sa Fa Sb Fb : List Int) (Ea Eb : List EdT) (hA : Hid (RdA w a1 a2 a3 Sa Fa Ea)) (hB : Hid (RdA w o1 o2 o3 Sb Fb Eb)) (h1 : Sa.length ≤ 2000000) (h2 : Fa.length ≤ 2000000) (h3 : Ea.length ≤ 2000000) (h4 : Sb.length ≤ 2000000) (h5 : Fb.length ≤ 2000000) (h6 : Eb.length ≤ 2000000) (em : mayA (N : Int) (m : Int) Sa Fa Ea = true) (em' : mayA (M : Int) (m : Int) Sb Fb Eb = true) :
 Calls Tryz.prog 57 #[.agg #[.int .i64 (N : Int), .int .i64 (m : Int), .slice a1 Sa.length c1, .slice a2 Fa.length c2, .slice a3 Ea.length c3], .agg #[.int .i64 (M : Int), .int .i64 (m : Int), .slice o1 Sb.length d1, .slice o2 Fb.length d2, .slice o3 Eb.length d3], .int .i64 bud0, .func (.func 58) #[] #[]] w (MeO w (MeetR m N M (riseL Sa) (riseL Fa) (riseE Ea) (riseL Sb) (riseL Fb) (riseE Eb)) (m : Int)) := by
 obtain ⟨W0, hW0⟩ : ∃ W0, ((w.alloc (.cells #[.int .i64 (N : Int), .int .i64 (m : Int), .slice a1 Sa.length c1, .slice a2 Fa.length c2, .slice a3 Ea.length c3] 25)).alloc (.cells #[.int .i64 (M : Int), .int .i64 (m : Int), .slice o1 Sb.length d1, .slice o2 Fb.length d2, .slice o3 Eb.length d3] 25)).alloc (.cells #[.int .i64 0, .int .i64 0, .slice none 0 0, .slice none 0 0, .slice none 0 0] 25) = W0 := ⟨_, rfl⟩
 have HD := hide (box3b w #[.int .i64 (N : Int), .int .i64 (m : Int), .slice a1 Sa.length c1, .slice a2 Fa.length c2, .slice a3 Ea.length c3] #[.int .i64 (M : Int), .int .i64 (m : Int), .slice o1 Sb.length d1, .slice o2 Fb.length d2, .slice o3 Eb.length d3] #[.int .i64 0, .int .i64 0, .slice none 0 0, .slice none 0 0, .slice none 0 0] 25)
 rw [hW0] at HD
 have TB := both_ok W0 (N : Int) (m : Int) (M : Int) a1 a2 a3 o1 o2 o3 c1 c2 c3 d1 d2 d3 Sa Fa Sb Fb Ea Eb (hide (hA.out.on HD.out.1)) (hide (hB.out.on HD.out.1)) (by omega) (by omega) (by omega) (by omega) (by omega) (by omega) em em'
 have hm : m ≤ 128 := by have := (may_parts em).2.1; omega
 have hNM : N ≤ 4096 ∧ M ≤ 4096 := by have := (may_parts em).1; have := (may_parts em').1; omega
 have Hin : Hid ((∀ x ∈ riseL Sa, ∃ q : Nat, q < N ∧ x = (q : Int)) ∧ (∀ x ∈ riseL Fa, ∃ q : Nat, q < N ∧ x = (q : Int)) ∧ (∀ x ∈ riseL Sb, ∃ q : Nat, q < M ∧ x = (q : Int)) ∧ (∀ x ∈ riseL Fb, ∃ q : Nat, q < M ∧ x = (q : Int))) := hide ⟨nat_in (may_st (may_rise em)).1, nat_in (may_st (may_rise em)).2, nat_in (may_st (may_rise em')).1, nat_in (may_st (may_rise em')).2⟩
 have hl : Hid ((riseL Sa).length ≤ 4096 ∧ (riseL Fa).length ≤ 2000000 ∧ (riseE Ea).length ≤ 2000000 ∧ (riseL Sb).length ≤ 4096 ∧ (riseL Fb).length ≤ 2000000 ∧ (riseE Eb).length ≤ 2000000) := hide ⟨Nat.le_trans (upN_rise (may_st em).1).len hNM.1, Nat.le_trans (riseL_len Fa) h2, Nat.le_trans (riseE_len Ea) h3, Nat.le_trans (upN_rise (may_st em').1).len hNM.2, Nat.le_trans (riseL_len Fb) h5, Nat.le_trans (riseE_len Eb) h6⟩
 have HND : Hid ((prsL (riseL Sa) (riseL Sb)).Nodup) := hide (prsL_nd (nd_of (riseL_ss Sa)) (nd_of (riseL_ss Sb)))
 have HQ : Hid (RnQ N m (riseE Ea) ∧ RnQ M m (riseE Eb)) := hide ⟨⟨riseE_ss Ea, fun e he => ((may_parts (may_rise em)).2.2.2.2.2 e he).2.1, fun e he => ((may_parts (may_rise em)).2.2.2.2.2 e he).2.2, hNM.1, hm, by have := hl.out; omega⟩, ⟨riseE_ss Eb, fun e he => ((may_parts (may_rise em')).2.2.2.2.2 e he).2.1, fun e he => ((may_parts (may_rise em')).2.2.2.2.2 e he).2.2, hNM.2, hm, by have := hl.out; omega⟩⟩
 have HFr : Hid ((∀ e ∈ riseE Ea, (0 ≤ e.1 ∧ e.1 < (N : Int)) ∧ 0 ≤ e.2.1 ∧ e.2.1 < (m : Int)) ∧ (∀ e ∈ riseE Eb, (0 ≤ e.1 ∧ e.1 < (M : Int)) ∧ 0 ≤ e.2.1 ∧ e.2.1 < (m : Int))) := hide ⟨fun e he => by have q := (may_parts (may_rise em)).2.2.2.2.2 e he; exact ⟨q.1, q.2.1⟩, fun e he => by have q := (may_parts (may_rise em')).2.2.2.2.2 e he; exact ⟨q.1, q.2.1⟩⟩
 clear em em'
 generalize riseL Sa = S1 at *
 generalize riseL Fa = F1 at *
 generalize riseE Ea = E1 at *
 generalize riseL Sb = S2 at *
 generalize riseL Fb = F2 at *
 generalize riseE Eb = E2 at *
 obtain ⟨cy0, cy1, cy2, cy3, cy4⟩ := zd5 HD.out.2.1 rfl rfl rfl rfl rfl
 obtain ⟨cx0, cx1, cx2, cx3, cx4⟩ := zd5 HD.out.2.2.1 rfl rfl rfl rfl rfl
 go_enter Tryz.func57, Tryz.ntmps57
 go_upto_if 28 with (go_at_call 55; refine TB.mono ?_; rintro e w1 ⟨g1, k1, g2, k2, g3, k3, r1, q1, r2, q2, r3, q3, rfl, H1⟩)
 clear TB cy0 cx0 cy1 cx1 cy2 cx2 cy3 cx3 cy4 cx4
 obtain ⟨W1, hW1⟩ : ∃ W1, (w1.alloc (.cells #[.int .i64 (N : Int), .int .i64 (m : Int), .slice (some ⟨g1, 0, none⟩) S1.length k1, .slice (some ⟨g2, 0, none⟩) F1.length k2, .slice (some ⟨g3, 0, none⟩) E1.length k3] 25)).alloc (.cells #[.int .i64 (M : Int), .int .i64 (m : Int), .slice (some ⟨r1, 0, none⟩) S2.length q1, .slice (some ⟨r2, 0, none⟩) F2.length q2, .slice (some ⟨r3, 0, none⟩) E2.length q3] 25) = W1 := ⟨_, rfl⟩
 have HW : Hid (W1.heap[w1.heap.size]? = some (.cells #[.int .i64 (N : Int), .int .i64 (m : Int), .slice (some ⟨g1, 0, none⟩) S1.length k1, .slice (some ⟨g2, 0, none⟩) F1.length k2, .slice (some ⟨g3, 0, none⟩) E1.length k3] 25 (0, 0)) ∧ W1.heap[w1.heap.size + 1]? = some (.cells #[.int .i64 (M : Int), .int .i64 (m : Int), .slice (some ⟨r1, 0, none⟩) S2.length q1, .slice (some ⟨r2, 0, none⟩) F2.length q2, .slice (some ⟨r3, 0, none⟩) E2.length q3] 25 (0, 0)) ∧ W1.heap[w.heap.size + 1 + 1]? = some (.cells #[.int .i64 0, .int .i64 0, .slice none 0 0, .slice none 0 0, .slice none 0 0] 25 (0, 0)) ∧ w.heap.size + 3 ≤ W1.heap.size ∧ Below w.heap.size w W1) := hide (by
  have q := box2 w1 #[.int .i64 (N : Int), .int .i64 (m : Int), .slice (some ⟨g1, 0, none⟩) S1.length k1, .slice (some ⟨g2, 0, none⟩) F1.length k2, .slice (some ⟨g3, 0, none⟩) E1.length k3] #[.int .i64 (M : Int), .int .i64 (m : Int), .slice (some ⟨r1, 0, none⟩) S2.length q1, .slice (some ⟨r2, 0, none⟩) F2.length q2, .slice (some ⟨r3, 0, none⟩) E2.length q3] 25
  rw [hW1] at q
  have s := HD.out.2.2.2.2
  have d2 := H1.out.2.2.trans (q.1.mono H1.out.2.2.size)
  exact ⟨q.2.1, q.2.2.1, blk_on HD.out.2.2.2.1 d2, by have := d2.size; omega, HD.out.1.trans (d2.mono HD.out.1.size)⟩)
 have HX : Hid (OwnO w.heap.size W1 (.slice (some ⟨g1, 0, none⟩) S1.length k1) (.slice (some ⟨g2, 0, none⟩) F1.length k2) (.slice (some ⟨g3, 0, none⟩) E1.length k3) S1 F1 E1) := hide (by
  have q := box2 w1 #[.int .i64 (N : Int), .int .i64 (m : Int), .slice (some ⟨g1, 0, none⟩) S1.length k1, .slice (some ⟨g2, 0, none⟩) F1.length k2, .slice (some ⟨g3, 0, none⟩) E1.length k3] #[.int .i64 (M : Int), .int .i64 (m : Int), .slice (some ⟨r1, 0, none⟩) S2.length q1, .slice (some ⟨r2, 0, none⟩) F2.length q2, .slice (some ⟨r3, 0, none⟩) E2.length q3] 25
  rw [hW1] at q
  exact (H1.out.1.on q.1).down HD.out.1.size)
 have HY : Hid (OwnO w.heap.size W1 (.slice (some ⟨r1, 0, none⟩) S2.length q1) (.slice (some ⟨r2, 0, none⟩) F2.length q2) (.slice (some ⟨r3, 0, none⟩) E2.length q3) S2 F2 E2) := hide (by
  have q := box2 w1 #[.int .i64 (N : Int), .int .i64 (m : Int), .slice (some ⟨g1, 0, none⟩) S1.length k1, .slice (some ⟨g2, 0, none⟩) F1.length k2, .slice (some ⟨g3, 0, none⟩) E1.length k3] #[.int .i64 (M : Int), .int .i64 (m : Int), .slice (some ⟨r1, 0, none⟩) S2.length q1, .slice (some ⟨r2, 0, none⟩) F2.length q2, .slice (some ⟨r3, 0, none⟩) E2.length q3] 25
  rw [hW1] at q
  exact (H1.out.2.1.on q.1).down HD.out.1.size)
 rw [hW1]
 clear hW1 H1 HD hW0
 go_cut [2] (fun v2 W => ∃ bud : Int, v2 = .int .i64 bud ∧ W = W1)
 case first =>
  by_cases hb : bud0 ≤ 0
  · go_wp2_with fail
    go_meet
    exact ⟨_, rfl, rfl⟩
  · go_wp2_with fail
    go_meet
    exact ⟨_, rfl, rfl⟩
 case rest =>
  rename World => wc
  obtain ⟨bud, rfl, hw⟩ := hcut
  obtain rfl := hw.symm
  clear hw
  have T1 := hide (fun (W : World) (d : Below W1.heap.size W1 W) => newRows_any W N m (some ⟨g1, 0, none⟩) (some ⟨g2, 0, none⟩) (some ⟨g3, 0, none⟩) S1.length F1.length k1 k2 k3 E1 hNM.1 hm (hide (own_rdE (HX.out.on d).e)) (by have := hl.out; omega) (hide HFr.out.1))
  have T2 := hide (fun (W : World) (d : Below W1.heap.size W1 W) => newRows_any W M m (some ⟨r1, 0, none⟩) (some ⟨r2, 0, none⟩) (some ⟨r3, 0, none⟩) S2.length F2.length q1 q2 q3 E2 hNM.2 hm (hide (own_rdE (HY.out.on d).e)) (by have := hl.out; omega) (hide HFr.out.2))
  go_upto_region 6 with fail
  go_cut [14] (fun v14 W => ∃ b bm b1 b2 aX cX gX aY cY gY, v14 = .pointer (some ⟨b, 0, none⟩) ∧ Hid (PrB W1 m (N * m) (M * m) E1 E2 bud b bm b1 b2 aX cX gX aY cY gY W))
  case first =>
   have hmo : MonIL 0 [vI 0 (.func (.func 58) #[] #[]), vI 1 (.agg #[.int .i64 (N : Int), .int .i64 (m : Int), .slice (some ⟨g1, 0, none⟩) S1.length k1, .slice (some ⟨g2, 0, none⟩) F1.length k2, .slice (some ⟨g3, 0, none⟩) E1.length k3]), pI 2 (dRw W1.heap.size m (N * m) E1), vI 3 (.agg #[.int .i64 (M : Int), .int .i64 (m : Int), .slice (some ⟨r1, 0, none⟩) S2.length q1, .slice (some ⟨r2, 0, none⟩) F2.length q2, .slice (some ⟨r3, 0, none⟩) E2.length q3]), pI 4 (dRw W1.heap.size m (M * m) E2), pI 5 (dFn W1.heap.size m (N * m) (M * m) E1 E2), vI 6 (.int .i64 bud), pI 7 (dMp W1.heap.size), pI 8 (dSr W1.heap.size m (N * m) (M * m) E1 E2 bud), pI 9 (dBx W1.heap.size)] := ⟨vI_mono _ _, vI_mono _ _, pI_mono dRw_mono, vI_mono _ _, pI_mono dRw_mono, pI_mono dFn_mono, vI_mono _ _, pI_mono dMp_mono, pI_mono dSr_mono, pI_mono dBx_mono, trivial⟩
   refine wp_region_sl _ (by kernel_rfl) (by kernel_rfl) (by kernel_rfl) (by kernel_rfl) hmo ⟨?o0, ?o1, ?o2, ?o3, ?o4, ?o5, ?o6, ?o7, ?o8, ?o9, trivial⟩ ?fin
   case o0 =>
    intro At yy W hy hb d hd K hK
    obtain ⟨s3, s3'⟩ := zsb (hb 3 rfl : _ = .func (.func 58) #[] #[])
    clear hd hy hb
    go_simp
    exact zkq hK hmo d (if_pos rfl)
   case o1 =>
    intro At yy W hy hb d hd K hK
    obtain ⟨s11, s11'⟩ := zsb (hb 11 rfl : _ = .pointer (some ⟨w1.heap.size, 0, none⟩))
    clear hd hy hb
    have bxX := blk_on HW.out.1 d
    have bxY := blk_on HW.out.2.1 d
    obtain ⟨cx0, cx1, cx2, cx3, cx4⟩ := zd5 bxX rfl rfl rfl rfl rfl
    obtain ⟨cy0, cy1, cy2, cy3, cy4⟩ := zd5 bxY rfl rfl rfl rfl rfl
    clear bxX bxY
    go_simp
    exact zkq hK hmo d (if_pos rfl)
   case o2 =>
    intro At yy W hy hb d hd K hK
    obtain ⟨s30, s30'⟩ := zsg 1 30 .data hy hd rfl
    clear hd hy hb
    go_simp
    go_wp2_with (go_at_call 89; refine (T1.out _ d).mono ?_; rintro e wa ⟨aX, cX, gX, rfl, hR, dR⟩)
    exact hK.out _ wa (stp_of hmo d dR) ⟨aX, cX, gX, if_pos rfl, rwA_low hR.out d.size⟩
   case o3 =>
    intro At yy W hy hb d hd K hK
    obtain ⟨s12, s12'⟩ := zsb (hb 12 rfl : _ = .pointer (some ⟨w1.heap.size + 1, 0, none⟩))
    clear hd hy hb
    have bxX := blk_on HW.out.1 d
    have bxY := blk_on HW.out.2.1 d
    obtain ⟨cx0, cx1, cx2, cx3, cx4⟩ := zd5 bxX rfl rfl rfl rfl rfl
    obtain ⟨cy0, cy1, cy2, cy3, cy4⟩ := zd5 bxY rfl rfl rfl rfl rfl
    clear bxX bxY
    go_simp
    exact zkq hK hmo d (if_pos rfl)
   case o4 =>
    intro At yy W hy hb d hd K hK
    obtain ⟨s32, s32'⟩ := zsg 3 32 .data hy hd rfl
    clear hd hy hb
    go_simp
    go_wp2_with (go_at_call 89; refine (T2.out _ d).mono ?_; rintro e wa ⟨aY, cY, gY, rfl, hR, dR⟩)
    exact hK.out _ wa (stp_of hmo d dR) ⟨aY, cY, gY, if_pos rfl, rwA_low hR.out d.size⟩
   case o5 =>
    intro At yy W hy hb d hd K hK
    have f2 := hd ⟨2, .data⟩ (by simp) rfl rfl
    have f4 := hd ⟨4, .data⟩ (by simp) rfl rfl
    obtain ⟨_, _, _, _, aX, cX, gX, e2, y2⟩ := f2
    obtain ⟨_, _, _, _, aY, cY, gY, e4, y4⟩ := f4
    have HZ := hide (two_box W #[.int .i64 (m : Int), .slice aX E1.length cX, .slice (some ⟨gX, 0, none⟩) (N * m + 1) (N * m + 1)] #[.int .i64 (m : Int), .slice aY E2.length cY, .slice (some ⟨gY, 0, none⟩) (M * m + 1) (M * m + 1)] 93 93)
    obtain ⟨s29, s29'⟩ := zsg 0 29 .data hy hd rfl
    obtain ⟨s31, s31'⟩ := zsb ((hy 2 _ 31 rfl rfl).trans e2)
    obtain ⟨s33, s33'⟩ := zsb ((hy 4 _ 33 rfl rfl).trans e4)
    clear hd hy hb
    go_simp
    go_wp2_with (go_at_call 58; refine (tog_any _ _ _ _ _ _ _).mono ?_; rintro e wa ⟨rfl, hwa⟩; subst hwa)
    exact hK.out _ _ (stp_of hmo d HZ.out.1) ⟨W.heap.size, W.heap.size + 1, aX, cX, gX, aY, cY, gY, if_pos rfl, HZ.out.2.1, HZ.out.2.2.1, y2.on HZ.out.1, y4.on HZ.out.1⟩
   case o6 =>
    intro At yy W hy hb d hd K hK
    obtain ⟨s2, s2'⟩ := zsb (hb 2 rfl : _ = .int .i64 bud)
    clear hd hy hb
    go_simp
    exact zkq hK hmo d (if_pos rfl)
   case o7 =>
    intro At yy W hy hb d hd K hK
    clear hd hy hb
    go_simp
    exact hK.out _ _ (stp_of hmo d ((Below.refl _ _).alloc (Nat.le_refl _) _)) ⟨if_pos rfl, d.size, by simp, World.ownsMap_made _ _ _ _⟩
   case o8 =>
    intro At yy W hy hb d hd K hK
    have f5 := hd ⟨5, .data⟩ (by simp) rfl rfl
    have f7 := hd ⟨7, .data⟩ (by simp) rfl rfl
    obtain ⟨_, _, _, _, b1, b2, aX, cX, gX, aY, cY, gY, e5, y5⟩ := f5
    obtain ⟨l7, _, _, _, e7, y7, _, m7⟩ := f7
    obtain ⟨s34, s34'⟩ := zsb ((hy 5 _ 34 rfl rfl).trans e5)
    obtain ⟨s35, s35'⟩ := zsg 6 35 .data hy hd rfl
    obtain ⟨s36, s36'⟩ := zsb ((hy 7 _ 36 rfl rfl).trans e7)
    clear hd hy hb
    go_simp
    exact zkq hK hmo d ⟨b1, b2, aX, cX, gX, aY, cY, gY, l7, if_pos rfl, y5, y7, m7⟩
   case o9 =>
    intro At yy W hy hb d hd K hK
    clear hd hy hb
    go_simp
    exact hK.out _ _ (stp_of hmo d ((Below.refl _ _).alloc (Nat.le_refl _) _)) ⟨if_pos rfl, d.size, by simp, World.alloc_heap_new _ _⟩
   case fin =>
    intro yy lo hi W hM
    show wpList _ _ _ [_] _ _
    have e0 := hM.v 0 (by simp) rfl rfl rfl
    have e1 := hM.v 1 (by simp) rfl rfl rfl
    have e3 := hM.v 3 (by simp) rfl rfl rfl
    have e6 := hM.v 6 (by simp) rfl rfl rfl
    obtain ⟨b1, b2, aX, cX, gX, aY, cY, gY, bm, e8, y8, l8, m8⟩ := hM.fact 8 (by simp) rfl (notR_all 8 rfl)
    obtain ⟨e9, l9, _, z9⟩ := hM.fact 9 (by simp) rfl (notR_all 9 rfl)
    obtain ⟨_, _, _, e2, _⟩ := hM.fact 2 (by simp) rfl (notR_all 2 rfl)
    obtain ⟨_, _, _, e4, _⟩ := hM.fact 4 (by simp) rfl (notR_all 4 rfl)
    obtain ⟨_, _, _, _, _, _, _, _, e5, _⟩ := hM.fact 5 (by simp) rfl (notR_all 5 rfl)
    obtain ⟨e7, _⟩ := hM.fact 7 (by simp) rfl (notR_all 7 rfl)
    have HDD := hide hM.d
    simp only [fills, Act.put, List.take, List.length, List.setIfInBounds_toArray, List.set_cons_zero, List.set_cons_succ, e0, e1, e3, e6, e2, e4, e5, e7, e8, e9]
    generalize lo 9 = b at z9 l9 ⊢
    clear hM hmo e0 e1 e3 e6 e2 e4 e5 e7 e8 e9
    have HF := hide (prB_of (bud := bud) HDD.out z9 l9 l8 y8 m8)
    obtain ⟨z0, z1, z2, z3, z4, z5⟩ := zd6 z9 rfl rfl rfl rfl rfl rfl
    have f0 : W.frozen? ⟨b, 0, none⟩ = false := fz_of z9
    have f1 : W.frozen? ⟨b, 1, none⟩ = false := fz_of z9
    have f2 : W.frozen? ⟨b, 2, none⟩ = false := fz_of z9
    have f3 : W.frozen? ⟨b, 3, none⟩ = false := fz_of z9
    have f4 : W.frozen? ⟨b, 4, none⟩ = false := fz_of z9
    have f5 : W.frozen? ⟨b, 5, none⟩ = false := fz_of z9
    clear z9 y8 m8
    go_wp2_with fail
    go_meet
    exact ⟨b, bm, b1, b2, aX, cX, gX, aY, cY, gY, rfl, HF⟩
  case rest =>
   rename World => w6
   obtain ⟨b, bm, b1, b2, aX, cX, gX, aY, cY, gY, rfl, HP⟩ := hcut
   clear T1 T2 HFr
   have bxX := blk_on HW.out.1 HP.out.be
   have cx1 : w6.cell? ⟨w1.heap.size, 1, none⟩ = some (.int .i64 (m : Int)) := cell_of bxX rfl
   clear bxX
   go_upto_region 8 with fail
   clear cx1
   obtain ⟨W7, hW7⟩ : ∃ W7, w6.alloc (.cells #[.int .i64 0, .int .i64 (m : Int), .slice none 0 0, .slice none 0 0, .slice none 0 0] 25) = W7 := ⟨_, rfl⟩
   have H7 : Hid (Below w6.heap.size w6 W7 ∧ W7.heap[w6.heap.size]? = some (.cells #[.int .i64 0, .int .i64 (m : Int), .slice none 0 0, .slice none 0 0, .slice none 0 0] 25 (0, 0)) ∧ W7.heap.size = w6.heap.size + 1) := hide (by rw [← hW7]; exact ⟨(Below.refl _ _).alloc (Nat.le_refl _) _, World.alloc_heap_new _ _, by simp⟩)
   rw [hW7]
   clear hW7
   obtain ⟨D, hDe⟩ : ∃ D, W7.heap.size = D := ⟨_, rfl⟩
   have HB7 : Hid (Below W1.heap.size W1 W7) := hide (HP.out.be.trans (H7.out.1.mono HP.out.be.size))
   have HDD : Hid (b < D ∧ bm < D ∧ D ≤ W7.heap.size ∧ w6.heap.size < D ∧ W1.heap.size ≤ w6.heap.size ∧ w6.heap.size ≠ b ∧ w6.heap.size ≠ bm ∧ W1.heap.size ≤ b ∧ W1.heap.size ≤ bm) := hide (by
    have q1 := (Array.getElem?_eq_some_iff.1 HP.out.bx).1
    have q2 := HP.out.mo.lt
    have q3 := H7.out.2.2
    have q4 := HP.out.be.size
    have q5 := HP.out.lb
    have q6 := HP.out.lm
    omega)
   have HSS := hide (HP.out.ss H7.out.1 D)
   have HR1 : Hid (RwT (fun k => k < w6.heap.size ∧ k ≠ b ∧ k ≠ bm) W7 b1 W1.heap.size m (N * m) E1 aX cX gX) := hide (rwT_of HP.out.bx HP.out.mo H7.out.1 (Nat.le_refl _) HP.out.tw.h1 HP.out.tw.r1)
   have HR2 : Hid (RwT (fun k => k < w6.heap.size ∧ k ≠ b ∧ k ≠ bm) W7 b2 W1.heap.size m (M * m) E2 aY cY gY) := hide (rwT_of HP.out.bx HP.out.mo H7.out.1 (Nat.le_refl _) HP.out.tw.h2 HP.out.tw.r2)
   have HA1 : Hid (∀ W', KpT (fun k => k < D ∧ k ≠ b ∧ k ≠ bm) W7 W' → RdN W' (some ⟨g1, 0, none⟩) S1) := hide (fun W' k => own_rdN (row_kp (HX.out.on HB7.out).s k (fun i hi => by have := (HX.out.s.lt i hi).2; have := HDD.out; omega)))
   have HA2 : Hid (∀ W', KpT (fun k => k < D ∧ k ≠ b ∧ k ≠ bm) W7 W' → RdN W' (some ⟨r1, 0, none⟩) S2) := hide (fun W' k => own_rdN (row_kp (HY.out.on HB7.out).s k (fun i hi => by have := (HY.out.s.lt i hi).2; have := HDD.out; omega)))
   have HOK := hide (prsL_ok Hin.out.1 Hin.out.2.2.1)
   have TG := begin_any W7 D b bm (.func (.func 94) #[] #[.pointer (some ⟨b1, 0, none⟩), .pointer (some ⟨b2, 0, none⟩)]) bud (some ⟨g1, 0, none⟩) (some ⟨r1, 0, none⟩) k1 q1 S1 S2 HSS (hide ⟨HDD.out.1, HDD.out.2.1, HDD.out.2.2.1⟩) HA1 HA2 (hide (fun t ht => okPr_of hNM.1 hNM.2 (HOK.out t ht))) hl.out.1 hl.out.2.2.2.1
   have HC8 : Hid (∀ W, Only W7 W (fun k => k = b ∨ k = bm ∨ D ≤ k) → W.heap[w6.heap.size]? = some (.cells #[.int .i64 0, .int .i64 (m : Int), .slice none 0 0, .slice none 0 0, .slice none 0 0] 25 (0, 0))) := hide (fun W o => o.cellK H7.out.2.1 (by have := HDD.out; omega))
   have bxX := blk_on HW.out.1 HB7.out
   have bxY := blk_on HW.out.2.1 HB7.out
   have cx2 : W7.cell? ⟨w1.heap.size, 2, none⟩ = some (.slice (some ⟨g1, 0, none⟩) S1.length k1) := cell_of bxX rfl
   have cy2 : W7.cell? ⟨w1.heap.size + 1, 2, none⟩ = some (.slice (some ⟨r1, 0, none⟩) S2.length q1) := cell_of bxY rfl
   clear bxX bxY
   go_upto_region 9 with (go_at_call 90; refine TG.mono ?_; rintro e w8 ⟨av, nv, cv, er, rfl, HB⟩; have F8 := HC8.out w8 HB.out.on; have z2 : w8.cell? ⟨w6.heap.size, 2, none⟩ = some (.slice none 0 0) := cell_of F8 rfl; have f2 : w8.frozen? ⟨w6.heap.size, 2, none⟩ = false := fz_of F8; clear F8)
   clear TG cx2 cy2 z2 f2
   obtain ⟨W8, hW8⟩ : ∃ W8, w8.setCell ⟨w6.heap.size, 2, none⟩ (.slice av nv cv) = W8 := ⟨_, rfl⟩
   have H8 : Hid (Below w.heap.size w W8 ∧ W8.heap[w.heap.size + 1 + 1]? = some (.cells #[.int .i64 0, .int .i64 0, .slice none 0 0, .slice none 0 0, .slice none 0 0] 25 (0, 0)) ∧ W8.heap[w1.heap.size]? = some (.cells #[.int .i64 (N : Int), .int .i64 (m : Int), .slice (some ⟨g1, 0, none⟩) S1.length k1, .slice (some ⟨g2, 0, none⟩) F1.length k2, .slice (some ⟨g3, 0, none⟩) E1.length k3] 25 (0, 0)) ∧ W8.heap[w1.heap.size + 1]? = some (.cells #[.int .i64 (M : Int), .int .i64 (m : Int), .slice (some ⟨r1, 0, none⟩) S2.length q1, .slice (some ⟨r2, 0, none⟩) F2.length q2, .slice (some ⟨r3, 0, none⟩) E2.length q3] 25 (0, 0)) ∧ W8.heap[w6.heap.size]? = some (.cells #[.int .i64 0, .int .i64 (m : Int), .slice av nv cv, .slice none 0 0, .slice none 0 0] 25 (0, 0)) ∧ Below W1.heap.size W1 W8 ∧ Only w8 W8 (fun k => k = w6.heap.size)) := hide (by
    have o1 := HB.out.on
    have o2 := only_set w8 w6.heap.size 2 (.slice av nv cv)
    rw [hW8] at o2
    have s := heap_setCell_same w8 w6.heap.size 2 _ 25 (.slice av nv cv) (HC8.out w8 o1)
    rw [hW8] at s
    have l := HDD.out
    have d1 : Below W1.heap.size W1 w8 := HB7.out.trans (o1.toBelow HB7.out.size (fun k e => by omega))
    have d2 := d1.trans (o2.toBelow d1.size (fun k e => by omega))
    exact ⟨HW.out.2.2.2.2.trans (d2.mono HW.out.2.2.2.2.size), blk_on HW.out.2.2.1 d2, blk_on HW.out.1 d2, blk_on HW.out.2.1 d2, by simpa using s, d2, o2⟩)
   rw [hW8]
   clear hW8
   by_cases he : er = 0
   · subst he
     obtain ⟨vp, ps0, S0, HG0⟩ : ∃ vp ps ns, BgI W7 D b bm (.func (.func 94) #[] #[.pointer (some ⟨b1, 0, none⟩), .pointer (some ⟨b2, 0, none⟩)]) bud (prsL S1 S2) (prsL S1 S2).length (.slice av nv cv) vp ps ns w8 ∧ metF bud false [] (prsL S1 S2) [] = (0, ps, ns) := by
      rcases HB.out with ⟨q, _⟩ | ⟨_, q⟩
      · exact absurd rfl q
      · exact q
     have HG := hide HG0
     clear HG0 HB
     obtain rfl : nv = S0.length := by
      obtain ⟨_, _, q⟩ := own_slice HG.out.1.ow
      cases q
      rfl
     obtain ⟨kv, HKV0⟩ := start_blk (b := b) HG.out.1.ow HG.out.1.ss.po (by have := HDD.out; have := HG.out.1.on.size; omega) HDD.out.1
     have HKV := hide HKV0
     clear HKV0
     have HS8 : Hid (RnS W8 D b bm kv (.func (.func 94) #[] #[.pointer (some ⟨b1, 0, none⟩), .pointer (some ⟨b2, 0, none⟩)]) bud E1 E2 m N M ps0 0 0 vp (.slice none 0 0) (.slice none 0 0) ps0 [] 0 [] W8) := hide (by
      have l := HDD.out
      refine ⟨HG.out.1.ss.onlyR H8.out.2.2.2.2.2.2 (by omega) (by omega) (fun k hk e => by have := (HG.out.1.ss.po.lt k hk).1; omega) (fun k hk => by cases hk) (fun k hk => by cases hk), ⟨rfl, rfl, rfl, Nat.le_refl _, fun _ _ _ => rfl⟩, rnI_start HG.out.2 HOK.out, HG.out.1.pl, HKV.out.2.2, nil_own, nil_own⟩)
     have HK8 : Hid (KpT (fun k => k < w6.heap.size ∧ k ≠ b ∧ k ≠ bm) W7 W8) := hide ((KpT.ofOnly HG.out.1.on (fun k h1 h2 => by have := HDD.out; omega)).trans (KpT.ofOnly H8.out.2.2.2.2.2.2 (fun k h1 h2 => by omega)))
     have TR := run_any W8 D b bm kv b1 b2 W1.heap.size W1.heap.size m N M E1 E2 aX aY cX cY gX gY bud vp (.slice none 0 0) (.slice none 0 0) ps0 [] 0 [] HS8 (hide ⟨HDD.out.1, HDD.out.2.1, Nat.le_trans HDD.out.2.2.1 HK8.out.size⟩) (Nat.lt_of_lt_of_le HKV.out.1 H8.out.2.2.2.2.2.2.size) (hide ((HR1.out.kp HK8.out).weak (fun k h => by have := HDD.out; omega))) (hide ((HR2.out.kp HK8.out).weak (fun k h => by have := HDD.out; omega))) HQ
     have cx1 : W8.cell? ⟨w1.heap.size, 1, none⟩ = some (.int .i64 (m : Int)) := cell_of H8.out.2.2.1 rfl
     go_upto_region 12 with (go_at_call 91; refine TR.mono ?_; rintro e w9 ⟨er, rfl, HR⟩)
     clear TR cx1
     have HO9 : Hid (Only W8 w9 (fun k => k = b ∨ k = bm ∨ (D ≤ k ∧ k ≠ kv))) := hide (by
      rcases HR.out with ⟨_, q⟩ | ⟨_, _, _, _, _, _, _, _, q, _⟩
      · exact q
      · exact q.on)
     have H9 : Hid (Below w.heap.size w w9 ∧ w9.heap[w.heap.size + 1 + 1]? = some (.cells #[.int .i64 0, .int .i64 0, .slice none 0 0, .slice none 0 0, .slice none 0 0] 25 (0, 0)) ∧ w9.heap[w1.heap.size]? = some (.cells #[.int .i64 (N : Int), .int .i64 (m : Int), .slice (some ⟨g1, 0, none⟩) S1.length k1, .slice (some ⟨g2, 0, none⟩) F1.length k2, .slice (some ⟨g3, 0, none⟩) E1.length k3] 25 (0, 0)) ∧ w9.heap[w1.heap.size + 1]? = some (.cells #[.int .i64 (M : Int), .int .i64 (m : Int), .slice (some ⟨r1, 0, none⟩) S2.length q1, .slice (some ⟨r2, 0, none⟩) F2.length q2, .slice (some ⟨r3, 0, none⟩) E2.length q3] 25 (0, 0)) ∧ w9.heap[w6.heap.size]? = some (.cells #[.int .i64 0, .int .i64 (m : Int), .slice av S0.length cv, .slice none 0 0, .slice none 0 0] 25 (0, 0)) ∧ Below W1.heap.size W1 w9) := hide (by
      have l := HDD.out
      have d2 := H8.out.2.2.2.2.2.1
      have d3 : Below W1.heap.size W1 w9 := d2.trans (HO9.out.toBelow d2.size (fun k e => by omega))
      exact ⟨HW.out.2.2.2.2.trans (d3.mono HW.out.2.2.2.2.size), blk_on HW.out.2.2.1 d3, blk_on HW.out.1 d3, blk_on HW.out.2.1 d3, HO9.out.cellK H8.out.2.2.2.2.1 (by omega), d3⟩)
     by_cases he2 : er = 0
     · subst he2
       obtain ⟨vp9, ve9, vn9, ps, es, nn, xn, HS0, hes⟩ : ∃ vp ve vn ps es nn xn, RnS W8 D b bm kv (.func (.func 94) #[] #[.pointer (some ⟨b1, 0, none⟩), .pointer (some ⟨b2, 0, none⟩)]) bud E1 E2 m N M ps0 ps.length 0 vp ve vn ps es nn xn w9 ∧ es.length ≤ 65536 := by
        rcases HR.out with ⟨q, _⟩ | ⟨_, q⟩
        · exact absurd rfl q
        · exact q
       clear HR
       obtain ⟨ap, cp, hvp⟩ := own_slice HS0.ss.po
       obtain ⟨ae, ce, hve⟩ := own_slice HS0.ss.eo
       subst hvp
       subst hve
       have HS := hide (And.intro HS0 hes)
       clear HS0 hes
       have cc3 : w9.cell? ⟨b, 3, none⟩ = some (.slice ap ps.length cp) := cell_of HS.out.1.ss.bx rfl
       have cc4 : w9.cell? ⟨b, 4, none⟩ = some (.slice ae es.length ce) := cell_of HS.out.1.ss.bx rfl
       obtain ⟨z0, z1, z2, z3, z4⟩ := zd5 H9.out.2.2.2.2.1 rfl rfl rfl rfl rfl
       have f0 : w9.frozen? ⟨w6.heap.size, 0, none⟩ = false := fz_of H9.out.2.2.2.2.1
       have f1 : w9.frozen? ⟨w6.heap.size, 1, none⟩ = false := fz_of H9.out.2.2.2.2.1
       have f2 : w9.frozen? ⟨w6.heap.size, 2, none⟩ = false := fz_of H9.out.2.2.2.2.1
       have f3 : w9.frozen? ⟨w6.heap.size, 3, none⟩ = false := fz_of H9.out.2.2.2.2.1
       have f4 : w9.frozen? ⟨w6.heap.size, 4, none⟩ = false := fz_of H9.out.2.2.2.2.1
       go_upto_region 14 with fail
       go_cut [15] (fun v15 W => v15 = .pointer (some ⟨w6.heap.size, 0, none⟩) ∧ Hid (Only w9 W (fun k => k = w6.heap.size) ∧ W.heap[w6.heap.size]? = some (.cells #[.int .i64 (ps.length : Int), .int .i64 (m : Int), .slice av S0.length cv, .slice none 0 0, .slice ae es.length ce] 25 (0, 0))))
       case first =>
        go_region_with fail
        all_goals
         first | (go_wp2_with fail; go_meet) | go_meet
         exact ⟨rfl, hide (p14_of H9.out.2.2.2.2.1)⟩
       case rest =>
        rename World => W14
        obtain ⟨rfl, H14⟩ := hcut
        clear cc3 cc4 z0 z1 z2 z3 z4 f0 f1 f2 f3 f4
        have HX14 : Hid (W14.heap[w1.heap.size]? = some (.cells #[.int .i64 (N : Int), .int .i64 (m : Int), .slice (some ⟨g1, 0, none⟩) S1.length k1, .slice (some ⟨g2, 0, none⟩) F1.length k2, .slice (some ⟨g3, 0, none⟩) E1.length k3] 25 (0, 0)) ∧ W14.heap[w1.heap.size + 1]? = some (.cells #[.int .i64 (M : Int), .int .i64 (m : Int), .slice (some ⟨r1, 0, none⟩) S2.length q1, .slice (some ⟨r2, 0, none⟩) F2.length q2, .slice (some ⟨r3, 0, none⟩) E2.length q3] 25 (0, 0))) := hide (by
         have l := HDD.out
         have l1 := (Array.getElem?_eq_some_iff.1 HW.out.1).1
         have l2 := (Array.getElem?_eq_some_iff.1 HW.out.2.1).1
         exact ⟨H14.out.1.cellK H9.out.2.2.1 (by omega), H14.out.1.cellK H9.out.2.2.2.1 (by omega)⟩)
        have HB14 : Hid (Below W1.heap.size W1 W14) := hide (H9.out.2.2.2.2.2.trans (H14.out.1.toBelow H9.out.2.2.2.2.2.size (fun k e => by have := HDD.out; omega)))
        have HS14 : Hid (SS D W14 b bm (.func (.func 94) #[] #[.pointer (some ⟨b1, 0, none⟩), .pointer (some ⟨b2, 0, none⟩)]) bud (.slice ap ps.length cp) (.slice ae es.length ce) vn9 ps es nn xn) := hide (by
         have l := HDD.out
         exact HS.out.1.ss.onlyR H14.out.1 (by omega) (by omega) (fun k hk e => by have := (HS.out.1.ss.po.lt k hk).1; omega) (fun k hk e => by have := (HS.out.1.ss.eo.lt k hk).1; omega) (fun k hk e => by have := (HS.out.1.ss.no.lt k hk).1; omega))
        have HBD : Hid (∀ x ∈ ps, (0 ≤ x.1 ∧ x.1 < (N : Int)) ∧ 0 ≤ x.2 ∧ x.2 < (M : Int)) := hide (fun x hx => by
         obtain ⟨p, q, rfl, l1, l2⟩ := HS.out.1.rn.bd x hx
         simp only
         omega)
        have T3 := hide (fun (W : World) (d : Below W14.heap.size W14 W) => finals_any W N (m : Int) (some ⟨g1, 0, none⟩) (some ⟨g2, 0, none⟩) (some ⟨g3, 0, none⟩) k1 k2 k3 S1.length E1.length F1 (hide (own_rdN ((HX.out.on HB14.out).on d).f)) (hide Hin.out.2.1) (by have := hl.out; omega) (by omega))
        have T4 := hide (fun (W : World) (d : Below W14.heap.size W14 W) => finals_any W M (m : Int) (some ⟨r1, 0, none⟩) (some ⟨r2, 0, none⟩) (some ⟨r3, 0, none⟩) q1 q2 q3 S2.length E2.length F2 (hide (own_rdN ((HY.out.on HB14.out).on d).f)) (hide Hin.out.2.2.2) (by have := hl.out; omega) (by omega))
        have T5 := hide (fun (W : World) (d : Below W14.heap.size W14 W) (h1 h2 : Nat) (y1 : Mrw W h1 4 N (fun c => .bool (finB F1 c)) N) (y2 : Mrw W h2 4 M (fun c => .bool (finB F2 c)) M) => ending_any W D b bm (.func (.func 94) #[] #[.pointer (some ⟨b1, 0, none⟩), .pointer (some ⟨b2, 0, none⟩)]) bud (.slice ap ps.length cp) (.slice ae es.length ce) vn9 ps es nn xn h1 h2 N M (finB F1) (finB F2) (hide (HS14.out.on d)) (hide y1) (hide y2) HBD HS.out.1.pl)
        obtain ⟨Fn, hFn⟩ : ∃ Fn, enT (finB F1) (finB F2) ps ps.length = Fn := ⟨_, rfl⟩
        rw [hFn] at T5
        have HFn := hide hFn
        clear hFn
        go_upto_region 15 with fail
        go_cut [15] (fun v15 W => v15 = .pointer (some ⟨w6.heap.size, 0, none⟩) ∧ ∃ aF cF, Hid (Only w9 W (fun k => k = w6.heap.size) ∧ W.heap[w6.heap.size]? = some (.cells #[.int .i64 (ps.length : Int), .int .i64 (m : Int), .slice av S0.length cv, .slice aF Fn.length cF, .slice ae es.length ce] 25 (0, 0)) ∧ W.ownsRow W14.heap.size 3 1 (.slice aF Fn.length cF) Fn.length (Fn.map (Value.int .i64))))
        case first =>
         have hmo : MonIL 0 [vI 0 (.agg #[.int .i64 (N : Int), .int .i64 (m : Int), .slice (some ⟨g1, 0, none⟩) S1.length k1, .slice (some ⟨g2, 0, none⟩) F1.length k2, .slice (some ⟨g3, 0, none⟩) E1.length k3]), pI 1 (dFi (finB F1) N), vI 2 (.agg #[.int .i64 (M : Int), .int .i64 (m : Int), .slice (some ⟨r1, 0, none⟩) S2.length q1, .slice (some ⟨r2, 0, none⟩) F2.length q2, .slice (some ⟨r3, 0, none⟩) E2.length q3]), pI 3 (dFi (finB F2) M), pI 4 (dEn W14.heap.size Fn)] := ⟨vI_mono _ _, pI_mono dFi_mono, vI_mono _ _, pI_mono dFi_mono, pI_mono dEn_mono, trivial⟩
         refine wp_region_sl _ (by kernel_rfl) (by kernel_rfl) (by kernel_rfl) (by kernel_rfl) hmo ⟨?o0, ?o1, ?o2, ?o3, ?o4, trivial⟩ ?fin
         case o0 =>
          intro At yy W hy hb d hd K hK
          obtain ⟨s11, s11'⟩ := zsb (hb 11 rfl : _ = .pointer (some ⟨w1.heap.size, 0, none⟩))
          clear hd hy hb
          have bxX := blk_on HX14.out.1 d
          have bxY := blk_on HX14.out.2 d
          obtain ⟨cx0, cx1, cx2, cx3, cx4⟩ := zd5 bxX rfl rfl rfl rfl rfl
          obtain ⟨cy0, cy1, cy2, cy3, cy4⟩ := zd5 bxY rfl rfl rfl rfl rfl
          clear bxX bxY
          go_simp
          exact zkq hK hmo d (if_pos rfl)
         case o1 =>
          intro At yy W hy hb d hd K hK
          obtain ⟨s68, s68'⟩ := zsg 0 68 .data hy hd rfl
          clear hd hy hb
          go_simp
          go_wp2_with (go_at_call 93; refine (T3.out _ d).mono ?_; rintro e wa ⟨gf, rfl, hR, dR⟩)
          exact hK.out _ wa (stp_of hmo d dR) ⟨gf, if_pos rfl, hR.out.1⟩
         case o2 =>
          intro At yy W hy hb d hd K hK
          obtain ⟨s12, s12'⟩ := zsb (hb 12 rfl : _ = .pointer (some ⟨w1.heap.size + 1, 0, none⟩))
          clear hd hy hb
          have bxX := blk_on HX14.out.1 d
          have bxY := blk_on HX14.out.2 d
          obtain ⟨cx0, cx1, cx2, cx3, cx4⟩ := zd5 bxX rfl rfl rfl rfl rfl
          obtain ⟨cy0, cy1, cy2, cy3, cy4⟩ := zd5 bxY rfl rfl rfl rfl rfl
          clear bxX bxY
          go_simp
          exact zkq hK hmo d (if_pos rfl)
         case o3 =>
          intro At yy W hy hb d hd K hK
          obtain ⟨s70, s70'⟩ := zsg 2 70 .data hy hd rfl
          clear hd hy hb
          go_simp
          go_wp2_with (go_at_call 93; refine (T4.out _ d).mono ?_; rintro e wa ⟨gf, rfl, hR, dR⟩)
          exact hK.out _ wa (stp_of hmo d dR) ⟨gf, if_pos rfl, hR.out.1⟩
         case o4 =>
          intro At yy W hy hb d hd K hK
          have f1 := hd ⟨1, .data⟩ (by simp) rfl rfl
          have f3 := hd ⟨3, .data⟩ (by simp) rfl rfl
          obtain ⟨_, _, _, _, h1, e1, y1⟩ := f1
          obtain ⟨_, _, _, _, h2, e3, y3⟩ := f3
          obtain ⟨s14, s14'⟩ := zsb (hb 14 rfl : _ = .pointer (some ⟨b, 0, none⟩))
          obtain ⟨s69, s69'⟩ := zsb ((hy 1 _ 69 rfl rfl).trans e1)
          obtain ⟨s71, s71'⟩ := zsb ((hy 3 _ 71 rfl rfl).trans e3)
          clear hd hy hb
          go_simp
          go_wp2_with (go_at_call 92; refine (T5.out _ d h1 h2 y1 y3).mono ?_; rintro e wa ⟨v', rfl, hR⟩; obtain ⟨aF, cF, rfl⟩ := own_slice hR.out.1)
          exact hK.out _ wa (stp_of hmo d hR.out.2) ⟨aF, cF, if_pos rfl, owns_down hR.out.1 d.size⟩
         case fin =>
          intro yy lo hi W hM
          show wpList _ _ _ [_, _] _ _
          have e0 := hM.v 0 (by simp) rfl rfl rfl
          have e2 := hM.v 2 (by simp) rfl rfl rfl
          obtain ⟨aF, cF, e4, y4⟩ := hM.fact 4 (by simp) rfl (notR_all 4 rfl)
          obtain ⟨_, e1, _⟩ := hM.fact 1 (by simp) rfl (notR_all 1 rfl)
          obtain ⟨_, e3, _⟩ := hM.fact 3 (by simp) rfl (notR_all 3 rfl)
          have HDD := hide hM.d
          simp only [fills, Act.put, List.take, List.length, List.setIfInBounds_toArray, List.set_cons_zero, List.set_cons_succ, e0, e2, e1, e3, e4]
          clear hM hmo e0 e2 e1 e3 e4
          have z9 := blk_on H14.out.2 HDD.out
          have HF := hide (p15_of HDD.out z9 y4 H14.out.1)
          have z3 : W.cell? ⟨w6.heap.size, 3, none⟩ = some (.slice none 0 0) := cell_of z9 rfl
          have f3 : W.frozen? ⟨w6.heap.size, 3, none⟩ = false := fz_of z9
          clear z9 y4
          go_wp2_with fail
          go_meet
          exact ⟨rfl, aF, cF, HF⟩
        case rest =>
         rename World => W15
         obtain ⟨rfl, aF, cF, H15⟩ := hcut
         clear T3 T4 T5
         have l := HDD.out
         have s3 := HW.out.2.2.2.1
         have cc3 : W15.cell? ⟨b, 3, none⟩ = some (.slice ap ps.length cp) := cell_of (H15.out.1.cellK HS.out.1.ss.bx (by omega)) rfl
         obtain ⟨z0, z1, z2, z3, z4⟩ := zd5 H15.out.2.1 rfl rfl rfl rfl rfl
         have F4 := H15.out.1.cellK H9.out.2.1 (show ¬ w.heap.size + 1 + 1 = w6.heap.size by omega)
         obtain ⟨o0, o1, o2, o3, o4⟩ := zd5 F4 rfl rfl rfl rfl rfl
         have fz0 : W15.frozen? ⟨w.heap.size + 1 + 1, 0, none⟩ = false := fz_of F4
         have fz1 : W15.frozen? ⟨w.heap.size + 1 + 1, 1, none⟩ = false := fz_of F4
         have fz2 : W15.frozen? ⟨w.heap.size + 1 + 1, 2, none⟩ = false := fz_of F4
         have fz3 : W15.frozen? ⟨w.heap.size + 1 + 1, 3, none⟩ = false := fz_of F4
         have fz4 : W15.frozen? ⟨w.heap.size + 1 + 1, 4, none⟩ = false := fz_of F4
         have O6 := hide (And.intro (set5 W15 (w.heap.size + 1 + 1) _ _ _ _ _ (.int .i64 (ps.length : Int)) (.int .i64 (m : Int)) (.slice av S0.length cv) (.slice aF Fn.length cF) (.slice ae es.length ce) 25 F4) (only5 W15 (w.heap.size + 1 + 1) (.int .i64 (ps.length : Int)) (.int .i64 (m : Int)) (.slice av S0.length cv) (.slice aF Fn.length cF) (.slice ae es.length ce)))
         have HF4 := hide F4
         clear F4
         have HRES : Hid (S0.length ≤ 4096 ∧ Fn.length ≤ 4096 ∧ es.length ≤ 65536 ∧ MeetR m N M S1 F1 E1 S2 F2 E2 ps S0 Fn es) := hide (by
          have q : MeetR m N M S1 F1 E1 S2 F2 E2 ps S0 (enT (finB F1) (finB F2) ps ps.length) es := meetR_of HG.out.2 HS.out.1.rn HS.out.2 HS.out.1.pl
          rw [HFn.out] at q
          have e1 := nodup_le HND.out q.sin
          have e2 := HG.out.1.le
          have e3 := HS.out.1.pl
          refine ⟨by omega, ?_, HS.out.2, q⟩
          rw [← HFn.out]
          exact Nat.le_trans (enT_len _ _ _ _) e3)
         have HFIN : Hid (∀ W', Only W15 W' (fun k => k = w.heap.size + 1 + 1) → OwnO w.heap.size W' (.slice av S0.length cv) (.slice aF Fn.length cF) (.slice ae es.length ce) S0 Fn es ∧ Below w.heap.size w W') := hide (fun W' o => by
          have e7 := hDe
          have e8 := HB7.out.size
          have e9 := H14.out.1.size
          have ea := HO9.out.size
          have ec := HG.out.1.on.size
          have eb := H8.out.2.2.2.2.2.2.size
          have lt1 := fun k hk => HG.out.1.ow.lt k hk
          have r1 := row_only HG.out.1.ow H8.out.2.2.2.2.2.2 (fun k hk e => by have := (lt1 k hk).1; omega)
          have r2 := row_only r1 HO9.out (fun k hk e => by have := (lt1 k hk).1; have := HKV.out.2.1 k hk; omega)
          have r3 := row_only r2 H15.out.1 (fun k hk e => by have := (lt1 k hk).1; omega)
          have r4 := row_only r3 o (fun k hk e => by have := (lt1 k hk).1; omega)
          have f4 := row_only H15.out.2.2 o (fun k hk e => by have := (H15.out.2.2.lt k hk).1; omega)
          have g3 := row_only HS.out.1.ss.eo H15.out.1 (fun k hk e => by have := (HS.out.1.ss.eo.lt k hk).1; omega)
          have g4 := row_only g3 o (fun k hk e => by have := (g3.lt k hk).1; omega)
          refine ⟨⟨owns_down r4 (by omega), owns_down f4 (by omega), owns_down g4 (by omega), fun g hg hh => ?_⟩, (H9.out.1.trans (H15.out.1.toBelow H9.out.1.size (fun k e => by omega))).trans (o.toBelow (by have := H9.out.1.size; have := H15.out.1.size; omega) (fun k e => by omega))⟩
          have u1 := (HG.out.1.ow.lt g hg).2
          have u2 := (H15.out.2.2.lt g hh).1
          omega)
         go_upto_region 16 with fail
         go_region_with fail
         all_goals
          go_wp2_with fail
          refine bodyPost_ret (results_c3 (p := 8) (q := 9) (r := 10) (ty := 25) rfl _ _ (w.heap.size + 1 + 1) 25 _ (0, 0) _ _ _ rfl rfl rfl O6.out.1 Tryz.underlying25 rfl (by kernel_rfl)) rfl ?_
          have q := HFIN.out _ (only_drew O6.out.2)
          exact ⟨(ps.length : Int), (m : Int), 0, ps, S0, Fn, es, av, cv, aF, cF, ae, ce, ap, cp, rfl, hide ⟨q.1, .inr ⟨rfl, rfl, rfl, HRES.out⟩⟩, q.2⟩
     · have F4 := H9.out.2.1
       obtain ⟨o0, o1, o2, o3, o4⟩ := zd5 F4 rfl rfl rfl rfl rfl
       have fz0 : w9.frozen? ⟨w.heap.size + 1 + 1, 0, none⟩ = false := fz_of F4
       have fz1 : w9.frozen? ⟨w.heap.size + 1 + 1, 1, none⟩ = false := fz_of F4
       have fz2 : w9.frozen? ⟨w.heap.size + 1 + 1, 2, none⟩ = false := fz_of F4
       have fz3 : w9.frozen? ⟨w.heap.size + 1 + 1, 3, none⟩ = false := fz_of F4
       have fz4 : w9.frozen? ⟨w.heap.size + 1 + 1, 4, none⟩ = false := fz_of F4
       have O6 := hide (And.intro (set5 w9 (w.heap.size + 1 + 1) _ _ _ _ _ (.int .i64 0) (.int .i64 0) (.slice none 0 0) (.slice none 0 0) (.slice none 0 0) 25 F4) (only5 w9 (w.heap.size + 1 + 1) (.int .i64 0) (.int .i64 0) (.slice none 0 0) (.slice none 0 0) (.slice none 0 0)))
       clear F4
       go_wp2_with fail
       refine bodyPost_ret (results_c3 (p := 8) (q := 9) (r := 10) (ty := 25) rfl _ _ (w.heap.size + 1 + 1) 25 _ (0, 0) _ _ _ rfl rfl rfl O6.out.1 Tryz.underlying25 rfl (by kernel_rfl)) rfl ?_
       have s2 := HW.out.2.2.2.1
       have s3 := H9.out.1.size
       exact meO_bad he2 rfl (H9.out.1.trans (O6.out.2.toBelow (by omega) (fun k hk => by omega)))
   · clear HB
     have F4 := H8.out.2.1
     obtain ⟨o0, o1, o2, o3, o4⟩ := zd5 F4 rfl rfl rfl rfl rfl
     have fz0 : W8.frozen? ⟨w.heap.size + 1 + 1, 0, none⟩ = false := fz_of F4
     have fz1 : W8.frozen? ⟨w.heap.size + 1 + 1, 1, none⟩ = false := fz_of F4
     have fz2 : W8.frozen? ⟨w.heap.size + 1 + 1, 2, none⟩ = false := fz_of F4
     have fz3 : W8.frozen? ⟨w.heap.size + 1 + 1, 3, none⟩ = false := fz_of F4
     have fz4 : W8.frozen? ⟨w.heap.size + 1 + 1, 4, none⟩ = false := fz_of F4
     have O6 := hide (And.intro (set5 W8 (w.heap.size + 1 + 1) _ _ _ _ _ (.int .i64 0) (.int .i64 0) (.slice none 0 0) (.slice none 0 0) (.slice none 0 0) 25 F4) (only5 W8 (w.heap.size + 1 + 1) (.int .i64 0) (.int .i64 0) (.slice none 0 0) (.slice none 0 0) (.slice none 0 0)))
     clear F4
     go_wp2_with fail
     refine bodyPost_ret (results_c3 (p := 8) (q := 9) (r := 10) (ty := 25) rfl _ _ (w.heap.size + 1 + 1) 25 _ (0, 0) _ _ _ rfl rfl rfl O6.out.1 Tryz.underlying25 rfl (by kernel_rfl)) rfl ?_
     have s2 := HW.out.2.2.2.1
     have s3 := H8.out.1.size
     exact meO_bad he rfl (H8.out.1.trans (O6.out.2.toBelow (by omega) (fun k hk => by omega)))
end Go.Proofs.YtchoopnjckcohaaGreatDoor
