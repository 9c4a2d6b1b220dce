import Derived.Test.YtchoopnjckcohaaGreatRows
import Derived.Test.YtchoopnjckcohaaGreatQag
import Derived.Laws.BitsLemmas
import Derived.ProofKit
import Derived.OpenShut
import Derived.ShutString
import Derived.Deep.DeepHandedRow
import Derived.Lib.LaidTab
import Derived.Lib.SmallJoins
import Derived.ChangeOld
import Derived.Lay
import Derived.Deep.Slices
namespace Go.Proofs.YtchoopnjckcohaaGreat
open Go.RowKit Go.Maps Go.Shelf
attribute [local go_sem] Oper.semAt_some
/-! ### paired -/
theorem rwA_low {B C : Nat} {W : World} {m R : Nat} {E : List EdT} {a : Option Addr} {n c g : Nat} (h : RwA B W m R E a n c g) (hC : C ≤ B) : RwA C W m R E a n c g := ⟨owns_down h.ow hC, h.fi, Nat.le_trans hC h.ge⟩
def dFi (f : Nat → Bool) (n : Nat) : MkP := fun x _ _ W => ∃ g, x = .slice (some ⟨g, 0, none⟩) n n ∧ Mrw W g 4 n (fun c => .bool (f c)) n
theorem dFi_mono {f : Nat → Bool} {n : Nat} : MonoP (dFi f n) := fun _ _ _ _ _ _ d ⟨g, e, h⟩ => ⟨g, e, h.below d h.lt⟩
def dEn (B : Nat) (Fn : List Int) : MkP := fun x _ _ W => ∃ aF cF, x = .slice aF Fn.length cF ∧ W.ownsRow B 3 1 (.slice aF Fn.length cF) Fn.length (Fn.map (Value.int .i64))
theorem dEn_mono {B : Nat} {Fn : List Int} : MonoP (dEn B Fn) := fun _ _ _ _ _ _ d ⟨a, c, e, h⟩ => ⟨a, c, e, own_below h d⟩
theorem nd_of {L : List Int} (h : L.Pairwise (· < ·)) : L.Nodup := h.imp fun h e => by omega
theorem prsL_nd {X Y : List Int} (d1 : X.Nodup) (d2 : Y.Nodup) : (prsL X Y).Nodup := by
  unfold prsL List.Nodup
  rw [List.pairwise_flatMap]
  refine ⟨fun a _ => List.pairwise_map.2 (d2.imp fun hne e => hne (Prod.mk.inj e).2), d1.imp fun hne x hx y hy e => ?_⟩
  obtain ⟨u, _, rfl⟩ := List.mem_map.1 hx
  obtain ⟨v, _, rfl⟩ := List.mem_map.1 hy
  exact hne (Prod.mk.inj e).1
theorem prsL_ok {X Y : List Int} {N M : Nat} (h1 : ∀ x ∈ X, ∃ q : Nat, q < N ∧ x = (q : Int)) (h2 : ∀ x ∈ Y, ∃ q : Nat, q < M ∧ x = (q : Int)) : ∀ t ∈ prsL X Y, ∃ p q : Nat, t = ((p : Int), (q : Int)) ∧ p < N ∧ q < M := by
  intro t ht
  unfold prsL at ht
  obtain ⟨a, ha, h⟩ := List.mem_flatMap.1 ht
  obtain ⟨b, hb, rfl⟩ := List.mem_map.1 h
  obtain ⟨p, hp, rfl⟩ := h1 a ha
  obtain ⟨q, hq, rfl⟩ := h2 b hb
  exact ⟨p, q, rfl, hp, hq⟩
theorem rnI_start {E1 E2 : List EdT} {m N M : Nat} {S1 S2 : List Int} {bud : Int} {ps : List PrT} {ns : List Int} (he : metF bud false [] (prsL S1 S2) [] = (0, ps, ns)) (ho : ∀ t ∈ prsL S1 S2, ∃ p q : Nat, t = ((p : Int), (q : Int)) ∧ p < N ∧ q < M) : RnI E1 E2 m N M ps ps [] 0 0 := by
  obtain ⟨_, k2, k3, _, _⟩ := metF_inv _ _ _ _ _ _ _ _ he List.nodup_nil
  have hh : ∀ a c, ¬ hnd m 0 0 a c := fun a c => by unfold hnd; omega
  refine ⟨⟨[], by simp⟩, k2, fun x hx => ?_, by simp, fun a c x y _ h => absurd h (hh a c), fun _ e => ?_⟩
  · rcases k3 x hx with e | e
    · simp at e
    · exact ho x e
  · constructor
    · intro e; simp at e
    · rintro ⟨a, c, x, y, _, h, _⟩
      exact absurd h (hh a c)
theorem nil_own {kv : Nat} : ∀ k, (Value.slice none 0 0).ownBlock = some k → k ≠ kv := fun k hk => by cases hk
/-- The block of the starts. -/
theorem start_blk {w8 : World} {B D b n : Nat} {av : Option Addr} {S0 : List Int} {cv : Nat} {vp : Value} {xs : List Value} (o : w8.ownsRow B 3 1 (.slice av S0.length cv) S0.length (S0.map (Value.int .i64))) (po : w8.ownsRow D 57 2 vp n xs) (hb : b < w8.heap.size) (hbD : b < D) : ∃ kv, kv < w8.heap.size ∧ (∀ k, (.slice av S0.length cv : Value).ownBlock = some k → k = kv) ∧ ∀ k, vp.ownBlock = some k → k ≠ kv := by
  rcases h : (.slice av S0.length cv : Value).ownBlock with _ | kv
  · refine ⟨b, hb, fun k e => ?_, fun k hk e => ?_⟩
    · cases e
    · have := (po.lt k hk).1; omega
  · refine ⟨kv, (o.lt kv h).2, fun k e => ?_, fun k hk e => ?_⟩
    · cases e; rfl
    · subst e; exact rows_differ po o (by decide) hk h
theorem p14_of {w9 : World} {g : Nat} {x0 x1 x2 x3 x4 u0 u4 : Value} (z : w9.heap[g]? = some (.cells #[x0, x1, x2, x3, x4] 25 (0, 0))) : Only w9 ((w9.setCell ⟨g, 0, none⟩ u0).setCell ⟨g, 4, none⟩ u4).drew (fun k => k = g) ∧ ((w9.setCell ⟨g, 0, none⟩ u0).setCell ⟨g, 4, none⟩ u4).drew.heap[g]? = some (.cells #[u0, x1, x2, x3, u4] 25 (0, 0)) := by
  have o := (only_set w9 g 0 u0).trans (only_set _ g 4 u4)
  refine ⟨⟨o.os, o.tape, o.output, o.size, o.block⟩, ?_⟩
  show ((w9.setCell ⟨g, 0, none⟩ u0).setCell ⟨g, 4, none⟩ u4).heap[g]? = _
  have := heap_setCell_same _ g 4 _ 25 u4 (heap_setCell_same w9 g 0 _ 25 u0 z)
  simpa using this
theorem p15_of {w9 W14 W : World} {g : Nat} {x0 x1 x2 x4 : Value} {aF : Option Addr} {cF : Nat} {Fn : List Int} (d : Below W14.heap.size W14 W) (z : W.heap[g]? = some (.cells #[x0, x1, x2, .slice none 0 0, x4] 25 (0, 0))) (y : W.ownsRow W14.heap.size 3 1 (.slice aF Fn.length cF) Fn.length (Fn.map (Value.int .i64))) (o : Only w9 W14 (fun k => k = g)) :
    Only w9 (W.setCell ⟨g, 3, none⟩ (.slice aF Fn.length cF)) (fun k => k = g) ∧ (W.setCell ⟨g, 3, none⟩ (.slice aF Fn.length cF)).heap[g]? = some (.cells #[x0, x1, x2, .slice aF Fn.length cF, x4] 25 (0, 0)) ∧ (W.setCell ⟨g, 3, none⟩ (.slice aF Fn.length cF)).ownsRow W14.heap.size 3 1 (.slice aF Fn.length cF) Fn.length (Fn.map (Value.int .i64)) := by
  have o2 := only_set W g 3 (.slice aF Fn.length cF)
  have s := heap_setCell_same W g 3 _ 25 (.slice aF Fn.length cF) z
  refine ⟨(o.trans (Only.ofBelow d)).trans o2, by simpa using s, own_keep y z (by decide) o2⟩
set_option maxRecDepth 100000 in
set_option maxHeartbeats 4000000 in
theorem paired_ok (w : World) (N M m : Nat) (bud0 : Int) (a1 a2 a3 o1 o2 o3 : Option Addr) (c1 c2 c3 d1 d2 d3 : Nat) (Sa Fa Sb Fb : List Int) (Ea Eb : List EdT) (hA : Hid (RdA w a1 a2 a3 Sa Fa Ea)) (hB : Hid (RdA w o1 o2 o3 Sb Fb Eb)) (h1 : Sa.length ≤ 2000000) (h2 : Fa.length ≤ 2000000) (h3 : Ea.length ≤ 2000000) (h4 : Sb.length ≤ 2000000) (h5 : Fb.length ≤ 2000000) (h6 : Eb.length ≤ 2000000) (em : mayA (N : Int) (m : Int) Sa Fa Ea = true) (em' : mayA (M : Int) (m : Int) Sb Fb Eb = true) :
    Calls Tryz.prog 21 #[.agg #[.int .i64 (N : Int), .int .i64 (m : Int), .slice a1 Sa.length c1, .slice a2 Fa.length c2, .slice a3 Ea.length c3], .agg #[.int .i64 (M : Int), .int .i64 (m : Int), .slice o1 Sb.length d1, .slice o2 Fb.length d2, .slice o3 Eb.length d3], .int .i64 bud0, .func (.func 22) #[] #[]] w (MeO w (MeetR m N M (riseL Sa) (riseL Fa) (riseE Ea) (riseL Sb) (riseL Fb) (riseE Eb)) (m : Int)) := by
  obtain ⟨W0, hW0⟩ : ∃ W0, ((w.alloc (.cells #[.int .i64 (N : Int), .int .i64 (m : Int), .slice a1 Sa.length c1, .slice a2 Fa.length c2, .slice a3 Ea.length c3] 25)).alloc (.cells #[.int .i64 (M : Int), .int .i64 (m : Int), .slice o1 Sb.length d1, .slice o2 Fb.length d2, .slice o3 Eb.length d3] 25)).alloc (.cells #[.int .i64 0, .int .i64 0, .slice none 0 0, .slice none 0 0, .slice none 0 0] 25) = W0 := ⟨_, rfl⟩
  have HD := hide (box3b w #[.int .i64 (N : Int), .int .i64 (m : Int), .slice a1 Sa.length c1, .slice a2 Fa.length c2, .slice a3 Ea.length c3] #[.int .i64 (M : Int), .int .i64 (m : Int), .slice o1 Sb.length d1, .slice o2 Fb.length d2, .slice o3 Eb.length d3] #[.int .i64 0, .int .i64 0, .slice none 0 0, .slice none 0 0, .slice none 0 0] 25)
  rw [hW0] at HD
  have TB := both_ok W0 (N : Int) (m : Int) (M : Int) a1 a2 a3 o1 o2 o3 c1 c2 c3 d1 d2 d3 Sa Fa Sb Fb Ea Eb (hide (hA.out.on HD.out.1)) (hide (hB.out.on HD.out.1)) (by omega) (by omega) (by omega) (by omega) (by omega) (by omega) em em'
  have hm : m ≤ 128 := by have := (may_parts em).2.1; omega
  have hNM : N ≤ 4096 ∧ M ≤ 4096 := by have := (may_parts em).1; have := (may_parts em').1; omega
  have Hin : Hid ((∀ x ∈ riseL Sa, ∃ q : Nat, q < N ∧ x = (q : Int)) ∧ (∀ x ∈ riseL Fa, ∃ q : Nat, q < N ∧ x = (q : Int)) ∧ (∀ x ∈ riseL Sb, ∃ q : Nat, q < M ∧ x = (q : Int)) ∧ (∀ x ∈ riseL Fb, ∃ q : Nat, q < M ∧ x = (q : Int))) := hide ⟨nat_in (may_st (may_rise em)).1, nat_in (may_st (may_rise em)).2, nat_in (may_st (may_rise em')).1, nat_in (may_st (may_rise em')).2⟩
  have hl : Hid ((riseL Sa).length ≤ 4096 ∧ (riseL Fa).length ≤ 2000000 ∧ (riseE Ea).length ≤ 2000000 ∧ (riseL Sb).length ≤ 4096 ∧ (riseL Fb).length ≤ 2000000 ∧ (riseE Eb).length ≤ 2000000) := hide ⟨Nat.le_trans (upN_rise (may_st em).1).len hNM.1, Nat.le_trans (riseL_len Fa) h2, Nat.le_trans (riseE_len Ea) h3, Nat.le_trans (upN_rise (may_st em').1).len hNM.2, Nat.le_trans (riseL_len Fb) h5, Nat.le_trans (riseE_len Eb) h6⟩
  have HND : Hid ((prsL (riseL Sa) (riseL Sb)).Nodup) := hide (prsL_nd (nd_of (riseL_ss Sa)) (nd_of (riseL_ss Sb)))
  have HQ : Hid (RnQ N m (riseE Ea) ∧ RnQ M m (riseE Eb)) := hide ⟨⟨riseE_ss Ea, fun e he => ((may_parts (may_rise em)).2.2.2.2.2 e he).2.1, fun e he => ((may_parts (may_rise em)).2.2.2.2.2 e he).2.2, hNM.1, hm, by have := hl.out; omega⟩, ⟨riseE_ss Eb, fun e he => ((may_parts (may_rise em')).2.2.2.2.2 e he).2.1, fun e he => ((may_parts (may_rise em')).2.2.2.2.2 e he).2.2, hNM.2, hm, by have := hl.out; omega⟩⟩
  have HFr : Hid ((∀ e ∈ riseE Ea, (0 ≤ e.1 ∧ e.1 < (N : Int)) ∧ 0 ≤ e.2.1 ∧ e.2.1 < (m : Int)) ∧ (∀ e ∈ riseE Eb, (0 ≤ e.1 ∧ e.1 < (M : Int)) ∧ 0 ≤ e.2.1 ∧ e.2.1 < (m : Int))) := hide ⟨fun e he => by have q := (may_parts (may_rise em)).2.2.2.2.2 e he; exact ⟨q.1, q.2.1⟩, fun e he => by have q := (may_parts (may_rise em')).2.2.2.2.2 e he; exact ⟨q.1, q.2.1⟩⟩
  clear em em'
  generalize riseL Sa = S1 at *
  generalize riseL Fa = F1 at *
  generalize riseE Ea = E1 at *
  generalize riseL Sb = S2 at *
  generalize riseL Fb = F2 at *
  generalize riseE Eb = E2 at *
  have cy0 : W0.cell? ⟨w.heap.size, 0, none⟩ = some (.int .i64 (N : Int)) := cell_of HD.out.2.1 rfl
  have cx0 : W0.cell? ⟨w.heap.size + 1, 0, none⟩ = some (.int .i64 (M : Int)) := cell_of HD.out.2.2.1 rfl
  have cy1 : W0.cell? ⟨w.heap.size, 1, none⟩ = some (.int .i64 (m : Int)) := cell_of HD.out.2.1 rfl
  have cx1 : W0.cell? ⟨w.heap.size + 1, 1, none⟩ = some (.int .i64 (m : Int)) := cell_of HD.out.2.2.1 rfl
  have cy2 : W0.cell? ⟨w.heap.size, 2, none⟩ = some (.slice a1 Sa.length c1) := cell_of HD.out.2.1 rfl
  have cx2 : W0.cell? ⟨w.heap.size + 1, 2, none⟩ = some (.slice o1 Sb.length d1) := cell_of HD.out.2.2.1 rfl
  have cy3 : W0.cell? ⟨w.heap.size, 3, none⟩ = some (.slice a2 Fa.length c2) := cell_of HD.out.2.1 rfl
  have cx3 : W0.cell? ⟨w.heap.size + 1, 3, none⟩ = some (.slice o2 Fb.length d2) := cell_of HD.out.2.2.1 rfl
  have cy4 : W0.cell? ⟨w.heap.size, 4, none⟩ = some (.slice a3 Ea.length c3) := cell_of HD.out.2.1 rfl
  have cx4 : W0.cell? ⟨w.heap.size + 1, 4, none⟩ = some (.slice o3 Eb.length d3) := cell_of HD.out.2.2.1 rfl
  go_enter Tryz.func21, Tryz.ntmps21
  go_upto_if 28 with (go_at_call 31; refine TB.mono ?_; rintro e w1 ⟨g1, k1, g2, k2, g3, k3, r1, q1, r2, q2, r3, q3, rfl, H1⟩)
  clear TB cy0 cx0 cy1 cx1 cy2 cx2 cy3 cx3 cy4 cx4
  obtain ⟨W1, hW1⟩ : ∃ W1, (w1.alloc (.cells #[.int .i64 (N : Int), .int .i64 (m : Int), .slice (some ⟨g1, 0, none⟩) S1.length k1, .slice (some ⟨g2, 0, none⟩) F1.length k2, .slice (some ⟨g3, 0, none⟩) E1.length k3] 25)).alloc (.cells #[.int .i64 (M : Int), .int .i64 (m : Int), .slice (some ⟨r1, 0, none⟩) S2.length q1, .slice (some ⟨r2, 0, none⟩) F2.length q2, .slice (some ⟨r3, 0, none⟩) E2.length q3] 25) = W1 := ⟨_, rfl⟩
  have HW : Hid (W1.heap[w1.heap.size]? = some (.cells #[.int .i64 (N : Int), .int .i64 (m : Int), .slice (some ⟨g1, 0, none⟩) S1.length k1, .slice (some ⟨g2, 0, none⟩) F1.length k2, .slice (some ⟨g3, 0, none⟩) E1.length k3] 25 (0, 0)) ∧ W1.heap[w1.heap.size + 1]? = some (.cells #[.int .i64 (M : Int), .int .i64 (m : Int), .slice (some ⟨r1, 0, none⟩) S2.length q1, .slice (some ⟨r2, 0, none⟩) F2.length q2, .slice (some ⟨r3, 0, none⟩) E2.length q3] 25 (0, 0)) ∧ W1.heap[w.heap.size + 1 + 1]? = some (.cells #[.int .i64 0, .int .i64 0, .slice none 0 0, .slice none 0 0, .slice none 0 0] 25 (0, 0)) ∧ w.heap.size + 3 ≤ W1.heap.size ∧ Below w.heap.size w W1) := hide (by
    have q := box2 w1 #[.int .i64 (N : Int), .int .i64 (m : Int), .slice (some ⟨g1, 0, none⟩) S1.length k1, .slice (some ⟨g2, 0, none⟩) F1.length k2, .slice (some ⟨g3, 0, none⟩) E1.length k3] #[.int .i64 (M : Int), .int .i64 (m : Int), .slice (some ⟨r1, 0, none⟩) S2.length q1, .slice (some ⟨r2, 0, none⟩) F2.length q2, .slice (some ⟨r3, 0, none⟩) E2.length q3] 25
    rw [hW1] at q
    have s := HD.out.2.2.2.2
    have d2 := H1.out.2.2.trans (q.1.mono H1.out.2.2.size)
    exact ⟨q.2.1, q.2.2.1, blk_on HD.out.2.2.2.1 d2, by have := d2.size; omega, HD.out.1.trans (d2.mono HD.out.1.size)⟩)
  have HX : Hid (OwnO w.heap.size W1 (.slice (some ⟨g1, 0, none⟩) S1.length k1) (.slice (some ⟨g2, 0, none⟩) F1.length k2) (.slice (some ⟨g3, 0, none⟩) E1.length k3) S1 F1 E1) := hide (by
    have q := box2 w1 #[.int .i64 (N : Int), .int .i64 (m : Int), .slice (some ⟨g1, 0, none⟩) S1.length k1, .slice (some ⟨g2, 0, none⟩) F1.length k2, .slice (some ⟨g3, 0, none⟩) E1.length k3] #[.int .i64 (M : Int), .int .i64 (m : Int), .slice (some ⟨r1, 0, none⟩) S2.length q1, .slice (some ⟨r2, 0, none⟩) F2.length q2, .slice (some ⟨r3, 0, none⟩) E2.length q3] 25
    rw [hW1] at q
    exact (H1.out.1.on q.1).down HD.out.1.size)
  have HY : Hid (OwnO w.heap.size W1 (.slice (some ⟨r1, 0, none⟩) S2.length q1) (.slice (some ⟨r2, 0, none⟩) F2.length q2) (.slice (some ⟨r3, 0, none⟩) E2.length q3) S2 F2 E2) := hide (by
    have q := box2 w1 #[.int .i64 (N : Int), .int .i64 (m : Int), .slice (some ⟨g1, 0, none⟩) S1.length k1, .slice (some ⟨g2, 0, none⟩) F1.length k2, .slice (some ⟨g3, 0, none⟩) E1.length k3] #[.int .i64 (M : Int), .int .i64 (m : Int), .slice (some ⟨r1, 0, none⟩) S2.length q1, .slice (some ⟨r2, 0, none⟩) F2.length q2, .slice (some ⟨r3, 0, none⟩) E2.length q3] 25
    rw [hW1] at q
    exact (H1.out.2.1.on q.1).down HD.out.1.size)
  rw [hW1]
  clear hW1 H1 HD hW0
  go_cut [2] (fun v2 W => ∃ bud : Int, v2 = .int .i64 bud ∧ W = W1)
  case first =>
    by_cases hb : bud0 ≤ 0
    · go_wp2_with fail
      go_meet
      exact ⟨_, rfl, rfl⟩
    · go_wp2_with fail
      go_meet
      exact ⟨_, rfl, rfl⟩
  case rest =>
    rename World => wc
    obtain ⟨bud, rfl, hw⟩ := hcut
    obtain rfl := hw.symm
    clear hw
    have T1 := hide (fun (W : World) (d : Below W1.heap.size W1 W) => newRows_any W N m (some ⟨g1, 0, none⟩) (some ⟨g2, 0, none⟩) (some ⟨g3, 0, none⟩) S1.length F1.length k1 k2 k3 E1 hNM.1 hm (hide (own_rdE (HX.out.on d).e)) (by have := hl.out; omega) (hide HFr.out.1))
    have T2 := hide (fun (W : World) (d : Below W1.heap.size W1 W) => newRows_any W M m (some ⟨r1, 0, none⟩) (some ⟨r2, 0, none⟩) (some ⟨r3, 0, none⟩) S2.length F2.length q1 q2 q3 E2 hNM.2 hm (hide (own_rdE (HY.out.on d).e)) (by have := hl.out; omega) (hide HFr.out.2))
    go_upto_region 6 with fail
    go_cut [14] (fun v14 W => ∃ b bm b1 b2 aX cX gX aY cY gY, v14 = .pointer (some ⟨b, 0, none⟩) ∧ Hid (PrB W1 m (N * m) (M * m) E1 E2 bud b bm b1 b2 aX cX gX aY cY gY W))
    case first =>
      have hmo : MonIL 0 [vI 0 (.func (.func 22) #[] #[]), vI 1 (.agg #[.int .i64 (N : Int), .int .i64 (m : Int), .slice (some ⟨g1, 0, none⟩) S1.length k1, .slice (some ⟨g2, 0, none⟩) F1.length k2, .slice (some ⟨g3, 0, none⟩) E1.length k3]), pI 2 (dRw W1.heap.size m (N * m) E1), vI 3 (.agg #[.int .i64 (M : Int), .int .i64 (m : Int), .slice (some ⟨r1, 0, none⟩) S2.length q1, .slice (some ⟨r2, 0, none⟩) F2.length q2, .slice (some ⟨r3, 0, none⟩) E2.length q3]), pI 4 (dRw W1.heap.size m (M * m) E2), pI 5 (dFn W1.heap.size m (N * m) (M * m) E1 E2), vI 6 (.int .i64 bud), pI 7 (dMp W1.heap.size), pI 8 (dSr W1.heap.size m (N * m) (M * m) E1 E2 bud), pI 9 (dBx W1.heap.size)] := ⟨vI_mono _ _, vI_mono _ _, pI_mono dRw_mono, vI_mono _ _, pI_mono dRw_mono, pI_mono dFn_mono, vI_mono _ _, pI_mono dMp_mono, pI_mono dSr_mono, pI_mono dBx_mono, trivial⟩
      refine wp_region_sl [vI 0 (.func (.func 22) #[] #[]), vI 1 (.agg #[.int .i64 (N : Int), .int .i64 (m : Int), .slice (some ⟨g1, 0, none⟩) S1.length k1, .slice (some ⟨g2, 0, none⟩) F1.length k2, .slice (some ⟨g3, 0, none⟩) E1.length k3]), pI 2 (dRw W1.heap.size m (N * m) E1), vI 3 (.agg #[.int .i64 (M : Int), .int .i64 (m : Int), .slice (some ⟨r1, 0, none⟩) S2.length q1, .slice (some ⟨r2, 0, none⟩) F2.length q2, .slice (some ⟨r3, 0, none⟩) E2.length q3]), pI 4 (dRw W1.heap.size m (M * m) E2), pI 5 (dFn W1.heap.size m (N * m) (M * m) E1 E2), vI 6 (.int .i64 bud), pI 7 (dMp W1.heap.size), pI 8 (dSr W1.heap.size m (N * m) (M * m) E1 E2 bud), pI 9 (dBx W1.heap.size)] (by kernel_rfl) (by kernel_rfl) (by kernel_rfl) (by kernel_rfl) hmo ⟨?o0, ?o1, ?o2, ?o3, ?o4, ?o5, ?o6, ?o7, ?o8, ?o9, trivial⟩ ?fin
      case o0 =>
        intro At yy W hy hb d hd K hK
        have s3 : At.tmps.getD 3 undef = .func (.func 22) #[] #[] := hb 3 rfl
        have s3' := s3
        rw [Array.getD_eq_getD_getElem?] at s3'
        clear hd hy hb
        go_simp
        exact hK.out _ W (stp_of hmo d (Below.refl _ _)) (if_pos rfl)
      case o1 =>
        intro At yy W hy hb d hd K hK
        have s11 : At.tmps.getD 11 undef = .pointer (some ⟨w1.heap.size, 0, none⟩) := hb 11 rfl
        have s11' := s11
        rw [Array.getD_eq_getD_getElem?] at s11'
        clear hd hy hb
        have bxX := blk_on HW.out.1 d
        have bxY := blk_on HW.out.2.1 d
        have cx0 : W.cell? ⟨w1.heap.size, 0, none⟩ = some (.int .i64 (N : Int)) := cell_of bxX rfl
        have cx1 : W.cell? ⟨w1.heap.size, 1, none⟩ = some (.int .i64 (m : Int)) := cell_of bxX rfl
        have cx2 : W.cell? ⟨w1.heap.size, 2, none⟩ = some (.slice (some ⟨g1, 0, none⟩) S1.length k1) := cell_of bxX rfl
        have cx3 : W.cell? ⟨w1.heap.size, 3, none⟩ = some (.slice (some ⟨g2, 0, none⟩) F1.length k2) := cell_of bxX rfl
        have cx4 : W.cell? ⟨w1.heap.size, 4, none⟩ = some (.slice (some ⟨g3, 0, none⟩) E1.length k3) := cell_of bxX rfl
        have cy0 : W.cell? ⟨w1.heap.size + 1, 0, none⟩ = some (.int .i64 (M : Int)) := cell_of bxY rfl
        have cy1 : W.cell? ⟨w1.heap.size + 1, 1, none⟩ = some (.int .i64 (m : Int)) := cell_of bxY rfl
        have cy2 : W.cell? ⟨w1.heap.size + 1, 2, none⟩ = some (.slice (some ⟨r1, 0, none⟩) S2.length q1) := cell_of bxY rfl
        have cy3 : W.cell? ⟨w1.heap.size + 1, 3, none⟩ = some (.slice (some ⟨r2, 0, none⟩) F2.length q2) := cell_of bxY rfl
        have cy4 : W.cell? ⟨w1.heap.size + 1, 4, none⟩ = some (.slice (some ⟨r3, 0, none⟩) E2.length q3) := cell_of bxY rfl
        clear bxX bxY
        go_simp
        exact hK.out _ W (stp_of hmo d (Below.refl _ _)) (if_pos rfl)
      case o2 =>
        intro At yy W hy hb d hd K hK
        have e1 : yy 1 = .agg #[.int .i64 (N : Int), .int .i64 (m : Int), .slice (some ⟨g1, 0, none⟩) S1.length k1, .slice (some ⟨g2, 0, none⟩) F1.length k2, .slice (some ⟨g3, 0, none⟩) E1.length k3] := by obtain ⟨_, _, _, _, e⟩ := hd ⟨1, .data⟩ (by simp) rfl rfl; exact e
        have s30 := (hy 1 _ 30 rfl rfl).trans e1
        have s30' := s30
        rw [Array.getD_eq_getD_getElem?] at s30'
        clear hd hy hb
        go_simp
        go_wp2_with (go_at_call 34; refine (T1.out _ d).mono ?_; rintro e wa ⟨aX, cX, gX, rfl, hR, dR⟩)
        exact hK.out _ wa (stp_of hmo d dR) ⟨aX, cX, gX, if_pos rfl, rwA_low hR.out d.size⟩
      case o3 =>
        intro At yy W hy hb d hd K hK
        have s12 : At.tmps.getD 12 undef = .pointer (some ⟨w1.heap.size + 1, 0, none⟩) := hb 12 rfl
        have s12' := s12
        rw [Array.getD_eq_getD_getElem?] at s12'
        clear hd hy hb
        have bxX := blk_on HW.out.1 d
        have bxY := blk_on HW.out.2.1 d
        have cx0 : W.cell? ⟨w1.heap.size, 0, none⟩ = some (.int .i64 (N : Int)) := cell_of bxX rfl
        have cx1 : W.cell? ⟨w1.heap.size, 1, none⟩ = some (.int .i64 (m : Int)) := cell_of bxX rfl
        have cx2 : W.cell? ⟨w1.heap.size, 2, none⟩ = some (.slice (some ⟨g1, 0, none⟩) S1.length k1) := cell_of bxX rfl
        have cx3 : W.cell? ⟨w1.heap.size, 3, none⟩ = some (.slice (some ⟨g2, 0, none⟩) F1.length k2) := cell_of bxX rfl
        have cx4 : W.cell? ⟨w1.heap.size, 4, none⟩ = some (.slice (some ⟨g3, 0, none⟩) E1.length k3) := cell_of bxX rfl
        have cy0 : W.cell? ⟨w1.heap.size + 1, 0, none⟩ = some (.int .i64 (M : Int)) := cell_of bxY rfl
        have cy1 : W.cell? ⟨w1.heap.size + 1, 1, none⟩ = some (.int .i64 (m : Int)) := cell_of bxY rfl
        have cy2 : W.cell? ⟨w1.heap.size + 1, 2, none⟩ = some (.slice (some ⟨r1, 0, none⟩) S2.length q1) := cell_of bxY rfl
        have cy3 : W.cell? ⟨w1.heap.size + 1, 3, none⟩ = some (.slice (some ⟨r2, 0, none⟩) F2.length q2) := cell_of bxY rfl
        have cy4 : W.cell? ⟨w1.heap.size + 1, 4, none⟩ = some (.slice (some ⟨r3, 0, none⟩) E2.length q3) := cell_of bxY rfl
        clear bxX bxY
        go_simp
        exact hK.out _ W (stp_of hmo d (Below.refl _ _)) (if_pos rfl)
      case o4 =>
        intro At yy W hy hb d hd K hK
        have e3 : yy 3 = .agg #[.int .i64 (M : Int), .int .i64 (m : Int), .slice (some ⟨r1, 0, none⟩) S2.length q1, .slice (some ⟨r2, 0, none⟩) F2.length q2, .slice (some ⟨r3, 0, none⟩) E2.length q3] := by obtain ⟨_, _, _, _, e⟩ := hd ⟨3, .data⟩ (by simp) rfl rfl; exact e
        have s32 := (hy 3 _ 32 rfl rfl).trans e3
        have s32' := s32
        rw [Array.getD_eq_getD_getElem?] at s32'
        clear hd hy hb
        go_simp
        go_wp2_with (go_at_call 34; refine (T2.out _ d).mono ?_; rintro e wa ⟨aY, cY, gY, rfl, hR, dR⟩)
        exact hK.out _ wa (stp_of hmo d dR) ⟨aY, cY, gY, if_pos rfl, rwA_low hR.out d.size⟩
      case o5 =>
        intro At yy W hy hb d hd K hK
        have e0 : yy 0 = .func (.func 22) #[] #[] := by obtain ⟨_, _, _, _, e⟩ := hd ⟨0, .data⟩ (by simp) rfl rfl; exact e
        have f2 := hd ⟨2, .data⟩ (by simp) rfl rfl
        have f4 := hd ⟨4, .data⟩ (by simp) rfl rfl
        obtain ⟨_, _, _, _, aX, cX, gX, e2, y2⟩ := f2
        obtain ⟨_, _, _, _, aY, cY, gY, e4, y4⟩ := f4
        have HZ := hide (two_box W #[.int .i64 (m : Int), .slice aX E1.length cX, .slice (some ⟨gX, 0, none⟩) (N * m + 1) (N * m + 1)] #[.int .i64 (m : Int), .slice aY E2.length cY, .slice (some ⟨gY, 0, none⟩) (M * m + 1) (M * m + 1)] 67 67)
        have s29 := (hy 0 _ 29 rfl rfl).trans e0
        have s29' := s29
        rw [Array.getD_eq_getD_getElem?] at s29'
        have s31 := (hy 2 _ 31 rfl rfl).trans e2
        have s31' := s31
        rw [Array.getD_eq_getD_getElem?] at s31'
        have s33 := (hy 4 _ 33 rfl rfl).trans e4
        have s33' := s33
        rw [Array.getD_eq_getD_getElem?] at s33'
        clear hd hy hb
        go_simp
        go_wp2_with (go_at_call 22; refine (trn_any _ _ _ _ _ _ _).mono ?_; rintro e wa ⟨rfl, hwa⟩; subst hwa)
        exact hK.out _ _ (stp_of hmo d HZ.out.1) ⟨W.heap.size, W.heap.size + 1, aX, cX, gX, aY, cY, gY, if_pos rfl, HZ.out.2.1, HZ.out.2.2.1, y2.on HZ.out.1, y4.on HZ.out.1⟩
      case o6 =>
        intro At yy W hy hb d hd K hK
        have s2 : At.tmps.getD 2 undef = .int .i64 bud := hb 2 rfl
        have s2' := s2
        rw [Array.getD_eq_getD_getElem?] at s2'
        clear hd hy hb
        go_simp
        exact hK.out _ W (stp_of hmo d (Below.refl _ _)) (if_pos rfl)
      case o7 =>
        intro At yy W hy hb d hd K hK
        clear hd hy hb
        go_simp
        exact hK.out _ _ (stp_of hmo d ((Below.refl _ _).alloc (Nat.le_refl _) _)) ⟨if_pos rfl, d.size, by simp, World.ownsMap_made _ _ _ _⟩
      case o8 =>
        intro At yy W hy hb d hd K hK
        have f5 := hd ⟨5, .data⟩ (by simp) rfl rfl
        have e6 : yy 6 = .int .i64 bud := by obtain ⟨_, _, _, _, e⟩ := hd ⟨6, .data⟩ (by simp) rfl rfl; exact e
        have f7 := hd ⟨7, .data⟩ (by simp) rfl rfl
        obtain ⟨_, _, _, _, b1, b2, aX, cX, gX, aY, cY, gY, e5, y5⟩ := f5
        obtain ⟨l7, _, _, _, e7, y7, _, m7⟩ := f7
        have s34 := (hy 5 _ 34 rfl rfl).trans e5
        have s34' := s34
        rw [Array.getD_eq_getD_getElem?] at s34'
        have s35 := (hy 6 _ 35 rfl rfl).trans e6
        have s35' := s35
        rw [Array.getD_eq_getD_getElem?] at s35'
        have s36 := (hy 7 _ 36 rfl rfl).trans e7
        have s36' := s36
        rw [Array.getD_eq_getD_getElem?] at s36'
        clear hd hy hb
        go_simp
        exact hK.out _ W (stp_of hmo d (Below.refl _ _)) ⟨b1, b2, aX, cX, gX, aY, cY, gY, l7, if_pos rfl, y5, y7, m7⟩
      case o9 =>
        intro At yy W hy hb d hd K hK
        clear hd hy hb
        go_simp
        exact hK.out _ _ (stp_of hmo d ((Below.refl _ _).alloc (Nat.le_refl _) _)) ⟨if_pos rfl, d.size, by simp, World.alloc_heap_new _ _⟩
      case fin =>
        intro yy lo hi W hM
        show wpList _ _ _ [_] _ _
        have e0 : yy 0 = .func (.func 22) #[] #[] := hM.fact 0 (by simp) rfl (notR_all 0 rfl)
        have e1 : yy 1 = .agg #[.int .i64 (N : Int), .int .i64 (m : Int), .slice (some ⟨g1, 0, none⟩) S1.length k1, .slice (some ⟨g2, 0, none⟩) F1.length k2, .slice (some ⟨g3, 0, none⟩) E1.length k3] := hM.fact 1 (by simp) rfl (notR_all 1 rfl)
        have e3 : yy 3 = .agg #[.int .i64 (M : Int), .int .i64 (m : Int), .slice (some ⟨r1, 0, none⟩) S2.length q1, .slice (some ⟨r2, 0, none⟩) F2.length q2, .slice (some ⟨r3, 0, none⟩) E2.length q3] := hM.fact 3 (by simp) rfl (notR_all 3 rfl)
        have e6 : yy 6 = .int .i64 bud := hM.fact 6 (by simp) rfl (notR_all 6 rfl)
        obtain ⟨b1, b2, aX, cX, gX, aY, cY, gY, bm, e8, y8, l8, m8⟩ := hM.fact 8 (by simp) rfl (notR_all 8 rfl)
        obtain ⟨e9, l9, _, z9⟩ := hM.fact 9 (by simp) rfl (notR_all 9 rfl)
        obtain ⟨_, _, _, e2, _⟩ := hM.fact 2 (by simp) rfl (notR_all 2 rfl)
        obtain ⟨_, _, _, e4, _⟩ := hM.fact 4 (by simp) rfl (notR_all 4 rfl)
        obtain ⟨_, _, _, _, _, _, _, _, e5, _⟩ := hM.fact 5 (by simp) rfl (notR_all 5 rfl)
        obtain ⟨e7, _⟩ := hM.fact 7 (by simp) rfl (notR_all 7 rfl)
        have HDD := hide hM.d
        simp only [fills, Act.put, List.take, List.length, List.setIfInBounds_toArray, List.set_cons_zero, List.set_cons_succ, e0, e1, e3, e6, e2, e4, e5, e7, e8, e9]
        generalize lo 9 = b at z9 l9 ⊢
        clear hM hmo e0 e1 e3 e6 e2 e4 e5 e7 e8 e9
        have HF := hide (prB_of (bud := bud) HDD.out z9 l9 l8 y8 m8)
        have z0 : W.cell? ⟨b, 0, none⟩ = some (.nilFunc) := cell_of z9 rfl
        have z1 : W.cell? ⟨b, 1, none⟩ = some (.int .i64 0) := cell_of z9 rfl
        have z2 : W.cell? ⟨b, 2, none⟩ = some (.map none) := cell_of z9 rfl
        have z3 : W.cell? ⟨b, 3, none⟩ = some (.slice none 0 0) := cell_of z9 rfl
        have z4 : W.cell? ⟨b, 4, none⟩ = some (.slice none 0 0) := cell_of z9 rfl
        have z5 : W.cell? ⟨b, 5, none⟩ = some (.slice none 0 0) := cell_of z9 rfl
        have f0 : W.frozen? ⟨b, 0, none⟩ = false := fz_of z9
        have f1 : W.frozen? ⟨b, 1, none⟩ = false := fz_of z9
        have f2 : W.frozen? ⟨b, 2, none⟩ = false := fz_of z9
        have f3 : W.frozen? ⟨b, 3, none⟩ = false := fz_of z9
        have f4 : W.frozen? ⟨b, 4, none⟩ = false := fz_of z9
        have f5 : W.frozen? ⟨b, 5, none⟩ = false := fz_of z9
        clear z9 y8 m8
        go_wp2_with fail
        go_meet
        exact ⟨b, bm, b1, b2, aX, cX, gX, aY, cY, gY, rfl, HF⟩
    case rest =>
      rename World => w6
      obtain ⟨b, bm, b1, b2, aX, cX, gX, aY, cY, gY, rfl, HP⟩ := hcut
      clear T1 T2 HFr
      have bxX := blk_on HW.out.1 HP.out.be
      have cx1 : w6.cell? ⟨w1.heap.size, 1, none⟩ = some (.int .i64 (m : Int)) := cell_of bxX rfl
      clear bxX
      go_upto_region 8 with fail
      clear cx1
      obtain ⟨W7, hW7⟩ : ∃ W7, w6.alloc (.cells #[.int .i64 0, .int .i64 (m : Int), .slice none 0 0, .slice none 0 0, .slice none 0 0] 25) = W7 := ⟨_, rfl⟩
      have H7 : Hid (Below w6.heap.size w6 W7 ∧ W7.heap[w6.heap.size]? = some (.cells #[.int .i64 0, .int .i64 (m : Int), .slice none 0 0, .slice none 0 0, .slice none 0 0] 25 (0, 0)) ∧ W7.heap.size = w6.heap.size + 1) := hide (by rw [← hW7]; exact ⟨(Below.refl _ _).alloc (Nat.le_refl _) _, World.alloc_heap_new _ _, by simp⟩)
      rw [hW7]
      clear hW7
      obtain ⟨D, hDe⟩ : ∃ D, W7.heap.size = D := ⟨_, rfl⟩
      have HB7 : Hid (Below W1.heap.size W1 W7) := hide (HP.out.be.trans (H7.out.1.mono HP.out.be.size))
      have HDD : Hid (b < D ∧ bm < D ∧ D ≤ W7.heap.size ∧ w6.heap.size < D ∧ W1.heap.size ≤ w6.heap.size ∧ w6.heap.size ≠ b ∧ w6.heap.size ≠ bm ∧ W1.heap.size ≤ b ∧ W1.heap.size ≤ bm) := hide (by
        have q1 := (Array.getElem?_eq_some_iff.1 HP.out.bx).1
        have q2 := HP.out.mo.lt
        have q3 := H7.out.2.2
        have q4 := HP.out.be.size
        have q5 := HP.out.lb
        have q6 := HP.out.lm
        omega)
      have HSS := hide (HP.out.ss H7.out.1 D)
      have HR1 : Hid (RwT (fun k => k < w6.heap.size ∧ k ≠ b ∧ k ≠ bm) W7 b1 W1.heap.size m (N * m) E1 aX cX gX) := hide (rwT_of HP.out.bx HP.out.mo H7.out.1 (Nat.le_refl _) HP.out.tw.h1 HP.out.tw.r1)
      have HR2 : Hid (RwT (fun k => k < w6.heap.size ∧ k ≠ b ∧ k ≠ bm) W7 b2 W1.heap.size m (M * m) E2 aY cY gY) := hide (rwT_of HP.out.bx HP.out.mo H7.out.1 (Nat.le_refl _) HP.out.tw.h2 HP.out.tw.r2)
      have HA1 : Hid (∀ W', KpT (fun k => k < D ∧ k ≠ b ∧ k ≠ bm) W7 W' → RdN W' (some ⟨g1, 0, none⟩) S1) := hide (fun W' k => own_rdN (row_kp (HX.out.on HB7.out).s k (fun i hi => by have := (HX.out.s.lt i hi).2; have := HDD.out; omega)))
      have HA2 : Hid (∀ W', KpT (fun k => k < D ∧ k ≠ b ∧ k ≠ bm) W7 W' → RdN W' (some ⟨r1, 0, none⟩) S2) := hide (fun W' k => own_rdN (row_kp (HY.out.on HB7.out).s k (fun i hi => by have := (HY.out.s.lt i hi).2; have := HDD.out; omega)))
      have HOK := hide (prsL_ok Hin.out.1 Hin.out.2.2.1)
      have TG := begin_any W7 D b bm (.func (.func 39) #[] #[.pointer (some ⟨b1, 0, none⟩), .pointer (some ⟨b2, 0, none⟩)]) bud (some ⟨g1, 0, none⟩) (some ⟨r1, 0, none⟩) k1 q1 S1 S2 HSS (hide ⟨HDD.out.1, HDD.out.2.1, HDD.out.2.2.1⟩) HA1 HA2 (hide (fun t ht => okPr_of hNM.1 hNM.2 (HOK.out t ht))) hl.out.1 hl.out.2.2.2.1
      have HC8 : Hid (∀ W, Only W7 W (fun k => k = b ∨ k = bm ∨ D ≤ k) → W.heap[w6.heap.size]? = some (.cells #[.int .i64 0, .int .i64 (m : Int), .slice none 0 0, .slice none 0 0, .slice none 0 0] 25 (0, 0))) := hide (fun W o => o.cellK H7.out.2.1 (by have := HDD.out; omega))
      have bxX := blk_on HW.out.1 HB7.out
      have bxY := blk_on HW.out.2.1 HB7.out
      have cx2 : W7.cell? ⟨w1.heap.size, 2, none⟩ = some (.slice (some ⟨g1, 0, none⟩) S1.length k1) := cell_of bxX rfl
      have cy2 : W7.cell? ⟨w1.heap.size + 1, 2, none⟩ = some (.slice (some ⟨r1, 0, none⟩) S2.length q1) := cell_of bxY rfl
      clear bxX bxY
      go_upto_region 9 with (go_at_call 35; refine TG.mono ?_; rintro e w8 ⟨av, nv, cv, er, rfl, HB⟩; have F8 := HC8.out w8 HB.out.on; have z2 : w8.cell? ⟨w6.heap.size, 2, none⟩ = some (.slice none 0 0) := cell_of F8 rfl; have f2 : w8.frozen? ⟨w6.heap.size, 2, none⟩ = false := fz_of F8; clear F8)
      clear TG cx2 cy2 z2 f2
      obtain ⟨W8, hW8⟩ : ∃ W8, w8.setCell ⟨w6.heap.size, 2, none⟩ (.slice av nv cv) = W8 := ⟨_, rfl⟩
      have H8 : Hid (Below w.heap.size w W8 ∧ W8.heap[w.heap.size + 1 + 1]? = some (.cells #[.int .i64 0, .int .i64 0, .slice none 0 0, .slice none 0 0, .slice none 0 0] 25 (0, 0)) ∧ W8.heap[w1.heap.size]? = some (.cells #[.int .i64 (N : Int), .int .i64 (m : Int), .slice (some ⟨g1, 0, none⟩) S1.length k1, .slice (some ⟨g2, 0, none⟩) F1.length k2, .slice (some ⟨g3, 0, none⟩) E1.length k3] 25 (0, 0)) ∧ W8.heap[w1.heap.size + 1]? = some (.cells #[.int .i64 (M : Int), .int .i64 (m : Int), .slice (some ⟨r1, 0, none⟩) S2.length q1, .slice (some ⟨r2, 0, none⟩) F2.length q2, .slice (some ⟨r3, 0, none⟩) E2.length q3] 25 (0, 0)) ∧ W8.heap[w6.heap.size]? = some (.cells #[.int .i64 0, .int .i64 (m : Int), .slice av nv cv, .slice none 0 0, .slice none 0 0] 25 (0, 0)) ∧ Below W1.heap.size W1 W8 ∧ Only w8 W8 (fun k => k = w6.heap.size)) := hide (by
        have o1 := HB.out.on
        have o2 := only_set w8 w6.heap.size 2 (.slice av nv cv)
        rw [hW8] at o2
        have s := heap_setCell_same w8 w6.heap.size 2 _ 25 (.slice av nv cv) (HC8.out w8 o1)
        rw [hW8] at s
        have l := HDD.out
        have d1 : Below W1.heap.size W1 w8 := HB7.out.trans (o1.toBelow HB7.out.size (fun k e => by omega))
        have d2 := d1.trans (o2.toBelow d1.size (fun k e => by omega))
        exact ⟨HW.out.2.2.2.2.trans (d2.mono HW.out.2.2.2.2.size), blk_on HW.out.2.2.1 d2, blk_on HW.out.1 d2, blk_on HW.out.2.1 d2, by simpa using s, d2, o2⟩)
      rw [hW8]
      clear hW8
      by_cases he : er = 0
      · subst he
        obtain ⟨vp, ps0, S0, HG0⟩ : ∃ vp ps ns, BgI W7 D b bm (.func (.func 39) #[] #[.pointer (some ⟨b1, 0, none⟩), .pointer (some ⟨b2, 0, none⟩)]) bud (prsL S1 S2) (prsL S1 S2).length (.slice av nv cv) vp ps ns w8 ∧ metF bud false [] (prsL S1 S2) [] = (0, ps, ns) := by
          rcases HB.out with ⟨q, _⟩ | ⟨_, q⟩
          · exact absurd rfl q
          · exact q
        have HG := hide HG0
        clear HG0 HB
        obtain rfl : nv = S0.length := by
          obtain ⟨_, _, q⟩ := own_slice HG.out.1.ow
          cases q
          rfl
        obtain ⟨kv, HKV0⟩ := start_blk (b := b) HG.out.1.ow HG.out.1.ss.po (by have := HDD.out; have := HG.out.1.on.size; omega) HDD.out.1
        have HKV := hide HKV0
        clear HKV0
        have HS8 : Hid (RnS W8 D b bm kv (.func (.func 39) #[] #[.pointer (some ⟨b1, 0, none⟩), .pointer (some ⟨b2, 0, none⟩)]) bud E1 E2 m N M ps0 0 0 vp (.slice none 0 0) (.slice none 0 0) ps0 [] 0 [] W8) := hide (by
          have l := HDD.out
          refine ⟨HG.out.1.ss.onlyR H8.out.2.2.2.2.2.2 (by omega) (by omega) (fun k hk e => by have := (HG.out.1.ss.po.lt k hk).1; omega) (fun k hk => by cases hk) (fun k hk => by cases hk), ⟨rfl, rfl, rfl, Nat.le_refl _, fun _ _ _ => rfl⟩, rnI_start HG.out.2 HOK.out, HG.out.1.pl, HKV.out.2.2, nil_own, nil_own⟩)
        have HK8 : Hid (KpT (fun k => k < w6.heap.size ∧ k ≠ b ∧ k ≠ bm) W7 W8) := hide ((KpT.ofOnly HG.out.1.on (fun k h1 h2 => by have := HDD.out; omega)).trans (KpT.ofOnly H8.out.2.2.2.2.2.2 (fun k h1 h2 => by omega)))
        have TR := run_any W8 D b bm kv b1 b2 W1.heap.size W1.heap.size m N M E1 E2 aX aY cX cY gX gY bud vp (.slice none 0 0) (.slice none 0 0) ps0 [] 0 [] HS8 (hide ⟨HDD.out.1, HDD.out.2.1, Nat.le_trans HDD.out.2.2.1 HK8.out.size⟩) (Nat.lt_of_lt_of_le HKV.out.1 H8.out.2.2.2.2.2.2.size) (hide ((HR1.out.kp HK8.out).weak (fun k h => by have := HDD.out; omega))) (hide ((HR2.out.kp HK8.out).weak (fun k h => by have := HDD.out; omega))) HQ
        have cx1 : W8.cell? ⟨w1.heap.size, 1, none⟩ = some (.int .i64 (m : Int)) := cell_of H8.out.2.2.1 rfl
        go_upto_region 12 with (go_at_call 36; refine TR.mono ?_; rintro e w9 ⟨er, rfl, HR⟩)
        clear TR cx1
        have HO9 : Hid (Only W8 w9 (fun k => k = b ∨ k = bm ∨ (D ≤ k ∧ k ≠ kv))) := hide (by
          rcases HR.out with ⟨_, q⟩ | ⟨_, _, _, _, _, _, _, _, q, _⟩
          · exact q
          · exact q.on)
        have H9 : Hid (Below w.heap.size w w9 ∧ w9.heap[w.heap.size + 1 + 1]? = some (.cells #[.int .i64 0, .int .i64 0, .slice none 0 0, .slice none 0 0, .slice none 0 0] 25 (0, 0)) ∧ w9.heap[w1.heap.size]? = some (.cells #[.int .i64 (N : Int), .int .i64 (m : Int), .slice (some ⟨g1, 0, none⟩) S1.length k1, .slice (some ⟨g2, 0, none⟩) F1.length k2, .slice (some ⟨g3, 0, none⟩) E1.length k3] 25 (0, 0)) ∧ w9.heap[w1.heap.size + 1]? = some (.cells #[.int .i64 (M : Int), .int .i64 (m : Int), .slice (some ⟨r1, 0, none⟩) S2.length q1, .slice (some ⟨r2, 0, none⟩) F2.length q2, .slice (some ⟨r3, 0, none⟩) E2.length q3] 25 (0, 0)) ∧ w9.heap[w6.heap.size]? = some (.cells #[.int .i64 0, .int .i64 (m : Int), .slice av S0.length cv, .slice none 0 0, .slice none 0 0] 25 (0, 0)) ∧ Below W1.heap.size W1 w9) := hide (by
          have l := HDD.out
          have d2 := H8.out.2.2.2.2.2.1
          have d3 : Below W1.heap.size W1 w9 := d2.trans (HO9.out.toBelow d2.size (fun k e => by omega))
          exact ⟨HW.out.2.2.2.2.trans (d3.mono HW.out.2.2.2.2.size), blk_on HW.out.2.2.1 d3, blk_on HW.out.1 d3, blk_on HW.out.2.1 d3, HO9.out.cellK H8.out.2.2.2.2.1 (by omega), d3⟩)
        by_cases he2 : er = 0
        · subst he2
          obtain ⟨vp9, ve9, vn9, ps, es, nn, xn, HS0, hes⟩ : ∃ vp ve vn ps es nn xn, RnS W8 D b bm kv (.func (.func 39) #[] #[.pointer (some ⟨b1, 0, none⟩), .pointer (some ⟨b2, 0, none⟩)]) bud E1 E2 m N M ps0 ps.length 0 vp ve vn ps es nn xn w9 ∧ es.length ≤ 65536 := by
            rcases HR.out with ⟨q, _⟩ | ⟨_, q⟩
            · exact absurd rfl q
            · exact q
          clear HR
          obtain ⟨ap, cp, hvp⟩ := own_slice HS0.ss.po
          obtain ⟨ae, ce, hve⟩ := own_slice HS0.ss.eo
          subst hvp
          subst hve
          have HS := hide (And.intro HS0 hes)
          clear HS0 hes
          have cc3 : w9.cell? ⟨b, 3, none⟩ = some (.slice ap ps.length cp) := cell_of HS.out.1.ss.bx rfl
          have cc4 : w9.cell? ⟨b, 4, none⟩ = some (.slice ae es.length ce) := cell_of HS.out.1.ss.bx rfl
          have z0 : w9.cell? ⟨w6.heap.size, 0, none⟩ = some (.int .i64 0) := cell_of H9.out.2.2.2.2.1 rfl
          have f0 : w9.frozen? ⟨w6.heap.size, 0, none⟩ = false := fz_of H9.out.2.2.2.2.1
          have z1 : w9.cell? ⟨w6.heap.size, 1, none⟩ = some (.int .i64 (m : Int)) := cell_of H9.out.2.2.2.2.1 rfl
          have f1 : w9.frozen? ⟨w6.heap.size, 1, none⟩ = false := fz_of H9.out.2.2.2.2.1
          have z2 : w9.cell? ⟨w6.heap.size, 2, none⟩ = some (.slice av S0.length cv) := cell_of H9.out.2.2.2.2.1 rfl
          have f2 : w9.frozen? ⟨w6.heap.size, 2, none⟩ = false := fz_of H9.out.2.2.2.2.1
          have z3 : w9.cell? ⟨w6.heap.size, 3, none⟩ = some (.slice none 0 0) := cell_of H9.out.2.2.2.2.1 rfl
          have f3 : w9.frozen? ⟨w6.heap.size, 3, none⟩ = false := fz_of H9.out.2.2.2.2.1
          have z4 : w9.cell? ⟨w6.heap.size, 4, none⟩ = some (.slice none 0 0) := cell_of H9.out.2.2.2.2.1 rfl
          have f4 : w9.frozen? ⟨w6.heap.size, 4, none⟩ = false := fz_of H9.out.2.2.2.2.1
          go_upto_region 14 with fail
          go_cut [15] (fun v15 W => v15 = .pointer (some ⟨w6.heap.size, 0, none⟩) ∧ Hid (Only w9 W (fun k => k = w6.heap.size) ∧ W.heap[w6.heap.size]? = some (.cells #[.int .i64 (ps.length : Int), .int .i64 (m : Int), .slice av S0.length cv, .slice none 0 0, .slice ae es.length ce] 25 (0, 0))))
          case first =>
            go_region_with fail
            all_goals
              first | (go_wp2_with fail; go_meet) | go_meet
              exact ⟨rfl, hide (p14_of H9.out.2.2.2.2.1)⟩
          case rest =>
            rename World => W14
            obtain ⟨rfl, H14⟩ := hcut
            clear cc3 cc4 z0 z1 z2 z3 z4 f0 f1 f2 f3 f4
            have HX14 : Hid (W14.heap[w1.heap.size]? = some (.cells #[.int .i64 (N : Int), .int .i64 (m : Int), .slice (some ⟨g1, 0, none⟩) S1.length k1, .slice (some ⟨g2, 0, none⟩) F1.length k2, .slice (some ⟨g3, 0, none⟩) E1.length k3] 25 (0, 0)) ∧ W14.heap[w1.heap.size + 1]? = some (.cells #[.int .i64 (M : Int), .int .i64 (m : Int), .slice (some ⟨r1, 0, none⟩) S2.length q1, .slice (some ⟨r2, 0, none⟩) F2.length q2, .slice (some ⟨r3, 0, none⟩) E2.length q3] 25 (0, 0))) := hide (by
              have l := HDD.out
              have l1 := (Array.getElem?_eq_some_iff.1 HW.out.1).1
              have l2 := (Array.getElem?_eq_some_iff.1 HW.out.2.1).1
              exact ⟨H14.out.1.cellK H9.out.2.2.1 (by omega), H14.out.1.cellK H9.out.2.2.2.1 (by omega)⟩)
            have HB14 : Hid (Below W1.heap.size W1 W14) := hide (H9.out.2.2.2.2.2.trans (H14.out.1.toBelow H9.out.2.2.2.2.2.size (fun k e => by have := HDD.out; omega)))
            have HS14 : Hid (SS D W14 b bm (.func (.func 39) #[] #[.pointer (some ⟨b1, 0, none⟩), .pointer (some ⟨b2, 0, none⟩)]) bud (.slice ap ps.length cp) (.slice ae es.length ce) vn9 ps es nn xn) := hide (by
              have l := HDD.out
              exact HS.out.1.ss.onlyR H14.out.1 (by omega) (by omega) (fun k hk e => by have := (HS.out.1.ss.po.lt k hk).1; omega) (fun k hk e => by have := (HS.out.1.ss.eo.lt k hk).1; omega) (fun k hk e => by have := (HS.out.1.ss.no.lt k hk).1; omega))
            have HBD : Hid (∀ x ∈ ps, (0 ≤ x.1 ∧ x.1 < (N : Int)) ∧ 0 ≤ x.2 ∧ x.2 < (M : Int)) := hide (fun x hx => by
              obtain ⟨p, q, rfl, l1, l2⟩ := HS.out.1.rn.bd x hx
              simp only
              omega)
            have T3 := hide (fun (W : World) (d : Below W14.heap.size W14 W) => finals_any W N (m : Int) (some ⟨g1, 0, none⟩) (some ⟨g2, 0, none⟩) (some ⟨g3, 0, none⟩) k1 k2 k3 S1.length E1.length F1 (hide (own_rdN ((HX.out.on HB14.out).on d).f)) (hide Hin.out.2.1) (by have := hl.out; omega) (by omega))
            have T4 := hide (fun (W : World) (d : Below W14.heap.size W14 W) => finals_any W M (m : Int) (some ⟨r1, 0, none⟩) (some ⟨r2, 0, none⟩) (some ⟨r3, 0, none⟩) q1 q2 q3 S2.length E2.length F2 (hide (own_rdN ((HY.out.on HB14.out).on d).f)) (hide Hin.out.2.2.2) (by have := hl.out; omega) (by omega))
            have T5 := hide (fun (W : World) (d : Below W14.heap.size W14 W) (h1 h2 : Nat) (y1 : Mrw W h1 4 N (fun c => .bool (finB F1 c)) N) (y2 : Mrw W h2 4 M (fun c => .bool (finB F2 c)) M) => ending_any W D b bm (.func (.func 39) #[] #[.pointer (some ⟨b1, 0, none⟩), .pointer (some ⟨b2, 0, none⟩)]) bud (.slice ap ps.length cp) (.slice ae es.length ce) vn9 ps es nn xn h1 h2 N M (finB F1) (finB F2) (hide (HS14.out.on d)) (hide y1) (hide y2) HBD HS.out.1.pl)
            obtain ⟨Fn, hFn⟩ : ∃ Fn, enT (finB F1) (finB F2) ps ps.length = Fn := ⟨_, rfl⟩
            rw [hFn] at T5
            have HFn := hide hFn
            clear hFn
            go_upto_region 15 with fail
            go_cut [15] (fun v15 W => v15 = .pointer (some ⟨w6.heap.size, 0, none⟩) ∧ ∃ aF cF, Hid (Only w9 W (fun k => k = w6.heap.size) ∧ W.heap[w6.heap.size]? = some (.cells #[.int .i64 (ps.length : Int), .int .i64 (m : Int), .slice av S0.length cv, .slice aF Fn.length cF, .slice ae es.length ce] 25 (0, 0)) ∧ W.ownsRow W14.heap.size 3 1 (.slice aF Fn.length cF) Fn.length (Fn.map (Value.int .i64))))
            case first =>
              have hmo : MonIL 0 [vI 0 (.agg #[.int .i64 (N : Int), .int .i64 (m : Int), .slice (some ⟨g1, 0, none⟩) S1.length k1, .slice (some ⟨g2, 0, none⟩) F1.length k2, .slice (some ⟨g3, 0, none⟩) E1.length k3]), pI 1 (dFi (finB F1) N), vI 2 (.agg #[.int .i64 (M : Int), .int .i64 (m : Int), .slice (some ⟨r1, 0, none⟩) S2.length q1, .slice (some ⟨r2, 0, none⟩) F2.length q2, .slice (some ⟨r3, 0, none⟩) E2.length q3]), pI 3 (dFi (finB F2) M), pI 4 (dEn W14.heap.size Fn)] := ⟨vI_mono _ _, pI_mono dFi_mono, vI_mono _ _, pI_mono dFi_mono, pI_mono dEn_mono, trivial⟩
              refine wp_region_sl [vI 0 (.agg #[.int .i64 (N : Int), .int .i64 (m : Int), .slice (some ⟨g1, 0, none⟩) S1.length k1, .slice (some ⟨g2, 0, none⟩) F1.length k2, .slice (some ⟨g3, 0, none⟩) E1.length k3]), pI 1 (dFi (finB F1) N), vI 2 (.agg #[.int .i64 (M : Int), .int .i64 (m : Int), .slice (some ⟨r1, 0, none⟩) S2.length q1, .slice (some ⟨r2, 0, none⟩) F2.length q2, .slice (some ⟨r3, 0, none⟩) E2.length q3]), pI 3 (dFi (finB F2) M), pI 4 (dEn W14.heap.size Fn)] (by kernel_rfl) (by kernel_rfl) (by kernel_rfl) (by kernel_rfl) hmo ⟨?o0, ?o1, ?o2, ?o3, ?o4, trivial⟩ ?fin
              case o0 =>
                intro At yy W hy hb d hd K hK
                have s11 : At.tmps.getD 11 undef = .pointer (some ⟨w1.heap.size, 0, none⟩) := hb 11 rfl
                have s11' := s11
                rw [Array.getD_eq_getD_getElem?] at s11'
                clear hd hy hb
                have bxX := blk_on HX14.out.1 d
                have bxY := blk_on HX14.out.2 d
                have cx0 : W.cell? ⟨w1.heap.size, 0, none⟩ = some (.int .i64 (N : Int)) := cell_of bxX rfl
                have cx1 : W.cell? ⟨w1.heap.size, 1, none⟩ = some (.int .i64 (m : Int)) := cell_of bxX rfl
                have cx2 : W.cell? ⟨w1.heap.size, 2, none⟩ = some (.slice (some ⟨g1, 0, none⟩) S1.length k1) := cell_of bxX rfl
                have cx3 : W.cell? ⟨w1.heap.size, 3, none⟩ = some (.slice (some ⟨g2, 0, none⟩) F1.length k2) := cell_of bxX rfl
                have cx4 : W.cell? ⟨w1.heap.size, 4, none⟩ = some (.slice (some ⟨g3, 0, none⟩) E1.length k3) := cell_of bxX rfl
                have cy0 : W.cell? ⟨w1.heap.size + 1, 0, none⟩ = some (.int .i64 (M : Int)) := cell_of bxY rfl
                have cy1 : W.cell? ⟨w1.heap.size + 1, 1, none⟩ = some (.int .i64 (m : Int)) := cell_of bxY rfl
                have cy2 : W.cell? ⟨w1.heap.size + 1, 2, none⟩ = some (.slice (some ⟨r1, 0, none⟩) S2.length q1) := cell_of bxY rfl
                have cy3 : W.cell? ⟨w1.heap.size + 1, 3, none⟩ = some (.slice (some ⟨r2, 0, none⟩) F2.length q2) := cell_of bxY rfl
                have cy4 : W.cell? ⟨w1.heap.size + 1, 4, none⟩ = some (.slice (some ⟨r3, 0, none⟩) E2.length q3) := cell_of bxY rfl
                clear bxX bxY
                go_simp
                exact hK.out _ W (stp_of hmo d (Below.refl _ _)) (if_pos rfl)
              case o1 =>
                intro At yy W hy hb d hd K hK
                have e0 : yy 0 = .agg #[.int .i64 (N : Int), .int .i64 (m : Int), .slice (some ⟨g1, 0, none⟩) S1.length k1, .slice (some ⟨g2, 0, none⟩) F1.length k2, .slice (some ⟨g3, 0, none⟩) E1.length k3] := by obtain ⟨_, _, _, _, e⟩ := hd ⟨0, .data⟩ (by simp) rfl rfl; exact e
                have s68 := (hy 0 _ 68 rfl rfl).trans e0
                have s68' := s68
                rw [Array.getD_eq_getD_getElem?] at s68'
                clear hd hy hb
                go_simp
                go_wp2_with (go_at_call 38; refine (T3.out _ d).mono ?_; rintro e wa ⟨gf, rfl, hR, dR⟩)
                exact hK.out _ wa (stp_of hmo d dR) ⟨gf, if_pos rfl, hR.out.1⟩
              case o2 =>
                intro At yy W hy hb d hd K hK
                have s12 : At.tmps.getD 12 undef = .pointer (some ⟨w1.heap.size + 1, 0, none⟩) := hb 12 rfl
                have s12' := s12
                rw [Array.getD_eq_getD_getElem?] at s12'
                clear hd hy hb
                have bxX := blk_on HX14.out.1 d
                have bxY := blk_on HX14.out.2 d
                have cx0 : W.cell? ⟨w1.heap.size, 0, none⟩ = some (.int .i64 (N : Int)) := cell_of bxX rfl
                have cx1 : W.cell? ⟨w1.heap.size, 1, none⟩ = some (.int .i64 (m : Int)) := cell_of bxX rfl
                have cx2 : W.cell? ⟨w1.heap.size, 2, none⟩ = some (.slice (some ⟨g1, 0, none⟩) S1.length k1) := cell_of bxX rfl
                have cx3 : W.cell? ⟨w1.heap.size, 3, none⟩ = some (.slice (some ⟨g2, 0, none⟩) F1.length k2) := cell_of bxX rfl
                have cx4 : W.cell? ⟨w1.heap.size, 4, none⟩ = some (.slice (some ⟨g3, 0, none⟩) E1.length k3) := cell_of bxX rfl
                have cy0 : W.cell? ⟨w1.heap.size + 1, 0, none⟩ = some (.int .i64 (M : Int)) := cell_of bxY rfl
                have cy1 : W.cell? ⟨w1.heap.size + 1, 1, none⟩ = some (.int .i64 (m : Int)) := cell_of bxY rfl
                have cy2 : W.cell? ⟨w1.heap.size + 1, 2, none⟩ = some (.slice (some ⟨r1, 0, none⟩) S2.length q1) := cell_of bxY rfl
                have cy3 : W.cell? ⟨w1.heap.size + 1, 3, none⟩ = some (.slice (some ⟨r2, 0, none⟩) F2.length q2) := cell_of bxY rfl
                have cy4 : W.cell? ⟨w1.heap.size + 1, 4, none⟩ = some (.slice (some ⟨r3, 0, none⟩) E2.length q3) := cell_of bxY rfl
                clear bxX bxY
                go_simp
                exact hK.out _ W (stp_of hmo d (Below.refl _ _)) (if_pos rfl)
              case o3 =>
                intro At yy W hy hb d hd K hK
                have e2 : yy 2 = .agg #[.int .i64 (M : Int), .int .i64 (m : Int), .slice (some ⟨r1, 0, none⟩) S2.length q1, .slice (some ⟨r2, 0, none⟩) F2.length q2, .slice (some ⟨r3, 0, none⟩) E2.length q3] := by obtain ⟨_, _, _, _, e⟩ := hd ⟨2, .data⟩ (by simp) rfl rfl; exact e
                have s70 := (hy 2 _ 70 rfl rfl).trans e2
                have s70' := s70
                rw [Array.getD_eq_getD_getElem?] at s70'
                clear hd hy hb
                go_simp
                go_wp2_with (go_at_call 38; refine (T4.out _ d).mono ?_; rintro e wa ⟨gf, rfl, hR, dR⟩)
                exact hK.out _ wa (stp_of hmo d dR) ⟨gf, if_pos rfl, hR.out.1⟩
              case o4 =>
                intro At yy W hy hb d hd K hK
                have f1 := hd ⟨1, .data⟩ (by simp) rfl rfl
                have f3 := hd ⟨3, .data⟩ (by simp) rfl rfl
                obtain ⟨_, _, _, _, h1, e1, y1⟩ := f1
                obtain ⟨_, _, _, _, h2, e3, y3⟩ := f3
                have s14 : At.tmps.getD 14 undef = .pointer (some ⟨b, 0, none⟩) := hb 14 rfl
                have s14' := s14
                rw [Array.getD_eq_getD_getElem?] at s14'
                have s69 := (hy 1 _ 69 rfl rfl).trans e1
                have s69' := s69
                rw [Array.getD_eq_getD_getElem?] at s69'
                have s71 := (hy 3 _ 71 rfl rfl).trans e3
                have s71' := s71
                rw [Array.getD_eq_getD_getElem?] at s71'
                clear hd hy hb
                go_simp
                go_wp2_with (go_at_call 37; refine (T5.out _ d h1 h2 y1 y3).mono ?_; rintro e wa ⟨v', rfl, hR⟩; obtain ⟨aF, cF, rfl⟩ := own_slice hR.out.1)
                exact hK.out _ wa (stp_of hmo d hR.out.2) ⟨aF, cF, if_pos rfl, owns_down hR.out.1 d.size⟩
              case fin =>
                intro yy lo hi W hM
                show wpList _ _ _ [_, _] _ _
                have e0 : yy 0 = .agg #[.int .i64 (N : Int), .int .i64 (m : Int), .slice (some ⟨g1, 0, none⟩) S1.length k1, .slice (some ⟨g2, 0, none⟩) F1.length k2, .slice (some ⟨g3, 0, none⟩) E1.length k3] := hM.fact 0 (by simp) rfl (notR_all 0 rfl)
                have e2 : yy 2 = .agg #[.int .i64 (M : Int), .int .i64 (m : Int), .slice (some ⟨r1, 0, none⟩) S2.length q1, .slice (some ⟨r2, 0, none⟩) F2.length q2, .slice (some ⟨r3, 0, none⟩) E2.length q3] := hM.fact 2 (by simp) rfl (notR_all 2 rfl)
                obtain ⟨aF, cF, e4, y4⟩ := hM.fact 4 (by simp) rfl (notR_all 4 rfl)
                obtain ⟨_, e1, _⟩ := hM.fact 1 (by simp) rfl (notR_all 1 rfl)
                obtain ⟨_, e3, _⟩ := hM.fact 3 (by simp) rfl (notR_all 3 rfl)
                have HDD := hide hM.d
                simp only [fills, Act.put, List.take, List.length, List.setIfInBounds_toArray, List.set_cons_zero, List.set_cons_succ, e0, e2, e1, e3, e4]
                clear hM hmo e0 e2 e1 e3 e4
                have z9 := blk_on H14.out.2 HDD.out
                have HF := hide (p15_of HDD.out z9 y4 H14.out.1)
                have z3 : W.cell? ⟨w6.heap.size, 3, none⟩ = some (.slice none 0 0) := cell_of z9 rfl
                have f3 : W.frozen? ⟨w6.heap.size, 3, none⟩ = false := fz_of z9
                clear z9 y4
                go_wp2_with fail
                go_meet
                exact ⟨rfl, aF, cF, HF⟩
            case rest =>
              rename World => W15
              obtain ⟨rfl, aF, cF, H15⟩ := hcut
              clear T3 T4 T5
              have l := HDD.out
              have s3 := HW.out.2.2.2.1
              have cc3 : W15.cell? ⟨b, 3, none⟩ = some (.slice ap ps.length cp) := cell_of (H15.out.1.cellK HS.out.1.ss.bx (by omega)) rfl
              have z0 : W15.cell? ⟨w6.heap.size, 0, none⟩ = some (.int .i64 (ps.length : Int)) := cell_of H15.out.2.1 rfl
              have z1 : W15.cell? ⟨w6.heap.size, 1, none⟩ = some (.int .i64 (m : Int)) := cell_of H15.out.2.1 rfl
              have z2 : W15.cell? ⟨w6.heap.size, 2, none⟩ = some (.slice av S0.length cv) := cell_of H15.out.2.1 rfl
              have z3 : W15.cell? ⟨w6.heap.size, 3, none⟩ = some (.slice aF Fn.length cF) := cell_of H15.out.2.1 rfl
              have z4 : W15.cell? ⟨w6.heap.size, 4, none⟩ = some (.slice ae es.length ce) := cell_of H15.out.2.1 rfl
              have F4 := H15.out.1.cellK H9.out.2.1 (show ¬ w.heap.size + 1 + 1 = w6.heap.size by omega)
              have o0 : W15.cell? ⟨w.heap.size + 1 + 1, 0, none⟩ = some (.int .i64 0) := cell_of F4 rfl
              have fz0 : W15.frozen? ⟨w.heap.size + 1 + 1, 0, none⟩ = false := fz_of F4
              have o1 : W15.cell? ⟨w.heap.size + 1 + 1, 1, none⟩ = some (.int .i64 0) := cell_of F4 rfl
              have fz1 : W15.frozen? ⟨w.heap.size + 1 + 1, 1, none⟩ = false := fz_of F4
              have o2 : W15.cell? ⟨w.heap.size + 1 + 1, 2, none⟩ = some (.slice none 0 0) := cell_of F4 rfl
              have fz2 : W15.frozen? ⟨w.heap.size + 1 + 1, 2, none⟩ = false := fz_of F4
              have o3 : W15.cell? ⟨w.heap.size + 1 + 1, 3, none⟩ = some (.slice none 0 0) := cell_of F4 rfl
              have fz3 : W15.frozen? ⟨w.heap.size + 1 + 1, 3, none⟩ = false := fz_of F4
              have o4 : W15.cell? ⟨w.heap.size + 1 + 1, 4, none⟩ = some (.slice none 0 0) := cell_of F4 rfl
              have fz4 : W15.frozen? ⟨w.heap.size + 1 + 1, 4, none⟩ = false := fz_of F4
              have O6 := hide (And.intro (set5 W15 (w.heap.size + 1 + 1) _ _ _ _ _ (.int .i64 (ps.length : Int)) (.int .i64 (m : Int)) (.slice av S0.length cv) (.slice aF Fn.length cF) (.slice ae es.length ce) 25 F4) (only5 W15 (w.heap.size + 1 + 1) (.int .i64 (ps.length : Int)) (.int .i64 (m : Int)) (.slice av S0.length cv) (.slice aF Fn.length cF) (.slice ae es.length ce)))
              have HF4 := hide F4
              clear F4
              have HRES : Hid (S0.length ≤ 4096 ∧ Fn.length ≤ 4096 ∧ es.length ≤ 65536 ∧ MeetR m N M S1 F1 E1 S2 F2 E2 ps S0 Fn es) := hide (by
                have q : MeetR m N M S1 F1 E1 S2 F2 E2 ps S0 (enT (finB F1) (finB F2) ps ps.length) es := meetR_of HG.out.2 HS.out.1.rn HS.out.2 HS.out.1.pl
                rw [HFn.out] at q
                have e1 := nodup_le HND.out q.sin
                have e2 := HG.out.1.le
                have e3 := HS.out.1.pl
                refine ⟨by omega, ?_, HS.out.2, q⟩
                rw [← HFn.out]
                exact Nat.le_trans (enT_len _ _ _ _) e3)
              have HFIN : Hid (∀ W', Only W15 W' (fun k => k = w.heap.size + 1 + 1) → OwnO w.heap.size W' (.slice av S0.length cv) (.slice aF Fn.length cF) (.slice ae es.length ce) S0 Fn es ∧ Below w.heap.size w W') := hide (fun W' o => by
                have e7 := hDe
                have e8 := HB7.out.size
                have e9 := H14.out.1.size
                have ea := HO9.out.size
                have ec := HG.out.1.on.size
                have eb := H8.out.2.2.2.2.2.2.size
                have lt1 := fun k hk => HG.out.1.ow.lt k hk
                have r1 := row_only HG.out.1.ow H8.out.2.2.2.2.2.2 (fun k hk e => by have := (lt1 k hk).1; omega)
                have r2 := row_only r1 HO9.out (fun k hk e => by have := (lt1 k hk).1; have := HKV.out.2.1 k hk; omega)
                have r3 := row_only r2 H15.out.1 (fun k hk e => by have := (lt1 k hk).1; omega)
                have r4 := row_only r3 o (fun k hk e => by have := (lt1 k hk).1; omega)
                have f4 := row_only H15.out.2.2 o (fun k hk e => by have := (H15.out.2.2.lt k hk).1; omega)
                have g3 := row_only HS.out.1.ss.eo H15.out.1 (fun k hk e => by have := (HS.out.1.ss.eo.lt k hk).1; omega)
                have g4 := row_only g3 o (fun k hk e => by have := (g3.lt k hk).1; omega)
                refine ⟨⟨owns_down r4 (by omega), owns_down f4 (by omega), owns_down g4 (by omega), fun g hg hh => ?_⟩, (H9.out.1.trans (H15.out.1.toBelow H9.out.1.size (fun k e => by omega))).trans (o.toBelow (by have := H9.out.1.size; have := H15.out.1.size; omega) (fun k e => by omega))⟩
                have u1 := (HG.out.1.ow.lt g hg).2
                have u2 := (H15.out.2.2.lt g hh).1
                omega)
              go_upto_region 16 with fail
              go_region_with fail
              all_goals
                go_wp2_with fail
                refine bodyPost_ret (results_c3 (p := 8) (q := 9) (r := 10) (ty := 25) rfl _ _ (w.heap.size + 1 + 1) 25 _ (0, 0) _ _ _ rfl rfl rfl O6.out.1 Tryz.underlying25 rfl (by kernel_rfl)) rfl ?_
                have q := HFIN.out _ (only_drew O6.out.2)
                exact ⟨(ps.length : Int), (m : Int), 0, ps, S0, Fn, es, av, cv, aF, cF, ae, ce, ap, cp, rfl, hide ⟨q.1, .inr ⟨rfl, rfl, rfl, HRES.out⟩⟩, q.2⟩
        · have F4 := H9.out.2.1
          have o0 : w9.cell? ⟨w.heap.size + 1 + 1, 0, none⟩ = some (.int .i64 0) := cell_of F4 rfl
          have fz0 : w9.frozen? ⟨w.heap.size + 1 + 1, 0, none⟩ = false := fz_of F4
          have o1 : w9.cell? ⟨w.heap.size + 1 + 1, 1, none⟩ = some (.int .i64 0) := cell_of F4 rfl
          have fz1 : w9.frozen? ⟨w.heap.size + 1 + 1, 1, none⟩ = false := fz_of F4
          have o2 : w9.cell? ⟨w.heap.size + 1 + 1, 2, none⟩ = some (.slice none 0 0) := cell_of F4 rfl
          have fz2 : w9.frozen? ⟨w.heap.size + 1 + 1, 2, none⟩ = false := fz_of F4
          have o3 : w9.cell? ⟨w.heap.size + 1 + 1, 3, none⟩ = some (.slice none 0 0) := cell_of F4 rfl
          have fz3 : w9.frozen? ⟨w.heap.size + 1 + 1, 3, none⟩ = false := fz_of F4
          have o4 : w9.cell? ⟨w.heap.size + 1 + 1, 4, none⟩ = some (.slice none 0 0) := cell_of F4 rfl
          have fz4 : w9.frozen? ⟨w.heap.size + 1 + 1, 4, none⟩ = false := fz_of F4
          have O6 := hide (And.intro (set5 w9 (w.heap.size + 1 + 1) _ _ _ _ _ (.int .i64 0) (.int .i64 0) (.slice none 0 0) (.slice none 0 0) (.slice none 0 0) 25 F4) (only5 w9 (w.heap.size + 1 + 1) (.int .i64 0) (.int .i64 0) (.slice none 0 0) (.slice none 0 0) (.slice none 0 0)))
          clear F4
          go_wp2_with fail
          refine bodyPost_ret (results_c3 (p := 8) (q := 9) (r := 10) (ty := 25) rfl _ _ (w.heap.size + 1 + 1) 25 _ (0, 0) _ _ _ rfl rfl rfl O6.out.1 Tryz.underlying25 rfl (by kernel_rfl)) rfl ?_
          have s2 := HW.out.2.2.2.1
          have s3 := H9.out.1.size
          exact meO_bad he2 rfl (H9.out.1.trans (O6.out.2.toBelow (by omega) (fun k hk => by omega)))
      · clear HB
        have F4 := H8.out.2.1
        have o0 : W8.cell? ⟨w.heap.size + 1 + 1, 0, none⟩ = some (.int .i64 0) := cell_of F4 rfl
        have fz0 : W8.frozen? ⟨w.heap.size + 1 + 1, 0, none⟩ = false := fz_of F4
        have o1 : W8.cell? ⟨w.heap.size + 1 + 1, 1, none⟩ = some (.int .i64 0) := cell_of F4 rfl
        have fz1 : W8.frozen? ⟨w.heap.size + 1 + 1, 1, none⟩ = false := fz_of F4
        have o2 : W8.cell? ⟨w.heap.size + 1 + 1, 2, none⟩ = some (.slice none 0 0) := cell_of F4 rfl
        have fz2 : W8.frozen? ⟨w.heap.size + 1 + 1, 2, none⟩ = false := fz_of F4
        have o3 : W8.cell? ⟨w.heap.size + 1 + 1, 3, none⟩ = some (.slice none 0 0) := cell_of F4 rfl
        have fz3 : W8.frozen? ⟨w.heap.size + 1 + 1, 3, none⟩ = false := fz_of F4
        have o4 : W8.cell? ⟨w.heap.size + 1 + 1, 4, none⟩ = some (.slice none 0 0) := cell_of F4 rfl
        have fz4 : W8.frozen? ⟨w.heap.size + 1 + 1, 4, none⟩ = false := fz_of F4
        have O6 := hide (And.intro (set5 W8 (w.heap.size + 1 + 1) _ _ _ _ _ (.int .i64 0) (.int .i64 0) (.slice none 0 0) (.slice none 0 0) (.slice none 0 0) 25 F4) (only5 W8 (w.heap.size + 1 + 1) (.int .i64 0) (.int .i64 0) (.slice none 0 0) (.slice none 0 0) (.slice none 0 0)))
        clear F4
        go_wp2_with fail
        refine bodyPost_ret (results_c3 (p := 8) (q := 9) (r := 10) (ty := 25) rfl _ _ (w.heap.size + 1 + 1) 25 _ (0, 0) _ _ _ rfl rfl rfl O6.out.1 Tryz.underlying25 rfl (by kernel_rfl)) rfl ?_
        have s2 := HW.out.2.2.2.1
        have s3 := H8.out.1.size
        exact meO_bad he rfl (H8.out.1.trans (O6.out.2.toBelow (by omega) (fun k hk => by omega)))
/-! ### Meet -/
/-- What Meet's answer is: of two automata over one alphabet. -/
def MetQ (n m n' m' : Int) (Sa Fa : List Int) (Ea : List EdT) (Sb Fb : List Int) (Eb : List EdT) (ps : List PrT) (S F : List Int) (E : List EdT) : Prop := mayA n m Sa Fa Ea = true ∧ mayA n' m' Sb Fb Eb = true ∧ m = m' ∧ MeetR m.toNat n.toNat n'.toNat (riseL Sa) (riseL Fa) (riseE Ea) (riseL Sb) (riseL Fb) (riseE Eb) ps S F E
theorem meO_mono {w : World} {R R' : List PrT → List Int → List Int → List EdT → Prop} {m : Int} (h : ∀ ps S F E, R ps S F E → R' ps S F E) {e : Ending} {w' : World} (q : MeO w R m e w') : MeO w R' m e w' := by
  obtain ⟨n, mm, er, ps, S, F, E, x1, y1, x2, y2, x3, y3, xp, yp, he, hq, d⟩ := q
  refine ⟨n, mm, er, ps, S, F, E, x1, y1, x2, y2, x3, y3, xp, yp, he, hide ⟨hq.out.1, ?_⟩, d⟩
  rcases hq.out.2 with h0 | ⟨h0, h1, h2, h3, h4, h5, h6⟩
  · exact .inl h0
  · exact .inr ⟨h0, h1, h2, h3, h4, h5, h _ _ _ _ h6⟩
theorem paired_any (w : World) (n m n' m' bud0 : Int) (a1 a2 a3 b1 b2 b3 : Option Addr) (c1 c2 c3 d1 d2 d3 : Nat) (Sa Fa Sb Fb : List Int) (Ea Eb : List EdT) (hA : Hid (RdA w a1 a2 a3 Sa Fa Ea)) (hB : Hid (RdA w b1 b2 b3 Sb Fb Eb)) (h1 : Sa.length ≤ 2000000) (h2 : Fa.length ≤ 2000000) (h3 : Ea.length ≤ 2000000) (h4 : Sb.length ≤ 2000000) (h5 : Fb.length ≤ 2000000) (h6 : Eb.length ≤ 2000000) : Calls Tryz.prog 21 #[.agg #[.int .i64 n, .int .i64 m, .slice a1 Sa.length c1, .slice a2 Fa.length c2, .slice a3 Ea.length c3], .agg #[.int .i64 n', .int .i64 m', .slice b1 Sb.length d1, .slice b2 Fb.length d2, .slice b3 Eb.length d3], .int .i64 bud0, .func (.func 22) #[] #[]] w (MeO w (MetQ n m n' m' Sa Fa Ea Sb Fb Eb) m) := by
  cases em : mayA n m Sa Fa Ea with
  | false => exact paired_a w n m n' m' bud0 a1 a2 a3 b1 b2 b3 c1 c2 c3 d1 d2 d3 Sa Fa Sb Fb Ea Eb hA hB h1 h2 h3 h4 h5 h6 _ em
  | true =>
    cases em' : mayA n' m' Sb Fb Eb with
    | false => exact paired_b w n m n' m' bud0 a1 a2 a3 b1 b2 b3 c1 c2 c3 d1 d2 d3 Sa Fa Sb Fb Ea Eb hA hB h1 h2 h3 h4 h5 h6 _ em em'
    | true =>
      by_cases hm : m = m'
      · subst hm
        obtain ⟨N, rfl⟩ := Int.eq_ofNat_of_zero_le (show 0 ≤ n by have := (may_parts em).1; omega)
        obtain ⟨M, rfl⟩ := Int.eq_ofNat_of_zero_le (show 0 ≤ n' by have := (may_parts em').1; omega)
        obtain ⟨k, rfl⟩ := Int.eq_ofNat_of_zero_le (show 0 ≤ m by have := (may_parts em).2.1; omega)
        exact (paired_ok w N M k bud0 a1 a2 a3 b1 b2 b3 c1 c2 c3 d1 d2 d3 Sa Fa Sb Fb Ea Eb hA hB h1 h2 h3 h4 h5 h6 em em').mono (fun e w' q => meO_mono (fun ps S F E q => ⟨em, em', rfl, q⟩) q)
      · exact paired_m w n m n' m' bud0 a1 a2 a3 b1 b2 b3 c1 c2 c3 d1 d2 d3 Sa Fa Sb Fb Ea Eb hA hB h1 h2 h3 h4 h5 h6 _ em em' hm
set_option maxRecDepth 100000 in
set_option maxHeartbeats 4000000 in
theorem shuf_any (w : World) (n m n' m' bud0 : Int) (a1 a2 a3 b1 b2 b3 : Option Addr) (c1 c2 c3 d1 d2 d3 : Nat) (Sa Fa Sb Fb : List Int) (Ea Eb : List EdT) (hA : Hid (RdA w a1 a2 a3 Sa Fa Ea)) (hB : Hid (RdA w b1 b2 b3 Sb Fb Eb)) (h1 : Sa.length ≤ 2000000) (h2 : Fa.length ≤ 2000000) (h3 : Ea.length ≤ 2000000) (h4 : Sb.length ≤ 2000000) (h5 : Fb.length ≤ 2000000) (h6 : Eb.length ≤ 2000000) : Calls Tryz.prog 6 #[.agg #[.int .i64 n, .int .i64 m, .slice a1 Sa.length c1, .slice a2 Fa.length c2, .slice a3 Ea.length c3], .agg #[.int .i64 n', .int .i64 m', .slice b1 Sb.length d1, .slice b2 Fb.length d2, .slice b3 Eb.length d3], .int .i64 bud0] w (MeO w (MetQ n m n' m' Sa Fa Ea Sb Fb Eb) m) := by
  obtain ⟨W0, hW0⟩ : ∃ W0, ((w.alloc (.cells #[.int .i64 n, .int .i64 m, .slice a1 Sa.length c1, .slice a2 Fa.length c2, .slice a3 Ea.length c3] 25)).alloc (.cells #[.int .i64 n', .int .i64 m', .slice b1 Sb.length d1, .slice b2 Fb.length d2, .slice b3 Eb.length d3] 25)).alloc (.cells #[.int .i64 0, .int .i64 0, .slice none 0 0, .slice none 0 0, .slice none 0 0] 25) = W0 := ⟨_, rfl⟩
  have HD := hide (box3b w #[.int .i64 n, .int .i64 m, .slice a1 Sa.length c1, .slice a2 Fa.length c2, .slice a3 Ea.length c3] #[.int .i64 n', .int .i64 m', .slice b1 Sb.length d1, .slice b2 Fb.length d2, .slice b3 Eb.length d3] #[.int .i64 0, .int .i64 0, .slice none 0 0, .slice none 0 0, .slice none 0 0] 25)
  rw [hW0] at HD
  have TB := paired_any W0 n m n' m' bud0 a1 a2 a3 b1 b2 b3 c1 c2 c3 d1 d2 d3 Sa Fa Sb Fb Ea Eb (hide (hA.out.on HD.out.1)) (hide (hB.out.on HD.out.1)) h1 h2 h3 h4 h5 h6
  have HS := hide HD.out.2.2.2.2
  have y0 : W0.cell? ⟨w.heap.size, 0, none⟩ = some (.int .i64 n) := cell_of HD.out.2.1 rfl
  have y1 : W0.cell? ⟨w.heap.size, 1, none⟩ = some (.int .i64 m) := cell_of HD.out.2.1 rfl
  have y2 : W0.cell? ⟨w.heap.size, 2, none⟩ = some (.slice a1 Sa.length c1) := cell_of HD.out.2.1 rfl
  have y3 : W0.cell? ⟨w.heap.size, 3, none⟩ = some (.slice a2 Fa.length c2) := cell_of HD.out.2.1 rfl
  have y4 : W0.cell? ⟨w.heap.size, 4, none⟩ = some (.slice a3 Ea.length c3) := cell_of HD.out.2.1 rfl
  have x0 : W0.cell? ⟨w.heap.size + 1, 0, none⟩ = some (.int .i64 n') := cell_of HD.out.2.2.1 rfl
  have x1 : W0.cell? ⟨w.heap.size + 1, 1, none⟩ = some (.int .i64 m') := cell_of HD.out.2.2.1 rfl
  have x2 : W0.cell? ⟨w.heap.size + 1, 2, none⟩ = some (.slice b1 Sb.length d1) := cell_of HD.out.2.2.1 rfl
  have x3 : W0.cell? ⟨w.heap.size + 1, 3, none⟩ = some (.slice b2 Fb.length d2) := cell_of HD.out.2.2.1 rfl
  have x4 : W0.cell? ⟨w.heap.size + 1, 4, none⟩ = some (.slice b3 Eb.length d3) := cell_of HD.out.2.2.1 rfl
  go_enter Tryz.func6, Tryz.ntmps6
  go_wp2_with (go_at_call 21; refine TB.mono ?_; rintro e w1 ⟨n9, m9, er, ps, S, F, E, x1, y1, x2, y2, x3, y3, xp, yp, rfl, H1, D1⟩; have F4 := blk_on HD.out.2.2.2.1 D1; have HD1 := hide D1; have o0 : w1.cell? ⟨w.heap.size + 1 + 1, 0, none⟩ = some (.int .i64 0) := cell_of F4 rfl; have fz0 : w1.frozen? ⟨w.heap.size + 1 + 1, 0, none⟩ = false := fz_of F4; have o1 : w1.cell? ⟨w.heap.size + 1 + 1, 1, none⟩ = some (.int .i64 0) := cell_of F4 rfl; have fz1 : w1.frozen? ⟨w.heap.size + 1 + 1, 1, none⟩ = false := fz_of F4; have o2 : w1.cell? ⟨w.heap.size + 1 + 1, 2, none⟩ = some (.slice none 0 0) := cell_of F4 rfl; have fz2 : w1.frozen? ⟨w.heap.size + 1 + 1, 2, none⟩ = false := fz_of F4; have o3 : w1.cell? ⟨w.heap.size + 1 + 1, 3, none⟩ = some (.slice none 0 0) := cell_of F4 rfl; have fz3 : w1.frozen? ⟨w.heap.size + 1 + 1, 3, none⟩ = false := fz_of F4; have o4 : w1.cell? ⟨w.heap.size + 1 + 1, 4, none⟩ = some (.slice none 0 0) := cell_of F4 rfl; have fz4 : w1.frozen? ⟨w.heap.size + 1 + 1, 4, none⟩ = false := fz_of F4; have HF4 := hide F4; clear F4 D1)
  have O6 := hide (And.intro (set5 w1 (w.heap.size + 1 + 1) _ _ _ _ _ (.int .i64 n9) (.int .i64 m9) (.slice x1 S.length y1) (.slice x2 F.length y2) (.slice x3 E.length y3) 25 HF4.out) (only5 w1 (w.heap.size + 1 + 1) (.int .i64 n9) (.int .i64 m9) (.slice x1 S.length y1) (.slice x2 F.length y2) (.slice x3 E.length y3)))
  refine bodyPost_ret (results_c3 (p := 6) (q := 7) (r := 8) (ty := 25) rfl _ _ (w.heap.size + 1 + 1) 25 _ (0, 0) _ _ _ rfl rfl rfl O6.out.1 Tryz.underlying25 rfl (by kernel_rfl)) rfl ?_
  have s := HS.out
  exact ⟨n9, m9, er, ps, S, F, E, x1, y1, x2, y2, x3, y3, xp, yp, rfl, hide ⟨(H1.out.1.keep HF4.out O6.out.2).down (by omega), H1.out.2⟩, (HD.out.1.trans (HD1.out.mono HD.out.1.size)).trans (O6.out.2.toBelow (by have := HD1.out.size; omega) (fun k hk => by omega))⟩
end Go.Proofs.YtchoopnjckcohaaGreat
namespace Go.Proofs.YtchoopnjckcohaaGreat
open Go.RowKit Go.Maps
/-! ### What BuildEnds asks, of lists -/
theorem aftL_iff {Ed : List EdT} : ∀ (Wd S : List Int) (x : Int), x ∈ aftL Ed S Wd ↔ ∃ p ∈ S, Rch Ed Wd p x
  | [], S, x => ⟨fun h => ⟨x, h, rfl⟩, fun ⟨p, h, e⟩ => by cases e; exact h⟩
  | y :: W, S, x => by
    show x ∈ aftL Ed (riseL (imgL false Ed S y)) W ↔ _
    rw [aftL_iff W]
    constructor
    · rintro ⟨p, hp, h⟩
      obtain ⟨e, he, rfl, hs, rfl⟩ := imgL_iff.1 ((riseL_iff _ p).1 hp)
      exact ⟨e.1, hs, e.2.2, he, h⟩
    · rintro ⟨p, hp, r, he, h⟩
      exact ⟨r, (riseL_iff _ r).2 (imgL_iff.2 ⟨(p, y, r), he, rfl, hp, rfl⟩), h⟩
theorem tkF_iff {n m : Int} {St Fi : List Int} {Ed : List EdT} {Wd : List Int} : tkF n m St Fi Ed Wd = true ↔ mayA n m St Fi Ed = true ∧ Wd.all (inB m) = true ∧ Tak St Fi Ed Wd := by
  unfold tkF accA aftA
  by_cases e : wordErr n m St Fi Ed Wd = 0
  · rw [if_pos e]
    obtain ⟨h1, h2⟩ := wordErr_zero e
    simp only [decide_true, Bool.and_true, List.any_eq_true, decide_eq_true_eq]
    constructor
    · rintro ⟨x, hx, hf⟩
      obtain ⟨p, hp, hr⟩ := (aftL_iff Wd _ x).1 hx
      exact ⟨h1, h2, p, (riseL_iff St p).1 hp, x, hf, hr⟩
    · rintro ⟨_, _, p, hp, q, hq, hr⟩
      exact ⟨q, (aftL_iff Wd _ q).2 ⟨p, (riseL_iff St p).2 hp, hr⟩, hq⟩
  · rw [if_neg e]
    simp only [List.any_nil, Bool.false_and]
    exact ⟨fun h => (by cases h), fun ⟨h1, h2, _⟩ => absurd (wordErr_iff.2 ⟨h1, h2⟩) e⟩
/-! some -/
/-! Reach and Coreach -/
/-! What comes of it -/
open Go.Shelf
/-! ### The words of Meet -/
theorem idx_self {ps : List PrT} (h : ps.Nodup) {a : Nat} {x : PrT} (ha : ps[a]? = some x) : ps.idxOf x = a := by
  obtain ⟨hl, rfl⟩ := List.getElem?_eq_some_iff.1 ha
  have hm : ps[a] ∈ ps := List.getElem_mem hl
  have h1 := List.idxOf_lt_length_of_mem hm
  have h2 := List.getElem_idxOf h1
  exact (List.getElem_inj h).1 h2
theorem idx_of {ps : List PrT} {y : PrT} (h : y ∈ ps) : ps[ps.idxOf y]? = some y := by
  have h1 := List.idxOf_lt_length_of_mem h
  rw [List.getElem?_eq_getElem h1, List.getElem_idxOf h1]
/-- A word that is two words laid into one another. -/
inductive Ilv : List Int → List Int → List Int → Prop
  | nil : Ilv [] [] []
  | fst {x : Int} {W U V : List Int} : Ilv W U V → Ilv (x :: W) (x :: U) V
  | snd {x : Int} {W U V : List Int} : Ilv W U V → Ilv (x :: W) U (x :: V)
theorem rch_shuf {m N M : Nat} {S1 F1 : List Int} {E1 : List EdT} {S2 F2 : List Int} {E2 : List EdT} {ps : List PrT} {S F : List Int} {E : List EdT} (h : MeetR m N M S1 F1 E1 S2 F2 E2 ps S F E) : ∀ (W : List Int) (a : Nat) (x : PrT) (q : Int), (∀ s ∈ W, 0 ≤ s ∧ s < (m : Int)) → ps[a]? = some x → (Rch E W (a : Int) q ↔ ∃ y U V, y ∈ ps ∧ q = (ps.idxOf y : Int) ∧ Ilv W U V ∧ Rch E1 U x.1 y.1 ∧ Rch E2 V x.2 y.2)
  | [], a, x, q, _, ha => by
    constructor
    · intro e
      simp only [Rch] at e
      subst e
      exact ⟨x, [], [], List.mem_of_getElem? ha, by rw [idx_self h.nd ha], .nil, rfl, rfl⟩
    · rintro ⟨y, U, V, hy, rfl, hi, e1, e2⟩
      cases hi
      obtain rfl : x = y := Prod.ext e1 e2
      rw [idx_self h.nd ha]
      rfl
  | s :: W, a, x, q, hW, ha => by
    have hW2 : ∀ s ∈ W, 0 ≤ s ∧ s < (m : Int) := fun y hy => hW y (by simp [hy])
    obtain ⟨s0, s1⟩ := hW s (by simp)
    obtain ⟨c, rfl⟩ := Int.eq_ofNat_of_zero_le s0
    have hc : c < m := by omega
    constructor
    · rintro ⟨r, hr, hR⟩
      obtain ⟨a', c', x', y', e1, e2, e3, e4⟩ := (h.ed _).1 hr
      simp only [Prod.mk.injEq] at e4
      obtain ⟨e5, e6, rfl⟩ := e4
      obtain rfl : a' = a := by omega
      obtain rfl : c' = c := by omega
      rw [ha] at e1
      cases e1
      have hy := h.cl _ _ _ _ ha e2 e3
      obtain ⟨y, U, V, q1, q2, q3, q4, q5⟩ := (rch_shuf h W _ y' q hW2 (idx_of hy)).1 hR
      rcases e3 with ⟨e3, e7⟩ | ⟨e7, e3⟩
      · rw [e7] at q5
        exact ⟨y, (c' : Int) :: U, V, q1, q2, .fst q3, ⟨y'.1, e3, q4⟩, q5⟩
      · rw [e7] at q4
        exact ⟨y, U, (c' : Int) :: V, q1, q2, .snd q3, q4, ⟨y'.2, e3, q5⟩⟩
    · rintro ⟨y, U, V, q1, q2, hi, r1, r2⟩
      cases hi with
      | fst hi =>
        obtain ⟨r, h1, h2⟩ := r1
        have e3 : stp E1 E2 x c (r, x.2) := .inl ⟨h1, rfl⟩
        have hy := h.cl _ _ _ _ ha hc e3
        exact ⟨_, (h.ed _).2 ⟨a, c, x, (r, x.2), ha, hc, e3, rfl⟩, (rch_shuf h W _ (r, x.2) q hW2 (idx_of hy)).2 ⟨y, _, _, q1, q2, hi, h2, r2⟩⟩
      | snd hi =>
        obtain ⟨r, h1, h2⟩ := r2
        have e3 : stp E1 E2 x c (x.1, r) := .inr ⟨rfl, h1⟩
        have hy := h.cl _ _ _ _ ha hc e3
        exact ⟨_, (h.ed _).2 ⟨a, c, x, (x.1, r), ha, hc, e3, rfl⟩, (rch_shuf h W _ (x.1, r) q hW2 (idx_of hy)).2 ⟨y, _, _, q1, q2, hi, r1, h2⟩⟩
theorem mem_prsL {X Y : List Int} {t : PrT} : t ∈ prsL X Y ↔ t.1 ∈ X ∧ t.2 ∈ Y := by
  unfold prsL
  rw [List.mem_flatMap]
  constructor
  · rintro ⟨a, ha, h⟩
    obtain ⟨b, hb, rfl⟩ := List.mem_map.1 h
    exact ⟨ha, hb⟩
  · rintro ⟨h1, h2⟩
    exact ⟨t.1, h1, List.mem_map.2 ⟨t.2, h2, rfl⟩⟩
theorem mem_enT {f1 f2 : Nat → Bool} {ps : List PrT} {q : Int} : q ∈ enT f1 f2 ps ps.length ↔ ∃ (j : Nat) (x : PrT), ps[j]? = some x ∧ enP f1 f2 x = true ∧ q = (j : Int) := by
  unfold enT
  simp only [List.mem_map, List.mem_filter, List.mem_range]
  constructor
  · rintro ⟨j, ⟨hj, h⟩, rfl⟩
    rw [List.getElem?_eq_getElem hj] at h
    exact ⟨j, ps[j], List.getElem?_eq_getElem hj, by simpa using h, rfl⟩
  · rintro ⟨j, x, h1, h2, rfl⟩
    have hj := (List.getElem?_eq_some_iff.1 h1).1
    exact ⟨j, ⟨hj, by rw [h1]; simpa using h2⟩, rfl⟩
theorem may_meet {m N M : Nat} {S1 F1 : List Int} {E1 : List EdT} {S2 F2 : List Int} {E2 : List EdT} {ps : List PrT} {S F : List Int} {E : List EdT} (h : MeetR m N M S1 F1 E1 S2 F2 E2 ps S F E) (hm : m ≤ 128) (hE : E.length ≤ 65536) : mayA (ps.length : Int) (m : Int) S F E = true := by
  have hl := h.len
  refine may_of (by omega) (by omega) hE (fun x hx => ?_) (fun x hx => ?_) (fun e he => ?_)
  · obtain ⟨t, ht, rfl⟩ := (h.st x).1 hx
    have := List.idxOf_lt_length_of_mem (h.sin t ht)
    omega
  · rw [h.fi, mem_enT] at hx
    obtain ⟨j, y, h1, _, rfl⟩ := hx
    have := (List.getElem?_eq_some_iff.1 h1).1
    omega
  · obtain ⟨a, c, x, y, h1, h2, h3, rfl⟩ := (h.ed e).1 he
    have q1 := (List.getElem?_eq_some_iff.1 h1).1
    have q2 := List.idxOf_lt_length_of_mem (h.cl _ _ _ _ h1 h2 h3)
    simp only
    omega
theorem all_rng {m : Int} {L : List Int} : L.all (inB m) = true ↔ ∀ x ∈ L, 0 ≤ x ∧ x < m := by
  rw [List.all_eq_true]
  exact forall_congr' fun x => forall_congr' fun _ => inB_iff
theorem rch_rise {E : List EdT} (W : List Int) (p q : Int) : Rch (riseE E) W p q ↔ Rch E W p q := rch_same (fun e => riseE_iff E e) W p q
theorem tak_shuf {m N M : Nat} {S1 F1 : List Int} {E1 : List EdT} {S2 F2 : List Int} {E2 : List EdT} {ps : List PrT} {S F : List Int} {E : List EdT} (h : MeetR m N M S1 F1 E1 S2 F2 E2 ps S F E) {W : List Int} (hW : ∀ s ∈ W, 0 ≤ s ∧ s < (m : Int)) : Tak S F E W ↔ ∃ U V, Ilv W U V ∧ Tak S1 F1 E1 U ∧ Tak S2 F2 E2 V := by
  have fin : ∀ y ∈ ps, enP (finB F1) (finB F2) y = true ↔ y.1 ∈ F1 ∧ y.2 ∈ F2 := by
    intro y hy
    obtain ⟨p, q, rfl, _, _⟩ := h.bd y hy
    simp [enP, finB]
  unfold Tak
  constructor
  · rintro ⟨p, hp, q, hq, hr⟩
    obtain ⟨t, ht, rfl⟩ := (h.st p).1 hp
    have ht2 := mem_prsL.1 ht
    obtain ⟨y, U, V, hy, rfl, hi, r1, r2⟩ := (rch_shuf h W _ t q hW (idx_of (h.sin t ht))).1 hr
    rw [h.fi, mem_enT] at hq
    obtain ⟨j, x, h1, h2, h3⟩ := hq
    have e1 := idx_of hy
    rw [show ps.idxOf y = j by omega, h1] at e1
    have e2 := Option.some.inj e1
    rw [e2] at h2
    obtain ⟨f1, f2⟩ := (fin y hy).1 h2
    exact ⟨U, V, hi, ⟨t.1, ht2.1, y.1, f1, r1⟩, ⟨t.2, ht2.2, y.2, f2, r2⟩⟩
  · rintro ⟨U, V, hi, ⟨p1, hp1, q1, hq1, r1⟩, ⟨p2, hp2, q2, hq2, r2⟩⟩
    have ht : (p1, p2) ∈ prsL S1 S2 := mem_prsL.2 ⟨hp1, hp2⟩
    have step : ∀ (W U V : List Int), Ilv W U V → ∀ x : PrT, x ∈ ps → (∀ s ∈ W, 0 ≤ s ∧ s < (m : Int)) → ∀ y : PrT, Rch E1 U x.1 y.1 → Rch E2 V x.2 y.2 → y ∈ ps := by
      intro W U V hi
      induction hi with
      | nil => intro x hx _ y e1 e2; obtain rfl : x = y := Prod.ext e1 e2; exact hx
      | fst _ ih =>
        rename_i z W U V _hq
        intro x hx hs y hu e2
        obtain ⟨u1, a1, b1⟩ := hu
        obtain ⟨s0, s1⟩ := hs z (by simp)
        obtain ⟨c, rfl⟩ := Int.eq_ofNat_of_zero_le s0
        exact ih (u1, x.2) (h.cl _ c _ (u1, x.2) (idx_of hx) (by omega) (.inl ⟨a1, rfl⟩)) (fun z hz => hs z (by simp [hz])) y b1 e2
      | snd _ ih =>
        rename_i z W U V _hq
        intro x hx hs y e1 hv
        obtain ⟨u1, a1, b1⟩ := hv
        obtain ⟨s0, s1⟩ := hs z (by simp)
        obtain ⟨c, rfl⟩ := Int.eq_ofNat_of_zero_le s0
        exact ih (x.1, u1) (h.cl _ c _ (x.1, u1) (idx_of hx) (by omega) (.inr ⟨rfl, a1⟩)) (fun z hz => hs z (by simp [hz])) y e1 b1
    have hy := step W U V hi (p1, p2) (h.sin _ ht) hW (q1, q2) r1 r2
    refine ⟨_, (h.st _).2 ⟨_, ht, rfl⟩, (ps.idxOf (q1, q2) : Int), ?_, (rch_shuf h W _ (p1, p2) _ hW (idx_of (h.sin _ ht))).2 ⟨(q1, q2), U, V, hy, rfl, hi, r1, r2⟩⟩
    rw [h.fi, mem_enT]
    exact ⟨_, _, idx_of hy, (fin _ hy).2 ⟨hq1, hq2⟩, rfl⟩
theorem ilv_all {m : Int} {W U V : List Int} (h : Ilv W U V) : W.all (inB m) = true ↔ U.all (inB m) = true ∧ V.all (inB m) = true := by
  induction h with
  | nil => simp
  | fst _ ih => rw [List.all_cons, List.all_cons, Bool.and_eq_true, Bool.and_eq_true, ih, and_assoc]
  | snd _ ih => rw [List.all_cons, List.all_cons, Bool.and_eq_true, Bool.and_eq_true, ih]; exact ⟨fun ⟨a, b, c⟩ => ⟨b, a, c⟩, fun ⟨b, a, c⟩ => ⟨a, b, c⟩⟩
theorem tak_rise {St Fi : List Int} {Ed : List EdT} {W : List Int} : Tak (riseL St) (riseL Fi) (riseE Ed) W ↔ Tak St Fi Ed W := by
  unfold Tak
  simp only [riseL_iff, rch_rise]
/-- Shuffle takes what is a word of each, laid into one another. -/
theorem tk_shuf {n m n' m' : Int} {Sa Fa : List Int} {Ea : List EdT} {Sb Fb : List Int} {Eb : List EdT} {ps : List PrT} {S F : List Int} {E : List EdT} (h : MetQ n m n' m' Sa Fa Ea Sb Fb Eb ps S F E) (hE : E.length ≤ 65536) (W : List Int) : tkF (ps.length : Int) m S F E W = true ↔ ∃ U V, Ilv W U V ∧ tkF n m Sa Fa Ea U = true ∧ tkF n' m' Sb Fb Eb V = true := by
  obtain ⟨em, em', rfl, hR⟩ := h
  obtain ⟨k, rfl⟩ := Int.eq_ofNat_of_zero_le (may_parts em).2.1.1
  rw [Int.toNat_natCast] at hR
  have hk : k ≤ 128 := by have := (may_parts em).2.1; omega
  simp only [tkF_iff]
  constructor
  · rintro ⟨_, hw, ht⟩
    obtain ⟨U, V, hi, t1, t2⟩ := (tak_shuf hR (all_rng.1 hw)).1 ht
    obtain ⟨w1, w2⟩ := (ilv_all hi).1 hw
    exact ⟨U, V, hi, ⟨em, w1, tak_rise.1 t1⟩, ⟨em', w2, tak_rise.1 t2⟩⟩
  · rintro ⟨U, V, hi, ⟨_, w1, t1⟩, ⟨_, w2, t2⟩⟩
    have hw := (ilv_all hi).2 ⟨w1, w2⟩
    exact ⟨may_meet hR hk hE, hw, (tak_shuf hR (all_rng.1 hw)).2 ⟨U, V, hi, tak_rise.2 t1, tak_rise.2 t2⟩⟩
/-! ### All ways to part a word -/
def ptU : Nat → List Int → List Int
  | _, [] => []
  | M, x :: W => if M % 2 = 1 then x :: ptU (M / 2) W else ptU (M / 2) W
def ptV : Nat → List Int → List Int
  | _, [] => []
  | M, x :: W => if M % 2 = 1 then ptV (M / 2) W else x :: ptV (M / 2) W
theorem ptU_snoc : ∀ (W : List Int) (M k : Nat) (hk : k < W.length), ptU M (W.take (k + 1)) = ptU M (W.take k) ++ (if M / 2 ^ k % 2 = 1 then [W[k]] else [])
  | [], M, k, hk => absurd hk (Nat.not_lt_zero _)
  | x :: W, M, 0, _ => by
    simp only [List.take_succ_cons, List.take_zero, ptU, Nat.pow_zero, Nat.div_one, List.getElem_cons_zero, List.nil_append]
  | x :: W, M, k + 1, hk => by
    have q := ptU_snoc W (M / 2) k (by simpa using hk)
    rw [Nat.div_div_eq_div_mul, Nat.mul_comm, ← Nat.pow_succ] at q
    rw [List.take_succ_cons, List.take_succ_cons]
    simp only [ptU, q, List.getElem_cons_succ]
    split <;> simp
theorem ptV_snoc : ∀ (W : List Int) (M k : Nat) (hk : k < W.length), ptV M (W.take (k + 1)) = ptV M (W.take k) ++ (if M / 2 ^ k % 2 = 1 then [] else [W[k]])
  | [], M, k, hk => absurd hk (Nat.not_lt_zero _)
  | x :: W, M, 0, _ => by
    simp only [List.take_succ_cons, List.take_zero, ptV, Nat.pow_zero, Nat.div_one, List.getElem_cons_zero, List.nil_append]
  | x :: W, M, k + 1, hk => by
    have q := ptV_snoc W (M / 2) k (by simpa using hk)
    rw [Nat.div_div_eq_div_mul, Nat.mul_comm, ← Nat.pow_succ] at q
    rw [List.take_succ_cons, List.take_succ_cons]
    simp only [ptV, q, List.getElem_cons_succ]
    split <;> simp
theorem pt_len : ∀ (W : List Int) (M : Nat), (ptU M W).length ≤ W.length ∧ (ptV M W).length ≤ W.length
  | [], _ => ⟨Nat.le_refl _, Nat.le_refl _⟩
  | x :: W, M => by
    have q := pt_len W (M / 2)
    unfold ptU ptV
    split <;> simp only [List.length_cons] <;> omega
theorem ilv_pr : ∀ (W : List Int) (M : Nat), Ilv W (ptU M W) (ptV M W)
  | [], _ => .nil
  | x :: W, M => by
    have q := ilv_pr W (M / 2)
    unfold ptU ptV
    split
    · exact .fst q
    · exact .snd q
theorem pr_ilv {W U V : List Int} (h : Ilv W U V) : ∃ M, M < 2 ^ W.length ∧ ptU M W = U ∧ ptV M W = V := by
  induction h with
  | nil => exact ⟨0, by simp, rfl, rfl⟩
  | fst _ ih =>
    obtain ⟨M, h1, h2, h3⟩ := ih
    refine ⟨2 * M + 1, ?_, ?_, ?_⟩
    · rw [List.length_cons, Nat.pow_succ]; omega
    · unfold ptU
      rw [if_pos (by omega), show (2 * M + 1) / 2 = M by omega, h2]
    · unfold ptV
      rw [if_pos (by omega), show (2 * M + 1) / 2 = M by omega, h3]
  | snd _ ih =>
    obtain ⟨M, h1, h2, h3⟩ := ih
    refine ⟨2 * M, ?_, ?_, ?_⟩
    · rw [List.length_cons, Nat.pow_succ]; omega
    · unfold ptU
      rw [if_neg (by omega), show (2 * M) / 2 = M by omega, h2]
    · unfold ptV
      rw [if_neg (by omega), show (2 * M) / 2 = M by omega, h3]
def laiB (LA LB : List Int → Bool) (W : List Int) : Bool := (List.range (2 ^ W.length)).any fun M => LA (ptU M W) && LB (ptV M W)
theorem lai_iff {LA LB : List Int → Bool} {W : List Int} : laiB LA LB W = true ↔ ∃ U V, Ilv W U V ∧ LA U = true ∧ LB V = true := by
  unfold laiB
  rw [List.any_eq_true]
  constructor
  · rintro ⟨M, _, h⟩
    rw [Bool.and_eq_true] at h
    exact ⟨_, _, ilv_pr W M, h.1, h.2⟩
  · rintro ⟨U, V, hi, h1, h2⟩
    obtain ⟨M, hM, rfl, rfl⟩ := pr_ilv hi
    exact ⟨M, List.mem_range.2 hM, by rw [h1, h2]; rfl⟩
theorem lai_no {LA LB : List Int → Bool} {W : List Int} (h : ∀ M, M < 2 ^ W.length → (LA (ptU M W) && LB (ptV M W)) = false) : laiB LA LB W = false := by
  unfold laiB
  rw [List.any_eq_false]
  intro M hM
  rw [h M (List.mem_range.1 hM)]
  simp
theorem lai_yes {LA LB : List Int → Bool} {W : List Int} {M : Nat} (hM : M < 2 ^ W.length) (h : (LA (ptU M W) && LB (ptV M W)) = true) : laiB LA LB W = true := by
  unfold laiB
  rw [List.any_eq_true]
  exact ⟨M, List.mem_range.2 hM, h⟩
/-! ### Short words for drawn regions -/
theorem zsb {A : Act} {t : Nat} {v : Value} (h : A.tmps.getD t undef = v) : A.tmps.getD t undef = v ∧ A.tmps[t]?.getD undef = v := ⟨h, by rw [← h, Array.getD_eq_getD_getElem?]⟩
theorem zsq {A : Act} {t j a b : Nat} {y : Nat → Value} {L : List It} {W : World} {v : Value} (h : A.tmps.getD t undef = y j) (e : ∃ lo hi, a ≤ lo ∧ hi ≤ b ∧ (itL L j).p y lo hi W) (hv : itL L j = vI j v) : A.tmps.getD t undef = v ∧ A.tmps[t]?.getD undef = v := by
  obtain ⟨_, _, _, _, e⟩ := e
  rw [hv] at e
  exact zsb (h.trans e)
theorem zsg {A : Act} {y : Nat → Value} {l : List Oper} {L : List It} {E : Array Edge} {a b : Nat} {W : World} {v : Value} (j t : Nat) (g : Ground) (hy : ∀ (j : Nat) (o' : Oper) (d : Nat), l[j]? = some o' → o'.dst = some d → A.tmps.getD d undef = y j) (hd : ∀ e ∈ E, Region.binds .any e = true → ndB e = true → ∃ lo hi, a ≤ lo ∧ hi ≤ b ∧ (itL L e.on).p y lo hi W) (hv : itL L j = vI j v) (h1 : l[j]?.bind Oper.dst = some t := by exact rfl) (h3 : (⟨j, g⟩ : Edge) ∈ E := by simp) (h4 : Region.binds .any ⟨j, g⟩ = true := by exact rfl) (h5 : ndB ⟨j, g⟩ = true := by exact rfl) : A.tmps.getD t undef = v ∧ A.tmps[t]?.getD undef = v := by
  cases h : l[j]? with
  | none => rw [h] at h1; cases h1
  | some o => rw [h] at h1; exact zsq (hy j o t h h1) (hd _ h3 h4 h5) hv
theorem zgd {A : Act} {y : Nat → Value} {l : List Oper} {L : List It} {E : Array Edge} {a b : Nat} {W : World} {v : Bool} (j t : Nat) (hy : ∀ (j : Nat) (o' : Oper) (d : Nat), l[j]? = some o' → o'.dst = some d → A.tmps.getD d undef = y j) (hd : ∀ e ∈ E, Region.binds .any e = true → ndB e = true → ∃ lo hi, a ≤ lo ∧ hi ≤ b ∧ (itL L e.on).p y lo hi W) (hv : itL L j = vI j (.bool v)) (h1 : l[j]?.bind Oper.dst = some t := by exact rfl) (h3 : (⟨j, .guard⟩ : Edge) ∈ E := by simp) (h4 : Region.binds .any ⟨j, .guard⟩ = true := by exact rfl) (h5 : ndB ⟨j, .guard⟩ = true := by exact rfl) : A.tmps[t]? = some (.bool v) := got_bool (zsg j t .guard hy hd hv h1 h3 h4 h5).1
theorem MadeI.v {w : World} {L : List It} {ops : Array Oper} {n : Nat} {is : Nat → Bool} {y : Nat → Value} {lo hi : Nat → Nat} {W : World} (hM : MadeI w L ops n is y lo hi W) (i : Nat) {v : Value} (h1 : i < n) (h2 : is i = true) (h3 : notR (L.map It.ret) i = true) (hv : itL L i = vI i v) : y i = v := by
  have e := hM.fact i h1 h2 (notR_all i h3)
  rw [hv] at e
  exact e
theorem zkq {w : World} {L : List It} {i : Nat} {A : Act} {d : Option Nat} {y : Nat → Value} {W : World} {K : Act → World → Prop} {x : Value} (hK : Shut (∀ x W', Stp w L i y W W' → (itL L i).p (updV y i x) W.heap.size W'.heap.size W' → K (A.put d x) W')) (hm : MonIL 0 L) (hd : Below w.heap.size w W) (h : (itL L i).p (updV y i x) W.heap.size W.heap.size W) : K (A.put d x) W := hK.out x W (stp_of hm hd (Below.refl _ _)) h
theorem zc5 {w : World} {b : Nat} {t : TypeId} {fr : Nat × Nat} {v0 v1 v2 v3 v4 : Value} (h : w.heap[b]? = some (.cells #[v0, v1, v2, v3, v4] t fr)) : w.cell? ⟨b, 0, none⟩ = some v0 ∧ w.cell? ⟨b, 1, none⟩ = some v1 ∧ w.cell? ⟨b, 2, none⟩ = some v2 ∧ w.cell? ⟨b, 3, none⟩ = some v3 ∧ w.cell? ⟨b, 4, none⟩ = some v4 := ⟨cell_of h rfl, cell_of h rfl, cell_of h rfl, cell_of h rfl, cell_of h rfl⟩
theorem zc12 {w : World} {b : Nat} {t : TypeId} {fr : Nat × Nat} {v0 v1 v2 v3 v4 v5 v6 v7 v8 v9 v10 v11 : Value} (h : w.heap[b]? = some (.cells #[v0, v1, v2, v3, v4, v5, v6, v7, v8, v9, v10, v11] t fr)) : w.cell? ⟨b, 0, none⟩ = some v0 ∧ w.cell? ⟨b, 1, none⟩ = some v1 ∧ w.cell? ⟨b, 2, none⟩ = some v2 ∧ w.cell? ⟨b, 3, none⟩ = some v3 ∧ w.cell? ⟨b, 4, none⟩ = some v4 ∧ w.cell? ⟨b, 5, none⟩ = some v5 ∧ w.cell? ⟨b, 6, none⟩ = some v6 ∧ w.cell? ⟨b, 7, none⟩ = some v7 ∧ w.cell? ⟨b, 8, none⟩ = some v8 ∧ w.cell? ⟨b, 9, none⟩ = some v9 ∧ w.cell? ⟨b, 10, none⟩ = some v10 ∧ w.cell? ⟨b, 11, none⟩ = some v11 := ⟨cell_of h rfl, cell_of h rfl, cell_of h rfl, cell_of h rfl, cell_of h rfl, cell_of h rfl, cell_of h rfl, cell_of h rfl, cell_of h rfl, cell_of h rfl, cell_of h rfl, cell_of h rfl⟩
def dirB (ops : Array Oper) (n : Nat) : Bool := (List.range ops.size).all fun j => decide (j < n) || (List.range n).all fun i => match ops[j]? with
  | none => false
  | some o => o.after.any fun e => Region.binds .any e && e.on == i
theorem phasedB_dir {ops : Array Oper} {n : Nat} (h : dirB ops n = true) : phasedB .any ops n = true := by
  unfold dirB at h
  unfold phasedB
  rw [List.all_eq_true] at h ⊢
  intro j hj
  have q := h j hj
  rw [Bool.or_eq_true] at q ⊢
  rcases q with q | q
  · exact .inl q
  · right
    rw [List.all_eq_true] at q ⊢
    intro i hi
    have r := q i hi
    have hs : 0 < ops.size := by have := List.mem_range.1 hj; omega
    obtain ⟨f, hf⟩ : ∃ f, ops.size = f + 1 := ⟨ops.size - 1, by omega⟩
    rw [hf]
    unfold waitsL
    split at r
    · cases r
    · rename_i o ho
      rw [ho]
      simp only
      rw [Array.any_eq_true'] at r ⊢
      obtain ⟨e, he, hb⟩ := r
      rw [Bool.and_eq_true] at hb
      exact ⟨e, he, by rw [hb.1, hb.2]; rfl⟩
theorem stB_dir {ops : Array Oper} {n : Nat} {rs rd : List (List Nat)} (h : (Nat.ble n ops.size && dirB ops n && depsB ops n && lineB .any ops (ops.size - n) n (Array.ofFn (n := ops.size) fun i => decide (i.1 < n)) && retB ops n rs rd) = true) : stB ops n rs rd = true := by
  simp only [Bool.and_eq_true] at h
  unfold stB makeB
  simp only [Bool.and_eq_true]
  exact ⟨⟨⟨⟨h.1.1.1.1, phasedB_dir h.1.1.1.2⟩, h.1.1.2⟩, h.1.2⟩, h.2⟩
theorem zsh {A a : Act} {t : Nat} {v : Value} (h : A.tmps.getD t undef = a.tmps.getD t undef) (e : a.tmps.toList[t]? = some v) : A.tmps.getD t undef = v ∧ A.tmps[t]?.getD undef = v := zsb (h.trans (by rw [Array.getD_eq_getD_getElem?, ← Array.getElem?_toList, e]; rfl))
end Go.Proofs.YtchoopnjckcohaaGreat
namespace Go.Proofs.YtchoopnjckcohaaGreat
open Go.RowKit Go.Maps Go.Shelf
attribute [local go_sem] Oper.semAt_some
/-! ### laid -/
theorem wpList_appK {ops : Array Oper} {rest : List Oper} {o : Oper} {a : Act} {Q : Exit → Act → World → Prop} {w : World} (hgd : o.guard = none) (s x : Operand)
    (ho : o.op = .call { callee := .builtin .append, args := #[s, x], argTypes := #[22, 22] }) (B : Nat) (v : Value) (X : List Int) (hs : a.eval s = v) (hown : w.ownsRow B 3 1 v X.length (X.map (Value.int .i64))) (p : Nat) (y : Int) (hx : a.eval x = .slice (some ⟨p, 0, none⟩) 1 1) (hp : w.heap[p]? = some (.cells #[.int .i64 y] 3 (0, 0))) (hl : X.length ≤ 16777216) (hB : B ≤ w.heap.size)
    (h : ∀ v' w', Hid (w'.ownsRow B 3 1 v' (X ++ [y]).length ((X ++ [y]).map (Value.int .i64))) → Hid (Only w w' (fun k => v.ownBlock = some k)) → Hid (v'.ownBlock = v.ownBlock ∨ v'.ownBlock = some w.heap.size) → wpList Tryz.prog ops Q rest (a.put o.dst v') w') : wpList Tryz.prog ops Q (o :: rest) a w := by
  obtain ⟨i3, hi3, hz30, hz31, hz32⟩ := info_parts info3
  refine wpList_append_own_at _ hgd s x 22 ho B 3 i3 _ 1 8 Tryz.underlying22 hi3 hz30 hz31 hz32 rfl (by omega) v X.length (X.map (Value.int .i64)) hs hown ⟨p, 0, none⟩ 1 1 [.int .i64 y] hx rfl (one_cells hp) (by simp [Value.oneCell']) (by unfold maxLen; omega) (by omega) (by omega) ?_
  intro v2 w2 h2 hgr _ hn
  exact h v2 w2 (hide (by rw [List.map_append, List.length_append]; simpa using h2)) (hide (grown_only hgr)) (hide hn)
structure LdR (W0 : World) (M k : Nat) (Wd : List Int) (vu vv : Value) (W : World) : Prop where
  u : W.ownsRow W0.heap.size 3 1 vu (ptU M (Wd.take k)).length ((ptU M (Wd.take k)).map (Value.int .i64))
  v : W.ownsRow W0.heap.size 3 1 vv (ptV M (Wd.take k)).length ((ptV M (Wd.take k)).map (Value.int .i64))
  ap : ∀ j, vu.ownBlock = some j → vv.ownBlock = some j → False
  be : Below W0.heap.size W0 W
theorem LdR.putU {W0 W w6 : World} {M k : Nat} {Wd : List Int} {vu vv v' : Value} {cs : Array Value} (h : LdR W0 M k Wd vu vv W) (hk : k < Wd.length) (hb : M / 2 ^ k % 2 = 1) (ho : w6.ownsRow W0.heap.size 3 1 v' (ptU M (Wd.take k) ++ [Wd[k]]).length ((ptU M (Wd.take k) ++ [Wd[k]]).map (Value.int .i64))) (oo : Only (W.alloc (.cells cs 3)) w6 (fun k => vu.ownBlock = some k)) (ha : v'.ownBlock = vu.ownBlock ∨ v'.ownBlock = some (W.alloc (.cells cs 3)).heap.size) : LdR W0 M (k + 1) Wd v' vv w6 := by
  have d1 : Below W.heap.size W (W.alloc (.cells cs 3)) := (Below.refl _ _).alloc (Nat.le_refl _) _
  have hv := own_below h.v d1
  refine ⟨?_, ?_, fun j h1 h2 => ?_, ?_⟩
  · rw [ptU_snoc Wd M k hk, if_pos hb]; exact ho
  · rw [ptV_snoc Wd M k hk, if_pos hb, List.append_nil]
    exact row_only hv oo (fun j h1 h2 => h.ap j h2 h1)
  · rcases ha with e | e
    · rw [e] at h1; exact h.ap j h1 h2
    · have := (hv.lt j h2).2
      rw [e] at h1
      have := Option.some.inj h1
      omega
  · exact (h.be.trans (d1.mono h.be.size)).trans (oo.toBelow (Nat.le_trans h.be.size d1.size) (fun j hj => (h.u.lt j hj).1))
theorem LdR.putV {W0 W w6 : World} {M k : Nat} {Wd : List Int} {vu vv v' : Value} {cs : Array Value} (h : LdR W0 M k Wd vu vv W) (hk : k < Wd.length) (hb : ¬ M / 2 ^ k % 2 = 1) (ho : w6.ownsRow W0.heap.size 3 1 v' (ptV M (Wd.take k) ++ [Wd[k]]).length ((ptV M (Wd.take k) ++ [Wd[k]]).map (Value.int .i64))) (oo : Only (W.alloc (.cells cs 3)) w6 (fun k => vv.ownBlock = some k)) (ha : v'.ownBlock = vv.ownBlock ∨ v'.ownBlock = some (W.alloc (.cells cs 3)).heap.size) : LdR W0 M (k + 1) Wd vu v' w6 := by
  have d1 : Below W.heap.size W (W.alloc (.cells cs 3)) := (Below.refl _ _).alloc (Nat.le_refl _) _
  have hu := own_below h.u d1
  refine ⟨?_, ?_, fun j h1 h2 => ?_, ?_⟩
  · rw [ptU_snoc Wd M k hk, if_neg hb, List.append_nil]
    exact row_only hu oo (fun j h1 h2 => h.ap j h1 h2)
  · rw [ptV_snoc Wd M k hk, if_neg hb]; exact ho
  · rcases ha with e | e
    · rw [e] at h2; exact h.ap j h1 h2
    · have := (hu.lt j h1).2
      rw [e] at h2
      have := Option.some.inj h2
      omega
  · exact (h.be.trans (d1.mono h.be.size)).trans (oo.toBelow (Nat.le_trans h.be.size d1.size) (fun j hj => (h.v.lt j hj).1))
theorem bit_and {M : Nat} (k : Nat) (hM : M ≤ 4096) : bits BinOp.and IntKind.i64 ((M : Int) / 2 ^ k) 1 = ((M / 2 ^ k % 2 : Nat) : Int) := by
  have e : (M : Int) / (2 : Int) ^ k = ((M / 2 ^ k : Nat) : Int) := by rw [Int.natCast_ediv, Int.natCast_pow]; rfl
  have hl : M / 2 ^ k ≤ 4096 := Nat.le_trans (Nat.div_le_self _ _) hM
  rw [e]
  generalize M / 2 ^ k = x at *
  have q := bits_mask IntKind.i64 20 (by decide) (fun n h1 h2 => by rw [IntKind.wrap_i64]; have : (2 : Int) ^ 20 = 1048576 := by decide
                                                                    omega) 1 (by decide) (x : Int) (by omega) (by have : (2 : Int) ^ 20 = 1048576 := by decide
                                                                                                                  omega)
  have e1 : (2 : Int) ^ 1 - 1 = 1 := by decide
  have e2 : (2 : Int) ^ 1 = 2 := by decide
  rw [e1, e2] at q
  rw [q]
  omega
theorem shl_one {k N : Nat} (h : k ≤ 12) (hN : 2 ^ k = N) : wrap64 (2 ^ k) = (N : Int) ∧ N ≤ 4096 := by
  have q : 2 ^ k ≤ 2 ^ 12 := Nat.pow_le_pow_right (by decide) h
  have e : (2 : Int) ^ k = (N : Int) := by rw [← hN]; exact (Int.natCast_pow 2 k).symm
  have hl : N ≤ 4096 := by rw [← hN]; exact q
  refine ⟨?_, hl⟩
  rw [e]
  unfold wrap64
  omega
set_option maxRecDepth 100000 in
set_option maxHeartbeats 4000000 in
theorem laid_any (w : World) (n m n' m' : Int) (a1 a2 a3 b1 b2 b3 : Option Addr) (c1 c2 c3 d1 d2 d3 n1 n2 n3 l1 l2 l3 : Nat) (Sa Fa Sb Fb : List Int) (Ea Eb : List EdT) (en : Hid (Sa.length = n1 ∧ Fa.length = n2 ∧ Ea.length = n3 ∧ Sb.length = l1 ∧ Fb.length = l2 ∧ Eb.length = l3)) (hA : Hid (RdA w a1 a2 a3 Sa Fa Ea)) (hB : Hid (RdA w b1 b2 b3 Sb Fb Eb)) (h1 : n1 ≤ 4194304) (h2 : n2 ≤ 4194304) (h3 : n3 ≤ 4194304) (h4 : l1 ≤ 4194304) (h5 : l2 ≤ 4194304) (h6 : l3 ≤ 4194304) (aw : Option Addr) (nw cw : Nat) (Wd : List Int) (HNW : Hid (Wd.length = nw)) (hU : Hid (RdN w aw Wd)) (hnw : nw ≤ 12) :
    Calls Tryz.prog 9 #[.agg #[.int .i64 n, .int .i64 m, .slice a1 n1 c1, .slice a2 n2 c2, .slice a3 n3 c3], .agg #[.int .i64 n', .int .i64 m', .slice b1 l1 d1, .slice b2 l2 d2, .slice b3 l3 d3], .slice aw nw cw] w fun e w' => e = .returned (.bool (laiB (tkF n m Sa Fa Ea) (tkF n' m' Sb Fb Eb) Wd)) ∧ Below w.heap.size w w' := by
  obtain ⟨W0, hW0⟩ : ∃ W0, (w.alloc (.cells #[.int .i64 n, .int .i64 m, .slice a1 n1 c1, .slice a2 n2 c2, .slice a3 n3 c3] 25)).alloc (.cells #[.int .i64 n', .int .i64 m', .slice b1 l1 d1, .slice b2 l2 d2, .slice b3 l3 d3] 25) = W0 := ⟨_, rfl⟩
  have HD := hide (box2 w #[.int .i64 n, .int .i64 m, .slice a1 n1 c1, .slice a2 n2 c2, .slice a3 n3 c3] #[.int .i64 n', .int .i64 m', .slice b1 l1 d1, .slice b2 l2 d2, .slice b3 l3 d3] 25)
  rw [hW0] at HD
  obtain ⟨N2, hN2⟩ : ∃ N : Nat, 2 ^ nw = N := ⟨_, rfl⟩
  go_enter Tryz.func9, Tryz.ntmps9
  go_wp2_with fail
  clear hW0
  go_loopw [7] (fun v7 wr => ∃ (M : Nat), M ≤ N2 ∧ v7 = .int .i64 (M : Int) ∧ Hid ((∀ M', M' < M → (tkF n m Sa Fa Ea (ptU M' Wd) && tkF n' m' Sb Fb Eb (ptV M' Wd)) = false) ∧ Below W0.heap.size W0 wr)) (fun v7 _ => N2 - (intOf v7).toNat)
  case atStart => exact ⟨0, Nat.zero_le _, rfl, hide ⟨fun M' h => absurd h (Nat.not_lt_zero _), Below.refl _ _⟩⟩
  case round =>
    obtain ⟨M, hM, rfl, HI⟩ := hrel
    obtain ⟨hsh, hN4⟩ := shl_one hnw hN2
    by_cases hlt : M < N2
    · have hlt' : (M : Int) < (N2 : Int) := Int.ofNat_lt.2 hlt
      go_wp2_with fail
      clear hsh
      have HN2 := hide hN2
      clear hN2
      rename World => wo
      go_loopw [8, 9, 20] (fun v8 v9 v20 wi => ∃ (k : Nat) (au : Option Addr) (lu cu : Nat) (av : Option Addr) (lv cv : Nat), k ≤ nw ∧ v20 = .int .i64 (k : Int) ∧ v8 = .slice au lu cu ∧ v9 = .slice av lv cv ∧ Hid ((ptU M (Wd.take k)).length = lu ∧ (ptV M (Wd.take k)).length = lv ∧ LdR W0 M k Wd (.slice au lu cu) (.slice av lv cv) wi)) (fun _ _ v20 _ => nw - (intOf v20).toNat)
      case atStart => exact ⟨0, none, 0, 0, none, 0, 0, Nat.zero_le _, rfl, rfl, rfl, hide ⟨rfl, rfl, ⟨World.ownsRow_nil _ _ _ _, World.ownsRow_nil _ _ _ _, fun j h _ => by simp [Value.ownBlock] at h, HI.out.2⟩⟩⟩
      case round =>
        obtain ⟨k, au, lu, cu, av, lv, cv, hk, rfl, rfl, rfl, HL⟩ := hrel
        by_cases hkl : k < nw
        · have k1 : (k : Int) < (nw : Int) := by omega
          have k0 : (0 : Int) ≤ (k : Int) := by omega
          have q1 := (hU.out.on (HD.out.1.trans (HL.out.2.2.be.mono HD.out.1.size))) k (by rw [HNW.out]; exact hkl)
          obtain ⟨y, hy⟩ : ∃ y, Wd[k]'(by rw [HNW.out]; exact hkl) = y := ⟨_, rfl⟩
          rw [hy] at q1
          obtain ⟨g1, o1, ea1, z1⟩ := q1
          have HY := hide hy
          have HEA := hide ea1
          clear hy
          have hbt := bit_and (M := M) k (by omega)
          have hlu : lu ≤ 4096 := by have q := (pt_len (Wd.take k) M).1; have := HL.out.1; have := HNW.out; rw [List.length_take] at q; omega
          have hlv : lv ≤ 4096 := by have q := (pt_len (Wd.take k) M).2; have := HL.out.2.1; have := HNW.out; rw [List.length_take] at q; omega
          have hkW : k < Wd.length := by rw [HNW.out]; exact hkl
          by_cases hb : M / 2 ^ k % 2 = 1
          · rw [hb] at hbt
            have hbt2 : (bits BinOp.and IntKind.i64 ((M : Int) / 2 ^ k) 1 == 1) = true := by rw [hbt]; rfl
            clear hbt
            subst ea1
            go_wp2_with (at_builtin; refine wpList_appK rfl _ _ rfl W0.heap.size (.slice au lu cu) (ptU M (Wd.take k)) rfl (own_below HL.out.2.2.u ((Below.refl _ _).alloc (Nat.le_refl _) _)) wr.heap.size y rfl (World.alloc_heap_new _ _) (by have := HL.out.1; omega) (Nat.le_trans HL.out.2.2.be.size (by simp)) ?_; intro v6 w6 HO6 HG6 HN6; obtain ⟨z6, d6, e6⟩ := own_slice HO6.out; subst e6)
            have HF := hide (HL.out.2.2.putU hkW hb (by rw [HY.out]; exact HO6.out) HG6.out HN6.out)
            have HE1 : Hid ((ptU M (Wd.take (k + 1))).length = (ptU M (Wd.take k) ++ [y]).length ∧ (ptV M (Wd.take (k + 1))).length = lv) := hide (by rw [ptU_snoc Wd M k hkW, ptV_snoc Wd M k hkW, if_pos hb, if_pos hb, HY.out, List.append_nil]; exact ⟨rfl, HL.out.2.1⟩)
            go_roundw
            case rel =>
              have q := HF.out
              have q1 := HE1.out
              simp only [List.length_append, List.length_cons, List.length_nil, Nat.zero_add] at q q1
              exact ⟨k + 1, z6, _, d6, av, lv, cv, by omega, by go_num, rfl, rfl, hide ⟨q1.1, q1.2, q⟩⟩
            case measure => simp [intOf]; omega
          · have hb0 : M / 2 ^ k % 2 = 0 := by omega
            rw [hb0] at hbt
            have hbt2 : (bits BinOp.and IntKind.i64 ((M : Int) / 2 ^ k) 1 == 1) = false := by rw [hbt]; rfl
            clear hbt
            subst ea1
            go_wp2_with (at_builtin; refine wpList_appK rfl _ _ rfl W0.heap.size (.slice av lv cv) (ptV M (Wd.take k)) rfl (own_below HL.out.2.2.v ((Below.refl _ _).alloc (Nat.le_refl _) _)) wr.heap.size y rfl (World.alloc_heap_new _ _) (by have := HL.out.2.1; omega) (Nat.le_trans HL.out.2.2.be.size (by simp)) ?_; intro v6 w6 HO6 HG6 HN6; obtain ⟨z6, d6, e6⟩ := own_slice HO6.out; subst e6)
            have HF := hide (HL.out.2.2.putV hkW hb (by rw [HY.out]; exact HO6.out) HG6.out HN6.out)
            have HE1 : Hid ((ptU M (Wd.take (k + 1))).length = lu ∧ (ptV M (Wd.take (k + 1))).length = (ptV M (Wd.take k) ++ [y]).length) := hide (by rw [ptU_snoc Wd M k hkW, ptV_snoc Wd M k hkW, if_neg hb, if_neg hb, HY.out, List.append_nil]; exact ⟨HL.out.1, rfl⟩)
            go_roundw
            case rel =>
              have q := HF.out
              have q1 := HE1.out
              simp only [List.length_append, List.length_cons, List.length_nil, Nat.zero_add] at q q1
              exact ⟨k + 1, au, lu, cu, z6, _, d6, by omega, by go_num, rfl, rfl, hide ⟨q1.1, q1.2, q⟩⟩
            case measure => simp [intOf]; omega
        · have k1 : ¬ (k : Int) < (nw : Int) := by omega
          obtain rfl : nw = k := by omega
          have HTk : Hid (Wd.take nw = Wd) := hide (List.take_of_length_le (by rw [HNW.out]; exact Nat.le_refl _))
          have HBW : Hid (Below w.heap.size w wr) := hide (HD.out.1.trans (HL.out.2.2.be.mono HD.out.1.size))
          obtain ⟨va, hva⟩ : ∃ v, tkF n m Sa Fa Ea (ptU M Wd) = v := ⟨_, rfl⟩
          obtain ⟨vb, hvb⟩ : ∃ v, tkF n' m' Sb Fb Eb (ptV M Wd) = v := ⟨_, rfl⟩
          have HU : Hid (RdN wr au (ptU M Wd) ∧ RdN wr av (ptV M Wd) ∧ (ptU M Wd).length = lu ∧ (ptV M Wd).length = lv) := hide (by
            have q := HL.out
            rw [HTk.out] at q
            refine ⟨?_, ?_, q.1, q.2.1⟩
            · have := q.2.2.u; rw [HTk.out, ← q.1] at this; exact own_rdN this
            · have := q.2.2.v; rw [HTk.out, ← q.2.1] at this; exact own_rdN this)
          have hle : Hid (lu ≤ 4194304 ∧ lv ≤ 4194304) := hide (by have q := pt_len Wd M; have := HU.out.2.2; have := HNW.out; omega)
          have TA : Hid (∀ W, Below wr.heap.size wr W → Calls Tryz.prog 7 #[.agg #[.int .i64 n, .int .i64 m, .slice a1 n1 c1, .slice a2 n2 c2, .slice a3 n3 c3], .slice au lu cu] W fun e w' => e = .returned (.bool va) ∧ Below W.heap.size W w') := hide (fun W d => by
            have q := ltakes_any W n m a1 a2 a3 c1 c2 c3 Sa Fa Ea au cu (ptU M Wd) (hide (hA.out.on (HBW.out.trans (d.mono HBW.out.size)))) (hide (HU.out.1.on d)) (by have := en.out; omega) (by have := en.out; omega) (by have := en.out; omega) (by have := HU.out.2.2.1; have := hle.out; omega)
            rw [en.out.1, en.out.2.1, en.out.2.2.1, HU.out.2.2.1, hva] at q
            exact q)
          have TB : Hid (∀ W, Below wr.heap.size wr W → Calls Tryz.prog 7 #[.agg #[.int .i64 n', .int .i64 m', .slice b1 l1 d1, .slice b2 l2 d2, .slice b3 l3 d3], .slice av lv cv] W fun e w' => e = .returned (.bool vb) ∧ Below W.heap.size W w') := hide (fun W d => by
            have q := ltakes_any W n' m' b1 b2 b3 d1 d2 d3 Sb Fb Eb av cv (ptV M Wd) (hide (hB.out.on (HBW.out.trans (d.mono HBW.out.size)))) (hide (HU.out.2.1.on d)) (by have := en.out; omega) (by have := en.out; omega) (by have := en.out; omega) (by have := HU.out.2.2.2; have := hle.out; omega)
            rw [en.out.2.2.2.1, en.out.2.2.2.2.1, en.out.2.2.2.2.2, HU.out.2.2.2, hvb] at q
            exact q)
          have HV := hide (And.intro hva hvb)
          have HWb := hide HL.out.2.2.be
          clear hva hvb
          obtain ⟨y0, y1, y2, y3, y4⟩ := zc5 (blk_on HD.out.2.1 HWb.out)
          cases va with
          | false =>
            go_wp2_with (go_at_call 7; refine (TA.out _ (Below.refl _ _)).mono ?_; rintro e wa ⟨rfl, dA⟩)
            go_roundw
            case rel => exact ⟨M + 1, by omega, by go_num, hide ⟨fun M' h => by
              by_cases e : M' = M
              · subst e; rw [HV.out.1]; rfl
              · exact HI.out.1 M' (by omega), HWb.out.trans (dA.mono HWb.out.size)⟩⟩
            case measure => simp [intOf]; omega
          | true =>
            cases vb with
            | false =>
              go_wp2_with (first | (go_at_call_of 7 a1; refine (TA.out _ (Below.refl _ _)).mono ?_; rintro e wa ⟨rfl, dA⟩; have HDA := hide dA; obtain ⟨x0, x1, x2, x3, x4⟩ := zc5 (blk_on HD.out.2.2.1 (HWb.out.trans (dA.mono HWb.out.size)))) | (go_at_call_of 7 b1; refine (TB.out _ HDA.out).mono ?_; rintro e wb ⟨rfl, dB⟩))
              go_roundw
              case rel => exact ⟨M + 1, by omega, by go_num, hide ⟨fun M' h => by
                by_cases e : M' = M
                · subst e; rw [HV.out.2, Bool.and_false]
                · exact HI.out.1 M' (by omega), HWb.out.trans ((HDA.out.trans (dB.mono HDA.out.size)).mono HWb.out.size)⟩⟩
              case measure => simp [intOf]; omega
            | true =>
              go_wp2_with (first | (go_at_call_of 7 a1; refine (TA.out _ (Below.refl _ _)).mono ?_; rintro e wa ⟨rfl, dA⟩; have HDA := hide dA; obtain ⟨x0, x1, x2, x3, x4⟩ := zc5 (blk_on HD.out.2.2.1 (HWb.out.trans (dA.mono HWb.out.size)))) | (go_at_call_of 7 b1; refine (TB.out _ HDA.out).mono ?_; rintro e wb ⟨rfl, dB⟩))
              go_ret
              refine ⟨?_, HD.out.1.trans ((HWb.out.trans ((HDA.out.trans (dB.mono HDA.out.size)).mono HWb.out.size)).mono HD.out.1.size)⟩
              rw [lai_yes (M := M) (by rw [HNW.out, HN2.out]; exact hlt) (by rw [HV.out.1, HV.out.2]; rfl)]
              rfl
    · have hlt' : ¬ (M : Int) < (N2 : Int) := fun h => hlt (Int.ofNat_lt.1 h)
      obtain rfl : M = N2 := by clear hsh; omega
      go_wp2_with fail
      go_ret
      refine ⟨?_, HD.out.1.trans (HI.out.2.mono HD.out.1.size)⟩
      rw [lai_no (fun M' h => HI.out.1 M' (by rw [HNW.out, hN2] at h; exact h))]
      rfl
/-! ### BuildShuffles -/
set_option maxRecDepth 100000 in
set_option maxHeartbeats 40000000 in
theorem tshuf_any (w : World) (n m n' m' : Int) (a1 a2 a3 b1 b2 b3 aw av : Option Addr) (n1 n2 n3 l1 l2 l3 nw nv c1 c2 c3 d1 d2 d3 cw cv : Nat) (Sa Fa Sb Fb Wd : List Int) (Ea Eb : List EdT) (en : Hid (Sa.length = n1 ∧ Fa.length = n2 ∧ Ea.length = n3 ∧ Sb.length = l1 ∧ Fb.length = l2 ∧ Eb.length = l3 ∧ Wd.length = nw)) (hA : Hid (RdA w a1 a2 a3 Sa Fa Ea)) (hB : Hid (RdA w b1 b2 b3 Sb Fb Eb)) (hU : Hid (RdN w aw Wd)) (h1 : n1 ≤ 1048576) (h2 : n2 ≤ 1048576) (h3 : n3 ≤ 1048576) (h4 : l1 ≤ 1048576) (h5 : l2 ≤ 1048576) (h6 : l3 ≤ 1048576) (h7 : nw ≤ 1048576) :
    Calls Tryz.prog 3 #[.agg #[.int .i64 n, .int .i64 m, .slice a1 n1 c1, .slice a2 n2 c2, .slice a3 n3 c3, .int .i64 n', .int .i64 m', .slice b1 l1 d1, .slice b2 l2 d2, .slice b3 l3 d3, .slice aw nw cw, .slice av nv cv]] w fun e w' => e = .returned (.bool true) ∧ Below w.heap.size w w' := by
  obtain ⟨W0, hW0⟩ : ∃ W0, w.alloc (.cells #[.int .i64 n, .int .i64 m, .slice a1 n1 c1, .slice a2 n2 c2, .slice a3 n3 c3, .int .i64 n', .int .i64 m', .slice b1 l1 d1, .slice b2 l2 d2, .slice b3 l3 d3, .slice aw nw cw, .slice av nv cv] 27) = W0 := ⟨_, rfl⟩
  have HB : Hid (W0.heap[w.heap.size]? = some (.cells #[.int .i64 n, .int .i64 m, .slice a1 n1 c1, .slice a2 n2 c2, .slice a3 n3 c3, .int .i64 n', .int .i64 m', .slice b1 l1 d1, .slice b2 l2 d2, .slice b3 l3 d3, .slice aw nw cw, .slice av nv cv] 27 (0, 0)) ∧ Below w.heap.size w W0) := hide (by rw [← hW0]; exact ⟨World.alloc_heap_new _ _, (Below.refl _ _).alloc (Nat.le_refl _) _⟩)
  have HW : Hid (Wd.length = nw) := hide en.out.2.2.2.2.2.2
  have TL := lives_any W0
  go_enter Tryz.func3, Tryz.ntmps3
  go_upto_region 3 with (go_at_call 5; refine TL.mono ?_; rintro e wl ⟨rfl, DL⟩)
  have DK : Hid (Below W0.heap.size W0 wl) := hide DL
  clear TL DL hW0
  have HWB : Hid (Below w.heap.size w wl) := hide (HB.out.2.trans (DK.out.mono HB.out.2.size))
  have TM := shuf_any wl n m n' m' 400 a1 a2 a3 b1 b2 b3 c1 c2 c3 d1 d2 d3 Sa Fa Sb Fb Ea Eb (hide (hA.out.on HWB.out)) (hide (hB.out.on HWB.out)) (by have := en.out; omega) (by have := en.out; omega) (by have := en.out; omega) (by have := en.out; omega) (by have := en.out; omega) (by have := en.out; omega)
  rw [en.out.1, en.out.2.1, en.out.2.2.1, en.out.2.2.2.1, en.out.2.2.2.2.1, en.out.2.2.2.2.2.1] at TM
  obtain ⟨y0, y1, y2, y3, y4, y5, y6, y7, y8, y9, y10, y11⟩ := zc12 (blk_on HB.out.1 DK.out)
  go_upto_region 4 with (go_at_call 6; refine TM.mono ?_; rintro e wm ⟨rnm, rmm, rrm, psm, rsm, rfm, rem, x1m, y1m, x2m, y2m, x3m, y3m, xpm, ypm, rfl, HOm, DQm⟩)
  clear TM y0 y1 y2 y3 y4 y5 y6 y7 y8 y9 y10 y11
  obtain ⟨Wm, hWm⟩ : ∃ W, wm.alloc (.cells #[.int .i64 rnm, .int .i64 rmm, .slice x1m rsm.length y1m, .slice x2m rfm.length y2m, .slice x3m rem.length y3m] 25) = W := ⟨_, rfl⟩
  obtain ⟨pm, hpm⟩ : ∃ p, wm.heap.size = p := ⟨_, rfl⟩
  have HXm : Hid (Wm.heap[pm]? = some (.cells #[.int .i64 rnm, .int .i64 rmm, .slice x1m rsm.length y1m, .slice x2m rfm.length y2m, .slice x3m rem.length y3m] 25 (0, 0)) ∧ RdA Wm x1m x2m x3m rsm rfm rem) := hide (by rw [← hWm, ← hpm]; exact ⟨World.alloc_heap_new _ _, (⟨own_rdN HOm.out.1.s, own_rdN HOm.out.1.f, own_rdE HOm.out.1.e⟩ : RdA wm x1m x2m x3m rsm rfm rem).on ((Below.refl _ _).alloc (Nat.le_refl _) _)⟩)
  have HQm : Hid (rrm = 0 → rnm = (psm.length : Int) ∧ rmm = m ∧ rsm.length ≤ 4096 ∧ rfm.length ≤ 4096 ∧ rem.length ≤ 65536 ∧ MetQ n m n' m' Sa Fa Ea Sb Fb Eb psm rsm rfm rem) := hide (fun e => (HOm.out.2.resolve_left (fun k => k e)).2)
  have HC : Hid (Below wl.heap.size wl Wm) := hide (by rw [← hWm]; exact DQm.trans (((Below.refl _ _).alloc (Nat.le_refl _) _).mono DQm.size))
  rw [hWm, hpm]
  clear hWm hpm HOm DQm HWB
  replace DK : Hid (Below W0.heap.size W0 Wm) := hide (DK.out.trans (HC.out.mono DK.out.size))
  clear HC
  have HBW : Hid (Below w.heap.size w Wm) := hide (HB.out.2.trans (DK.out.mono HB.out.2.size))
  obtain ⟨y0, y1, y2, y3, y4, y5, y6, y7, y8, y9, y10, y11⟩ := zc12 (blk_on HB.out.1 DK.out)
  by_cases he : rrm = 0
  · subst he
    by_cases hw : 12 < nw
    · have hw' : (12 : Int) < (nw : Int) := by omega
      go_wp2_with fail
      go_ret
      exact ⟨rfl, HBW.out⟩
    · have hw' : ¬ (12 : Int) < (nw : Int) := by omega
      go_upto_region 6 with fail
      clear y0 y1 y2 y3 y4 y5 y6 y7 y8 y9 y10 y11
      obtain ⟨e1, e2, l1', l2', l3', hR⟩ := HQm.out rfl
      subst e1
      obtain rfl : m = rmm := e2.symm
      obtain ⟨vs, hvs⟩ : ∃ v, tkF (psm.length : Int) m rsm rfm rem Wd = v := ⟨_, rfl⟩
      have HVs : Hid (vs = laiB (tkF n m Sa Fa Ea) (tkF n' m' Sb Fb Eb) Wd ∧ (vs = true → Wd.all (inB m) = true)) := hide (by
        rw [← hvs]
        refine ⟨?_, fun h => (tkF_iff.1 h).2.1⟩
        rw [Bool.eq_iff_iff, tk_shuf hR l3' Wd, lai_iff])
      have TK : Hid (∀ W, Below Wm.heap.size Wm W → Calls Tryz.prog 7 #[.agg #[.int .i64 (psm.length : Int), .int .i64 m, .slice x1m rsm.length y1m, .slice x2m rfm.length y2m, .slice x3m rem.length y3m], .slice aw nw cw] W fun e w' => e = .returned (.bool vs) ∧ Below W.heap.size W w') := hide (fun W d => by
        have q := ltakes_any W (psm.length : Int) m x1m x2m x3m y1m y2m y3m rsm rfm rem aw cw Wd (hide (HXm.out.2.on d)) (hide (hU.out.on (HBW.out.trans (d.mono HBW.out.size)))) (by omega) (by omega) (by omega) (by have := en.out; omega)
        rw [HW.out, hvs] at q
        exact q)
      clear hvs hR l1' l2' l3' e2
      obtain ⟨sy, hsy⟩ : ∃ b, Wd.all (inB m) = b := ⟨_, rfl⟩
      have TY : Hid (∀ W, Below Wm.heap.size Wm W → Calls Tryz.prog 8 #[.slice aw nw cw, .int .i64 m] W fun e w' => e = .returned (.bool sy) ∧ Below W.heap.size W w') := hide (fun W d => by
        have q := lsyms_any W aw cw Wd m (hide (hU.out.on (HBW.out.trans (d.mono HBW.out.size)))) (by have := en.out; omega)
        rw [HW.out, hsy] at q
        exact q)
      have HSY := hide hsy
      clear hsy
      have TZ : Hid (∀ W, Below Wm.heap.size Wm W → Calls Tryz.prog 9 #[.agg #[.int .i64 n, .int .i64 m, .slice a1 n1 c1, .slice a2 n2 c2, .slice a3 n3 c3], .agg #[.int .i64 n', .int .i64 m', .slice b1 l1 d1, .slice b2 l2 d2, .slice b3 l3 d3], .slice aw nw cw] W fun e w' => e = .returned (.bool vs) ∧ Below W.heap.size W w') := hide (fun W d => by
        have q := laid_any W n m n' m' a1 a2 a3 b1 b2 b3 c1 c2 c3 d1 d2 d3 n1 n2 n3 l1 l2 l3 Sa Fa Sb Fb Ea Eb (hide ⟨en.out.1, en.out.2.1, en.out.2.2.1, en.out.2.2.2.1, en.out.2.2.2.2.1, en.out.2.2.2.2.2.1⟩) (hide (hA.out.on (HBW.out.trans (d.mono HBW.out.size)))) (hide (hB.out.on (HBW.out.trans (d.mono HBW.out.size)))) (by have := en.out; omega) (by have := en.out; omega) (by have := en.out; omega) (by have := en.out; omega) (by have := en.out; omega) (by have := en.out; omega) aw nw cw Wd HW (hide (hU.out.on (HBW.out.trans (d.mono HBW.out.size)))) (by omega)
        rw [← HVs.out.1] at q
        exact q)
      cases sy with
      | false =>
        obtain rfl : vs = false := by
          cases vs with
          | false => rfl
          | true => have q := HVs.out.2 rfl; rw [HSY.out] at q; cases q
        have hmo : MonIL 0 [vI 0 (.agg #[.int .i64 (psm.length : Int), .int .i64 m, .slice x1m rsm.length y1m, .slice x2m rfm.length y2m, .slice x3m rem.length y3m]), vI 1 (.pointer (some ⟨w.heap.size, 10, none⟩)), vI 2 (.slice aw nw cw), vI 3 (.bool false), vI 4 (.pointer (some ⟨w.heap.size, 10, none⟩)), vI 5 (.slice aw nw cw), vI 6 (.pointer (some ⟨w.heap.size, 0, none⟩)), vI 7 (.pointer (some ⟨w.heap.size, 1, none⟩)), vI 8 (.int .i64 m), vI 9 (.bool false), vI 10 (.bool false), vI 11 undef, vI 12 undef, vI 13 undef, vI 14 undef, vI 15 undef, vI 16 undef, vI 17 undef, vI 18 (.bool false), vI 19 (.bool true)] := ⟨vI_mono _ _, vI_mono _ _, vI_mono _ _, vI_mono _ _, vI_mono _ _, vI_mono _ _, vI_mono _ _, vI_mono _ _, vI_mono _ _, vI_mono _ _, vI_mono _ _, vI_mono _ _, vI_mono _ _, vI_mono _ _, vI_mono _ _, vI_mono _ _, vI_mono _ _, vI_mono _ _, vI_mono _ _, vI_mono _ _, trivial⟩
        refine wp_region_sl _ (by kernel_rfl) (stB_dir (by kernel_rfl)) (by kernel_rfl) (by kernel_rfl) hmo ⟨?o0, ?o1, ?o2, ?o3, ?o4, ?o5, ?o6, ?o7, ?o8, ?o9, ?o10, ?o11, ?o12, ?o13, ?o14, ?o15, ?o16, ?o17, ?o18, ?o19, trivial⟩ ?fin
        case o0 =>
         intro At yy W hy hb d hd K hK
         obtain ⟨s3, t3⟩ := zsh (hb 3 rfl) rfl
         clear hd hy hb
         obtain ⟨z0, z1, z2, z3, z4⟩ := zc5 (blk_on HXm.out.1 d)
         go_simp
         exact zkq hK hmo d (if_pos rfl)
        case o1 | o4 | o6 =>
         intro At yy W hy hb d hd K hK
         obtain ⟨s1, t1⟩ := zsh (hb 1 rfl) rfl
         clear hd hy hb
         go_simp
         exact zkq hK hmo d (if_pos rfl)
        case o2 =>
         intro At yy W hy hb d hd K hK
         obtain ⟨s26, t26⟩ := zsg 1 26 .data hy hd rfl
         clear hd hy hb
         obtain ⟨y0, y1, y2, y3, y4, y5, y6, y7, y8, y9, y10, y11⟩ := zc12 (blk_on HB.out.1 (DK.out.trans (d.mono DK.out.size)))
         go_simp
         exact zkq hK hmo d (if_pos rfl)
        case o3 =>
         intro At yy W hy hb d hd K hK
         obtain ⟨s25, t25⟩ := zsg 0 25 .data hy hd rfl
         obtain ⟨s27, t27⟩ := zsg 2 27 .data hy hd rfl
         clear hd hy hb
         go_simp
         go_wp2_with (go_at_call 7; refine (TK.out _ d).mono ?_; rintro e wa ⟨rfl, dR⟩)
         exact hK.out _ wa (stp_of hmo d dR) (if_pos rfl)
        case o5 =>
         intro At yy W hy hb d hd K hK
         obtain ⟨s29, t29⟩ := zsg 4 29 .data hy hd rfl
         clear hd hy hb
         obtain ⟨y0, y1, y2, y3, y4, y5, y6, y7, y8, y9, y10, y11⟩ := zc12 (blk_on HB.out.1 (DK.out.trans (d.mono DK.out.size)))
         go_simp
         exact zkq hK hmo d (if_pos rfl)
        case o7 =>
         intro At yy W hy hb d hd K hK
         obtain ⟨s31, t31⟩ := zsg 6 31 .data hy hd rfl
         clear hd hy hb
         go_simp
         exact zkq hK hmo d (if_pos rfl)
        case o8 =>
         intro At yy W hy hb d hd K hK
         obtain ⟨s32, t32⟩ := zsg 7 32 .data hy hd rfl
         clear hd hy hb
         obtain ⟨y0, y1, y2, y3, y4, y5, y6, y7, y8, y9, y10, y11⟩ := zc12 (blk_on HB.out.1 (DK.out.trans (d.mono DK.out.size)))
         go_simp
         exact zkq hK hmo d (if_pos rfl)
        case o9 =>
         intro At yy W hy hb d hd K hK
         obtain ⟨s30, t30⟩ := zsg 5 30 .data hy hd rfl
         obtain ⟨s33, t33⟩ := zsg 8 33 .data hy hd rfl
         clear hd hy hb
         go_simp
         go_wp2_with (go_at_call 8; refine (TY.out _ d).mono ?_; rintro e wa ⟨rfl, dR⟩)
         exact hK.out _ wa (stp_of hmo d dR) (if_pos rfl)
        case o10 =>
         intro At yy W hy hb d hd K hK
         obtain ⟨s34, t34⟩ := zsg 9 34 .data hy hd rfl
         clear hd hy hb
         go_simp
         exact zkq hK hmo d (if_pos rfl)
        case o11 | o12 | o13 | o14 | o15 | o16 | o17 =>
         intro At yy W hy hb d hd K hK
         have g35 := zgd 10 35 hy hd rfl
         clear hd hy hb
         go_simp
         exact zkq hK hmo d (if_pos rfl)
        case o18 =>
         intro At yy W hy hb d hd K hK
         obtain ⟨s35, t35⟩ := zsg 10 35 .data hy hd rfl
         obtain ⟨s42, t42⟩ := zsg 17 42 .data hy hd rfl
         clear hd hy hb
         go_simp
         exact zkq hK hmo d (if_pos rfl)
        case o19 =>
         intro At yy W hy hb d hd K hK
         obtain ⟨s28, t28⟩ := zsg 3 28 .data hy hd rfl
         obtain ⟨s43, t43⟩ := zsg 18 43 .data hy hd rfl
         clear hd hy hb
         go_simp
         exact zkq hK hmo d (if_pos rfl)
        case fin =>
         intro yy lo hi W hM
         show wpList _ _ _ [_] _ _
         have e19 := hM.v 19 (by simp) rfl rfl rfl
         have HDD : Hid (Below w.heap.size w W) := hide (HBW.out.trans (hM.d.mono HBW.out.size))
         simp only [fills, Act.put, List.take, List.length, List.setIfInBounds_toArray, List.set_cons_zero, List.set_cons_succ, e19]
         clear hM hmo e19
         go_wp2_with fail
         go_ret
         exact ⟨rfl, HDD.out⟩
      | true =>
        have hmo : MonIL 0 [vI 0 (.agg #[.int .i64 (psm.length : Int), .int .i64 m, .slice x1m rsm.length y1m, .slice x2m rfm.length y2m, .slice x3m rem.length y3m]), vI 1 (.pointer (some ⟨w.heap.size, 10, none⟩)), vI 2 (.slice aw nw cw), vI 3 (.bool vs), vI 4 (.pointer (some ⟨w.heap.size, 10, none⟩)), vI 5 (.slice aw nw cw), vI 6 (.pointer (some ⟨w.heap.size, 0, none⟩)), vI 7 (.pointer (some ⟨w.heap.size, 1, none⟩)), vI 8 (.int .i64 m), vI 9 (.bool true), vI 10 (.bool true), vI 11 (.pointer (some ⟨w.heap.size, 0, none⟩)), vI 12 (.agg #[.int .i64 n, .int .i64 m, .slice a1 n1 c1, .slice a2 n2 c2, .slice a3 n3 c3]), vI 13 (.pointer (some ⟨w.heap.size, 5, none⟩)), vI 14 (.agg #[.int .i64 n', .int .i64 m', .slice b1 l1 d1, .slice b2 l2 d2, .slice b3 l3 d3]), vI 15 (.pointer (some ⟨w.heap.size, 10, none⟩)), vI 16 (.slice aw nw cw), vI 17 (.bool vs), vI 18 (.bool vs), vI 19 (.bool true)] := ⟨vI_mono _ _, vI_mono _ _, vI_mono _ _, vI_mono _ _, vI_mono _ _, vI_mono _ _, vI_mono _ _, vI_mono _ _, vI_mono _ _, vI_mono _ _, vI_mono _ _, vI_mono _ _, vI_mono _ _, vI_mono _ _, vI_mono _ _, vI_mono _ _, vI_mono _ _, vI_mono _ _, vI_mono _ _, vI_mono _ _, trivial⟩
        refine wp_region_sl _ (by kernel_rfl) (stB_dir (by kernel_rfl)) (by kernel_rfl) (by kernel_rfl) hmo ⟨?o0, ?o1, ?o2, ?o3, ?o4, ?o5, ?o6, ?o7, ?o8, ?o9, ?o10, ?o11, ?o12, ?o13, ?o14, ?o15, ?o16, ?o17, ?o18, ?o19, trivial⟩ ?fin
        case o0 =>
         intro At yy W hy hb d hd K hK
         obtain ⟨s3, t3⟩ := zsh (hb 3 rfl) rfl
         clear hd hy hb
         obtain ⟨z0, z1, z2, z3, z4⟩ := zc5 (blk_on HXm.out.1 d)
         go_simp
         exact zkq hK hmo d (if_pos rfl)
        case o1 | o4 | o6 =>
         intro At yy W hy hb d hd K hK
         obtain ⟨s1, t1⟩ := zsh (hb 1 rfl) rfl
         clear hd hy hb
         go_simp
         exact zkq hK hmo d (if_pos rfl)
        case o2 =>
         intro At yy W hy hb d hd K hK
         obtain ⟨s26, t26⟩ := zsg 1 26 .data hy hd rfl
         clear hd hy hb
         obtain ⟨y0, y1, y2, y3, y4, y5, y6, y7, y8, y9, y10, y11⟩ := zc12 (blk_on HB.out.1 (DK.out.trans (d.mono DK.out.size)))
         go_simp
         exact zkq hK hmo d (if_pos rfl)
        case o3 =>
         intro At yy W hy hb d hd K hK
         obtain ⟨s25, t25⟩ := zsg 0 25 .data hy hd rfl
         obtain ⟨s27, t27⟩ := zsg 2 27 .data hy hd rfl
         clear hd hy hb
         go_simp
         go_wp2_with (go_at_call 7; refine (TK.out _ d).mono ?_; rintro e wa ⟨rfl, dR⟩)
         exact hK.out _ wa (stp_of hmo d dR) (if_pos rfl)
        case o5 =>
         intro At yy W hy hb d hd K hK
         obtain ⟨s29, t29⟩ := zsg 4 29 .data hy hd rfl
         clear hd hy hb
         obtain ⟨y0, y1, y2, y3, y4, y5, y6, y7, y8, y9, y10, y11⟩ := zc12 (blk_on HB.out.1 (DK.out.trans (d.mono DK.out.size)))
         go_simp
         exact zkq hK hmo d (if_pos rfl)
        case o7 =>
         intro At yy W hy hb d hd K hK
         obtain ⟨s31, t31⟩ := zsg 6 31 .data hy hd rfl
         clear hd hy hb
         go_simp
         exact zkq hK hmo d (if_pos rfl)
        case o8 =>
         intro At yy W hy hb d hd K hK
         obtain ⟨s32, t32⟩ := zsg 7 32 .data hy hd rfl
         clear hd hy hb
         obtain ⟨y0, y1, y2, y3, y4, y5, y6, y7, y8, y9, y10, y11⟩ := zc12 (blk_on HB.out.1 (DK.out.trans (d.mono DK.out.size)))
         go_simp
         exact zkq hK hmo d (if_pos rfl)
        case o9 =>
         intro At yy W hy hb d hd K hK
         obtain ⟨s30, t30⟩ := zsg 5 30 .data hy hd rfl
         obtain ⟨s33, t33⟩ := zsg 8 33 .data hy hd rfl
         clear hd hy hb
         go_simp
         go_wp2_with (go_at_call 8; refine (TY.out _ d).mono ?_; rintro e wa ⟨rfl, dR⟩)
         exact hK.out _ wa (stp_of hmo d dR) (if_pos rfl)
        case o10 =>
         intro At yy W hy hb d hd K hK
         obtain ⟨s34, t34⟩ := zsg 9 34 .data hy hd rfl
         clear hd hy hb
         go_simp
         exact zkq hK hmo d (if_pos rfl)
        case o11 | o13 | o15 =>
         intro At yy W hy hb d hd K hK
         obtain ⟨s1, t1⟩ := zsh (hb 1 rfl) rfl
         have g35 := zgd 10 35 hy hd rfl
         clear hd hy hb
         go_simp
         exact zkq hK hmo d (if_pos rfl)
        case o12 =>
         intro At yy W hy hb d hd K hK
         obtain ⟨s36, t36⟩ := zsg 11 36 .data hy hd rfl
         have g35 := zgd 10 35 hy hd rfl
         clear hd hy hb
         obtain ⟨y0, y1, y2, y3, y4, y5, y6, y7, y8, y9, y10, y11⟩ := zc12 (blk_on HB.out.1 (DK.out.trans (d.mono DK.out.size)))
         go_simp
         exact zkq hK hmo d (if_pos rfl)
        case o14 =>
         intro At yy W hy hb d hd K hK
         obtain ⟨s38, t38⟩ := zsg 13 38 .data hy hd rfl
         have g35 := zgd 10 35 hy hd rfl
         clear hd hy hb
         obtain ⟨y0, y1, y2, y3, y4, y5, y6, y7, y8, y9, y10, y11⟩ := zc12 (blk_on HB.out.1 (DK.out.trans (d.mono DK.out.size)))
         go_simp
         exact zkq hK hmo d (if_pos rfl)
        case o16 =>
         intro At yy W hy hb d hd K hK
         obtain ⟨s40, t40⟩ := zsg 15 40 .data hy hd rfl
         have g35 := zgd 10 35 hy hd rfl
         clear hd hy hb
         obtain ⟨y0, y1, y2, y3, y4, y5, y6, y7, y8, y9, y10, y11⟩ := zc12 (blk_on HB.out.1 (DK.out.trans (d.mono DK.out.size)))
         go_simp
         exact zkq hK hmo d (if_pos rfl)
        case o17 =>
         intro At yy W hy hb d hd K hK
         obtain ⟨s37, t37⟩ := zsg 12 37 .data hy hd rfl
         obtain ⟨s39, t39⟩ := zsg 14 39 .data hy hd rfl
         obtain ⟨s41, t41⟩ := zsg 16 41 .data hy hd rfl
         have g35 := zgd 10 35 hy hd rfl
         clear hd hy hb
         go_simp
         go_wp2_with (go_at_call 9; refine (TZ.out _ d).mono ?_; rintro e wa ⟨rfl, dR⟩)
         exact hK.out _ wa (stp_of hmo d dR) (if_pos rfl)
        case o18 =>
         intro At yy W hy hb d hd K hK
         obtain ⟨s35, t35⟩ := zsg 10 35 .data hy hd rfl
         obtain ⟨s42, t42⟩ := zsg 17 42 .data hy hd rfl
         clear hd hy hb
         go_simp
         exact zkq hK hmo d (if_pos rfl)
        case o19 =>
         intro At yy W hy hb d hd K hK
         obtain ⟨s28, t28⟩ := zsg 3 28 .data hy hd rfl
         obtain ⟨s43, t43⟩ := zsg 18 43 .data hy hd rfl
         clear hd hy hb
         go_simp
         exact zkq hK hmo d (if_pos rfl)
        case fin =>
         intro yy lo hi W hM
         show wpList _ _ _ [_] _ _
         have e19 := hM.v 19 (by simp) rfl rfl rfl
         have HDD : Hid (Below w.heap.size w W) := hide (HBW.out.trans (hM.d.mono HBW.out.size))
         simp only [fills, Act.put, List.take, List.length, List.setIfInBounds_toArray, List.set_cons_zero, List.set_cons_succ, e19]
         clear hM hmo e19
         go_wp2_with fail
         go_ret
         exact ⟨rfl, HDD.out⟩
  · have heb : (rrm == 0) = false := by simp [he]
    have hen : (rrm != 0) = true := by simp [he]
    go_wp2_with fail
    go_ret
    exact ⟨rfl, HBW.out⟩
end Go.Proofs.YtchoopnjckcohaaGreat
namespace Go.Proofs.YtchoopnjckcohaaGreat.frame
open Go.ChangeShapes Go.WideShapes Go.ChangeAt Go.RowKit Go.Joins Go.Deep
theorem own : ownKnob Tryz.prog.godebug = none := by kernel_rfl
theorem laidOut : laidOutB Tryz.prog = true := by kernel_rfl
theorem cells3 : Tryz.prog.cellsOf 3 = 1 := by kernel_rfl
theorem cells25 : Tryz.prog.cellsOf 25 = 5 := by kernel_rfl
theorem cells59 : Tryz.prog.cellsOf 50 = 3 := by kernel_rfl
theorem cellsI : Tryz.prog.cellsOf 22 = 1 := by kernel_rfl
theorem cellsEs : Tryz.prog.cellsOf 23 = 1 := by kernel_rfl
theorem bulk_pos {H : Type} (d : DataW H) : 0 < Rows.uptoBulk d := by
  cases d
  case lit l => cases l <;> simp [Rows.uptoBulk]
  all_goals simp [Rows.uptoBulk]
theorem bulk_list {H : Type} (l : List (DataW H)) : l.length ≤ Rows.uptoBulkAll l ∧ ∀ d ∈ l, Rows.uptoBulk d ≤ Rows.uptoBulkAll l := by
  induction l with
  | nil => exact ⟨Nat.zero_le _, fun s hs => by cases hs⟩
  | cons x r ih =>
    have e : Rows.uptoBulkAll (x :: r) = Rows.uptoBulk x + Rows.uptoBulkAll r := by simp [Rows.uptoBulkAll]
    have := bulk_pos x
    rw [e]
    refine ⟨by simp; omega, fun s hs => ?_⟩
    rcases List.mem_cons.1 hs with rfl | h
    · omega
    · have := ih.2 s h; omega
theorem list1 {α : Type} {l : List α} (h : l.length = 1) : ∃ c0, l = [c0] := by
  match l, h with
  | [c0], _ => exact ⟨c0, rfl⟩
theorem list3 {α : Type} {l : List α} (h : l.length = 3) : ∃ c0 c1 c2, l = [c0, c1, c2] := by
  match l, h with
  | [c0, c1, c2], _ => exact ⟨c0, c1, c2, rfl⟩
set_option maxRecDepth 100000 in
/-- A list that came in, opened. -/
theorem list_open {H : Type} {enc : TypeId × Value → H} {W : World} {n : Nat} {v : Value} {y : DataW H × List MemPlace} {T e sz : Nat} {α : Type} [Inhabited α] (At : Nat → Nat → α → Prop) (Z : α → Nat → Prop) (hZ : ∀ x a b, a ≤ b → Z x a → Z x b)
    (hT : Tryz.prog.underlying T = some (.slice e)) (hc : Tryz.prog.cellsOf e = sz)
    (item : ∀ {n' : Nat} {a : Addr} {cs : List Value} {z : DataW H × List MemPlace}, W.cells? 0 a sz = some cs → DataW.trod enc Tryz.prog W 0 (fun _ => true) true n' e cs = some z → ∃ x : α, At a.block a.off x ∧ a.spot = none ∧ Z x (Rows.uptoBulk z.1))
    (h : DataW.trod enc Tryz.prog W 0 (fun _ => true) true n T [v] = some y) :
    ∃ aL cL, ∃ L : List α, v = .slice aL L.length cL ∧ (∀ (k : Nat) (hk : k < L.length), ∃ g o, aL = some ⟨g, o, none⟩ ∧ At g (o + k * sz) L[k]) ∧ L.length ≤ Rows.uptoBulk y.1 ∧ ∀ x ∈ L, Z x (Rows.uptoBulk y.1) := by
  rcases open_slice hT h with ⟨hcs, _⟩ | ⟨a, len, cap, m, n', D, Pl, hcs, _, hl, _, hmm, hy, hx⟩
  · simp only [List.cons.injEq, and_true] at hcs
    exact ⟨none, 0, [], hcs, fun k hk => by simp at hk, by simp, fun s hs => by cases hs⟩
  · simp only [List.cons.injEq, and_true] at hcs
    simp only [if_true] at hmm
    have hsp : 0 < len → a.spot = none := by
      intro h0
      obtain ⟨cs', h1, h2⟩ := hx 0 (by omega)
      rw [hc] at h1
      obtain ⟨x, _, sp, _⟩ := item h1 h2
      simpa [Addr.add] using sp
    have each : ∀ i, i < len → ∃ x : α, At a.block (a.off + i * sz) x ∧ a.spot = none ∧ Z x (Rows.uptoBulk (D i)) := by
      intro i hi
      obtain ⟨cs', h1, h2⟩ := hx i (by omega)
      rw [hc] at h1
      obtain ⟨x, o, _, z⟩ := item h1 h2
      obtain ⟨ab, ao, spot⟩ := a
      have hs : spot = none := hsp (by omega)
      subst hs
      rw [Addr.add_lit] at o
      exact ⟨x, o, rfl, z⟩
    have hb := bulk_list (H := H) ((List.range len).map D)
    have hyb : Rows.uptoBulkAll ((List.range len).map D) ≤ Rows.uptoBulk y.1 := by rw [hy]; simp only [Rows.uptoBulk]; omega
    obtain ⟨q, hq⟩ := choose_lt each
    refine ⟨some a, cap, (List.range len).map q, by simpa using hcs, fun k hk => ?_, ?_, fun x hx2 => ?_⟩
    · have hk' : k < len := by simpa using hk
      obtain ⟨ab, ao, spot⟩ := a
      have hsp : spot = none := (hq k hk').2.1
      subst hsp
      refine ⟨ab, ao, rfl, ?_⟩
      have := (hq k hk').1
      simpa using this
    · have := hb.1
      simp at this
      simp
      omega
    · obtain ⟨i, hi, rfl⟩ := List.mem_map.1 hx2
      have hi' := List.mem_range.1 hi
      have h1 := (hq i hi').2.2
      have h2 := hb.2 (D i) (List.mem_map_of_mem hi)
      exact hZ _ _ _ (by omega) h1
theorem list5 {α : Type} {l : List α} (h : l.length = 5) : ∃ c0 c1 c2 c3 c4, l = [c0, c1, c2, c3, c4] := by
  match l, h with
  | [c0, c1, c2, c3, c4], _ => exact ⟨c0, c1, c2, c3, c4, rfl⟩
theorem num_item {H : Type} {enc : TypeId × Value → H} {W : World} {n : Nat} {a : Addr} {cs : List Value} {y : DataW H × List MemPlace} (h1 : W.cells? 0 a 1 = some cs) (h : DataW.trod enc Tryz.prog W 0 (fun _ => true) true n 3 cs = some y) :
    ∃ x : Int, W.cell? ⟨a.block, a.off, none⟩ = some (.int .i64 x) ∧ a.spot = none := by
  obtain ⟨_, hlen, hcell⟩ := World.cells?_some h1
  obtain ⟨v0, rfl⟩ := list1 hlen
  obtain ⟨k, e1, _, _⟩ := DataW.trod_int Tryz.underlying3 h
  simp only [List.cons.injEq, and_true] at e1
  subst e1
  have c0 := hcell 0 (by omega)
  obtain ⟨ab, ao, spot⟩ := a
  have hspot : spot = none := by simpa [Addr.add] using World.cell?_spot c0
  subst hspot
  rw [Addr.add_lit] at c0
  exact ⟨k, c0, rfl⟩
theorem ed_item {H : Type} {enc : TypeId × Value → H} {W : World} {n : Nat} {a : Addr} {cs : List Value} {y : DataW H × List MemPlace} (h1 : W.cells? 0 a 3 = some cs) (h : DataW.trod enc Tryz.prog W 0 (fun _ => true) true n 50 cs = some y) :
    ∃ x : EdT, (W.cell? ⟨a.block, a.off, none⟩ = some (.int .i64 x.1) ∧ W.cell? ⟨a.block, a.off + 1, none⟩ = some (.int .i64 x.2.1) ∧ W.cell? ⟨a.block, a.off + 2, none⟩ = some (.int .i64 x.2.2)) ∧ a.spot = none := by
  obtain ⟨_, hlen, hcell⟩ := World.cells?_some h1
  obtain ⟨v0, v1, v2, rfl⟩ := list3 hlen
  obtain ⟨xs, n', _, hx, hl, hlen2, hfl⟩ := DataW.trod_struct Tryz.underlying50 h
  obtain ⟨y0, y1, y2, rfl⟩ := list3 hlen2
  have g0 := hfl 0 _ rfl
  have g1 := hfl 1 _ rfl
  have g2 := hfl 2 _ rfl
  simp [cells3] at g0 g1 g2
  obtain ⟨s, e0, _, _⟩ := DataW.trod_int Tryz.underlying3 g0
  obtain ⟨t, e1, _, _⟩ := DataW.trod_int Tryz.underlying3 g1
  obtain ⟨u, e2, _, _⟩ := DataW.trod_int Tryz.underlying3 g2
  simp only [List.cons.injEq, and_true] at e0 e1 e2
  subst e0 e1 e2
  have c0 := hcell 0 (by omega)
  have c1 := hcell 1 (by omega)
  have c2 := hcell 2 (by omega)
  obtain ⟨ab, ao, spot⟩ := a
  have hspot : spot = none := by simpa [Addr.add] using World.cell?_spot c0
  subst hspot
  rw [Addr.add_lit] at c0 c1 c2
  exact ⟨(s, t, u), ⟨c0, c1, c2⟩, rfl⟩
/-- A list of ints that came in, opened. -/
theorem nums_open {H : Type} {enc : TypeId × Value → H} {W : World} {n : Nat} {v : Value} {y : DataW H × List MemPlace} (h : DataW.trod enc Tryz.prog W 0 (fun _ => true) true n 22 [v] = some y) :
    ∃ (a : Option Addr) (c : Nat) (L : List Int), v = .slice a L.length c ∧ RdN W a L ∧ L.length ≤ Rows.uptoBulk y.1 := by
  obtain ⟨a, k, L, rfl, hL, l1, _⟩ := list_open (α := Int) (fun g o x => W.cell? ⟨g, o, none⟩ = some (.int .i64 x)) (fun _ _ => True) (fun _ _ _ _ q => q) Tryz.underlying22 cells3 (fun h1 h2 => by obtain ⟨x, q, s⟩ := num_item h1 h2; exact ⟨x, q, s, trivial⟩) h
  refine ⟨a, k, L, rfl, fun k hk => ?_, l1⟩
  obtain ⟨g, o, e, q⟩ := hL k hk
  exact ⟨g, o, e, by rw [Nat.mul_one] at q; exact q⟩
/-- An automaton that came in, opened. -/
theorem auto_open {H : Type} {enc : TypeId × Value → H} {W : World} {n : Nat} {v0 v1 v2 v3 v4 : Value} {y : DataW H × List MemPlace} (h : DataW.trod enc Tryz.prog W 0 (fun _ => true) true n 25 [v0, v1, v2, v3, v4] = some y) :
    ∃ (nn mm : Int) (a1 a2 a3 : Option Addr) (c1 c2 c3 : Nat) (St Fi : List Int) (Ed : List EdT), v0 = .int .i64 nn ∧ v1 = .int .i64 mm ∧ v2 = .slice a1 St.length c1 ∧ v3 = .slice a2 Fi.length c2 ∧ v4 = .slice a3 Ed.length c3 ∧ RdA W a1 a2 a3 St Fi Ed ∧
      St.length ≤ Rows.uptoBulk y.1 ∧ Fi.length ≤ Rows.uptoBulk y.1 ∧ Ed.length ≤ Rows.uptoBulk y.1 := by
  obtain ⟨ys, n2, _, hx2, hl2, hlen2, hfl2⟩ := DataW.trod_struct Tryz.underlying25 h
  obtain ⟨z0, z1, z2, z3, z4, rfl⟩ := list5 hlen2
  have g0 := hfl2 0 _ rfl
  have g1 := hfl2 1 _ rfl
  have g2 := hfl2 2 _ rfl
  have g3 := hfl2 3 _ rfl
  have g4 := hfl2 4 _ rfl
  simp [cells3, cellsI, cellsEs] at g0 g1 g2 g3 g4
  obtain ⟨nn, e0, _, _⟩ := DataW.trod_int Tryz.underlying3 g0
  obtain ⟨mm, e1, _, _⟩ := DataW.trod_int Tryz.underlying3 g1
  simp only [List.cons.injEq, and_true] at e0 e1
  have hb0 : Rows.uptoBulk z2.1 ≤ Rows.uptoBulk y.1 ∧ Rows.uptoBulk z3.1 ≤ Rows.uptoBulk y.1 ∧ Rows.uptoBulk z4.1 ≤ Rows.uptoBulk y.1 := by
    rw [hx2]
    simp only [List.map_cons, List.map_nil, Rows.uptoBulk, Rows.uptoBulkAll]
    exact ⟨by omega, by omega, by omega⟩
  obtain ⟨a1, k1, St, e2, hSt, l1⟩ := nums_open g2
  obtain ⟨a2, k2, Fi, e3, hFi, l2⟩ := nums_open g3
  obtain ⟨a3, k3, Ed, e4, hEd, l3, _⟩ := list_open (α := EdT) (fun g o x => W.cell? ⟨g, o, none⟩ = some (.int .i64 x.1) ∧ W.cell? ⟨g, o + 1, none⟩ = some (.int .i64 x.2.1) ∧ W.cell? ⟨g, o + 2, none⟩ = some (.int .i64 x.2.2)) (fun _ _ => True) (fun _ _ _ _ q => q) Tryz.underlying23 cells59 (fun h1 h2 => by obtain ⟨x, q, s⟩ := ed_item h1 h2; exact ⟨x, q, s, trivial⟩) g4
  exact ⟨nn, mm, a1, a2, a3, k1, k2, k3, St, Fi, Ed, e0, e1, e2, e3, e4, ⟨hSt, hFi, hEd⟩, by omega, by omega, by omega⟩
theorem cellsM : Tryz.prog.cellsOf 27 = 12 := by kernel_rfl
theorem list12 {α : Type} {l : List α} (h : l.length = 12) : ∃ a b c d e f g h i j k o, l = [a, b, c, d, e, f, g, h, i, j, k, o] := by
  match l, h with
  | [a, b, c, d, e, f, g, h, i, j, k, o], _ => exact ⟨a, b, c, d, e, f, g, h, i, j, k, o, rfl⟩
theorem list4 {α : Type} {l : List α} (h : l.length = 4) : ∃ a b c d, l = [a, b, c, d] := by
  match l, h with
  | [a, b, c, d], _ => exact ⟨a, b, c, d, rfl⟩
/-- A list of ints that came in, opened, with its room. -/
theorem nums_room {H : Type} {enc : TypeId × Value → H} {W : World} {n : Nat} {v : Value} {y : DataW H × List MemPlace} (h : DataW.trod enc Tryz.prog W 0 (fun _ => true) true n 22 [v] = some y) :
    ∃ (a : Option Addr) (c : Nat) (L : List Int), v = .slice a L.length c ∧ RdN W a L ∧ L.length ≤ Rows.uptoBulk y.1 ∧ L.length ≤ c := by
  obtain ⟨a, c, L, e, hr, hl⟩ := nums_open h
  refine ⟨a, c, L, e, hr, hl, ?_⟩
  rcases open_slice Tryz.underlying22 h with ⟨hcs, _⟩ | ⟨_, len, cap, _, _, _, _, hcs, _, hlc, _⟩
  · simp only [List.cons.injEq, and_true] at hcs
    rw [hcs] at e
    injection e with _ e2 _
    omega
  · simp only [List.cons.injEq, and_true] at hcs
    rw [hcs] at e
    injection e with _ e2 e3
    omega
set_option maxRecDepth 100000 in
/-- Two automata and two words that came in, opened. -/
theorem means_in {H : Type} {enc : TypeId × Value → H} {W : World} {base : Nat} {v : Value} {d : DataW H} {p : List MemPlace} (hv : Value.okWide Tryz.prog W .any base 27 v) (h : DataW.Trod enc Tryz.prog W 0 (fun _ => true) true 27 v d p) (hk : Rows.uptoBulk d ≤ 1048576) :
    ∃ (n m n' m' : Int) (a1 a2 a3 b1 b2 b3 aw av : Option Addr) (c1 c2 c3 d1 d2 d3 cw cv : Nat) (St Fi Sb Fb Wd Vd : List Int) (Ed Eb : List EdT), v = .agg #[.int .i64 n, .int .i64 m, .slice a1 St.length c1, .slice a2 Fi.length c2, .slice a3 Ed.length c3, .int .i64 n', .int .i64 m', .slice b1 Sb.length d1, .slice b2 Fb.length d2, .slice b3 Eb.length d3, .slice aw Wd.length cw, .slice av Vd.length cv] ∧ RdA W a1 a2 a3 St Fi Ed ∧ RdA W b1 b2 b3 Sb Fb Eb ∧ RdN W aw Wd ∧ RdN W av Vd ∧ (St.length ≤ 1048576 ∧ Fi.length ≤ 1048576 ∧ Ed.length ≤ 1048576) ∧ (Sb.length ≤ 1048576 ∧ Fb.length ≤ 1048576 ∧ Eb.length ≤ 1048576) ∧ (Wd.length ≤ 1048576 ∧ Wd.length ≤ cw) ∧ Vd.length ≤ 1048576 ∧ Vd.length ≤ cv := by
  obtain ⟨cs, rfl, hsz⟩ := okWide_struct Tryz.underlying27 hv
  obtain ⟨l⟩ := cs
  have hl12 : l.length = 12 := hsz.trans cellsM
  obtain ⟨x0, x1, x2, x3, x4, x5, x6, x7, x8, x9, x10, x11, rfl⟩ := list12 hl12
  obtain ⟨fuel, hf⟩ := h
  obtain ⟨xs, n, _, hx, hl, hlen, hfl⟩ := DataW.trod_struct Tryz.underlying27 hf
  obtain ⟨y0, y1, y2, y3, rfl⟩ := list4 hlen
  have h0 := hfl 0 _ rfl
  have h1 := hfl 1 _ rfl
  have h2 := hfl 2 _ rfl
  have h3 := hfl 3 _ rfl
  simp [Value.cells, cellsI, cells25] at h0 h1 h2 h3
  simp only [Prod.mk.injEq] at hx
  rw [hx.1] at hk
  simp only [List.map_cons, List.map_nil, Rows.uptoBulk, Rows.uptoBulkAll] at hk
  obtain ⟨n, m, a1, a2, a3, k1, k2, k3, St, Fi, Ed, rfl, rfl, rfl, rfl, rfl, rA, e1, e2, e3⟩ := auto_open h0
  obtain ⟨n', m', b1, b2, b3, j1, j2, j3, Sb, Fb, Eb, rfl, rfl, rfl, rfl, rfl, rB, f1, f2, f3⟩ := auto_open h1
  obtain ⟨aw, cw, Wd, rfl, rW, l4, l5⟩ := nums_room h2
  obtain ⟨av, cv, Vd, rfl, rV, l6, l7⟩ := nums_room h3
  exact ⟨n, m, n', m', a1, a2, a3, b1, b2, b3, aw, av, k1, k2, k3, j1, j2, j3, cw, cv, St, Fi, Sb, Fb, Wd, Vd, Ed, Eb, rfl, rA, rB, rW, rV, ⟨by omega, by omega, by omega⟩, ⟨by omega, by omega, by omega⟩, ⟨by omega, l5⟩, by omega, l7⟩
end Go.Proofs.YtchoopnjckcohaaGreat.frame
