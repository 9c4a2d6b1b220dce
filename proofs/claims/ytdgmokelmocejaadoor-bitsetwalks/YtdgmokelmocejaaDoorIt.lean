import Derived.RangeFuncNested
import Derived.RangeFuncBound
import Derived.RangeFuncCalls
import Derived.RangeFuncLeaves
import Derived.RangeFuncBox
import Derived.Shelf.Abstract
import Derived.Shelf.RegionOpen
import Derived.WalkKit
import Derived.OwnWalkIn
import Derived.TacticsInMore
import Derived.LoopNIn
import Derived.LoopIn
import Derived.Test.YtdgmokelmocejaaDoorRm
namespace Go.Proofs.YtdgmokelmocejaaDoor
open Go.RowKit Go.Shelf
attribute [local go_sem] Oper.semAt_some

/-- What a round keeps for the iterator over a set: the table, and every block of words from B on. -/
structure KpU (B : Nat) (W W' : World) : Prop where
  size : W.heap.size ≤ W'.heap.size
  tab : W'.heap[0]? = W.heap[0]?
  words : ∀ (b : Nat) (cs : Array Value) (fr : Nat × Nat), B ≤ b → W.heap[b]? = some (.cells cs 67 fr) → W'.heap[b]? = some (.cells cs 67 fr)

theorem KpU.refl (B : Nat) (W : World) : KpU B W W := ⟨Nat.le_refl _, rfl, fun _ _ _ _ h => h⟩
theorem KpU.trans {B : Nat} {W1 W2 W3 : World} (h : KpU B W1 W2) (k : KpU B W2 W3) : KpU B W1 W3 :=
  ⟨Nat.le_trans h.size k.size, k.tab.trans h.tab, fun b cs fr hb hc => k.words b cs fr hb (h.words b cs fr hb hc)⟩
theorem KpU.mono {B C : Nat} {W W' : World} (h : KpU B W W') (hBC : B ≤ C) : KpU C W W' := ⟨h.size, h.tab, fun b cs fr hb hc => h.words b cs fr (by omega) hc⟩
theorem KpU.grown {B : Nat} {W W' : World} {row : Option Nat} (hg : W.grownBy W' row) (h0 : 0 < W.heap.size) (hrow : ∀ r, row = some r → r ≠ 0 ∧ (r < B ∨ ∀ cs fr, W.heap[r]? ≠ some (.cells cs 67 fr))) : KpU B W W' := by
  refine ⟨hg.size, hg.block 0 h0 (fun e => (hrow 0 e.symm).1 rfl), fun b cs fr hb hc => ?_⟩
  refine (hg.block b (Array.getElem?_eq_some_iff.1 hc).1 fun e => ?_).trans hc
  rcases (hrow b e.symm).2 with h | h
  · omega
  · exact h cs fr hc
theorem KpU.alloc {B : Nat} (W : World) (h0 : 0 < W.heap.size) (o : Obj) : KpU B W (W.alloc o) := KpU.grown (World.grownBy_alloc W o none) h0 (fun r e => by cases e)
theorem KpU.put {B w0 : Nat} (h0 : 0 < w0) (W : World) (l : Nat) (o o' : Obj) (hl : w0 ≤ l) (h : W.heap[l]? = some o) (hc : o.isCells = false) (_ : o.isWalk = false) : KpU B W (W.putObj l o') := by
  have hlt := (Array.getElem?_eq_some_iff.1 h).1
  refine KpU.grown (grownBy_putObj' W l o') (by omega) (fun r e => ?_)
  cases e
  refine ⟨by omega, .inr fun cs fr hk => ?_⟩
  rw [h] at hk
  cases hk
  cases hc
theorem KpU.own {β : Type} {B C : Nat} {W : World} (hC : 0 < C) (h0 : 0 < W.heap.size) : OwnFrom C (fun (_ : β) W' => KpU B W W') := by
  intro s A A' row hs hg hr
  refine hs.trans (KpU.grown hg (Nat.lt_of_lt_of_le h0 hs.size) fun r e => ?_)
  obtain ⟨hC', o, ho, hc⟩ := hr r e
  refine ⟨by omega, .inr fun cs fr hk => ?_⟩
  rw [ho] at hk
  cases hk
  cases hc
theorem TabAt.kp {B : Nat} {W W' : World} (h : TabAt W) (k : KpU B W W') : TabAt W' := fun j hj => (World.cell?_of_block (a := ⟨0, j, none⟩) k.tab).trans (h j hj)

/-- The numbers of a list. -/
abbrev El (E : List Nat) := { i : Nat // i ∈ E }

theorem elems_pre (X m : Nat) : ∀ k, k ≤ m → elems (64 * k) X <+: elems (64 * m) X := by
  intro k hk
  induction m with
  | zero => obtain rfl : k = 0 := by omega
            exact List.prefix_refl _
  | succ m ih =>
    by_cases h : k = m + 1
    · subst h; exact List.prefix_refl _
    · rw [elems_succ]; exact (ih (by omega)).trans (List.prefix_append _ _)

theorem round_any {m : Nat} (m' : Nat) {l : Nat} {f : FuncId} {tmps : Array Value} {assign body : Code} {w : World} {R : Ending → World → Prop}
    (h : RoundIn Fence.wide m Tryd.prog l f tmps assign body w R) : RoundIn Fence.wide m' Tryd.prog l f tmps assign body w R := ⟨h.1, fun c cs _ => h.2 c cs (room_wide _)⟩

set_option maxRecDepth 100000 in
set_option maxHeartbeats 1000000 in
theorem walk_in (n l B g cap m X : Nat) (E : List Nat) (hE : Hid (elems (64 * m) X = E)) (J Jx : List (El E) → World → Prop)
    (hY : ∀ (k : Nat) (pre : List (El E)) (x : El E) (W1 : World), J pre W1 → pre.length < E.length → YieldAt Fence.wide k Tryd.prog l #[.int .i64 (x.1 : Int)] W1 fun e W' =>
      (e = .returned (.bool true) ∧ J (pre ++ [x]) W' ∧ KpU B W1 W') ∨ (e = .returned (.bool false) ∧ Jx (pre ++ [x]) W'))
    (W : World) (hT : TabAt W) (hblk : ∃ cs fr, W.heap[g]? = some (.cells cs 67 fr)) (hword : ∀ k, k < m → W.cell? ⟨g, k, none⟩ = some (.int .u64 (wordAt X k))) (hBg : B ≤ g) (hm : m ≤ 128) (h0 : J [] W) :
    CallsIn Fence.wide n Tryd.prog 41 #[.slice (some ⟨g, 0, none⟩) m cap, .func (.yield l) #[] #[]] W fun e W' => (∃ v, e = .returned v) ∧
      ((∃ ys, ys.map Subtype.val = E ∧ J ys W') ∨ (∃ pre, pre.map Subtype.val <+: E ∧ Jx pre W')) := by
  have hwk : ∀ wr k, KpU B W wr → k < m → wr.cell? ⟨g, k, none⟩ = some (.int .u64 (wordAt X k)) := by
    intro wr k hk hlt
    obtain ⟨cs, fr, hc⟩ := hblk
    exact (World.cell?_of_block (a := ⟨g, k, none⟩) ((hk.words g cs fr hBg hc).trans hc.symm)).trans (hword k hlt)
  have HW := hide hwk
  clear hwk hword hblk
  refine callsIn_of_wp Tryd.func41 rfl trivial ?_ rfl
  simp only [Tryd.ntmps41, List.size_toArray, List.length_cons, List.length_nil, Nat.reduceAdd, Nat.reduceSub, Array.replicate_succ, Array.replicate_zero, List.push_toArray, List.append_toArray, List.nil_append, List.cons_append]
  gi_wp2
  gi_loopw [8] (fun i wr => ∃ (k : Nat) (pre : List (El E)), k ≤ m ∧ i = .int .i64 k ∧ pre.map Subtype.val = elems (64 * k) X ∧ KpU B W wr ∧ J pre wr) (fun i _ => m - (intOf i).toNat)
  case atStart => exact ⟨0, [], Nat.zero_le _, rfl, by simp [elems], KpU.refl _ _, h0⟩
  case round =>
    obtain ⟨k, pre, hk, rfl, hpre, hkp, hJ⟩ := hrel
    by_cases hlt : k < m
    · have hcw : wr.cell? ⟨g, k, none⟩ = some (.int .u64 (wordAt X k)) := HW.out wr k hkp hlt
      have hwl := wordAt_lt X k
      have HP := hide hpre
      clear hpre
      gi_wp2
      gi_loopw [5] (fun yy wi => ∃ (y : Nat) (pre : List (El E)), yy = .int .u64 y ∧ y < 18446744073709551616 ∧ KpU B W wi ∧ J pre wi ∧ pre.map Subtype.val ++ (elems 64 y).map (64 * k + ·) = elems (64 * (k + 1)) X) (fun yy _ => (intOf yy).toNat)
      case atStart => exact ⟨_, pre, rfl, hwl, hkp, hJ, by rw [HP.out]; exact (elems_succ X k).symm⟩
      case round =>
        clear hkp hJ HP hcw pre
        obtain ⟨y, pre, rfl, hy, hkp, hJ, hacc⟩ := hrel
        have HA := hide hacc
        clear hacc
        by_cases h0 : y = 0
        · have hyb : ((y : Int) != 0) = false := by simp [h0]
          have HY := hide h0
          clear h0
          gi_wp2
          go_roundw
          case rel =>
            have e := HA.out
            rw [HY.out, elems_zero] at e
            simp at e
            exact ⟨k + 1, pre, by omega, by go_num, e, hkp, hJ⟩
          case measure => simp [intOf]; omega
        · have hyb : ((y : Int) != 0) = true := by simp [h0]
          have hT2 : TabAt wr := hT.kp hkp
          have hc64 : Lib.ctz 64 y < 64 := by obtain ⟨_, _, h⟩ := ctz_spec y h0 hy; exact h
          have hstep : Hid (pre.map Subtype.val ++ [64 * k + Lib.ctz 64 y] ++ (elems 64 (y &&& (y - 1))).map (64 * k + ·) = elems (64 * (k + 1)) X) := by
            rw [← HA.out, elems_step y h0 hy]
            show _ = _
            simp
          have hpx : pre.map Subtype.val ++ [64 * k + Lib.ctz 64 y] <+: E := by
            have hk1 := elems_pre X m (k + 1) (by omega)
            rw [hE.out] at hk1
            exact List.IsPrefix.trans ⟨_, hstep.out⟩ hk1
          have hmem : 64 * k + Lib.ctz 64 y ∈ E := hpx.subset (by simp)
          have hlen : pre.length < E.length := by
            have := hpx.length_le
            simp at this
            omega
          have HPX := hide hpx
          clear hpx
          have hyp := and_pred_u64 y h0 hy
          have hlt2 := and_pred_lt y h0
          obtain ⟨fn, tmps, assign, body, hyy, hR⟩ := hY (n - 1) pre ⟨64 * k + Lib.ctz 64 y, hmem⟩ wr hJ hlen
          dsimp only at hyy
          rw [show ((64 * k + Lib.ctz 64 y : Nat) : Int) = (k : Int) * 64 + (Lib.ctz 64 y : Int) by omega] at hyy
          gi_wp2
          refine ⟨trivial, (fun h => by cases h), (callsIn_wide.2 (tz_any y hy h0 _ hT2)).mono ?_⟩
          rintro e w' ⟨rfl, hw⟩
          obtain rfl := hw.symm
          clear hw
          gi_wp2
          refine ⟨(fun h => by cases h), hR.mono ?_⟩
          rintro e W3 (⟨rfl, hJ3, hk3⟩ | ⟨rfl, hJx3⟩)
          · gi_wp2
            go_roundw
            case rel => exact ⟨y &&& (y - 1), _, rfl, by omega, hkp.trans hk3, hJ3, by simpa using hstep.out⟩
            case measure => simp [intOf]; omega
          · gi_wp2
            refine bodyPost_ret (results_none rfl _ _ _) rfl ?_
            exact ⟨⟨_, rfl⟩, .inr ⟨_, by simpa using HPX.out, hJx3⟩⟩
    · gi_wp2
      go_end0
      have hke : k = m := by omega
      subst hke
      exact ⟨⟨_, rfl⟩, .inl ⟨pre, by rw [hpre, hE.out], hJ⟩⟩

theorem own_words {W : World} {B g cap n X : Nat} (h : W.ownsRow B 67 1 (.slice (some ⟨g, 0, none⟩) (nw n) cap) (nw n) (wordVals n X)) :
    B ≤ g ∧ (∃ cs fr, W.heap[g]? = some (.cells cs 67 fr)) ∧ ∀ k, k < nw n → W.cell? ⟨g, k, none⟩ = some (.int .u64 (wordAt X k)) := by
  refine ⟨(h.lt g rfl).1, ?_, fun k hk => ?_⟩
  · rcases h.2 with ⟨h1, _⟩ | ⟨g', cap', cur, hv, _, hg, _⟩
    · cases h1
    · cases hv
      exact ⟨_, _, hg⟩
  · have := h.cells (g := g) rfl k _ (wordVals_get n X k hk)
    rw [Addr.add_lit] at this
    simpa using this

set_option maxRecDepth 100000 in
set_option maxHeartbeats 1000000 in
/-- What All hands back goes through the set's numbers, whatever a round does that keeps the words laid since. -/
theorem all_stops (n Bs b g cap m X : Nat) (w : World) (hbx : Boxed w Bs 25 (.pointer (some ⟨b, 0, none⟩))) (hs : IsSet w b g cap m X) (hT : TabAt w) :
    SeqStopsK Fence.wide n Tryd.prog 47 #[.pointer (some ⟨Bs, 0, none⟩)] (fun x : El (elems m X) => #[Value.int .i64 (x.1 : Int)]) (KpU w.heap.size) (fun ys => ys.map Subtype.val = elems m X) (fun pre => pre.map Subtype.val <+: elems m X) (elems m X).length w := by
  intro l J Jx W hW hJ hJx hY h0
  have hpos : 0 < w.heap.size := Nat.lt_of_le_of_lt (Nat.zero_le _) hs.blt
  have hs1 := hs.below hW
  have hT1 := hT.below hW hpos
  have hb1 : Boxed W Bs 25 (.pointer (some ⟨b, 0, none⟩)) := (hW.block Bs hbx.lt).trans hbx
  have hc0 := hb1.cell
  have hc1 := hs1.c1
  have hn := hs.hn
  have hsz := hW.size
  have hfull := elems_full m (64 * nw m) X hs.hX (by unfold nw; omega)
  have HF : Hid (elems (64 * nw m) X = elems m X) := hfull
  have HO := hide hs1.own
  clear hfull hs1 hs hbx hW hb1
  refine callsIn_of_wp Tryd.func47 rfl trivial ?_ rfl
  simp only [Tryd.ntmps47, List.size_toArray, List.length_cons, List.length_nil, Nat.reduceAdd, Nat.reduceSub, Array.replicate_succ, Array.replicate_zero, List.push_toArray, List.append_toArray, List.nil_append, List.cons_append]
  gi_wp2
  refine ⟨trivial, (fun h => by cases h), (callsIn_wide.2 (clone_any g cap m X _ hn HO.out)).mono ?_⟩
  rintro e W2 ⟨g', cap', rfl, ho, hb2⟩
  obtain ⟨hg1, hblk, hword⟩ := own_words ho
  have hT2 := hT1.below hb2 (by omega)
  have hJ2 : J [] W2 := hJ [] W W2 none h0 ⟨hb2.os, hb2.tape, hb2.output, hb2.size, fun k hk _ => hb2.block k hk⟩ (fun r e => by cases e)
  clear ho hc0 hc1 HO
  gi_wp2
  refine ⟨trivial, (fun h => by cases h), (walk_in _ l w.heap.size g' cap' (nw m) X (elems m X) HF J Jx (fun k pre x W1 hj hl => ?_) W2 hT2 hblk hword (by omega) (nw_le hn) hJ2).mono ?_⟩
  · obtain ⟨fn, tmps, assign, body, hy, hR⟩ := hY pre x W1 hj hl
    exact ⟨fn, tmps, assign, body, hy, round_any k hR⟩
  · rintro e W3 ⟨⟨v, rfl⟩, hr⟩
    gi_wp2
    go_end0
    exact ⟨⟨_, rfl⟩, hr⟩

set_option maxHeartbeats 1000000 in
theorem all_any (p : Option Addr) (w : World) :
    Calls Tryd.prog 16 #[.pointer p] w fun e w' => e = .returned (.func (.func 47) #[] #[.pointer (some ⟨w.heap.size, 0, none⟩)]) ∧ w' = w.alloc (.cells #[.pointer p] 25) := by
  go_enter Tryd.func16, Tryd.ntmps16
  go_wp2
  go_ret
  exact ⟨rfl, rfl⟩
end Go.Proofs.YtdgmokelmocejaaDoor
