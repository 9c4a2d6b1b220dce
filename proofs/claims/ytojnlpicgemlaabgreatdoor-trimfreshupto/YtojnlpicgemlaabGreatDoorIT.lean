import Derived.RangeFuncNested
import Derived.RangeFuncBound
import Derived.RangeFuncCalls
import Derived.RangeFuncLeaves
import Derived.RangeFuncBox
import Derived.Shelf.Abstract
import Derived.Shelf.RegionOpen
import Derived.WalkKit
import Derived.OwnWalkIn
import Derived.TacticsInMore
import Derived.LoopNIn
import Derived.LoopIn
import Derived.Test.YtojnlpicgemlaabGreatDoorIN
namespace Go.Proofs.YtojnlpicgemlaabGreatDoor
open Go.RowKit

/-- A function that goes through the values of a list, one by one and in their order, as long as each round goes on. -/
def SeqP (n gf : Nat) (lb : Array Value) (E : List Value) (Kp : World → World → Prop) (w : World) : Prop :=
  ∀ (l : Nat) (J : Nat → World → Prop) (W : World), Below w.heap.size w W → (∀ k A A', J k A → Below A.heap.size A A' → J k A') →
    (∀ (k : Nat) (W1 : World) (hk : k < E.length), J k W1 → YieldAt Fence.wide (n - 1) Tryz.prog l #[E[k]] W1 fun e W' => e = .returned (.bool true) ∧ J (k + 1) W' ∧ Kp W1 W') →
    J 0 W → CallsIn Fence.wide n Tryz.prog gf (#[.func (.yield l) #[] #[]] ++ lb) W fun e W' => (∃ v, e = .returned v) ∧ J E.length W'

/-- How a round's body ends: it goes on; the loop's own two blocks are as they were. -/
def goesOn (L : Nat) (Kp : World → World → Prop) (I : Nat → World → Prop) (k : Nat) (W : World) : Exit → Act → World → Prop
  | .normal, _, W' => (W'.heap[L]? = W.heap[L]? ∧ W'.heap[L + 1]? = W.heap[L + 1]?) ∧ Kp W W' ∧ I k W'
  | _, _, _ => False

/-- The loop over such a function: its rounds come in the list's order. -/
theorem range_in_order {n : Nat} {g : Operand} {t : Tmp} {assign body : Code} {Q : Exit → Act → World → Prop} {a : Act} {w w0 : World} {gf : Nat} {lb : Array Value} {E : List Value} {Kp : World → World → Prop}
    (h1 : 1 ≤ n) (hg : a.eval g = .func (.func gf) #[] lb) (eg : ∀ args w, (callFunc gf args).run Tryz.prog w = .ok (.enter gf args) w) (hseq : SeqP (n - 1) gf lb E Kp w0)
    (hKt : ∀ {A B C : World}, Kp A B → Kp B C → Kp A C) (hKb : ∀ (W : World) (r r' : Loop), W.heap[w.heap.size + 1]? = some (.loop r) → Kp W (W.putObj (w.heap.size + 1) (.loop r'))) (hb0 : Below w0.heap.size w0 w)
    (I : Nat → World → Prop) (hI : ∀ k A A', I k A → Below A.heap.size A A' → I k A') (hIp : ∀ k (A : World) (r r' : Loop), I k A → A.heap[w.heap.size + 1]? = some (.loop r) → I k (A.putObj (w.heap.size + 1) (.loop r'))) (h0 : I 0 w) (a₁ : Value → Act)
    (hassign : ∀ (l : Nat) (x : Value) (W : World) (K : Act → World → Prop), K (a₁ x) W → assign.wpIn (Fence.wide.inRound l) (n - 1 - 1) Tryz.prog (Exit.then K (fun _ _ _ => False)) { tmps := (#[t].zip #[x]).foldl (fun t (p, v) => t.setIfInBounds p v) a.tmps, defers := [] } W)
    (hbody : ∀ (l k : Nat) (W : World) (hk : k < E.length), I k W → W.heap[w.heap.size]? = some (.deferred (some [])) → (∃ r, W.heap[w.heap.size + 1]? = some (.loop r)) → body.wpIn (Fence.wide.inRound l) (n - 1 - 1) Tryz.prog (goesOn w.heap.size Kp I (k + 1) W) (a₁ E[k]) W)
    (hdone : ∀ (D : Nat) (W : World), w.heap.size ≤ D → I E.length W → W.heap[D]? = some (.deferred (some [])) → Q .normal { a with defers := { target := .collected D, args := #[] } :: a.defers } W) :
    (Code.rangeFunc g #[t] assign body).wpIn Fence.wide n Tryz.prog Q a w := by
  refine wpIn_rangeFunc fun fn hfn => ?_
  obtain ⟨rec, hrec⟩ : ∃ rec : LoopState → Option Code → Loop, rec = fun st pe => { state := st, pending := pe, fn, tmps := a.tmps, params := #[t], assign, body, defers := w.heap.size } := ⟨_, rfl⟩
  obtain ⟨Wl, hWl⟩ : ∃ Wl, (w.alloc (.deferred (some []))).alloc (.loop (rec .ready none)) = Wl := ⟨_, rfl⟩
  have hLl : Wl.heap[w.heap.size + 1]? = some (.loop (rec .ready none)) := by
    rw [← hWl]; have := World.alloc_heap_new (w.alloc (.deferred (some []))) (.loop (rec .ready none)); rwa [World.size_alloc] at this
  have hDl : Wl.heap[w.heap.size]? = some (.deferred (some [])) := by
    rw [← hWl]; exact (Below.heap_alloc _ _ _ (by simp)).trans (World.alloc_heap_new w _)
  have hIl : I 0 Wl := by rw [← hWl]; exact hI _ _ _ (hI _ _ _ h0 ((Below.refl _ _).alloc (Nat.le_refl _) _)) ((Below.refl _ _).alloc (Nat.le_refl _) _)
  have hzl : Wl.heap.size = w.heap.size + 1 + 1 := by rw [← hWl]; simp
  have hbl : Below w0.heap.size w0 Wl := by
    rw [← hWl]; exact hb0.trans ((((Below.refl _ w).alloc (Nat.le_refl _) _).alloc (by simp) _).mono hb0.size)
  refine ⟨w.heap.size + 1, [{ target := .collected w.heap.size, args := #[] }], Wl, { target := .fn (.func gf) lb, args := #[.func (.yield (w.heap.size + 1)) #[] #[]] }, Wl, gf,
    #[.func (.yield (w.heap.size + 1)) #[] #[]] ++ lb, Wl, by rw [← hWl, hrec]; exact run_enterLoop_outer _ _ _ _ _, by simp only [resolve, hg]; simp [go_sem], fun f' hf' => trivial, by simp [invoke, go_sem, eg], fun _ => h1, ?_⟩
  refine (hseq (w.heap.size + 1) (fun k W => I k W ∧ W.heap[w.heap.size + 1]? = some (.loop (rec .ready none)) ∧ W.heap[w.heap.size]? = some (.deferred (some []))) Wl hbl ?_ ?_ ⟨hIl, hLl, hDl⟩).mono ?_
  · rintro k A A' ⟨hi, hl, hd⟩ hb
    exact ⟨hI _ _ _ hi hb, (hb.block _ (Array.getElem?_eq_some_iff.1 hl).1).trans hl, (hb.block _ (Array.getElem?_eq_some_iff.1 hd).1).trans hd⟩
  · rintro k W hk ⟨hi, hl, hd⟩
    have hlt : w.heap.size + 1 < W.heap.size := (Array.getElem?_eq_some_iff.1 hl).1
    have hy := run_yield (P := Tryz.prog) (args := #[E[k]]) hl (by rw [hrec]; rfl)
    rw [hrec] at hy
    refine ⟨fn, _, assign, body, hy, roundIn_of_wpIn hfn (hassign _ E[k] W _ ⟨_, run_beginRound hl (by rw [hrec]), ?_⟩)⟩
    obtain ⟨busy, hbusy⟩ : ∃ busy : Loop, busy = { rec .ready none with state := .busy } := ⟨_, rfl⟩
    have hl2 : (W.putObj (w.heap.size + 1) (.loop busy)).heap[w.heap.size + 1]? = some (.loop busy) := World.putObj_heap_same hlt
    have hd2 : (W.putObj (w.heap.size + 1) (.loop busy)).heap[w.heap.size]? = some (.deferred (some [])) := (World.putObj_heap_other (by omega)).trans hd
    have hkp : Kp W (W.putObj (w.heap.size + 1) (.loop busy)) := hKb _ _ _ hl
    rw [← hbusy]
    refine wpIn_mono (hbody _ k _ hk (hIp _ _ _ _ hi hl) hd2 ⟨_, hl2⟩) ?_
    rintro e a3 W3 hp
    cases e with
    | normal =>
      obtain ⟨hk3, hkp3, hi3⟩ := hp
      have hl3 := hk3.2.trans hl2
      have hr3 := run_endRound (P := Tryz.prog) none hl3
      rw [hbusy, hrec] at hr3
      refine ⟨_, _, hr3, rfl, ⟨hIp _ _ _ _ hi3 hl3, ?_, (World.putObj_heap_other (by omega)).trans (hk3.1.trans hd2)⟩, hKt (hKt hkp hkp3) (hKb _ _ _ hl3)⟩
      rw [hrec]
      exact World.putObj_heap_same (Array.getElem?_eq_some_iff.1 hl3).1
    | ret => exact hp.elim
    | exit id => exact hp.elim
    | goto t => exact hp.elim
    | panic ch => exact hp.elim
    | outgrown => exact hp.elim
  · rintro e W2 ⟨⟨v, rfl⟩, hi, hl, hd⟩
    exact ⟨none, _, by have := run_endLoop (P := Tryz.prog) hl (by rw [hrec]; simp); rw [hrec] at this; exact this, hdone _ _ (Nat.le_refl _) (hIp _ _ _ _ hi hl) ((World.putObj_heap_other (by omega)).trans hd)⟩
end Go.Proofs.YtojnlpicgemlaabGreatDoor
namespace Go.Proofs.YtojnlpicgemlaabGreatDoor
open Go.RowKit Go.Shelf
attribute [local go_sem] Oper.semAt_some

/-! ### A set's numbers, one by one -/
/-- What a round keeps for the walk over a set: the table, and every block of words from B on. -/
structure KpU (B : Nat) (W W' : World) : Prop where
  size : W.heap.size ≤ W'.heap.size
  tab : W'.heap[0]? = W.heap[0]?
  words : ∀ (b : Nat) (cs : Array Value) (fr : Nat × Nat), B ≤ b → W.heap[b]? = some (.cells cs 87 fr) → W'.heap[b]? = some (.cells cs 87 fr)
theorem KpU.refl (B : Nat) (W : World) : KpU B W W := ⟨Nat.le_refl _, rfl, fun _ _ _ _ h => h⟩
theorem KpU.trans {B : Nat} {W1 W2 W3 : World} (h : KpU B W1 W2) (k : KpU B W2 W3) : KpU B W1 W3 :=
  ⟨Nat.le_trans h.size k.size, k.tab.trans h.tab, fun b cs fr hb hc => k.words b cs fr hb (h.words b cs fr hb hc)⟩
theorem TabAt.kp {B : Nat} {W W' : World} (h : TabAt W) (k : KpU B W W') : TabAt W' := fun j hj => (World.cell?_of_block (a := ⟨0, j, none⟩) k.tab).trans (h j hj)
theorem elems_pre (X m : Nat) : ∀ k, k ≤ m → elems (64 * k) X <+: elems (64 * m) X := by
  intro k hk
  induction m with
  | zero => obtain rfl : k = 0 := by omega
            exact List.prefix_refl _
  | succ m ih =>
    by_cases h : k = m + 1
    · subst h; exact List.prefix_refl _
    · rw [elems_succ]; exact (ih (by omega)).trans (List.prefix_append _ _)
theorem round_any {m : Nat} (m' : Nat) {l : Nat} {f : FuncId} {tmps : Array Value} {assign body : Code} {w : World} {R : Ending → World → Prop}
    (h : RoundIn Fence.wide m Tryz.prog l f tmps assign body w R) : RoundIn Fence.wide m' Tryz.prog l f tmps assign body w R := ⟨h.1, fun c cs _ => h.2 c cs (room_wide _)⟩
theorem pre_at {E p s : List Nat} {x : Nat} (h : p ++ [x] ++ s = E) : ∃ hc : p.length < E.length, E[p.length] = x := by
  subst h
  exact ⟨by simp, by simp⟩
set_option maxRecDepth 100000 in
set_option maxHeartbeats 1000000 in
theorem walk_in (n l B g cap m X : Nat) (E : List Nat) (hE : Hid (elems (64 * m) X = E)) (J : Nat → World → Prop)
    (hY : ∀ (k c : Nat) (W1 : World) (hc : c < E.length), J c W1 → YieldAt Fence.wide k Tryz.prog l #[.int .i64 (E[c] : Int)] W1 fun e W' => e = .returned (.bool true) ∧ J (c + 1) W' ∧ KpU B W1 W')
    (W : World) (hT : TabAt W) (hblk : ∃ cs fr, W.heap[g]? = some (.cells cs 87 fr)) (hword : ∀ k, k < m → W.cell? ⟨g, k, none⟩ = some (.int .u64 (wordAt X k))) (hBg : B ≤ g) (hm : m ≤ 128) (h0 : J 0 W) :
    CallsIn Fence.wide n Tryz.prog 58 #[.slice (some ⟨g, 0, none⟩) m cap, .func (.yield l) #[] #[]] W fun e W' => (∃ v, e = .returned v) ∧ J E.length W' := by
  have hwk : ∀ wr k, KpU B W wr → k < m → wr.cell? ⟨g, k, none⟩ = some (.int .u64 (wordAt X k)) := by
    intro wr k hk hlt
    obtain ⟨cs, fr, hc⟩ := hblk
    exact (World.cell?_of_block (a := ⟨g, k, none⟩) ((hk.words g cs fr hBg hc).trans hc.symm)).trans (hword k hlt)
  have HW := hide hwk
  clear hwk hword hblk
  refine callsIn_of_wp Tryz.func58 rfl trivial ?_ rfl
  simp only [Tryz.ntmps58, List.size_toArray, List.length_cons, List.length_nil, Nat.reduceAdd, Nat.reduceSub, Array.replicate_succ, Array.replicate_zero, List.push_toArray, List.append_toArray, List.nil_append, List.cons_append]
  gi_wp2
  gi_loopw [8] (fun i wr => ∃ (k : Nat), k ≤ m ∧ i = .int .i64 k ∧ KpU B W wr ∧ J (elems (64 * k) X).length wr) (fun i _ => m - (intOf i).toNat)
  case atStart => exact ⟨0, Nat.zero_le _, rfl, KpU.refl _ _, by simpa [elems] using h0⟩
  case round =>
    obtain ⟨k, hk, rfl, hkp, hJ⟩ := hrel
    by_cases hlt : k < m
    · have hcw : wr.cell? ⟨g, k, none⟩ = some (.int .u64 (wordAt X k)) := HW.out wr k hkp hlt
      have hwl := wordAt_lt X k
      gi_wp2
      gi_loopw [5] (fun yy wi => ∃ (y : Nat) (pre : List Nat), yy = .int .u64 y ∧ y < 18446744073709551616 ∧ KpU B W wi ∧ J pre.length wi ∧ pre ++ (elems 64 y).map (64 * k + ·) = elems (64 * (k + 1)) X) (fun yy _ => (intOf yy).toNat)
      case atStart => exact ⟨_, elems (64 * k) X, rfl, hwl, hkp, hJ, (elems_succ X k).symm⟩
      case round =>
        clear hkp hJ hcw
        obtain ⟨y, pre, rfl, hy, hkp, hJ, hacc⟩ := hrel
        have HA := hide hacc
        clear hacc
        by_cases h0 : y = 0
        · have hyb : ((y : Int) != 0) = false := by simp [h0]
          have HY := hide h0
          clear h0
          gi_wp2
          go_roundw
          case rel =>
            have e := HA.out
            rw [HY.out, elems_zero] at e
            simp at e
            rw [e] at hJ
            exact ⟨k + 1, by omega, by go_num, hkp, hJ⟩
          case measure => simp [intOf]; omega
        · have hyb : ((y : Int) != 0) = true := by simp [h0]
          have hT2 : TabAt wr := hT.kp hkp
          have hc64 : Lib.ctz 64 y < 64 := by obtain ⟨_, _, h⟩ := ctz_spec y h0 hy; exact h
          have hstep : Hid (pre ++ [64 * k + Lib.ctz 64 y] ++ (elems 64 (y &&& (y - 1))).map (64 * k + ·) = elems (64 * (k + 1)) X) := by
            rw [← HA.out, elems_step y h0 hy]
            show _ = _
            simp
          obtain ⟨hc, hv⟩ : ∃ hc : pre.length < E.length, E[pre.length] = 64 * k + Lib.ctz 64 y := by
            obtain ⟨t, ht⟩ := elems_pre X m (k + 1) (by omega)
            rw [hE.out, ← hstep.out] at ht
            exact pre_at (s := (elems 64 (y &&& (y - 1))).map (64 * k + ·) ++ t) (by rw [← ht]; simp)
          have hyp := and_pred_u64 y h0 hy
          have hlt2 := and_pred_lt y h0
          obtain ⟨fn, tmps, assign, body, hyy, hR⟩ := hY (n - 1) pre.length wr hc hJ
          rw [hv] at hyy
          clear hv
          rw [show ((64 * k + Lib.ctz 64 y : Nat) : Int) = (k : Int) * 64 + (Lib.ctz 64 y : Int) by omega] at hyy
          gi_wp2
          refine ⟨trivial, (fun h => by cases h), (callsIn_wide.2 (tz_any y hy h0 _ hT2)).mono ?_⟩
          rintro e w' ⟨rfl, hw⟩
          obtain rfl := hw.symm
          clear hw
          gi_wp2
          refine ⟨(fun h => by cases h), hR.mono ?_⟩
          rintro e W3 ⟨rfl, hJ3, hk3⟩
          gi_wp2
          go_roundw
          case rel => exact ⟨y &&& (y - 1), pre ++ [64 * k + Lib.ctz 64 y], rfl, by omega, hkp.trans hk3, by simpa using hJ3, by simpa using hstep.out⟩
          case measure => simp [intOf]; omega
    · gi_wp2
      go_end0
      have hke : k = m := by omega
      subst hke
      rw [hE.out] at hJ
      exact ⟨⟨_, rfl⟩, hJ⟩
theorem own_words {W : World} {B g cap n X : Nat} (h : W.ownsRow B 87 1 (.slice (some ⟨g, 0, none⟩) (nw n) cap) (nw n) (wordVals n X)) :
    B ≤ g ∧ (∃ cs fr, W.heap[g]? = some (.cells cs 87 fr)) ∧ ∀ k, k < nw n → W.cell? ⟨g, k, none⟩ = some (.int .u64 (wordAt X k)) := by
  refine ⟨(h.lt g rfl).1, ?_, fun k hk => ?_⟩
  · rcases h.2 with ⟨h1, _⟩ | ⟨g', cap', cur, hv, _, hg, _⟩
    · cases h1
    · cases hv
      exact ⟨_, _, hg⟩
  · have := h.cells (g := g) rfl k _ (wordVals_get n X k hk)
    rw [Addr.add_lit] at this
    simpa using this
theorem info99 : (Tryz.prog.info? 87).map (fun i => (i.zero, i.size, i.bytes)) = some (some (.int .u64 0), 1, 8) := by kernel_rfl
theorem words_one (n X : Nat) : ∀ u ∈ wordVals n X, u.oneCell' = true := by
  intro u hu
  obtain ⟨k, _, rfl⟩ := List.mem_map.1 hu
  rfl
theorem new_cells {w : World} {g : Nat} {vs : List Value} (hg : g < w.heap.size) (h : ∀ (j : Nat) (u : Value), vs[j]? = some u → w.cell? ((⟨g, 0, none⟩ : Addr).add j) = some u) (o : Obj) :
    ∀ (j : Nat) (u : Value), vs[j]? = some u → (w.alloc o).cell? ((⟨g, 0, none⟩ : Addr).add j) = some u := fun j u hu => by
  have := h j u hu
  rw [Addr.add_lit] at this ⊢
  rw [World.cell?_of_block (w := w) (Below.heap_alloc w o g hg)]
  exact this
set_option maxRecDepth 100000 in
set_option maxHeartbeats 1000000 in
theorem clone_any (g cap n X : Nat) (w : World) (hn : n ≤ 8192) (hown : w.ownsRow 0 87 1 (.slice (some ⟨g, 0, none⟩) (nw n) cap) (nw n) (wordVals n X)) :
    Calls Tryz.prog 83 #[.slice (some ⟨g, 0, none⟩) (nw n) cap] w fun e w' => ∃ g' cap', e = .returned (.slice (some ⟨g', 0, none⟩) (nw n) cap') ∧ w'.ownsRow w.heap.size 87 1 (.slice (some ⟨g', 0, none⟩) (nw n) cap') (nw n) (wordVals n X) ∧ Below w.heap.size w w' := by
  obtain ⟨i0, hi, hz0, hz1, hz2⟩ := info_parts info99
  have hnw := nw_le hn
  have hglt := (hown.lt g rfl).2
  have hcells := hown.cells (g := g) rfl
  have heq : ∀ W : World, (binOp .eql 84 (.slice (some ⟨g, 0, none⟩) (nw n) cap) (.slice none 0 0)).run Tryz.prog W = .ok (.bool false) W := fun W => by
    have := Lib.run_eql_slice_nil (P := Tryz.prog) W 84 87 (some ⟨g, 0, none⟩) (nw n) cap 0 0 Tryz.underlying84
    simpa using this
  have hlen := wordVals_length n X
  have HL := hide hlen
  have HC := hide hcells
  clear hlen hcells
  go_enter Tryz.func83, Tryz.ntmps83
  go_wp2_with (at_builtin; refine wpList_append_own _ rfl _ _ _ rfl w.heap.size 87 i0 _ 1 8 Tryz.underlying84 hi hz0 hz1 hz2 rfl (by omega) (.slice (some ⟨w.heap.size, 0, none⟩) 0 0) 0 [] rfl (World.ownsRow_made w #[] 0 (Nat.le_refl _) (Nat.zero_le _) rfl) ⟨g, 0, none⟩ (nw n) cap (wordVals n X) rfl (by rw [HL.out, Nat.mul_one]) (new_cells hglt HC.out _) (words_one n X) (by unfold maxLen; omega) (by omega) (by simp) ?_)
  intro v' w1 ho hgr hnil
  have hv : ∃ g' cap', v' = .slice (some ⟨g', 0, none⟩) (nw n) cap' := by
    rcases ho.2 with ⟨hv, _⟩ | ⟨g', cap', cur, hv, _⟩
    · exact absurd hv hnil
    · exact ⟨g', cap', hv⟩
  obtain ⟨g', cap', rfl⟩ := hv
  have hb : Below w.heap.size w w1 := ((Below.refl _ _).alloc (Nat.le_refl _) _).grown hgr (by simp) (by intro k hk; simp [Value.ownBlock] at hk; omega)
  clear hgr hnil HC hown heq
  go_wp2
  go_ret
  exact ⟨g', cap', rfl, ho, hb⟩
set_option maxHeartbeats 1000000 in
theorem all_any (p : Option Addr) (w : World) :
    Calls Tryz.prog 74 #[.pointer p] w fun e w' => e = .returned (.func (.func 82) #[] #[.pointer (some ⟨w.heap.size, 0, none⟩)]) ∧ w' = w.alloc (.cells #[.pointer p] 40) := by
  go_enter Tryz.func74, Tryz.ntmps74
  go_wp2
  go_ret
  exact ⟨rfl, rfl⟩
set_option maxRecDepth 100000 in
set_option maxHeartbeats 1000000 in
/-- What All hands back goes through the set's numbers, whatever a round does that keeps the words laid since. -/
theorem all_seq (n Bs b g cap m X : Nat) (w : World) (hbx : Boxed w Bs 40 (.pointer (some ⟨b, 0, none⟩))) (hs : IsSet w b g cap m X) (hT : TabAt w) :
    SeqP n 82 #[.pointer (some ⟨Bs, 0, none⟩)] (intV (elems m X)) (KpU w.heap.size) w := by
  intro l J W hW hJ hY h0
  have hpos : 0 < w.heap.size := Nat.lt_of_le_of_lt (Nat.zero_le _) hs.blt
  have hs1 := hs.below hW
  have hT1 := hT.below hW hpos
  have hb1 : Boxed W Bs 40 (.pointer (some ⟨b, 0, none⟩)) := (hW.block Bs hbx.lt).trans hbx
  have hc0 := hb1.cell
  have hc1 := hs1.c1
  have hn := hs.hn
  have hsz := hW.size
  have hfull := elems_full m (64 * nw m) X hs.hX (by unfold nw; omega)
  have HF : Hid (elems (64 * nw m) X = elems m X) := hfull
  have HO := hide hs1.own
  have HJ := hide hJ
  have HY := hide hY
  clear hfull hs1 hs hbx hW hb1 hJ hY
  refine callsIn_of_wp Tryz.func82 rfl trivial ?_ rfl
  simp only [Tryz.ntmps82, List.size_toArray, List.length_cons, List.length_nil, Nat.reduceAdd, Nat.reduceSub, Array.replicate_succ, Array.replicate_zero, List.push_toArray, List.append_toArray, List.nil_append, List.cons_append]
  gi_wp2
  refine ⟨trivial, (fun h => by cases h), (callsIn_wide.2 (clone_any g cap m X _ hn HO.out)).mono ?_⟩
  rintro e W2 ⟨g', cap', rfl, ho, hb2⟩
  obtain ⟨hg1, hblk, hword⟩ := own_words ho
  have hT2 := hT1.below hb2 (by omega)
  have hJ2 : J 0 W2 := HJ.out 0 W W2 h0 hb2
  clear ho hc0 hc1 HO
  gi_wp2
  refine ⟨trivial, (fun h => by cases h), (walk_in _ l w.heap.size g' cap' (nw m) X (elems m X) HF J (fun k c W1 hc hj => ?_) W2 hT2 hblk hword (by omega) (nw_le hn) hJ2).mono ?_⟩
  · obtain ⟨fn, tmps, assign, body, hy, hR⟩ := HY.out c W1 (by simpa [intV] using hc) hj
    have hv : (intV (elems m X))[c]'(by simpa [intV] using hc) = .int .i64 ((elems m X)[c] : Int) := by simp [intV]
    rw [hv] at hy
    exact ⟨fn, tmps, assign, body, hy, round_any k hR⟩
  · rintro e W3 ⟨⟨v, rfl⟩, hr⟩
    gi_wp2
    go_end0
    exact ⟨⟨_, rfl⟩, by simpa [intV] using hr⟩
end Go.Proofs.YtojnlpicgemlaabGreatDoor
