import Derived.Test.YtchoopnjckcohaaGreatDoorQak
import Derived.Deep.QuietTactic
import Derived.BigQuiet
import Derived.Lib.SliceRun
import Derived.Lib.SlicesCompact
import Derived.Laws.CopyOwn
import Derived.Sort.OwnSortedInts
import Derived.Deep.RegionHeld3
import Derived.RangeFuncRecord
import Derived.RangeFuncNested
import Derived.RangeFuncBound
import Derived.RangeFuncCalls
import Derived.RangeFuncLeaves
import Derived.RangeFuncBox
import Derived.Shelf.Abstract
import Derived.Shelf.RegionOpen
import Derived.WalkKit
import Derived.OwnWalkIn
import Derived.TacticsInMore
import Derived.LoopNIn
import Derived.LoopIn
namespace Go.Proofs.YtchoopnjckcohaaGreatDoor

/-! ### A region in two phases: the first operations only read, and all the others wait for them -/
section
variable {P : Program} {md : Region.Mode} {ops : Array Oper} {C : World → Prop}
end
end Go.Proofs.YtchoopnjckcohaaGreatDoor
namespace Go.Proofs.YtchoopnjckcohaaGreatDoor
open Go.RowKit Go.Maps
attribute [local go_sem] Oper.semAt_some

/-! ### Edges that stand side by side, each once -/
end Go.Proofs.YtchoopnjckcohaaGreatDoor
namespace Go.Proofs.YtchoopnjckcohaaGreatDoor
open Go.RowKit Go.Maps Go.Shelf Go.Sort
attribute [local go_sem] Oper.semAt_some

/-! ### Numbers in order, each once -/
end Go.Proofs.YtchoopnjckcohaaGreatDoor
namespace Go.Proofs.YtchoopnjckcohaaGreatDoor
open Go.RowKit Go.Maps Go.Shelf Go.Sort
attribute [local go_sem] Oper.semAt_some

/-! ### Edges in order, each once -/
end Go.Proofs.YtchoopnjckcohaaGreatDoor
namespace Go.Proofs.YtchoopnjckcohaaGreatDoor
open Go.RowKit Go.Maps
attribute [local go_sem] Oper.semAt_some

/-! ### An automaton in order -/
end Go.Proofs.YtchoopnjckcohaaGreatDoor
namespace Go.Proofs.YtchoopnjckcohaaGreatDoor
open Go.RowKit
attribute [local go_sem] Oper.semAt_some

/-! ### image -/
end Go.Proofs.YtchoopnjckcohaaGreatDoor
namespace Go.Proofs.YtchoopnjckcohaaGreatDoor
open Go.RowKit Go.Maps
attribute [local go_sem] Oper.semAt_some

/-! ### What is asked of a word; Normal -/
end Go.Proofs.YtchoopnjckcohaaGreatDoor
namespace Go.Proofs.YtchoopnjckcohaaGreatDoor
open Go.RowKit Go.Maps
attribute [local go_sem] Oper.semAt_some
theorem box3 (w : World) (A Z : Array Value) (t u : TypeId) : Below w.heap.size w ((w.alloc (.cells A t)).alloc (.cells Z u)) ∧ ((w.alloc (.cells A t)).alloc (.cells Z u)).heap[w.heap.size]? = some (.cells A t (0, 0)) ∧ ((w.alloc (.cells A t)).alloc (.cells Z u)).heap[w.heap.size + 1]? = some (.cells Z u (0, 0)) ∧ ((w.alloc (.cells A t)).alloc (.cells Z u)).heap.size = w.heap.size + 2 := by
  refine ⟨((Below.refl _ _).alloc (Nat.le_refl _) _).alloc (by simp) _, (Below.heap_alloc _ _ _ (by simp)).trans (World.alloc_heap_new _ _), ?_, by simp⟩
  have := World.alloc_heap_new (w.alloc (.cells A t)) (.cells Z u)
  simpa using this
/-- How many edges start at the state before a number. -/
def cntAt (L : List EdT) (c : Nat) : Nat := (L.filter fun e => decide (e.1 + 1 = (c : Int))).length
/-- How many edges start below a number. -/
def lessC (L : List EdT) (c : Nat) : Nat := (L.filter fun e => decide (e.1 < (c : Int))).length
theorem cntAt_le (L : List EdT) (c : Nat) : cntAt L c ≤ L.length := List.length_filter_le _ _
theorem lessC_le (L : List EdT) (c : Nat) : lessC L c ≤ L.length := List.length_filter_le _ _
theorem cntAt_snoc (L : List EdT) (x : EdT) (c : Nat) : cntAt (L ++ [x]) c = cntAt L c + if x.1 + 1 = (c : Int) then 1 else 0 := by
  unfold cntAt
  rw [List.filter_append, List.length_append]
  by_cases h : x.1 + 1 = (c : Int) <;> simp [h]
theorem lessC_succ (L : List EdT) (c : Nat) : lessC L (c + 1) = cntAt L (c + 1) + lessC L c := by
  unfold lessC cntAt
  induction L with
  | nil => rfl
  | cons x L ih =>
    simp only [List.filter_cons]
    rcases Int.lt_trichotomy x.1 (c : Int) with h | h | h
    · rw [if_pos (by simp; omega), if_neg (by simp; omega), if_pos (by simpa using h), List.length_cons, List.length_cons, ih]; omega
    · rw [if_pos (by simp; omega), if_pos (by simp; omega), if_neg (by simp; omega), List.length_cons, List.length_cons, ih]; omega
    · rw [if_neg (by simp; omega), if_neg (by simp; omega), if_neg (by simp; omega), ih]
theorem lessC_zero (L : List EdT) (h : ∀ e ∈ L, 0 ≤ e.1) : lessC L 0 = 0 ∧ cntAt L 0 = 0 := by
  unfold lessC cntAt
  constructor <;> rw [List.length_eq_zero_iff, List.filter_eq_nil_iff] <;> intro e he <;> have := h e he <;> simp <;> omega
/-- The row of beginnings while the second loop runs. -/
def firstV (L : List EdT) (p c : Nat) : Value := .int .i64 ((if c ≤ p then lessC L c else cntAt L c : Nat) : Int)
end Go.Proofs.YtchoopnjckcohaaGreatDoor
namespace Go.Proofs.YtchoopnjckcohaaGreatDoor
open Go.RowKit Go.Maps
attribute [local go_sem] Oper.semAt_some

/-! ### Edges found by their symbol -/
end Go.Proofs.YtchoopnjckcohaaGreatDoor
namespace Go.Proofs.YtchoopnjckcohaaGreatDoor
open Go.RowKit Go.Maps

/-! ### Edges in order, each once -/
/-! ### The edges from a state by a symbol -/
end Go.Proofs.YtchoopnjckcohaaGreatDoor
namespace Go.Proofs.YtchoopnjckcohaaGreatDoor
open Go.RowKit Go.Maps Go.Shelf
attribute [local go_sem] Oper.semAt_some

/-! ### Rows by state and symbol -/
/-- An edge by its row. -/
def kE (m : Nat) (L : List EdT) : List EdT := L.map fun e => (e.1 * (m : Int) + e.2.1, 0, e.2.2)
def toL (L : List EdT) : List Int := L.map fun e => e.2.2
theorem kE_len (m : Nat) (L : List EdT) : (kE m L).length = L.length := by simp [kE]
theorem set3 (w : World) (b : Nat) (v0 v1 v2 u0 u1 u2 : Value) (t : TypeId) (h : w.heap[b]? = some (.cells #[v0, v1, v2] t (0, 0))) : (((w.setCell ⟨b, 0, none⟩ u0).setCell ⟨b, 1, none⟩ u1).setCell ⟨b, 2, none⟩ u2).heap[b]? = some (.cells #[u0, u1, u2] t (0, 0)) :=
  heap_setCell_same _ _ 2 _ t _ (heap_setCell_same _ _ 1 _ t _ (heap_setCell_same _ _ 0 _ t _ h))
theorem nr_step {W1 w5 : World} {B i cE d5 : Nat} {aE z5 : Option Addr} {Ed : List EdT} {p s x3 : Int} (hT : Ed.take (i + 1) = Ed.take i ++ [(p, s, x3)]) (ho : w5.ownsRow B 3 1 (.slice z5 (i + 1) d5) (i + 1) ((toL (Ed.take i)).map (Value.int .i64) ++ [.int .i64 x3])) (hg : (W1.alloc (.cells #[.int .i64 x3] 3)).grownBy w5 (Value.slice aE i cE).ownBlock) : w5.ownsRow B 3 1 (.slice z5 (i + 1) d5) (i + 1) ((toL (Ed.take (i + 1))).map (Value.int .i64)) ∧ Only W1 w5 (fun k => (Value.slice aE i cE).ownBlock = some k) := by
  refine ⟨?_, ?_⟩
  · rw [hT]
    unfold toL at ho ⊢
    rw [List.map_append, List.map_append]
    exact ho
  · exact ⟨hg.os, hg.tape, hg.output, by have := hg.size; rw [World.size_alloc] at this; omega, fun x hx hn => (hg.block x (by rw [World.size_alloc]; omega) (fun e => hn e.symm)).trans (Below.heap_alloc _ _ _ hx)⟩
theorem nr_box {W1 w5 : World} {B b n : Nat} {v : Value} {xs : List Value} {o : Obj} (hR : W1.ownsRow B 3 1 v n xs) (o1 : Only W1 w5 (fun k => v.ownBlock = some k)) (hb : W1.heap[b]? = some o) (hlt : b < B) : w5.heap[b]? = some o :=
  (o1.block _ (Array.getElem?_eq_some_iff.1 hb).1 (fun h => by have := (hR.lt _ h).1; omega)).trans hb
theorem row_tag {W : World} {B k n sz : Nat} {e t : TypeId} {v : Value} {xs : List Value} {cs : Array Value} {fr : Nat × Nat} (h : W.ownsRow B e sz v n xs) (hb : W.heap[k]? = some (.cells cs t fr)) (hne : t ≠ e) (hk : v.ownBlock = some k) : False := by
  rcases h.2 with ⟨hv, _⟩ | ⟨g', cap', cur', hv, _, hgc, _⟩
  · subst hv
    cases hk
  · subst hv
    have e2 : g' = k := by simpa [Value.ownBlock] using hk
    subst e2
    rw [hgc] at hb
    cases hb
    exact hne rfl
/-- What newRows answers: the ends in their order, and where each row begins. -/
structure RwA (B : Nat) (w : World) (m R : Nat) (Ed : List EdT) (aE : Option Addr) (n cE g : Nat) : Prop where
  ow : w.ownsRow B 3 1 (.slice aE n cE) n ((toL Ed).map (Value.int .i64))
  fi : Mrw w g 3 (R + 1) (fun c => .int .i64 ((lessC (kE m Ed) c : Nat) : Int)) (R + 1)
  ge : B ≤ g
set_option maxRecDepth 100000 in
set_option maxHeartbeats 4000000 in
theorem newRows_any (w : World) (N m : Nat) (a1 a2 a3 : Option Addr) (l1 l2 c1 c2 c3 : Nat) (Ed : List EdT) (hN : N ≤ 4096) (hm : m ≤ 128) (hE : Hid (RdE w a3 Ed)) (hl : Ed.length ≤ 4194304) (hF : Hid (∀ e ∈ Ed, (0 ≤ e.1 ∧ e.1 < (N : Int)) ∧ 0 ≤ e.2.1 ∧ e.2.1 < (m : Int))) :
    Calls Tryz.prog 89 #[.agg #[.int .i64 (N : Int), .int .i64 (m : Int), .slice a1 l1 c1, .slice a2 l2 c2, .slice a3 Ed.length c3]] w fun e w' => ∃ aE cE g, e = .returned (.agg #[.int .i64 (m : Int), .slice aE Ed.length cE, .slice (some ⟨g, 0, none⟩) (N * m + 1) (N * m + 1)]) ∧ Hid (RwA w.heap.size w' m (N * m) Ed aE Ed.length cE g) ∧ Below w.heap.size w w' := by
  obtain ⟨n3, en⟩ : ∃ n, Ed.length = n := ⟨_, rfl⟩
  obtain ⟨R, hR⟩ : ∃ R, N * m = R := ⟨_, rfl⟩
  rw [en, hR]
  rw [en] at hl
  have hRl : R ≤ 524288 := by rw [← hR]; exact Nat.le_trans (Nat.mul_le_mul hN hm) (by decide)
  have HN3 := hide en
  have HRR := hide hR
  obtain ⟨i9, hi9, hz90, hz91, hz92⟩ := info_parts info3
  obtain ⟨M, hM⟩ : ∃ M, M = madeCells (Value.int .i64 0).cells ((((R : Nat) : Int) + 1).toNat * i9.size) := ⟨_, rfl⟩
  have hmk : ∀ W : World, (Instr.makeSlice 22 (.int .i64 ((R : Int) + 1)) (.int .i64 ((R : Int) + 1))).run Tryz.prog W = .ok (.slice (some ⟨W.heap.size, 0, none⟩) (R + 1) (R + 1)) (W.alloc (.cells M 3)) := fun W => by
    have h := run_make (P := Tryz.prog) W 22 3 i9 (.int .i64 0) Tryz.underlying22 hi9 hz90 .i64 .i64 ((R : Int) + 1) ((R : Int) + 1) (by omega) (by omega) (by rw [hz92]; omega) (by omega)
    rw [← hM] at h
    rw [h]
    have : ((R : Int) + 1).toNat = R + 1 := by omega
    rw [this]
  have hwr : IntKind.i64.wrap ((R : Int) + 1) = (R : Int) + 1 := by rw [IntKind.wrap_i64]; omega
  have hmk : ∀ W : World, (Instr.makeSlice 22 (.int .i64 (IntKind.i64.wrap ((R : Int) + 1))) (.int .i64 (IntKind.i64.wrap ((R : Int) + 1)))).run Tryz.prog W = .ok (.slice (some ⟨W.heap.size, 0, none⟩) (R + 1) (R + 1)) (W.alloc (.cells M 3)) := by rw [hwr]; exact hmk
  clear hwr
  have hmul : IntKind.i64.wrap ((N : Int) * (m : Int)) = (R : Int) := by
    have : (N : Int) * (m : Int) = (R : Int) := by rw [← hR]; simp
    rw [this, IntKind.wrap_i64]
    omega
  have HM := hide (And.intro hM hz91)
  have HI := hide (And.intro hi9 (And.intro hz90 (And.intro hz91 hz92)))
  clear hM hi9 hz90 hz91 hz92 en hR
  obtain ⟨W0, hW0⟩ : ∃ W0, (w.alloc (.cells #[.int .i64 (N : Int), .int .i64 (m : Int), .slice a1 l1 c1, .slice a2 l2 c2, .slice a3 n3 c3] 25)).alloc (.cells #[.int .i64 0, .slice none 0 0, .slice none 0 0] 93) = W0 := ⟨_, rfl⟩
  have HD := hide (box3 w #[.int .i64 (N : Int), .int .i64 (m : Int), .slice a1 l1 c1, .slice a2 l2 c2, .slice a3 n3 c3] #[.int .i64 0, .slice none 0 0, .slice none 0 0] 25 93)
  rw [hW0] at HD
  have B0 := HD.out.2.1
  have k0 : W0.cell? ⟨w.heap.size, 0, none⟩ = some (.int .i64 (N : Int)) := cell_of B0 rfl
  have k1 : W0.cell? ⟨w.heap.size, 1, none⟩ = some (.int .i64 (m : Int)) := cell_of B0 rfl
  clear B0
  go_enter Tryz.func89, Tryz.ntmps89
  go_upto_region 1 with fail
  go_cut [3] from 3 to 16 (fun p3 W => ∃ b g, p3 = .pointer (some ⟨b, 0, none⟩) ∧ Hid (W.heap[b]? = some (.cells #[.int .i64 (m : Int), .slice none 0 0, .slice (some ⟨g, 0, none⟩) (R + 1) (R + 1)] 93 (0, 0)) ∧ W.heap[g]? = some (.cells M 3 (0, 0)) ∧ b ≠ g ∧ W0.heap.size ≤ b ∧ W0.heap.size ≤ g ∧ Below W0.heap.size W0 W))
  case first =>
    go_region_held3 (fun W2 => W2.cell? ⟨w.heap.size, 0, none⟩ = some (.int .i64 (N : Int)) ∧ W2.cell? ⟨w.heap.size, 1, none⟩ = some (.int .i64 (m : Int)))
      (first | go_keep | assumption)
      (fail)
    · go_wp2_with fail
      go_meet
      refine ⟨W0.heap.size + 1, W0.heap.size, rfl, hide ?_⟩
      have q := box3 W0 M #[.int .i64 (m : Int), .slice none 0 0, .slice (some ⟨W0.heap.size, 0, none⟩) (R + 1) (R + 1)] 3 93
      exact ⟨q.2.2.1, q.2.1, by omega, by omega, by omega, q.1.drew⟩
    · go_wp2_with fail
      go_meet
      refine ⟨W0.heap.size, W0.heap.size + 1, rfl, hide ?_⟩
      have q := box3 W0 #[.int .i64 (m : Int), .slice none 0 0, .slice (some ⟨W0.heap.size + 1, 0, none⟩) (R + 1) (R + 1)] M 93 3
      exact ⟨q.2.1, q.2.2.1, by omega, by omega, by omega, q.1.drew⟩
  case rest =>
    obtain ⟨b, g, rfl, HX⟩ := hcut
    rename World => wx
    clear hmk k0 k1 hmul
    have y4 : wx.cell? ⟨w.heap.size, 4, none⟩ = some (.slice a3 n3 c3) := cell_of (blk_on HD.out.2.1 HX.out.2.2.2.2.2) rfl
    have m0 : Mrw wx g 3 (R + 1) (fun c => .int .i64 ((cntAt (kE m (Ed.take 0)) c : Nat) : Int)) (R + 1) := by
      refine ⟨M, HX.out.2.1, by rw [HM.out.1, HM.out.2, size_madeCells]; omega, fun j hj => ?_⟩
      rw [HM.out.1, HM.out.2]
      rw [← Array.getElem?_toList, show (Value.int .i64 0).cells = #[Value.int .i64 0] from rfl, toList_madeCells_one, List.getElem?_replicate, if_pos (by omega)]
      simp [cntAt, kE]
    have HP : Hid (b ≠ g ∧ W0.heap.size ≤ b ∧ W0.heap.size ≤ g ∧ b < wx.heap.size ∧ g < wx.heap.size ∧ W0.heap.size = w.heap.size + 2) := hide ⟨HX.out.2.2.1, HX.out.2.2.2.1, HX.out.2.2.2.2.1, (Array.getElem?_eq_some_iff.1 HX.out.1).1, (Array.getElem?_eq_some_iff.1 HX.out.2.1).1, HD.out.2.2.2⟩
    have H0 : Hid (wx.ownsRow wx.heap.size 3 1 (.slice none 0 0) 0 ((toL (Ed.take 0)).map (Value.int .i64)) ∧ Mrw wx g 3 (R + 1) (fun c => .int .i64 ((cntAt (kE m (Ed.take 0)) c : Nat) : Int)) (R + 1) ∧ wx.heap[b]? = some (.cells #[.int .i64 (m : Int), .slice none 0 0, .slice (some ⟨g, 0, none⟩) (R + 1) (R + 1)] 93 (0, 0)) ∧ Below W0.heap.size W0 wx ∧ wx.heap.size ≤ wx.heap.size) := hide ⟨World.ownsRow_nil _ _ _ _, m0, HX.out.1, HX.out.2.2.2.2.2, Nat.le_refl _⟩
    clear m0 HX
    go_wp2_with fail
    clear y4
    go_loopw [20] (fun iv wr => ∃ i : Nat, i ≤ n3 ∧ iv = .int .i64 (i : Int) ∧ ∃ aE cE, Hid (wr.ownsRow wx.heap.size 3 1 (.slice aE i cE) i ((toL (Ed.take i)).map (Value.int .i64)) ∧ Mrw wr g 3 (R + 1) (fun c => .int .i64 ((cntAt (kE m (Ed.take i)) c : Nat) : Int)) (R + 1) ∧ wr.heap[b]? = some (.cells #[.int .i64 (m : Int), .slice aE i cE, .slice (some ⟨g, 0, none⟩) (R + 1) (R + 1)] 93 (0, 0)) ∧ Below W0.heap.size W0 wr ∧ wx.heap.size ≤ wr.heap.size)) (fun iv _ => n3 - (intOf iv).toNat)
    case atStart => exact ⟨0, Nat.zero_le _, rfl, none, 0, H0⟩
    case round =>
      obtain ⟨i, hi, rfl, aE, cE, HY⟩ := hrel
      clear H0
      by_cases hil : i < n3
      · have i0 : (0 : Int) ≤ (i : Int) := by omega
        have i1 : (i : Int) < (n3 : Int) := by omega
        have hjl : i < Ed.length := by have := HN3.out; omega
        obtain ⟨ge, o, ea, q1, q2, q3⟩ := (hE.out.on (HD.out.1.trans (HY.out.2.2.2.1.mono HD.out.1.size))) i hjl
        subst ea
        have HTk := hide (List.take_succ_eq_append_getElem hjl)
        have HN := hide (hF.out Ed[i] (List.getElem_mem hjl))
        obtain ⟨x, hx⟩ : ∃ x, Ed[i] = x := ⟨_, rfl⟩
        rw [hx] at q1 q2 q3 HTk HN
        clear hx
        obtain ⟨x1, x2, x3⟩ := x
        obtain ⟨p, hp⟩ := Int.eq_ofNat_of_zero_le HN.out.1.1
        obtain ⟨s, hs⟩ := Int.eq_ofNat_of_zero_le HN.out.2.1
        have hp : x1 = (p : Int) := hp
        have hs : x2 = (s : Int) := hs
        subst hp hs
        have hp1 : p < N := by have := HN.out.1.2; simp only at this; omega
        have hs1 : s < m := by have := HN.out.2.2; simp only at this; omega
        obtain ⟨k, hk⟩ : ∃ k, p * m + s = k := ⟨_, rfl⟩
        have hkR : k < R := by
          rw [← hk, ← HRR.out]
          have : (p + 1) * m ≤ N * m := Nat.mul_le_mul_right _ hp1
          rw [Nat.add_mul, Nat.one_mul] at this
          omega
        have epm : (p : Int) * (m : Int) = ((p * m : Nat) : Int) := by simp
        have e1 : IntKind.i64.wrap ((p : Int) * (m : Int)) = (p : Int) * (m : Int) := by rw [epm, IntKind.wrap_i64]; omega
        have e2 : IntKind.i64.wrap ((p : Int) * (m : Int) + (s : Int)) = (k : Int) := by rw [epm, IntKind.wrap_i64]; omega
        clear epm
        have e3 : IntKind.i64.wrap ((k : Int) + 1) = (k : Int) + 1 := by rw [IntKind.wrap_i64]; omega
        have HKK := hide hk
        clear hk
        obtain ⟨W1, hW1⟩ : ∃ W1, wr.alloc (.cells #[.int .i64 (p : Int), .int .i64 (s : Int), .int .i64 x3] 61) = W1 := ⟨_, rfl⟩
        have HW : Hid (W1.heap[wr.heap.size]? = some (.cells #[.int .i64 (p : Int), .int .i64 (s : Int), .int .i64 x3] 61 (0, 0)) ∧ Below wr.heap.size wr W1 ∧ W1.heap.size = wr.heap.size + 1) := hide (by rw [← hW1]; exact ⟨World.alloc_heap_new _ _, (Below.refl _ _).alloc (Nat.le_refl _) _, by simp⟩)
        have y2 : W1.cell? ⟨wr.heap.size, 2, none⟩ = some (.int .i64 x3) := cell_of HW.out.1 rfl
        have b1 : W1.cell? ⟨b, 1, none⟩ = some (.slice aE i cE) := cell_of (blk_on HY.out.2.2.1 HW.out.2.1) rfl
        have HR1 := hide (own_below HY.out.1 HW.out.2.1)
        have hwx := HY.out.2.2.2.2
        have hw1 := HW.out.2.1.size
        obtain ⟨hi9, hz90, hz91, hz92⟩ := HI.out
        go_upto_region 6 with (at_builtin; refine wpList_append_own_at _ rfl _ _ 22 rfl wx.heap.size 3 i9 _ 1 8 Tryz.underlying22 hi9 hz90 hz91 hz92 rfl (by omega) (.slice aE i cE) i ((toL (Ed.take i)).map (Value.int .i64)) rfl (HR1.out.alloc _) ⟨W1.heap.size, 0, none⟩ 1 1 [.int .i64 x3] rfl rfl (World.news_of_block (cs := #[.int .i64 x3]) (t := 3) (fr := (0, 0)) (heap_alloc_new W1 _)) (by simp [Value.oneCell']) (by unfold maxLen; omega) (by omega) (by rw [World.size_alloc]; omega) ?_; intro v5 w5 ho hg hn5 hl5; obtain ⟨z5, d5, e5⟩ := own_slice ho; subst e5; have HG : Hid (w5.ownsRow wx.heap.size 3 1 (.slice z5 (i + 1) d5) (i + 1) ((toL (Ed.take (i + 1))).map (Value.int .i64)) ∧ Only W1 w5 (fun k => (Value.slice aE i cE).ownBlock = some k)) := hide (nr_step HTk.out ho hg); have Bb5 : Hid (w5.heap[b]? = some (.cells #[.int .i64 (m : Int), .slice aE i cE, .slice (some ⟨g, 0, none⟩) (R + 1) (R + 1)] 93 (0, 0))) := hide (nr_box HR1.out HG.out.2 (blk_on HY.out.2.2.1 HW.out.2.1) HP.out.2.2.2.1); have cb5 : w5.cell? ⟨b, 1, none⟩ = some (.slice aE i cE) := cell_of Bb5.out rfl; have fb5 : w5.frozen? ⟨b, 1, none⟩ = false := fz_of Bb5.out; clear ho hg hn5 hl5)
        obtain ⟨w6, hw6⟩ : ∃ W, w5.setCell ⟨b, 1, none⟩ (.slice z5 (i + 1) d5) = W := ⟨_, rfl⟩
        rw [hw6]
        have H6 : Hid (w6.ownsRow wx.heap.size 3 1 (.slice z5 (i + 1) d5) (i + 1) ((toL (Ed.take (i + 1))).map (Value.int .i64)) ∧ Mrw w6 g 3 (R + 1) (fun c => .int .i64 ((cntAt (kE m (Ed.take i)) c : Nat) : Int)) (R + 1) ∧ w6.heap[b]? = some (.cells #[.int .i64 (m : Int), .slice z5 (i + 1) d5, .slice (some ⟨g, 0, none⟩) (R + 1) (R + 1)] 93 (0, 0)) ∧ Below W0.heap.size W0 w6 ∧ wx.heap.size ≤ w6.heap.size ∧ w6.heap[wr.heap.size]? = some (.cells #[.int .i64 (p : Int), .int .i64 (s : Int), .int .i64 x3] 61 (0, 0))) := hide (by
          have hR := HR1.out
          have lo : ∀ k, (Value.slice aE i cE).ownBlock = some k → wx.heap.size ≤ k := fun k hk => (hR.lt k hk).1
          have o1 := HG.out.2
          have o2 : Only w5 w6 (fun k => k = b) := by rw [← hw6]; exact only_set _ _ _ _
          have pp := HP.out
          have Be := (o1.block _ (Array.getElem?_eq_some_iff.1 HW.out.1).1 (fun h => row_tag hR HW.out.1 (by decide) h)).trans HW.out.1
          have Mg := ((HY.out.2.1.below HW.out.2.1 HY.out.2.1.lt).only o1 (fun h => by have := lo _ h; omega)).only o2 (fun h => pp.1 h.symm)
          have d1 := HY.out.2.2.2.1.trans (HW.out.2.1.mono HY.out.2.2.2.1.size)
          have d5' := d1.trans (o1.toBelow d1.size (fun k hk => by have := lo _ hk; have := pp.2.2.2.2.2; have := HY.out.2.2.2.1.size; omega))
          exact ⟨row_only HG.out.1 o2 (fun k hk e => by have := (HG.out.1.lt k hk).1; omega), Mg, by rw [← hw6]; exact heap_setCell_same _ _ 1 _ 93 _ Bb5.out, d5'.trans (o2.toBelow d5'.size (fun k hk => by rw [hk]; exact pp.2.1)), Nat.le_trans hwx (Nat.le_trans HW.out.2.1.size (Nat.le_trans o1.size o2.size)), (o2.block _ (Array.getElem?_eq_some_iff.1 Be).1 (by have := HY.out.2.2.2.2; omega)).trans Be⟩)
        clear hw6 HG Bb5 cb5 fb5 HR1 HW y2 b1 hi9 hz90 hz91 hz92 hW1 hw1 hwx
        have b2 : w6.cell? ⟨b, 2, none⟩ = some (.slice (some ⟨g, 0, none⟩) (R + 1) (R + 1)) := cell_of H6.out.2.2.1 rfl
        have y0 : w6.cell? ⟨wr.heap.size, 0, none⟩ = some (.int .i64 (p : Int)) := cell_of H6.out.2.2.2.2.2 rfl
        have y1 : w6.cell? ⟨wr.heap.size, 1, none⟩ = some (.int .i64 (s : Int)) := cell_of H6.out.2.2.2.2.2 rfl
        have z1 : w6.cell? ⟨w.heap.size, 1, none⟩ = some (.int .i64 (m : Int)) := cell_of (blk_on HD.out.2.1 H6.out.2.2.2.1) rfl
        have r0 := H6.out.2.1.at (k + 1) (by omega)
        have r1 := H6.out.2.1.fz (k + 1)
        have hc := Nat.le_trans (cntAt_le (kE m (Ed.take i)) (k + 1)) (by rw [kE_len, List.length_take]; omega : (kE m (Ed.take i)).length ≤ i)
        obtain ⟨cn, hcn⟩ : ∃ cn, cntAt (kE m (Ed.take i)) (k + 1) = cn := ⟨_, rfl⟩
        simp only [hcn] at r0 hc
        have HC := hide hcn
        clear hcn
        have j4 : (k : Int) + 1 < (R : Int) + 1 := by omega
        have j5 : (0 : Int) ≤ (k : Int) + 1 := by omega
        have j6 : IntKind.i64.wrap ((cn : Int) + 1) = (cn : Int) + 1 := by rw [IntKind.wrap_i64]; omega
        have J : Hid ((w6.setCell ⟨g, k + 1, none⟩ (.int .i64 ((cn : Int) + 1))).ownsRow wx.heap.size 3 1 (.slice z5 (i + 1) d5) (i + 1) ((toL (Ed.take (i + 1))).map (Value.int .i64)) ∧ Mrw (w6.setCell ⟨g, k + 1, none⟩ (.int .i64 ((cn : Int) + 1))) g 3 (R + 1) (fun c => .int .i64 ((cntAt (kE m (Ed.take (i + 1))) c : Nat) : Int)) (R + 1) ∧ (w6.setCell ⟨g, k + 1, none⟩ (.int .i64 ((cn : Int) + 1))).heap[b]? = some (.cells #[.int .i64 (m : Int), .slice z5 (i + 1) d5, .slice (some ⟨g, 0, none⟩) (R + 1) (R + 1)] 93 (0, 0)) ∧ Below W0.heap.size W0 (w6.setCell ⟨g, k + 1, none⟩ (.int .i64 ((cn : Int) + 1))) ∧ wx.heap.size ≤ (w6.setCell ⟨g, k + 1, none⟩ (.int .i64 ((cn : Int) + 1))).heap.size) := hide (by
          have o := only_set w6 g (k + 1) (.int .i64 ((cn : Int) + 1))
          have pp := HP.out
          refine ⟨row_only H6.out.1 o (fun q hq e => by have := (H6.out.1.lt q hq).1; omega), (H6.out.2.1.upd (k + 1) _).congr fun c hc => ?_, (o.block b (Array.getElem?_eq_some_iff.1 H6.out.2.2.1).1 (fun e => pp.1 e)).trans H6.out.2.2.1, H6.out.2.2.2.1.trans (o.toBelow H6.out.2.2.2.1.size (fun q hq => by rw [hq]; exact pp.2.2.1)), Nat.le_trans H6.out.2.2.2.2.1 o.size⟩
          rw [HTk.out, show kE m (Ed.take i ++ [((p : Int), (s : Int), x3)]) = kE m (Ed.take i) ++ [((p : Int) * (m : Int) + (s : Int), 0, x3)] by simp [kE], cntAt_snoc]
          have ek : (p : Int) * (m : Int) + (s : Int) = (k : Int) := by rw [← HKK.out]; simp
          simp only [ek]
          by_cases e : c = k + 1
          · subst e
            rw [if_pos rfl, if_pos (by simp), HC.out]
            rfl
          · rw [if_neg e, if_neg (by omega)]
            rfl)
        clear H6 HTk
        go_wp2_with fail
        refine ⟨⟨i + 1, by omega, by go_num, z5, d5, J⟩, by simp [intOf]; omega⟩
      · obtain rfl : n3 = i := by omega
        have i1 : ¬ (n3 : Int) < (n3 : Int) := by omega
        have y0 : wr.cell? ⟨w.heap.size, 0, none⟩ = some (.int .i64 (N : Int)) := cell_of (blk_on HD.out.2.1 HY.out.2.2.2.1) rfl
        have y1 : wr.cell? ⟨w.heap.size, 1, none⟩ = some (.int .i64 (m : Int)) := cell_of (blk_on HD.out.2.1 HY.out.2.2.2.1) rfl
        have hmul : IntKind.i64.wrap ((N : Int) * (m : Int)) = (R : Int) := by
          have : (N : Int) * (m : Int) = (R : Int) := by rw [← HRR.out]; simp
          rw [this, IntKind.wrap_i64]
          omega
        have HZ : Hid (wr.ownsRow wx.heap.size 3 1 (.slice aE n3 cE) n3 ((toL Ed).map (Value.int .i64)) ∧ Mrw wr g 3 (R + 1) (firstV (kE m Ed) 0) (R + 1) ∧ wr.heap[b]? = some (.cells #[.int .i64 (m : Int), .slice aE n3 cE, .slice (some ⟨g, 0, none⟩) (R + 1) (R + 1)] 93 (0, 0)) ∧ Below W0.heap.size W0 wr ∧ wx.heap.size ≤ wr.heap.size) := hide (by
          have t := HY.out
          rw [List.take_of_length_le (by have := HN3.out; omega)] at t
          refine ⟨t.1, t.2.1.congr (fun c _ => ?_), t.2.2⟩
          unfold firstV
          by_cases e : c ≤ 0
          · obtain rfl : c = 0 := by omega
            have q := lessC_zero (kE m Ed) (fun e he => by
              obtain ⟨x, hx, rfl⟩ := List.mem_map.1 he
              have := hF.out x hx
              have h2 : 0 ≤ x.1 * (m : Int) := Int.mul_nonneg this.1.1 (by omega)
              show 0 ≤ x.1 * (m : Int) + x.2.1
              omega)
            rw [if_pos e, q.1, q.2]
          · rw [if_neg e])
        clear HY
        go_upto_region 8 with fail
        go_wp2_with fail
        clear y0 y1 hmul
        go_loopw [52] (fun iv wr => ∃ p : Nat, p ≤ R ∧ iv = .int .i64 (p : Int) ∧ Hid (wr.ownsRow wx.heap.size 3 1 (.slice aE n3 cE) n3 ((toL Ed).map (Value.int .i64)) ∧ Mrw wr g 3 (R + 1) (firstV (kE m Ed) p) (R + 1) ∧ wr.heap[b]? = some (.cells #[.int .i64 (m : Int), .slice aE n3 cE, .slice (some ⟨g, 0, none⟩) (R + 1) (R + 1)] 93 (0, 0)) ∧ Below W0.heap.size W0 wr ∧ wx.heap.size ≤ wr.heap.size)) (fun iv _ => R - (intOf iv).toNat)
        case atStart => exact ⟨0, Nat.zero_le _, rfl, HZ⟩
        case round =>
          obtain ⟨p, hp, rfl, HQ⟩ := hrel
          clear HZ
          by_cases hlt : p < R
          · have j0 : (0 : Int) ≤ (p : Int) := by omega
            have j1 : (p : Int) < (R : Int) := by omega
            have j2 : (p : Int) < (R : Int) + 1 := by omega
            have j3 : (p : Int) + 1 < (R : Int) + 1 := by omega
            have j4 : (0 : Int) ≤ (p : Int) + 1 := by omega
            have r0 := HQ.out.2.1.at p (by omega)
            have r1 := HQ.out.2.1.at (p + 1) (by omega)
            have r2 := HQ.out.2.1.fz (p + 1)
            have y5 : wr.cell? ⟨b, 2, none⟩ = some (.slice (some ⟨g, 0, none⟩) (R + 1) (R + 1)) := cell_of HQ.out.2.2.1 rfl
            unfold firstV at r0 r1
            rw [if_pos (Nat.le_refl _)] at r0
            rw [if_neg (by omega)] at r1
            have u0 := lessC_le (kE m Ed) p
            have u1 := cntAt_le (kE m Ed) (p + 1)
            rw [kE_len, HN3.out] at u0 u1
            have HS := hide (lessC_succ (kE m Ed) p)
            generalize lessC (kE m Ed) p = s at r0 u0 HS
            generalize cntAt (kE m Ed) (p + 1) = c at r1 u1 HS
            have v0 : (s : Int) ≤ 4194304 := by omega
            have v1 : (c : Int) ≤ 4194304 := by omega
            have v2 : (0 : Int) ≤ (s : Int) := by omega
            have v3 : (0 : Int) ≤ (c : Int) := by omega
            go_upto_region 11 with fail
            refine wp_region_phase 12 #[true, true, true, true, true, true, true, true, true, true, true, true, false, false] (by kernel_rfl) (by kernel_rfl) ?_
            simp only [List.take_succ_cons, List.take_zero, List.drop_succ_cons, List.drop_zero]
            repeat (go_big_quiet_step (fail))
            refine wpQuiet_nil ?_
            intro wz hzz
            obtain ⟨nq, rfl⟩ := hzz
            have J : Hid (((wr.drewN nq).setCell ⟨g, p + 1, none⟩ (.int .i64 ((c : Int) + (s : Int)))).ownsRow wx.heap.size 3 1 (.slice aE n3 cE) n3 ((toL Ed).map (Value.int .i64)) ∧ Mrw ((wr.drewN nq).setCell ⟨g, p + 1, none⟩ (.int .i64 ((c : Int) + (s : Int)))) g 3 (R + 1) (firstV (kE m Ed) (p + 1)) (R + 1) ∧ ((wr.drewN nq).setCell ⟨g, p + 1, none⟩ (.int .i64 ((c : Int) + (s : Int)))).heap[b]? = some (.cells #[.int .i64 (m : Int), .slice aE n3 cE, .slice (some ⟨g, 0, none⟩) (R + 1) (R + 1)] 93 (0, 0)) ∧ Below W0.heap.size W0 ((wr.drewN nq).setCell ⟨g, p + 1, none⟩ (.int .i64 ((c : Int) + (s : Int)))) ∧ wx.heap.size ≤ ((wr.drewN nq).setCell ⟨g, p + 1, none⟩ (.int .i64 ((c : Int) + (s : Int)))).heap.size) := hide (by
              have o := only_set (wr.drewN nq) g (p + 1) (.int .i64 ((c : Int) + (s : Int)))
              have pp := HP.out
              have hb1 : (wr.drewN nq).heap[b]? = some (.cells #[.int .i64 (m : Int), .slice aE n3 cE, .slice (some ⟨g, 0, none⟩) (R + 1) (R + 1)] 93 (0, 0)) := HQ.out.2.2.1
              have mq : Mrw (wr.drewN nq) g 3 (R + 1) (firstV (kE m Ed) p) (R + 1) := HQ.out.2.1
              have hw1 : (wr.drewN nq).ownsRow wx.heap.size 3 1 (.slice aE n3 cE) n3 ((toL Ed).map (Value.int .i64)) := HQ.out.1
              refine ⟨row_only hw1 o (fun q hq e => by have := (hw1.lt q hq).1; omega), (mq.upd (p + 1) _).congr fun k hk => ?_, (o.block b (Array.getElem?_eq_some_iff.1 hb1).1 (fun e => pp.1 e)).trans hb1, (below_drewN' HQ.out.2.2.2.1 nq).trans (o.toBelow HQ.out.2.2.2.1.size (fun k hk => by rw [hk]; exact pp.2.2.1)), Nat.le_trans HQ.out.2.2.2.2 o.size⟩
              unfold firstV
              by_cases e : k = p + 1
              · subst e
                rw [if_pos rfl, if_pos (Nat.le_refl _), HS.out]
                simp
              · rw [if_neg e]
                by_cases e2 : k ≤ p
                · rw [if_pos e2, if_pos (by omega)]
                · rw [if_neg e2, if_neg (by omega)])
            have wcs : IntKind.i64.wrap ((c : Int) + (s : Int)) = (c : Int) + (s : Int) := by rw [IntKind.wrap_i64]; omega
            go_wp2_with fail
            go_roundw
            case rel => exact ⟨p + 1, by omega, by go_num, by first | exact J | (simp only [wcs]; exact J)⟩
            case measure => simp [intOf]; omega
          · obtain rfl : R = p := by omega
            have j1 : ¬ (R : Int) < (R : Int) := by omega
            have F3 := blk_on HD.out.2.2.1 HQ.out.2.2.2.1
            have HQ2 := HQ.out.2.2.1
            have o0 : wr.cell? ⟨w.heap.size + 1, 0, none⟩ = some (.int .i64 0) := cell_of F3 rfl
            have f0 : wr.frozen? ⟨w.heap.size + 1, 0, none⟩ = false := fz_of F3
            have k0 : wr.cell? ⟨b, 0, none⟩ = some (.int .i64 (m : Int)) := cell_of HQ2 rfl
            have o1 : wr.cell? ⟨w.heap.size + 1, 1, none⟩ = some (.slice none 0 0) := cell_of F3 rfl
            have f1 : wr.frozen? ⟨w.heap.size + 1, 1, none⟩ = false := fz_of F3
            have k1 : wr.cell? ⟨b, 1, none⟩ = some (.slice aE n3 cE) := cell_of HQ2 rfl
            have o2 : wr.cell? ⟨w.heap.size + 1, 2, none⟩ = some (.slice none 0 0) := cell_of F3 rfl
            have f2 : wr.frozen? ⟨w.heap.size + 1, 2, none⟩ = false := fz_of F3
            have k2 : wr.cell? ⟨b, 2, none⟩ = some (.slice (some ⟨g, 0, none⟩) (R + 1) (R + 1)) := cell_of HQ2 rfl
            have O6 := hide (And.intro (set3 wr (w.heap.size + 1) _ _ _ (.int .i64 (m : Int)) (.slice aE n3 cE) (.slice (some ⟨g, 0, none⟩) (R + 1) (R + 1)) 93 F3) (only3 wr (w.heap.size + 1) 0 1 2 (.int .i64 (m : Int)) (.slice aE n3 cE) (.slice (some ⟨g, 0, none⟩) (R + 1) (R + 1))))
            clear F3 HQ2
            go_wp2_with fail
            refine bodyPost_ret (results_cell_row (p := 2) (ty := 93) rfl _ _ (w.heap.size + 1) 93 _ (0, 0) _ rfl O6.out.1 Tryz.underlying93 rfl (by kernel_rfl)) rfl ?_
            have pp := HP.out
            have oo := O6.out.2
            have dd := HD.out.1.trans (HQ.out.2.2.2.1.mono HD.out.1.size)
            refine ⟨aE, cE, g, rfl, hide ⟨owns_down (B := wx.heap.size) ?_ ?_, (HQ.out.2.1.congr (fun c hc => by unfold firstV; rw [if_pos (by omega)])).only oo (by omega), by omega⟩, dd.trans (oo.toBelow dd.size (fun k hk => by omega))⟩
            · exact row_only HQ.out.1 oo (fun q hq e => by have := (HQ.out.1.lt q hq).1; omega)
            · omega
end Go.Proofs.YtchoopnjckcohaaGreatDoor
namespace Go.Proofs.YtchoopnjckcohaaGreatDoor
open Go.RowKit Go.Maps
attribute [local go_sem] Oper.semAt_some

end Go.Proofs.YtchoopnjckcohaaGreatDoor
namespace Go.Proofs.YtchoopnjckcohaaGreatDoor
open Go.RowKit
attribute [local go_sem] Oper.semAt_some

end Go.Proofs.YtchoopnjckcohaaGreatDoor
namespace Go.Proofs.YtchoopnjckcohaaGreatDoor
open Go.RowKit
attribute [local go_sem] Oper.semAt_some

/-! ### Post and Pre -/
end Go.Proofs.YtchoopnjckcohaaGreatDoor
namespace Go.Proofs.YtchoopnjckcohaaGreatDoor
open Go.RowKit

end Go.Proofs.YtchoopnjckcohaaGreatDoor
namespace Go.Proofs.YtchoopnjckcohaaGreatDoor
open Go.RowKit Go.Shelf
attribute [local go_sem] Oper.semAt_some

/-! ### A set's numbers, one by one -/
end Go.Proofs.YtchoopnjckcohaaGreatDoor
namespace Go.Proofs.YtchoopnjckcohaaGreatDoor
open Go.RowKit Go.Maps Go.Shelf
attribute [local go_sem] Oper.semAt_some

/-! ### A walk's step: what it holds -/
/-- The edges of a walk: in order, each once, with where each state's begin. -/
structure Wk (w : World) (N g3 k3 gf : Nat) (Es : List EdT) : Prop where
  e : RdE w (some ⟨g3, 0, none⟩) Es
  k : Es.length ≤ k3
  f : Mrw w gf 3 (N + 1) (fun c => .int .i64 (lessC Es c : Nat)) (N + 1)
  s : SsE Es
  i : ∀ x ∈ Es, (0 ≤ x.1 ∧ x.1 < (N : Int)) ∧ 0 ≤ x.2.2 ∧ x.2.2 < (N : Int)
  l : Es.length ≤ 4194304
  n : N ≤ 4096
theorem Wk.on {w w' : World} {N g3 k3 gf : Nat} {Es : List EdT} (h : Wk w N g3 k3 gf Es) (d : Below w.heap.size w w') : Wk w' N g3 k3 gf Es :=
  ⟨h.e.on d, h.k, h.f.below d h.f.lt, h.s, h.i, h.l, h.n⟩
theorem Wk.lt {w : World} {N g3 k3 gf : Nat} {Es : List EdT} (h : Wk w N g3 k3 gf Es) {x : EdT} (hx : x ∈ Es) : g3 < w.heap.size := by
  obtain ⟨j, hj, rfl⟩ := List.getElem_of_mem hx
  obtain ⟨g, o, he, q, _⟩ := h.e j hj
  cases he
  exact World.block_lt_of_cell? w _ q
theorem KpU.ofBelow {B : Nat} {W W' : World} (h0 : 0 < W.heap.size) (d : Below W.heap.size W W') : KpU B W W' :=
  ⟨d.size, d.block 0 h0, fun b _ _ _ hc => (d.block b (Array.getElem?_eq_some_iff.1 hc).1).trans hc⟩
theorem KpU.ofOnly {B g : Nat} {W W' : World} (h0 : 0 < W.heap.size) (o : Only W W' (fun k => k = g)) (hg : g < B) (hg0 : g ≠ 0) : KpU B W W' :=
  ⟨o.size, o.block 0 h0 (fun e => hg0 e.symm), fun b _ _ hb hc => (o.block b (Array.getElem?_eq_some_iff.1 hc).1 (fun e => by omega)).trans hc⟩
theorem KpU.put {B : Nat} (W : World) (l : Nat) (r r' : Loop) (hl : 0 < l) (h : W.heap[l]? = some (.loop r)) : KpU B W (W.putObj l (.loop r')) := by
  refine ⟨by simp [World.putObj], World.putObj_heap_other (by omega), fun b cs fr _ hc => ?_⟩
  refine (World.putObj_heap_other fun e => ?_).trans hc
  rw [e] at hc
  rw [h] at hc
  cases hc
/-- What step holds while it goes through a set. -/
structure StI (w : World) (A : Array Value) (sym : Int) (c7 b2 g2 k2 N R : Nat) (W : World) : Prop where
  wb : W.heap[w.heap.size]? = some (.cells A 124 (0, 0))
  sb : W.heap[w.heap.size + 1]? = some (.cells #[.int .i64 sym] 3 (0, 0))
  cb : W.heap[c7]? = some (.cells #[.pointer (some ⟨b2, 0, none⟩)] 81 (0, 0))
  st : IsSet W b2 g2 k2 N R
  be : Below w.heap.size w W
theorem StI.on {w : World} {A : Array Value} {sym : Int} {c7 b2 g2 k2 N R : Nat} {W W' : World} (h : StI w A sym c7 b2 g2 k2 N R W) (d : Below W.heap.size W W') : StI w A sym c7 b2 g2 k2 N R W' :=
  ⟨blk_on h.wb d, blk_on h.sb d, blk_on h.cb d, h.st.below d, h.be.trans (d.mono h.be.size)⟩
theorem StI.put {w : World} {A : Array Value} {sym : Int} {c7 b2 g2 k2 N R l : Nat} {W : World} {r r' : Loop} (h : StI w A sym c7 b2 g2 k2 N R W) (hl : W.heap[l]? = some (.loop r)) (h1 : w.heap.size + 1 < l) : StI w A sym c7 b2 g2 k2 N R (W.putObj l (.loop r')) := by
  have ne : ∀ k (o : Obj), W.heap[k]? = some o → o ≠ Obj.loop r → (W.putObj l (.loop r')).heap[k]? = W.heap[k]? := fun k o hk ho => World.putObj_heap_other fun e => by
    rw [e, hl] at hk
    exact ho (by simpa using hk.symm)
  refine ⟨(ne _ _ h.wb (by simp)).trans h.wb, (ne _ _ h.sb (by simp)).trans h.sb, (ne _ _ h.cb (by simp)).trans h.cb, h.st.keep (ne _ _ h.st.blk (by simp)) ?_, ?_⟩
  · rcases h.st.own.2 with ⟨hv, _⟩ | ⟨g', cap', cur, hv, _, hg, _⟩
    · cases hv
    · cases hv
      exact ne _ _ hg (by simp)
  · exact ⟨h.be.os, h.be.tape, h.be.output, by have := h.be.size; simpa [World.putObj] using this, fun j hj => (World.putObj_heap_other (by omega)).trans (h.be.block j hj)⟩
theorem StI.only {w : World} {A : Array Value} {sym : Int} {c7 b2 g2 k2 N R R' : Nat} {W W' : World} (h : StI w A sym c7 b2 g2 k2 N R W) (o : Only W W' (fun k => k = g2)) (hs : IsSet W' b2 g2 k2 N R') (h1 : w.heap.size + 1 < g2) (h7 : c7 ≠ g2) : StI w A sym c7 b2 g2 k2 N R' W' :=
  ⟨(o.block _ (Array.getElem?_eq_some_iff.1 h.wb).1 (fun e => by omega)).trans h.wb, (o.block _ (Array.getElem?_eq_some_iff.1 h.sb).1 (fun e => by omega)).trans h.sb, (o.block _ (Array.getElem?_eq_some_iff.1 h.cb).1 h7).trans h.cb, hs,
    h.be.trans (o.toBelow h.be.size (fun k hk => by omega))⟩
end Go.Proofs.YtchoopnjckcohaaGreatDoor
namespace Go.Proofs.YtchoopnjckcohaaGreatDoor
open Go.RowKit Go.Maps Go.Shelf
attribute [local go_sem] Oper.semAt_some

end Go.Proofs.YtchoopnjckcohaaGreatDoor
namespace Go.Proofs.YtchoopnjckcohaaGreatDoor
open Go.RowKit Go.Maps Go.Shelf
attribute [local go_sem] Oper.semAt_some

/-! ### Where a word leads -/
end Go.Proofs.YtchoopnjckcohaaGreatDoor
namespace Go.Proofs.YtchoopnjckcohaaGreatDoor
open Go.RowKit Go.Maps Go.Shelf
attribute [local go_sem] Oper.semAt_some

/-! ### After and Accepts -/
theorem wordErr_zero {n m : Int} {St Fi : List Int} {Ed : List EdT} {Wd : List Int} (h : wordErr n m St Fi Ed Wd = 0) : mayA n m St Fi Ed = true ∧ Wd.all (inB m) = true := by
  unfold wordErr at h
  split at h
  · rename_i h1
    split at h
    · rename_i h2; exact ⟨h1, h2⟩
    · cases h
  · cases h
end Go.Proofs.YtchoopnjckcohaaGreatDoor
namespace Go.Proofs.YtchoopnjckcohaaGreatDoor
open Go.RowKit Go.Maps Go.Shelf
attribute [local go_sem] Oper.semAt_some

/-! ### An automaton turned round -/
end Go.Proofs.YtchoopnjckcohaaGreatDoor
namespace Go.Proofs.YtchoopnjckcohaaGreatDoor
open Go.RowKit Go.Maps Go.Shelf
attribute [local go_sem] Oper.semAt_some

/-! ### The rests of a word: what is held -/
/-- A cell of a row that points to a set. -/
def PtrAt (w : World) (g i N X : Nat) : Prop := ∃ b g' k, w.cell? ⟨g, i, none⟩ = some (.pointer (some ⟨b, 0, none⟩)) ∧ IsSet w b g' k N X ∧ b ≠ g'
theorem PtrAt.on {w w' : World} {g i N X : Nat} (h : PtrAt w g i N X) (d : Below w.heap.size w w') : PtrAt w' g i N X := by
  obtain ⟨b, g', k, h1, h2, h3⟩ := h
  exact ⟨b, g', k, (d.cell (p := ⟨g, i, none⟩) (World.block_lt_of_cell? w _ h1)).trans h1, h2.below d, h3⟩
theorem set_types {w : World} {b g k N X : Nat} (h : IsSet w b g k N X) : (∃ cs fr, w.heap[b]? = some (.cells cs 120 fr)) ∧ ∃ cs fr, w.heap[g]? = some (.cells cs 143 fr) := by
  refine ⟨⟨_, _, h.blk⟩, ?_⟩
  rcases h.own.2 with ⟨hv, _⟩ | ⟨g', cap', cur, hv, _, hg, _⟩
  · cases hv
  · cases hv; exact ⟨_, _, hg⟩
/-- A set stays where only blocks of other kinds are turned. -/
theorem set_other {w w' : World} {b g k N X : Nat} {R : Nat → Prop} (h : IsSet w b g k N X) (o : Only w w' R) (hR : ∀ q, R q → ∀ cs t fr, w.heap[q]? = some (.cells cs t fr) → t ≠ 120 ∧ t ≠ 143) : IsSet w' b g k N X := by
  obtain ⟨⟨c1, f1, e1⟩, c2, f2, e2⟩ := set_types h
  refine h.keep (o.block b h.blt fun q => ?_) (o.block g h.glt fun q => ?_)
  · exact (hR b q _ _ _ e1).1 rfl
  · exact (hR g q _ _ _ e2).2 rfl
theorem PtrAt.other {w w' : World} {g i N X : Nat} {R : Nat → Prop} (h : PtrAt w g i N X) (o : Only w w' R) (hR : ∀ q, R q → ∀ cs t fr, w.heap[q]? = some (.cells cs t fr) → t ≠ 120 ∧ t ≠ 143) (hc : w'.cell? ⟨g, i, none⟩ = w.cell? ⟨g, i, none⟩) : PtrAt w' g i N X := by
  obtain ⟨b, g', k, h1, h2, h3⟩ := h
  exact ⟨b, g', k, hc.trans h1, set_other h2 o hR, h3⟩
theorem cell_only {w w' : World} {R : Nat → Prop} (o : Only w w' R) {g i : Nat} (hg : g < w.heap.size) (hR : ¬ R g) : w'.cell? ⟨g, i, none⟩ = w.cell? ⟨g, i, none⟩ := World.cell?_of_block (a := ⟨g, i, none⟩) (o.block g hg hR)
/-- What is fixed of a word's rests. -/
structure Rp where
  N : Nat
  m : Int
  a1 : Option Addr
  a2 : Option Addr
  l1 : Nat
  l2 : Nat
  c1 : Nat
  c2 : Nat
  g3 : Nat
  k3 : Nat
  gf : Nat
  Es : List EdT
  aw : Option Addr
  cw : Nat
  Wd : List Int
  wd : Nat
  gl : Nat
  nb : Nat
/-- The cells of the rests. -/
def rsC (R : Rp) (blk : Int) (sv : Value) : Array Value := #[.int .i64 (R.N : Int), .int .i64 R.m, .slice R.a1 R.l1 R.c1, .slice R.a2 R.l2 R.c2, .slice (some ⟨R.g3, 0, none⟩) R.Es.length R.k3, .slice (some ⟨R.gf, 0, none⟩) (R.N + 1) (R.N + 1), .slice R.aw R.Wd.length R.cw, .int .i64 (R.wd : Int), .slice (some ⟨R.gl, 0, none⟩) R.nb R.nb, .int .i64 blk, sv]
structure RpOk (w0 : World) (R : Rp) (F : Nat → Nat) : Prop where
  wk : Wk w0 R.N R.g3 R.k3 R.gf R.Es
  rd : RdN w0 R.aw R.Wd
  tb : TabAt w0 ∧ 0 < w0.heap.size
  st : ∀ j (h : j < R.Wd.length), F j = imgF false (F (j + 1)) R.Wd[j] R.Es
  wl : R.Wd.length ≤ 4194304
  w1 : 1 ≤ R.wd
  w2 : R.wd ≤ 4096
/-- The last place of a block. -/
def endB (R : Rp) (k : Nat) : Nat := min (k * R.wd + R.wd - 1) R.Wd.length
/-- The rests as they lie at a time. -/
structure RsB (w0 : World) (R : Rp) (rb : Nat) (blk : Int) (sv : Value) (w : World) : Prop where
  bx : w.heap[rb]? = some (.cells (rsC R blk sv) 108 (0, 0))
  le : w0.heap.size ≤ rb
  be : Below w0.heap.size w0 w
  lr : ∃ cur, w.heap[R.gl]? = some (.cells cur 81 (0, 0)) ∧ cur.size = R.nb
theorem RsB.on {w0 w w' : World} {R : Rp} {rb : Nat} {blk : Int} {sv : Value} (h : RsB w0 R rb blk sv w) (d : Below w.heap.size w w') : RsB w0 R rb blk sv w' := by
  obtain ⟨cur, h1, h2⟩ := h.lr
  exact ⟨blk_on h.bx d, h.le, h.be.trans (d.mono h.be.size), cur, blk_on h1 d, h2⟩
theorem RsB.ne {w0 w : World} {R : Rp} {rb : Nat} {blk : Int} {sv : Value} (h : RsB w0 R rb blk sv w) : R.gl ≠ rb := fun e => by
  obtain ⟨cur, h1, _⟩ := h.lr
  rw [e, h.bx] at h1
  cases h1
end Go.Proofs.YtchoopnjckcohaaGreatDoor
