import Derived.Test.YtchoopnjckcohaaGreatProg
import Derived.Lib.TrailingZeros
import Derived.BigQuiet
import Derived.Deep.QuietTactic
import Derived.WalkKit
import Derived.WalkSpells
import Derived.WalkLawsBesides
import Derived.Deep.AppendLies
import Derived.RangeFuncRecord
import Derived.Deep.CutBlock
import Derived.Deep.CutRange
import Derived.Deep.DeepCutAuto
import Derived.Deep.RegionHeld3
import Derived.Deep.RegionWith
import Derived.BigRegion
import Derived.Deep.RegionHeld3
import Derived.Below
import Derived.Deep.RegionHeld
import Derived.Shelf.Small.Bits
import Derived.Shelf.Small.Wraps
import Derived.Shelf.Strconv.Itoa0
import Derived.Shelf.Slices.Turned
import Derived.Shelf.Slices.Equal
import Derived.Shelf.Slices.CompactI
import Derived.Shelf.Slices.SearchI
import Derived.Shelf.Slices.Cells
import Derived.Shelf.Slices.Empties2
import Derived.Shelf.SlicesE.Clone
import Derived.Shelf.SlSortCmp.Insertion
import Derived.Shelf.SlSortCmp.SiftDown1
import Derived.Shelf.SlSortCmp.HeapSort1
import Derived.Shelf.SlSortCmp.Insertion1
import Derived.Shelf.SlSortCmp.Median1
import Derived.Shelf.SlSortCmp.Pivot1
import Derived.Shelf.SlSortCmp.ReverseRange1
import Derived.Shelf.SlSortCmp.PartialInsertion1
import Derived.Shelf.SlSortCmp.PartitionEqual1
import Derived.Shelf.SlSortCmp.Partition1
import Derived.Shelf.SlSortCmp.Pdq1
import Derived.Shelf.SlSortCmp.Whole1
import Derived.Shelf.SlSortCmp.NoneTotal
import Derived.Ground.Names2Prog
import Derived.Ground.SlsfProg
import Derived.Lib.Small
import Derived.DeepKeys4
import Derived.Maps.OwnSet
import Derived.Lib.SliceRun
import Derived.Lib.SlicesCompact
import Derived.Laws.CopyOwn
import Derived.Sort.OwnSortedInts
import Derived.Laws.EntriesVeiled
import Derived.RangeFuncNested
import Derived.RangeFuncBound
import Derived.RangeFuncCalls
import Derived.RangeFuncLeaves
import Derived.RangeFuncBox
import Derived.Shelf.Abstract
import Derived.Shelf.RegionOpen
import Derived.OwnWalkIn
import Derived.TacticsInMore
import Derived.LoopNIn
import Derived.LoopIn
import Derived.RangeFuncNested
import Derived.RangeFuncBound
import Derived.RangeFuncCalls
import Derived.RangeFuncLeaves
import Derived.RangeFuncBox
import Derived.Shelf.Abstract
import Derived.Shelf.RegionOpen
import Derived.OwnWalkIn
import Derived.TacticsInMore
import Derived.LoopNIn
import Derived.LoopIn
import Derived.RangeFuncNested
import Derived.RangeFuncBound
import Derived.RangeFuncCalls
import Derived.RangeFuncLeaves
import Derived.RangeFuncBox
import Derived.Shelf.Abstract
import Derived.Shelf.RegionOpen
import Derived.OwnWalkIn
import Derived.TacticsInMore
import Derived.LoopNIn
import Derived.LoopIn
import Derived.RangeFuncNested
import Derived.RangeFuncBound
import Derived.RangeFuncCalls
import Derived.RangeFuncLeaves
import Derived.RangeFuncBox
import Derived.Shelf.Abstract
import Derived.Shelf.RegionOpen
import Derived.OwnWalkIn
import Derived.TacticsInMore
import Derived.LoopNIn
import Derived.LoopIn
import Derived.RangeFuncNested
import Derived.RangeFuncBound
import Derived.RangeFuncCalls
import Derived.RangeFuncLeaves
import Derived.RangeFuncBox
import Derived.Shelf.Abstract
import Derived.Shelf.RegionOpen
import Derived.OwnWalkIn
import Derived.TacticsInMore
import Derived.LoopNIn
import Derived.LoopIn
import Derived.RangeFuncNested
import Derived.RangeFuncBound
import Derived.RangeFuncCalls
import Derived.RangeFuncLeaves
import Derived.RangeFuncBox
import Derived.Shelf.Abstract
import Derived.Shelf.RegionOpen
import Derived.OwnWalkIn
import Derived.TacticsInMore
import Derived.LoopNIn
import Derived.LoopIn
import Derived.RangeFuncNested
import Derived.RangeFuncBound
import Derived.RangeFuncCalls
import Derived.RangeFuncLeaves
import Derived.RangeFuncBox
import Derived.Shelf.Abstract
import Derived.Shelf.RegionOpen
import Derived.OwnWalkIn
import Derived.TacticsInMore
import Derived.LoopNIn
import Derived.LoopIn
import Derived.RangeFuncNested
import Derived.RangeFuncBound
import Derived.RangeFuncCalls
import Derived.RangeFuncLeaves
import Derived.RangeFuncBox
import Derived.Shelf.Abstract
import Derived.Shelf.RegionOpen
import Derived.OwnWalkIn
import Derived.TacticsInMore
import Derived.LoopNIn
import Derived.LoopIn
import Derived.RangeFuncNested
import Derived.RangeFuncBound
import Derived.RangeFuncCalls
import Derived.RangeFuncLeaves
import Derived.RangeFuncBox
import Derived.Shelf.Abstract
import Derived.Shelf.RegionOpen
import Derived.OwnWalkIn
import Derived.TacticsInMore
import Derived.LoopNIn
import Derived.LoopIn
import Derived.RangeFuncNested
import Derived.RangeFuncBound
import Derived.RangeFuncCalls
import Derived.RangeFuncLeaves
import Derived.RangeFuncBox
import Derived.Shelf.Abstract
import Derived.Shelf.RegionOpen
import Derived.OwnWalkIn
import Derived.TacticsInMore
import Derived.LoopNIn
import Derived.LoopIn
import Derived.RangeFuncNested
import Derived.RangeFuncBound
import Derived.RangeFuncCalls
import Derived.RangeFuncLeaves
import Derived.RangeFuncBox
import Derived.Shelf.Abstract
import Derived.Shelf.RegionOpen
import Derived.OwnWalkIn
import Derived.TacticsInMore
import Derived.LoopNIn
import Derived.LoopIn
import Derived.RangeFuncNested
import Derived.RangeFuncBound
import Derived.RangeFuncCalls
import Derived.RangeFuncLeaves
import Derived.RangeFuncBox
import Derived.Shelf.Abstract
import Derived.Shelf.RegionOpen
import Derived.OwnWalkIn
import Derived.TacticsInMore
import Derived.LoopNIn
import Derived.LoopIn
import Derived.RangeFuncNested
import Derived.RangeFuncBound
import Derived.RangeFuncCalls
import Derived.RangeFuncLeaves
import Derived.RangeFuncBox
import Derived.Shelf.Abstract
import Derived.Shelf.RegionOpen
import Derived.OwnWalkIn
import Derived.TacticsInMore
import Derived.LoopNIn
import Derived.LoopIn
import Derived.RangeFuncNested
import Derived.RangeFuncBound
import Derived.RangeFuncCalls
import Derived.RangeFuncLeaves
import Derived.RangeFuncBox
import Derived.Shelf.Abstract
import Derived.Shelf.RegionOpen
import Derived.OwnWalkIn
import Derived.TacticsInMore
import Derived.LoopNIn
import Derived.LoopIn
import Derived.RangeFuncNested
import Derived.RangeFuncBound
import Derived.RangeFuncCalls
import Derived.RangeFuncLeaves
import Derived.RangeFuncBox
import Derived.Shelf.Abstract
import Derived.Shelf.RegionOpen
import Derived.OwnWalkIn
import Derived.TacticsInMore
import Derived.LoopNIn
import Derived.LoopIn
import Derived.RangeFuncNested
import Derived.RangeFuncBound
import Derived.RangeFuncCalls
import Derived.RangeFuncLeaves
import Derived.RangeFuncBox
import Derived.Shelf.Abstract
import Derived.Shelf.RegionOpen
import Derived.OwnWalkIn
import Derived.TacticsInMore
import Derived.LoopNIn
import Derived.LoopIn
import Derived.RangeFuncNested
import Derived.RangeFuncBound
import Derived.RangeFuncCalls
import Derived.RangeFuncLeaves
import Derived.RangeFuncBox
import Derived.Shelf.Abstract
import Derived.Shelf.RegionOpen
import Derived.OwnWalkIn
import Derived.TacticsInMore
import Derived.LoopNIn
import Derived.LoopIn
import Derived.RangeFuncNested
import Derived.RangeFuncBound
import Derived.RangeFuncCalls
import Derived.RangeFuncLeaves
import Derived.RangeFuncBox
import Derived.Shelf.Abstract
import Derived.Shelf.RegionOpen
import Derived.OwnWalkIn
import Derived.TacticsInMore
import Derived.LoopNIn
import Derived.LoopIn
import Derived.RangeFuncNested
import Derived.RangeFuncBound
import Derived.RangeFuncCalls
import Derived.RangeFuncLeaves
import Derived.RangeFuncBox
import Derived.Shelf.Abstract
import Derived.Shelf.RegionOpen
import Derived.OwnWalkIn
import Derived.TacticsInMore
import Derived.LoopNIn
import Derived.LoopIn
import Derived.RangeFuncNested
import Derived.RangeFuncBound
import Derived.RangeFuncCalls
import Derived.RangeFuncLeaves
import Derived.RangeFuncBox
import Derived.Shelf.Abstract
import Derived.Shelf.RegionOpen
import Derived.OwnWalkIn
import Derived.TacticsInMore
import Derived.LoopNIn
import Derived.LoopIn
import Derived.RangeFuncNested
import Derived.RangeFuncBound
import Derived.RangeFuncCalls
import Derived.RangeFuncLeaves
import Derived.RangeFuncBox
import Derived.Shelf.Abstract
import Derived.Shelf.RegionOpen
import Derived.OwnWalkIn
import Derived.TacticsInMore
import Derived.LoopNIn
import Derived.LoopIn
import Derived.RangeFuncNested
import Derived.RangeFuncBound
import Derived.RangeFuncCalls
import Derived.RangeFuncLeaves
import Derived.RangeFuncBox
import Derived.Shelf.Abstract
import Derived.Shelf.RegionOpen
import Derived.OwnWalkIn
import Derived.TacticsInMore
import Derived.LoopNIn
import Derived.LoopIn
import Derived.RangeFuncNested
import Derived.RangeFuncBound
import Derived.RangeFuncCalls
import Derived.RangeFuncLeaves
import Derived.RangeFuncBox
import Derived.Shelf.Abstract
import Derived.Shelf.RegionOpen
import Derived.OwnWalkIn
import Derived.TacticsInMore
import Derived.LoopNIn
import Derived.LoopIn
import Derived.RangeFuncNested
import Derived.RangeFuncBound
import Derived.RangeFuncCalls
import Derived.RangeFuncLeaves
import Derived.RangeFuncBox
import Derived.Shelf.Abstract
import Derived.Shelf.RegionOpen
import Derived.OwnWalkIn
import Derived.TacticsInMore
import Derived.LoopNIn
import Derived.LoopIn
import Derived.Maps.AppendAt
set_option maxRecDepth 100000
set_option maxHeartbeats 40000000
namespace Go.Proofs.YtchoopnjckcohaaGreat
open Tryz
def M (c : Nat) : Nat → Nat
 | 0 => 0
 | k + 1 => M c k * 256 + c
def a1 (l : Nat) : Nat := (l / 2 &&& 85) + (l &&& 85)
def b1 (l : Nat) : Nat := (a1 l / 4 &&& 51) + (a1 l &&& 51)
def c1 (l : Nat) : Nat := (b1 l / 16 + b1 l) &&& 15
def nw (n : Nat) : Nat := (n + 63) / 64
open Go.RowKit
theorem Bv {w : World} {base base' : Nat} {e : TypeId} {size : Nat} {v : Value} {n : Nat} {xs : List Value} (h : w.ownsRow base e size v n xs) (hb : base' ≤ base) : w.ownsRow base' e size v n xs := by
 refine ⟨h.1, ?_⟩
 rcases h.2 with h2 | ⟨g, cap, cur, hv, hg, r⟩
 · exact .inl h2
 · exact .inr ⟨g, cap, cur, hv, by omega, r⟩
theorem A0 {p : Prop} (h : p) : Hid p := h
theorem Hl {B : Nat} {w w' : World} (h : Below B w w') (q : Nat) : Below B w (w'.drewN q) := ⟨h.os, h.tape, h.output, h.size, h.block⟩
theorem AA {P : Program} {t : TypeId} {z : Option Value} {s b : Nat} (h : (P.info? t).map (fun i => (i.zero, i.size, i.bytes)) = some (z, s, b)) : ∃ i, P.info? t = some i ∧ i.zero = z ∧ i.size = s ∧ i.bytes = b := by
 cases hi : P.info? t with
 | none => simp [hi] at h
 | some i =>
  rw [hi] at h
  simp only [Option.map_some, Option.some.injEq, Prod.mk.injEq] at h
  exact ⟨i, rfl, h.1, h.2.1, h.2.2⟩
theorem Et : (prog.info? 3).map (fun i => (i.zero, i.size, i.bytes)) = some (some (.int .i64 0), 1, 8) := by kernel_rfl
end Go.Proofs.YtchoopnjckcohaaGreat
namespace Go.Proofs.YtchoopnjckcohaaGreat
open Tryz
open Go.RowKit
attribute [local go_sem] Oper.semAt_some
abbrev Aa := Int × Int × Int
def BB (W : World) (ao : Option Addr) (L : List Int) : Prop := ∀ (j : Nat) (h : j < L.length), ∃ g o, ao = some ⟨g, o, none⟩ ∧ W.cell? ⟨g, o + j, none⟩ = some (.int .i64 L[j])
def Cl (W : World) (ao : Option Addr) (L : List Aa) : Prop := ∀ (j : Nat) (h : j < L.length), ∃ g o, ao = some ⟨g, o, none⟩ ∧ W.cell? ⟨g, o + j * 3, none⟩ = some (.int .i64 L[j].1) ∧ W.cell? ⟨g, o + j * 3 + 1, none⟩ = some (.int .i64 L[j].2.1) ∧ W.cell? ⟨g, o + j * 3 + 2, none⟩ = some (.int .i64 L[j].2.2)
theorem BB.on {W W' : World} {ao : Option Addr} {L : List Int} (h : BB W ao L) (d : Below W.heap.size W W') : BB W' ao L := fun j hj => by
 obtain ⟨g, o, rfl, c⟩ := h j hj
 exact ⟨g, o, rfl, (d.cell (p := ⟨g, o + j, none⟩) (World.block_lt_of_cell? W _ c)).trans c⟩
theorem Cl.on {W W' : World} {ao : Option Addr} {L : List Aa} (h : Cl W ao L) (d : Below W.heap.size W W') : Cl W' ao L := fun j hj => by
 obtain ⟨g, o, rfl, c1, c2, c3⟩ := h j hj
 have hg : g < W.heap.size := World.block_lt_of_cell? W ⟨g, o + j * 3, none⟩ c1
 exact ⟨g, o, rfl, (d.cell (p := ⟨g, o + j * 3, none⟩) hg).trans c1, (d.cell (p := ⟨g, o + j * 3 + 1, none⟩) hg).trans c2, (d.cell (p := ⟨g, o + j * 3 + 2, none⟩) hg).trans c3⟩
theorem A1 {w : World} {b j : Nat} {cs : Array Value} {t : TypeId} {fr : Nat × Nat} {v : Value} (h : w.heap[b]? = some (.cells cs t fr)) (hv : cs[j]? = some v) : w.cell? ⟨b, j, none⟩ = some v := by simp [World.cell?, h, hv]
theorem A4 {W : World} {b j : Nat} {c : Array Value} {t : TypeId} (h : W.heap[b]? = some (.cells c t (0, 0))) : W.frozen? ⟨b, j, none⟩ = false := by simp [World.frozen?, h]
theorem A3 {W W' : World} {g : Nat} {o : Obj} (h : W.heap[g]? = some o) (d : Below W.heap.size W W') : W'.heap[g]? = some o := (d.block _ (Array.getElem?_eq_some_iff.1 h).1).trans h
def DF (n x : Int) : Bool := decide (0 ≤ x ∧ x < n)
theorem B3 {n x : Int} : DF n x = true ↔ 0 ≤ x ∧ x < n := by simp [DF]
theorem AU (x n : Int) (w : World) : Calls prog 82 #[.int .i64 x, .int .i64 n] w fun e w' => e = .returned (.bool (DF n x)) ∧ w' = w := by
 by_cases h : 0 ≤ x
 · go_enter func82, ntmps82
   go_wp2
   go_ret
   exact ⟨by simp [DF, h], rfl⟩
 · go_enter func82, ntmps82
   go_wp2
   go_ret
   exact ⟨by simp [DF]; omega, rfl⟩
theorem DI (ao : Option Addr) (cp : Nat) (L : List Int) (n : Int) (w : World) (hr : Hid (BB w ao L)) (hl : L.length ≤ 4194304) : Calls prog 83 #[.slice ao L.length cp, .int .i64 n] w fun e w' => e = .returned (.bool (L.all (DF n))) ∧ w' = w := by
 obtain ⟨m, hm⟩ : ∃ m, m = L.length := ⟨_, rfl⟩
 have HL := A0 hm
 rw [← hm]
 rw [← hm] at hl
 clear hm
 go_enter func83, ntmps83
 go_wp2
 go_loopw [9] (fun iv wr => ∃ i : Nat, i ≤ m ∧ iv = .int .i64 i ∧ wr = w ∧ Hid ((L.take i).all (DF n) = true)) (fun iv _ => m - (intOf iv).toNat)
 case atStart => exact ⟨0, Nat.zero_le _, rfl, rfl, A0 (by simp)⟩
 case round =>
  obtain ⟨i, hi, rfl, hw, HY⟩ := hrel
  obtain rfl := hw
  by_cases hil : i < m
  · have i0 : (0 : Int) ≤ (i : Int) := by omega
    have i1 : (i : Int) < (m : Int) := by omega
    have hi2 : i < L.length := by rw [← HL.out]; exact hil
    obtain ⟨g, o, rfl, c⟩ := hr.out i hi2
    have HT := A0 (show L.take (i + 1) = L.take i ++ [L[i]] by rw [List.take_add_one, List.getElem?_eq_getElem hi2]; rfl)
    have HM := A0 (List.getElem_mem hi2)
    obtain ⟨x, hx⟩ : ∃ x, L[i] = x := ⟨_, rfl⟩
    rw [hx] at c HT HM
    clear hx
    cases hb : DF n x
    · go_wp2_with (go_at_call 82; refine (AU x n wr).mono ?_; rintro e w2 ⟨rfl, rfl⟩)
      go_wp2
      go_ret
      refine ⟨?_, rfl⟩
      have : L.all (DF n) = false := List.all_eq_false.2 ⟨x, HM.out, by rw [hb]; simp⟩
      rw [this]
      rfl
    · go_wp2_with (go_at_call 82; refine (AU x n wr).mono ?_; rintro e w2 ⟨rfl, rfl⟩)
      go_wp2
      go_roundw
      case rel => exact ⟨i + 1, by omega, by go_num, trivial, A0 (by rw [HT.out, List.all_append, HY.out]; simp [hb])⟩
      case measure => simp [intOf]; omega
  · obtain rfl : m = i := by omega
    have i1 : ¬ (m : Int) < (m : Int) := by omega
    go_wp2
    go_ret
    refine ⟨?_, rfl⟩
    have q := HY.out
    rw [HL.out, List.take_length] at q
    rw [q]
    rfl
def Cy (n m : Int) (e : Aa) : Bool := DF n e.1 && DF m e.2.1 && DF n e.2.2
def AC (n m : Int) (St Fi : List Int) (Ed : List Aa) : Bool := DF 4097 n && DF 129 m && decide (Ed.length ≤ 65536) && St.all (DF n) && Fi.all (DF n) && Ed.all (Cy n m)
structure AP (W : World) (a1 a2 a3 : Option Addr) (St Fi : List Int) (Ed : List Aa) : Prop where
 s : BB W a1 St
 f : BB W a2 Fi
 e : Cl W a3 Ed
theorem AP.on {W W' : World} {a1 a2 a3 : Option Addr} {St Fi : List Int} {Ed : List Aa} (h : AP W a1 a2 a3 St Fi Ed) (d : Below W.heap.size W W') : AP W' a1 a2 a3 St Fi Ed := ⟨h.s.on d, h.f.on d, h.e.on d⟩
theorem GF (w : World) (n m : Int) (a1 a2 a3 : Option Addr) (c1 c2 c3 : Nat) (St Fi : List Int) (Ed : List Aa) (hA : Hid (AP w a1 a2 a3 St Fi Ed)) (h1 : St.length ≤ 4194304) (h2 : Fi.length ≤ 4194304) (h3 : Ed.length ≤ 4194304) :
 Calls prog 71 #[.agg #[.int .i64 n, .int .i64 m, .slice a1 St.length c1, .slice a2 Fi.length c2, .slice a3 Ed.length c3]] w fun e w' => e = .returned (.int .i64 (if AC n m St Fi Ed then 0 else 2)) ∧ Below w.heap.size w w' := by
 obtain ⟨W0, hW0⟩ : ∃ W0, w.alloc (.cells #[.int .i64 n, .int .i64 m, .slice a1 St.length c1, .slice a2 Fi.length c2, .slice a3 Ed.length c3] 25) = W0 := ⟨_, rfl⟩
 have d0 : Below w.heap.size w W0 := by rw [← hW0]; exact (Below.refl _ _).alloc (Nat.le_refl _) _
 have B0 : W0.heap[w.heap.size]? = some (.cells #[.int .i64 n, .int .i64 m, .slice a1 St.length c1, .slice a2 Fi.length c2, .slice a3 Ed.length c3] 25 (0, 0)) := by rw [← hW0]; exact World.alloc_heap_new _ _
 have HD := A0 (And.intro d0 B0)
 have k0 : W0.cell? ⟨w.heap.size, 0, none⟩ = some (.int .i64 n) := A1 B0 rfl
 have k1 : W0.cell? ⟨w.heap.size, 1, none⟩ = some (.int .i64 m) := A1 B0 rfl
 have k2 : W0.cell? ⟨w.heap.size, 2, none⟩ = some (.slice a1 St.length c1) := A1 B0 rfl
 have k3 : W0.cell? ⟨w.heap.size, 3, none⟩ = some (.slice a2 Fi.length c2) := A1 B0 rfl
 have k4 : W0.cell? ⟨w.heap.size, 4, none⟩ = some (.slice a3 Ed.length c3) := A1 B0 rfl
 have HA := A0 (hA.out.on d0)
 clear d0 B0 hA
 have T1 := DI a1 c1 St n W0 (A0 HA.out.s) h1
 have T2 := DI a2 c2 Fi n W0 (A0 HA.out.f) h2
 obtain ⟨r, hr⟩ : ∃ r : Int, (if AC n m St Fi Ed then (0 : Int) else 2) = r := ⟨_, rfl⟩
 rw [hr]
 have HR := A0 hr
 have HB : Hid (AC n m St Fi Ed = false → Ending.returned (.int .i64 2) = Ending.returned (.int .i64 r)) := A0 (fun h => by rw [← HR.out, h]; rfl)
 clear hr
 go_enter func71, ntmps71
 cases e1 : DF 4097 n
 · go_wp2_with (go_at_call 82; refine (AU _ _ _).mono ?_; rintro e w2 ⟨rfl, hw⟩; obtain rfl := hw.symm)
   go_ret
   exact ⟨HB.out (by simp [AC, e1]), HD.out.1⟩
 cases e2 : DF 129 m
 · go_wp2_with (go_at_call 82; refine (AU _ _ _).mono ?_; rintro e w2 ⟨rfl, hw⟩; obtain rfl := hw.symm)
   go_ret
   exact ⟨HB.out (by simp [AC, e2]), HD.out.1⟩
 by_cases e3 : Ed.length ≤ 65536
 case neg =>
  have i3 : (65536 : Int) < (Ed.length : Int) := by omega
  go_wp2_with (go_at_call 82; refine (AU _ _ _).mono ?_; rintro e w2 ⟨rfl, hw⟩; obtain rfl := hw.symm)
  go_ret
  exact ⟨HB.out (by simp [AC, e3]), HD.out.1⟩
 have i3 : ¬ (65536 : Int) < (Ed.length : Int) := by omega
 cases e4 : St.all (DF n)
 · rw [e4] at T1
   go_wp2_with (first
    | (go_at_call 82; refine (AU _ _ _).mono ?_; rintro e w2 ⟨rfl, hw⟩; obtain rfl := hw.symm)
    | (go_at_call 83; refine T1.mono ?_; rintro e w2 ⟨rfl, hw⟩; obtain rfl := hw.symm))
   go_ret
   exact ⟨HB.out (by simp [AC, e4]), HD.out.1⟩
 rw [e4] at T1
 cases e5 : Fi.all (DF n)
 · rw [e5] at T2
   go_wp2_with (first
    | (go_at_call 82; refine (AU _ _ _).mono ?_; rintro e w2 ⟨rfl, hw⟩; obtain rfl := hw.symm)
    | (go_at_call_of 83 a1; refine T1.mono ?_; rintro e w2 ⟨rfl, hw⟩; obtain rfl := hw.symm)
    | (go_at_call_of 83 a2; refine T2.mono ?_; rintro e w2 ⟨rfl, hw⟩; obtain rfl := hw.symm))
   go_ret
   exact ⟨HB.out (by simp [AC, e5]), HD.out.1⟩
 rw [e5] at T2
 have HM : Hid (Ed.all (Cy n m) = true → AC n m St Fi Ed = true) := A0 (fun h => by simp [AC, e1, e2, e3, e4, e5, h])
 obtain ⟨L, hL⟩ : ∃ L, Ed.length = L := ⟨_, rfl⟩
 have HL := A0 hL
 rw [hL] at k4 h3 e3 i3 hW0
 rw [hL]
 clear hL
 go_upto_region 5 with (first
  | (go_at_call 82; refine (AU _ _ _).mono ?_; rintro e w2 ⟨rfl, hw⟩; obtain rfl := hw.symm)
  | (go_at_call_of 83 a1; refine T1.mono ?_; rintro e w2 ⟨rfl, hw⟩; obtain rfl := hw.symm)
   | (go_at_call_of 83 a2; refine T2.mono ?_; rintro e w2 ⟨rfl, hw⟩; obtain rfl := hw.symm))
 clear T1 T2 e1 e2 e4 e5
 go_wp2
 go_loopw [38] (fun iv wr => ∃ i : Nat, i ≤ L ∧ iv = .int .i64 i ∧ Hid (Below W0.heap.size W0 wr ∧ (Ed.take i).all (Cy n m) = true)) (fun iv _ => L - (intOf iv).toNat)
 case atStart => exact ⟨0, Nat.zero_le _, rfl, A0 ⟨Below.refl _ _, by simp⟩⟩
 case round =>
  obtain ⟨i, hi, rfl, HY⟩ := hrel
  by_cases hil : i < L
  · have i0 : (0 : Int) ≤ (i : Int) := by omega
    have i1 : (i : Int) < (L : Int) := by omega
    have hi2 : i < Ed.length := by rw [HL.out]; exact hil
    obtain ⟨g, o, rfl, q1, q2, q3⟩ := (HA.out.e.on HY.out.1) i hi2
    have HT := A0 (show Ed.take (i + 1) = Ed.take i ++ [Ed[i]] by rw [List.take_add_one, List.getElem?_eq_getElem hi2]; rfl)
    have HN := A0 (List.getElem_mem hi2)
    obtain ⟨x, hx⟩ : ∃ x, Ed[i] = x := ⟨_, rfl⟩
    rw [hx] at q1 q2 q3 HT HN
    clear hx
    obtain ⟨x1, x2, x3⟩ := x
    obtain ⟨W1, hW1⟩ : ∃ W1, wr.alloc (.cells #[.int .i64 x1, .int .i64 x2, .int .i64 x3] 50) = W1 := ⟨_, rfl⟩
    have HW : Hid (W1.heap[wr.heap.size]? = some (.cells #[.int .i64 x1, .int .i64 x2, .int .i64 x3] 50 (0, 0)) ∧ Below W0.heap.size W0 W1) := A0 (by rw [← hW1]; exact ⟨World.alloc_heap_new _ _, HY.out.1.alloc HY.out.1.size _⟩)
    have HBx := A0 (A3 HD.out.2 HW.out.2)
    have y0 : W1.cell? ⟨wr.heap.size, 0, none⟩ = some (.int .i64 x1) := A1 HW.out.1 rfl
    have y1 : W1.cell? ⟨wr.heap.size, 1, none⟩ = some (.int .i64 x2) := A1 HW.out.1 rfl
    have y2 : W1.cell? ⟨wr.heap.size, 2, none⟩ = some (.int .i64 x3) := A1 HW.out.1 rfl
    have z0 : W1.cell? ⟨w.heap.size, 0, none⟩ = some (.int .i64 n) := A1 HBx.out rfl
    have z1 : W1.cell? ⟨w.heap.size, 1, none⟩ = some (.int .i64 m) := A1 HBx.out rfl
    have HBd : Hid (Cy n m (x1, x2, x3) = false → AC n m St Fi Ed = false) := A0 (fun h => by
     have : Ed.all (Cy n m) = false := List.all_eq_false.2 ⟨_, HN.out, by rw [h]; simp⟩
     simp [AC, this])
    cases f1 : DF n x1
    · go_wp2_with (go_at_call 82; refine (AU _ _ _).mono ?_; rintro e w2 ⟨rfl, hw⟩; obtain rfl := hw.symm)
      go_ret
      exact ⟨HB.out (HBd.out (by simp [Cy, f1])), HD.out.1.trans (HW.out.2.mono HD.out.1.size)⟩
    cases f2 : DF m x2
    · go_wp2_with (go_at_call 82; refine (AU _ _ _).mono ?_; rintro e w2 ⟨rfl, hw⟩; obtain rfl := hw.symm)
      go_ret
      exact ⟨HB.out (HBd.out (by simp [Cy, f2])), HD.out.1.trans (HW.out.2.mono HD.out.1.size)⟩
    cases f3 : DF n x3
    · go_wp2_with (go_at_call 82; refine (AU _ _ _).mono ?_; rintro e w2 ⟨rfl, hw⟩; obtain rfl := hw.symm)
      go_ret
      exact ⟨HB.out (HBd.out (by simp [Cy, f3])), HD.out.1.trans (HW.out.2.mono HD.out.1.size)⟩
    go_wp2_with (go_at_call 82; refine (AU _ _ _).mono ?_; rintro e w2 ⟨rfl, hw⟩; obtain rfl := hw.symm)
    go_roundw
    case rel => exact ⟨i + 1, by omega, by go_num, A0 ⟨HW.out.2, by rw [HT.out, List.all_append, HY.out.2]; simp [Cy, f1, f2, f3]⟩⟩
    case measure => simp [intOf]; omega
  · obtain rfl : L = i := by omega
    have i1 : ¬ (L : Int) < (L : Int) := by omega
    go_wp2
    go_ret
    have q := HY.out.2
    rw [← HL.out, List.take_length] at q
    exact ⟨by rw [← HR.out, HM.out q]; rfl, HD.out.1.trans (HY.out.1.mono HD.out.1.size)⟩
def ends (back : Bool) (e : Aa) : Int × Int := if back then (e.2.2, e.1) else (e.1, e.2.2)
theorem Ag {n m : Int} {St Fi : List Int} {Ed : List Aa} (h : AC n m St Fi Ed = true) : (0 ≤ n ∧ n ≤ 4096) ∧ (0 ≤ m ∧ m ≤ 128) ∧ Ed.length ≤ 65536 ∧ St.all (DF n) = true ∧ Fi.all (DF n) = true ∧ ∀ e ∈ Ed, (0 ≤ e.1 ∧ e.1 < n) ∧ (0 ≤ e.2.1 ∧ e.2.1 < m) ∧ 0 ≤ e.2.2 ∧ e.2.2 < n := by
 unfold AC at h
 simp only [Bool.and_eq_true, decide_eq_true_eq, B3] at h
 obtain ⟨⟨⟨⟨⟨h1, h2⟩, h3⟩, h4⟩, h5⟩, h6⟩ := h
 refine ⟨by omega, by omega, h3, h4, h5, fun e he => ?_⟩
 have := List.all_eq_true.1 h6 e he
 simp only [Cy, Bool.and_eq_true, B3] at this
 exact ⟨this.1.1, this.1.2, this.2⟩
end Go.Proofs.YtchoopnjckcohaaGreat
namespace Go.Proofs.YtchoopnjckcohaaGreat
open Tryz
section
variable {P : Program} {md : Region.Mode} {ops : Array Oper} {C : World → Prop}
def BD (md : Region.Mode) (ops : Array Oper) (listed : Array Bool) : Prop :=
 ∀ (j : Nat) (oj : Oper), ops[j]? = some oj → listed.getD j true = true → ∀ e ∈ oj.after, Region.binds md e = true → listed.getD e.on false = true
def BK (md : Region.Mode) (ops : Array Oper) : Nat → Nat → Nat → Bool
 | 0, _, _ => false
 | f + 1, j, i => match ops[j]? with
  | none => false
  | some o => o.after.any fun e => Region.binds md e && (e.on == i || BK md ops f e.on i)
theorem JP (l : Array Bool) (i : Nat) (h : l.getD i true = false) : l.getD i false = false := by
 rcases Nat.lt_or_ge i l.size with h' | h'
 · simpa [h'] using h
 · simp [Array.getElem?_eq_none h']
theorem BQ (l : Array Bool) (i : Nat) (h : l.getD i false = true) : l.getD i true = true := by
 rcases Nat.lt_or_ge i l.size with h' | h'
 · simpa [h'] using h
 · simp [Array.getElem?_eq_none h'] at h
theorem FN {listed : Array Bool} (hc : BD md ops listed) {i : Nat} (hi : listed.getD i true = false) : ∀ (f j : Nat), BK md ops f j i = true → ∃ e oj, ops[j]? = some oj ∧ e ∈ oj.after ∧ Region.binds md e = true ∧ listed.getD e.on false = false
 | 0, _, h => by simp [BK] at h
 | f + 1, j, h => by
  unfold BK at h
  cases ho : ops[j]? with
  | none => simp [ho] at h
  | some oj =>
   simp only [ho] at h
   obtain ⟨e, he, h2⟩ : ∃ e ∈ oj.after, (Region.binds md e && (e.on == i || BK md ops f e.on i)) = true := by
    obtain ⟨i1, hi1, h2⟩ := Array.any_eq_true.1 h
    exact ⟨_, Array.getElem_mem hi1, h2⟩
   simp only [Bool.and_eq_true, Bool.or_eq_true, beq_iff_eq] at h2
   obtain ⟨hb, h3⟩ := h2
   refine ⟨e, oj, rfl, he, hb, ?_⟩
   rcases h3 with rfl | h3
   · exact JP _ _ hi
   · cases hx : listed.getD e.on false with
     | false => rfl
     | true =>
      obtain ⟨e', oj', h4, h5, h6, h7⟩ := FN hc hi f e.on h3
      have := hc _ _ h4 (BQ _ _ hx) e' h5 h6
      rw [h7] at this; cases this
def C9 (md : Region.Mode) (ops : Array Oper) (n : Nat) : Bool :=
 (List.range ops.size).all fun j => decide (j < n) || (List.range n).all fun i => BK md ops ops.size j i
theorem DC {n : Nat} {listed : Array Bool} (hp : C9 md ops n = true) (hc : BD md ops listed) {i j : Nat} (hin : i < n) (hi : listed.getD i true = false) (hj : j ∈ Region.ready md ops listed) : j < n := by
 obtain ⟨h0, oj, ho, hall⟩ := mem_ready.1 hj
 rcases Nat.lt_or_ge j n with h | h
 · exact h
 · unfold C9 at hp
   rw [List.all_eq_true] at hp
   have h1 := hp j (List.mem_range.2 (Array.getElem?_eq_some_iff.1 ho).1)
   simp only [Bool.or_eq_true, decide_eq_true_eq, List.all_eq_true, List.mem_range] at h1
   rcases h1 with h1 | h1
   · exact h1
   · obtain ⟨e, oj', h4, h5, h6, h7⟩ := FN hc hi _ _ (h1 i hin)
     rw [ho] at h4
     cases h4
     rw [hall e h5 h6] at h7
     cases h7
theorem BD.set {listed : Array Bool} (hc : BD md ops listed) {j : Nat} (hj : j ∈ Region.ready md ops listed) : BD md ops (listed.setIfInBounds j true) := by
 intro k ok hk hl e he hb
 by_cases hjk : j = k
 · subst hjk
   obtain ⟨h0, oj, ho, hall⟩ := mem_ready.1 hj
   rw [ho] at hk
   cases hk
   exact getD_set_true (hall e he hb)
 · rw [getD_set_ne true hjk] at hl
   exact getD_set_true (hc k ok hk hl e he hb)
def Eq (P : Program) (md : Region.Mode) (ops : Array Oper) (C : World → Prop) (n : Nat) (T : Array Bool → Act → Prop) : Nat → Array Bool → Act → Prop
 | 0, listed, a => (∀ j, j < n → listed.getD j true = true) ∧ T listed a
 | m + 1, listed, a => Region.ready md ops listed ≠ [] ∧ ∀ i ∈ Region.ready md ops listed, qOp P ops C i (Eq P md ops C n T m (listed.setIfInBounds i true)) a
theorem D7 {n : Nat} {T : Array Bool → Act → Prop} {Q : Exit → Act → World → Prop} {k : Nat} (hT : ∀ listed a w, C w → T listed a → wpAny P md ops Q k listed a w) :
 ∀ (m : Nat) (listed : Array Bool) (a : Act) (w : World), C w → Eq P md ops C n T m listed a → wpAny P md ops Q (k + m) listed a w
 | 0, _, _, _, hw, h => hT _ _ _ hw h.2
 | m + 1, _, _, _, hw, h => ⟨fun h0 => absurd h0 h.1, fun i hi => wpOp_of_qOp hw (fun a' w' hw' => D7 hT m _ a' w' hw') (h.2 i hi)⟩
theorem Gj {n : Nat} {T : Array Bool → Act → Prop} {i : Nat} {oi : Oper} {v : Value} (hi : ops[i]? = some oi) (hin : i < n) (hp : C9 md ops n = true)
 (hsel : ∀ (j : Nat) (o : Oper) cs b, ops[j]? = some o → o.op ≠ .select cs b) :
 ∀ (fuel : Nat) (listed : Array Bool) (a : Act), BD md ops listed →
  (∀ j oj, ops[j]? = some oj → j ≠ i → listed.getD j true = false → (∀ e ∈ oj.after, Region.binds md e = true → e.on ≠ i) → oi.apart ops oj = true) →
  i ∈ Region.ready md ops listed → YieldsIn P ops C oi v a →
  Eq P md ops C n T fuel (listed.setIfInBounds i true) (a.put oi.dst v) → Eq P md ops C n T (fuel + 1) listed a := by
 intro fuel
 induction fuel with
 | zero =>
  intro listed a hc _ hr hy H
  refine ⟨fun h => (by rw [h] at hr; cases hr), fun j hj => ?_⟩
  by_cases hji : j = i
  · subst hji; exact hy.qOp hi H
  · have hjn := DC hp hc hin (mem_ready.1 hr).1 hj
    have h1 := H.1 j hjn
    rw [getD_set_ne true (Ne.symm hji), (mem_ready.1 hj).1] at h1
    cases h1
 | succ fuel ih =>
  intro listed a hc hfree hr hy H
  refine ⟨fun h => (by rw [h] at hr; cases hr), fun j hj => ?_⟩
  by_cases hji : j = i
  · subst hji; exact hy.qOp hi H
  · have h1 := H.2 j (ready_mono hj hji)
    obtain ⟨hjun, oj, hoj, hall⟩ := mem_ready.1 hj
    have hnot : ∀ e ∈ oj.after, Region.binds md e = true → e.on ≠ i := fun e he hb heq => by
     have h1 := hall e he hb
     rw [heq, JP _ _ (mem_ready.1 hr).1] at h1
     cases h1
    have h2 := qOp_put hoj (hfree j oj hoj hji hjun hnot) (fun cs b => hsel i oi cs b hi) (fun cs b => hsel j oj cs b hoj) hy h1
    have hfree' : ∀ k ok, ops[k]? = some ok → k ≠ i → (listed.setIfInBounds j true).getD k true = false →
     (∀ e ∈ ok.after, Region.binds md e = true → e.on ≠ i) → oi.apart ops ok = true := fun k ok hk hki hun hno => by
     refine hfree k ok hk hki ?_ hno
     by_cases hjk : j = k
     · subst hjk; exact hjun
     · rw [getD_set_ne true hjk] at hun; exact hun
    refine qOp_mono (fun a' h3 => ih (listed.setIfInBounds j true) a' (hc.set hj) hfree' (ready_mono hr (Ne.symm hji)) h3.1 ?_) h2
    rw [Array.setIfInBounds_comm _ _ hji]
    exact h3.2
def G7 (md : Region.Mode) (ops : Array Oper) (n : Nat) : Nat → Nat → Array Bool → Array Bool → Bool
 | 0, _, listed, L => (List.range n).all (fun j => listed.getD j true) && decide (listed = L)
 | fuel + 1, k, listed, L => (Region.ready md ops listed).contains k && Region.free md ops listed k && decide (k < n) && G7 md ops n fuel (k + 1) (listed.setIfInBounds k true) L
theorem ER {n : Nat} {L : Array Bool} {Q : Act → Prop} (hs : Region.noSelect ops = true) (hp : C9 md ops n = true) : ∀ (l : List Oper) (k : Nat) (listed : Array Bool) (a : Act), BD md ops listed → (∀ j o, l[j]? = some o → ops[k + j]? = some o) →
 G7 md ops n l.length k listed L = true → wpQuiet P ops C Q l a → Eq P md ops C n (fun listed' a' => listed' = L ∧ Q a') l.length listed a
 | [], _, _, _, _, _, hB, h => by
  simp only [List.length_nil, G7, Bool.and_eq_true, List.all_eq_true, List.mem_range, decide_eq_true_eq] at hB
  exact ⟨hB.1, hB.2, h⟩
 | o :: l, k, listed, a, hc, hl, hB, h => by
  have h0 : ops[k]? = some o := hl 0 o rfl
  simp only [List.length_cons, G7, Bool.and_eq_true, decide_eq_true_eq] at hB
  obtain ⟨⟨⟨hr, hf⟩, hk⟩, hB'⟩ := hB
  have hr' : k ∈ Region.ready md ops listed := by simpa using hr
  have hst : qOp P ops C k (wpQuiet P ops C Q l) a := by unfold qOp; simp only [h0]; exact h
  obtain ⟨v, hy, hK⟩ := yieldsIn_of_qOp h0 hst
  exact Gj h0 hk hp (Region.noSelect_spec hs) l.length listed a hc (Region.free_spec h0 hf) hr' hy
   (ER hs hp l (k + 1) _ _ (hc.set hr') (fun j o' ho => by have := hl (j + 1) o' (by simpa using ho); simpa [Nat.add_assoc, Nat.add_comm 1 j] using this) hB' hK)
def CX (md : Region.Mode) (ops : Array Oper) : Nat → Nat → Array Bool → Bool
 | 0, _, listed => (Region.ready md ops listed).isEmpty
 | fuel + 1, k, listed => decide (Region.ready md ops listed = [k]) && CX md ops fuel (k + 1) (listed.setIfInBounds k true)
theorem G8 {Q : Exit → Act → World → Prop} : ∀ (l : List Oper) (k : Nat) (listed : Array Bool) (a : Act) (w : World), (∀ j o, l[j]? = some o → ops[k + j]? = some o) →
 CX md ops l.length k listed = true → wpList P ops Q l a w → wpAny P md ops Q l.length listed a w
 | [], _, _, _, _, _, hB, h => ⟨by simpa [CX] using hB, h⟩
 | o :: l, k, listed, a, w, hl, hB, h => by
  have h0 : ops[k]? = some o := hl 0 o rfl
  simp only [List.length_cons, CX, Bool.and_eq_true, decide_eq_true_eq] at hB
  obtain ⟨hr, hB'⟩ := hB
  refine ⟨fun h1 => (by rw [hr] at h1; cases h1), fun j hj => ?_⟩
  rw [hr] at hj
  obtain rfl := List.mem_singleton.1 hj
  have NX : ∀ a' w', wpList P ops Q l a' w' → wpAny P md ops Q l.length (listed.setIfInBounds j true) a' w' := fun a' w' =>
   G8 l (j + 1) _ a' w' (fun i o' ho => by have := hl (i + 1) o' (by simpa using ho); simpa [Nat.add_assoc, Nat.add_comm 1 i] using this) hB'
  unfold wpOp
  simp only [h0]
  unfold wpList at h
  split
  · rename_i hw
    rw [if_pos hw] at h
    exact h.imp (Oper.wp_mono NX) id
  · rename_i hw
    rw [if_neg hw] at h
    exact NX _ _ h
theorem Cp (md : Region.Mode) (ops : Array Oper) : BD md ops (Array.replicate ops.size false) := by
 intro j oj ho hl
 have := (Array.getElem?_eq_some_iff.1 ho).1
 simp [this] at hl
def LO (ops : Array Oper) (n : Nat) (L : Array Bool) : Bool :=
 Nat.ble n ops.size && Region.noSelect ops && C9 .any ops n && G7 .any ops n n 0 (Array.replicate ops.size false) L && CX .any ops (ops.size - n) n L
theorem Al {id : Nat} {Q : Exit → Act → World → Prop} {a : Act} {w : World} {l : List Oper} (n : Nat) (L : Array Bool) (hm : P.follows .mixedOrders = true) (hB : LO l.toArray n L = true)
 (h : wpQuiet P l.toArray (fun w' => ∃ n, w' = w.drewN n) (fun a' => ∀ w', (∃ n, w' = w.drewN n) → wpList P l.toArray Q (l.drop n) a' w') (l.take n) a) : (Code.region id l.toArray true).wp P Q a w := by
 unfold LO at hB
 simp only [Bool.and_eq_true] at hB
 obtain ⟨⟨⟨⟨h0, h1⟩, h2⟩, h3⟩, h4⟩ := hB
 have hn : n ≤ l.length := by simpa using Nat.le_of_ble_eq_true h0
 refine wp_region_any hm ?_
 have hl1 : (l.take n).length = n := by simp [hn]
 have hl2 : (l.drop n).length = l.toArray.size - n := by simp
 have F := ER (P := P) (C := fun w' => ∃ n, w' = w.drewN n) (L := L) h1 h2 (l.take n) 0 (Array.replicate l.toArray.size false) a (Cp _ _)
  (fun j o ho => by
   rw [List.getElem?_take] at ho
   split at ho
   · simpa using ho
   · cases ho) (by rw [hl1]; exact h3) h
 have A := D7 (Q := Q) (k := l.toArray.size - n) (fun listed a' w' hw' hT => by
  obtain ⟨e, hT⟩ := hT
  subst e
  have := G8 (P := P) (md := .any) (Q := Q) (l.drop n) n _ a' w' (fun j o ho => by rw [List.getElem?_drop] at ho; simpa using ho) (by rw [hl2]; exact h4) (hT w' hw')
  rwa [hl2] at this) _ _ _ (w.drewN 1) ⟨1, rfl⟩ F
 rw [hl1, show l.toArray.size - n + n = l.toArray.size by simp only [List.size_toArray]; omega] at A
 exact A
end
open Go.RowKit
def Ca (f : Nat → Bool) : Nat → Nat
 | 0 => 0
 | n + 1 => Ca f n + (if f n then 1 else 0)
theorem Kq {f g : Nat → Bool} {n : Nat} (h : ∀ i, i < n → g i = f i) : Ca g n = Ca f n := by
 induction n with
 | zero => rfl
 | succ n ih => simp only [Ca]; rw [ih (fun i hi => h i (by omega)), h n (by omega)]
theorem Dv {f g : Nat → Bool} {j : Nat} (hj : f j = true) (gj : g j = false) (h : ∀ i, i ≠ j → g i = f i) : ∀ n, j < n → Ca g n + 1 = Ca f n
 | 0, hn => by omega
 | n + 1, hn => by
  simp only [Ca]
  rcases Nat.lt_or_ge j n with h1 | h1
  · have := Dv hj gj h n h1
    rw [h n (by omega)]
    omega
  · have e : j = n := by omega
    subst e
    rw [Kq (f := f) (g := g) (fun i hi => h i (by omega)), hj, gj]
    simp
theorem CM {f : Nat → Bool} : ∀ n, 0 < Ca f n → ∃ i, i < n ∧ f i = true ∧ ∀ j, j < i → f j = false
 | 0, h => by simp [Ca] at h
 | n + 1, h => by
  rcases Nat.eq_zero_or_pos (Ca f n) with h0 | h0
  · refine ⟨n, by omega, ?_, ?_⟩
    · simp only [Ca, h0] at h
      cases hf : f n with
      | true => rfl
      | false => rw [hf] at h; simp at h
    · intro j hj
      cases hf : f j with
      | false => rfl
      | true =>
       exfalso
       have : ∀ n, j < n → 0 < Ca f n := by
        intro n
        induction n with
        | zero => intro h; omega
        | succ n ih =>
         intro h
         simp only [Ca]
         rcases Nat.lt_or_ge j n with h1 | h1
         · have := ih h1; omega
         · have e : j = n := by omega
           subst e; rw [hf]; simp
       have := this n hj
       omega
  · obtain ⟨i, h1, h2, h3⟩ := CM n h0
    exact ⟨i, by omega, h2, h3⟩
theorem Dt {f : Nat → Bool} : ∀ n, Ca f n = 0 → ∀ i, i < n → f i = false
 | 0, _, i, h => by omega
 | n + 1, h, i, hi => by
  simp only [Ca] at h
  rcases Nat.lt_or_ge i n with h1 | h1
  · exact Dt n (by omega) i h1
  · have e : i = n := by omega
    subst e
    cases hf : f i with
    | false => rfl
    | true => rw [hf] at h; simp at h
section
variable {P : Program} {ops : Array Oper} {Q : Exit → Act → World → Prop}
def AK (y : Nat → Value) (i : Nat) (x : Value) : Nat → Value := fun j => if j = i then x else y j
def PZ (P : Program) (ops : Array Oper) (Q : Exit → Act → World → Prop) (w : World) (fill : (Nat → Value) → Act) (Φ : Nat → Value → Nat → Nat → World → Prop) (i : Nat) (o : Oper) : Prop :=
 ∀ (y : Nat → Value) (W : World), Below w.heap.size w W → (∀ e ∈ o.after, Region.binds .any e = true → ∃ lo hi, hi ≤ W.heap.size ∧ Φ e.on (y e.on) lo hi W) →
  ∀ K : Act → World → Prop, Shut (∀ x a' W', Below W.heap.size W W' → Φ i x W.heap.size W'.heap.size W' → a' = fill (AK y i x) → K a' W') → if Region.wanted o (yielded ops (fill y).tmps) = true then Oper.wp P o (fill y) W K Q else K ((fill y).put o.dst undef) W
def N5 (P : Program) (ops : Array Oper) (Q : Exit → Act → World → Prop) (w : World) (fill : (Nat → Value) → Act) (Φ : Nat → Value → Nat → Nat → World → Prop) : Nat → List Oper → Prop
 | _, [] => True
 | k, o :: r => PZ P ops Q w fill Φ k o ∧ N5 P ops Q w fill Φ (k + 1) r
theorem N5.at {w : World} {fill : (Nat → Value) → Act} {Φ : Nat → Value → Nat → Nat → World → Prop} : ∀ (l : List Oper) (k i : Nat) (o : Oper), N5 P ops Q w fill Φ k l → l[i]? = some o → PZ P ops Q w fill Φ (k + i) o
 | [], _, _, _, _, h => by simp at h
 | o' :: r, k, 0, o, H, h => by simp at h; subst h; exact H.1
 | o' :: r, k, i + 1, o, H, h => by
  have := N5.at r (k + 1) i o H.2 (by simpa using h)
  rwa [show k + 1 + i = k + (i + 1) by omega] at this
def Gk (ops : Array Oper) (n : Nat) : Bool := (List.range n).all fun i => match ops[i]? with
 | none => false
 | some o => o.after.all fun e => !Region.binds .any e || decide (e.on < i)
theorem Bk {n : Nat} (h : Gk ops n = true) {i : Nat} (hi : i < n) : ∃ o, ops[i]? = some o ∧ ∀ e ∈ o.after, Region.binds .any e = true → e.on < i := by
 unfold Gk at h
 rw [List.all_eq_true] at h
 have := h i (List.mem_range.2 hi)
 split at this
 · cases this
 · rename_i o ho
   refine ⟨o, ho, fun e he hb => ?_⟩
   rw [Array.all_eq_true_iff_forall_mem] at this
   have := this e he
   rw [hb] at this
   simpa using this
theorem EN {L : List Oper} : ∀ (x k : Nat) (listed : Array Bool) (a : Act) (w : World), (∀ j o, L[j]? = some o → ops[k + j]? = some o) →
 CX .any ops L.length k listed = true → wpList P ops Q L a w → wpAny P .any ops Q (L.length + x) listed a w := by
 induction L with
 | nil =>
  intro x k listed a w _ hB h
  have hr : Region.ready .any ops listed = [] := by simpa [CX] using hB
  cases x with
  | zero => exact ⟨hr, h⟩
  | succ x => exact ⟨fun _ => h, fun i hi => by rw [hr] at hi; cases hi⟩
 | cons o L ih =>
  intro x k listed a w hl hB h
  have h0 : ops[k]? = some o := hl 0 o rfl
  simp only [List.length_cons, CX, Bool.and_eq_true, decide_eq_true_eq] at hB
  obtain ⟨hr, hB'⟩ := hB
  rw [List.length_cons, show L.length + 1 + x = (L.length + x) + 1 by omega]
  refine ⟨fun h1 => (by rw [hr] at h1; cases h1), fun j hj => ?_⟩
  rw [hr] at hj
  obtain rfl := List.mem_singleton.1 hj
  have NX : ∀ a' w', wpList P ops Q L a' w' → wpAny P .any ops Q (L.length + x) (listed.setIfInBounds j true) a' w' := fun a' w' =>
   ih x (j + 1) _ a' w' (fun i o' ho => by have := hl (i + 1) o' (by simpa using ho); simpa [Nat.add_assoc, Nat.add_comm 1 i] using this) hB'
  unfold wpOp
  simp only [h0]
  unfold wpList at h
  split
  · rename_i hw
    rw [if_pos hw] at h
    exact h.imp (Oper.wp_mono NX) id
  · rename_i hw
    rw [if_neg hw] at h
    exact NX _ _ h
def JF (ops : Array Oper) (n : Nat) : Bool := Nat.ble n ops.size && C9 .any ops n && Gk ops n && CX .any ops (ops.size - n) n (Array.ofFn (n := ops.size) fun i => decide (i.1 < n))
def Aw : Nat → List Oper → (Nat → Value) → Act → Act
 | _, [], _, a => a
 | k, o :: r, y, a => Aw (k + 1) r y (a.put o.dst (y k))
def EB (l : List Oper) (a : Act) (i : Nat) : Value := match l[i]? with
 | none => undef
 | some o => match o.dst with
  | none => undef
  | some d => a.tmps.getD d undef
theorem Me (a : Act) (d : Nat) : a.put (some d) (a.tmps.getD d undef) = a := by
 unfold Act.put
 have : a.tmps.setIfInBounds d (a.tmps.getD d undef) = a.tmps := by
  refine Array.ext (by simp) (fun i h1 h2 => ?_)
  by_cases e : d = i
  · subst e
    simp [h2]
  · rw [Array.getElem_setIfInBounds_ne (by simpa using h1) e]
 simp only [this]
theorem CS (l : List Oper) (a : Act) : ∀ (r : List Oper) (k : Nat), (∀ j o, r[j]? = some o → l[k + j]? = some o) → Aw k r (EB l a) a = a
 | [], _, _ => rfl
 | o :: r, k, h => by
  have h0 : l[k]? = some o := h 0 o rfl
  have e : a.put o.dst (EB l a k) = a := by
   unfold EB
   rw [h0]
   show a.put o.dst (match o.dst with
    | none => undef
    | some d => a.tmps.getD d undef) = a
   cases o.dst with
   | none => rfl
   | some d => exact Me a d
  unfold Aw
  rw [e]
  exact CS l a r (k + 1) (fun j o' ho => by have := h (j + 1) o' (by simpa using ho); rwa [show k + 1 + j = k + (j + 1) by omega])
abbrev Ef := Value → Nat → Nat → World → Prop
def B8 (p : Ef) : Prop := ∀ x lo hi W W', hi ≤ W.heap.size → Below W.heap.size W W' → p x lo hi W → p x lo hi W'
end
section
variable {P : Program} {ops : Array Oper} {Q : Exit → Act → World → Prop}
def KR (e : Edge) : Bool := match e.ground with
 | .data => true
 | .guard => true
 | _ => false
structure It where
 reads : List Nat
 ret : List Nat
 p : (Nat → Value) → Nat → Nat → World → Prop
def Cf (L : List It) (i : Nat) : It := L.getD i ⟨[], [], fun _ _ _ _ => True⟩
def ML (i : Nat) (t : It) : Prop := ∀ y y' lo hi W W', hi ≤ W.heap.size → Below W.heap.size W W' → (∀ j, j = i ∨ j ∈ t.reads → y' j = y j) → t.p y lo hi W → t.p y' lo hi W'
def AJ : Nat → List It → Prop
 | _, [] => True
 | k, t :: r => ML k t ∧ AJ (k + 1) r
theorem AJ.at : ∀ (L : List It) (k i : Nat), AJ k L → ML (k + i) (Cf L i)
 | [], _, _, _ => fun _ _ _ _ _ _ _ _ _ h => h
 | _ :: _, _, 0, h => h.1
 | _ :: r, k, i + 1, h => by
  have := AJ.at r (k + 1) i h.2
  rwa [show k + 1 + i = k + (i + 1) by omega] at this
def Pf (w : World) (L : List It) (i : Nat) (y : Nat → Value) (W W' : World) : Prop := Below w.heap.size w W' ∧ W.heap.size ≤ W'.heap.size ∧ ∀ j, j ≠ i → j ∉ (Cf L i).ret → ∀ lo hi, hi ≤ W.heap.size → (Cf L j).p y lo hi W → (Cf L j).p y lo hi W'
theorem Av {w : World} {L : List It} {i : Nat} {y : Nat → Value} {W W' : World} (hm : AJ 0 L) (d : Below w.heap.size w W) (d1 : Below W.heap.size W W') : Pf w L i y W W' :=
 ⟨d.trans (d1.mono d.size), d1.size, fun j _ _ lo hi hs h => by
  have := AJ.at L 0 j hm y y lo hi W W' hs d1 (fun _ _ => rfl)
  exact this h⟩
def P8 (P : Program) (ops : Array Oper) (Q : Exit → Act → World → Prop) (w : World) (fill : (Nat → Value) → Act) (L : List It) (i : Nat) (o : Oper) : Prop :=
 ∀ (y : Nat → Value) (W : World), Below w.heap.size w W → (∀ e ∈ o.after, Region.binds .any e = true → KR e = true → ∃ lo hi, w.heap.size ≤ lo ∧ hi ≤ W.heap.size ∧ (Cf L e.on).p y lo hi W) →
  ∀ K : Act → World → Prop, Shut (∀ x a' W', Pf w L i y W W' → (Cf L i).p (AK y i x) W.heap.size W'.heap.size W' → a' = fill (AK y i x) → K a' W') → if Region.wanted o (yielded ops (fill y).tmps) = true then Oper.wp P o (fill y) W K Q else K ((fill y).put o.dst undef) W
def ES (P : Program) (ops : Array Oper) (Q : Exit → Act → World → Prop) (w : World) (fill : (Nat → Value) → Act) (L : List It) : Nat → List Oper → Prop
 | _, [] => True
 | k, o :: r => P8 P ops Q w fill L k o ∧ ES P ops Q w fill L (k + 1) r
theorem ES.at {w : World} {fill : (Nat → Value) → Act} {L : List It} : ∀ (l : List Oper) (k i : Nat) (o : Oper), ES P ops Q w fill L k l → l[i]? = some o → P8 P ops Q w fill L (k + i) o
 | [], _, _, _, _, h => by simp at h
 | o' :: r, k, 0, o, H, h => by simp at h; subst h; exact H.1
 | o' :: r, k, i + 1, o, H, h => by
  have := ES.at r (k + 1) i o H.2 (by simpa using h)
  rwa [show k + 1 + i = k + (i + 1) by omega] at this
structure Gu (w : World) (L : List It) (ops : Array Oper) (n : Nat) (is : Nat → Bool) (y : Nat → Value) (lo hi : Nat → Nat) (W : World) : Prop where
 d : Below w.heap.size w W
 fact : ∀ i, i < n → is i = true → (∀ k, k < n → is k = true → i ∉ (Cf L k).ret) → (Cf L i).p y (lo i) (hi i) W
 at' : ∀ i, i < n → is i = true → w.heap.size ≤ lo i ∧ lo i ≤ hi i ∧ hi i ≤ W.heap.size
 apart : ∀ i j, i < n → j < n → is i = true → is j = true → i ≠ j → hi i ≤ lo j ∨ hi j ≤ lo i
 order : ∀ j o e, j < n → is j = true → ops[j]? = some o → e ∈ o.after → Region.binds .any e = true → hi e.on ≤ lo j
def I1 (ops : Array Oper) (n : Nat) (rs rd : List (List Nat)) : Bool :=
 ((List.range n).all fun k => (rs.getD k []).all fun j => (List.range n).all fun i => match ops[i]? with
  | none => false
  | some o => decide (i = k) || o.after.all (fun e => !Region.binds .any e || !KR e || !(e.on == j)) || BK .any ops ops.size k i) &&
 ((List.range n).all fun k => (rd.getD k []).all fun j => BK .any ops ops.size k j)
theorem Iw {α β : Type} (f : α → β) : ∀ (L : List α) (i : Nat) (d : α), (L.map f).getD i (f d) = f (L.getD i d)
 | [], _, _ => rfl
 | _ :: _, 0, _ => rfl
 | _ :: _, _ + 1, _ => by simp
theorem He {n : Nat} {L : List It} (h : I1 ops n (L.map It.ret) (L.map It.reads) = true) {k j i : Nat} {o : Oper} {e : Edge} (hk : k < n) (hi : i < n) (hne : i ≠ k) (hj : j ∈ (Cf L k).ret) (ho : ops[i]? = some o) (he : e ∈ o.after) (hb : Region.binds .any e = true) (Ng : KR e = true) (hej : e.on = j) : BK .any ops ops.size k i = true := by
 unfold I1 at h
 rw [Bool.and_eq_true] at h
 have h := h.1
 rw [List.all_eq_true] at h
 have h1 := h k (List.mem_range.2 hk)
 rw [List.all_eq_true] at h1
 have e1 : (L.map It.ret).getD k [] = (Cf L k).ret := Iw It.ret L k ⟨[], [], fun _ _ _ _ => True⟩
 rw [e1] at h1
 have h2 := h1 j hj
 rw [List.all_eq_true] at h2
 have h3 := h2 i (List.mem_range.2 hi)
 rw [ho] at h3
 simp only [Bool.or_eq_true, decide_eq_true_eq] at h3
 rcases h3 with (h3 | h3) | h3
 · exact absurd h3 hne
 · rw [Array.all_eq_true_iff_forall_mem] at h3
   have := h3 e he
   rw [hb, Ng, hej] at this
   simp at this
 · exact h3
theorem FC {n : Nat} {L : List It} (h : I1 ops n (L.map It.ret) (L.map It.reads) = true) {k j : Nat} (hk : k < n) (hj : j ∈ (Cf L k).reads) : BK .any ops ops.size k j = true := by
 unfold I1 at h
 rw [Bool.and_eq_true] at h
 have h := h.2
 rw [List.all_eq_true] at h
 have h1 := h k (List.mem_range.2 hk)
 rw [List.all_eq_true] at h1
 have e1 : (L.map It.reads).getD k [] = (Cf L k).reads := Iw It.reads L k ⟨[], [], fun _ _ _ _ => True⟩
 rw [e1] at h1
 exact h1 j hj
theorem Bj {listed : Array Bool} (hc : BD .any ops listed) {k j f : Nat} (hw : BK .any ops f k j = true) (hk : listed.getD k true = true) : listed.getD j true = true := by
 cases hj : listed.getD j true with
 | true => rfl
 | false =>
  obtain ⟨e, oj, h1, h2, h3, h4⟩ := FN hc hj f k hw
  have := hc k oj h1 hk e h2 h3
  rw [this] at h4
  cases h4
theorem P1 {w : World} {fill : (Nat → Value) → Act} {L : List It} {n : Nat} {l2 : List Oper} {l1 : List Oper}
 (hp : C9 .any ops n = true) (hdep : Gk ops n = true) (hret : I1 ops n (L.map It.ret) (L.map It.reads) = true) (hl1 : ∀ j o, l1[j]? = some o ↔ (j < n ∧ ops[j]? = some o)) (hl2 : ∀ j o, l2[j]? = some o → ops[n + j]? = some o)
 (hline : ∀ listed : Array Bool, listed.size = ops.size → (∀ i, listed.getD i true = decide (i < n ∨ ops.size ≤ i)) → CX .any ops l2.length n listed = true)
 (hmono : AJ 0 L) (hop : ES P ops Q w fill L 0 l1)
 (hfin : ∀ y lo hi W, Gu w L ops n (fun _ => true) y lo hi W → wpList P ops Q l2 (fill y) W) :
 ∀ (m : Nat) (x : Nat) (listed : Array Bool) (y : Nat → Value) (lo hi : Nat → Nat) (W : World), listed.size = ops.size → (∀ i, n ≤ i → i < ops.size → listed.getD i true = false) → BD .any ops listed → Ca (fun i => !listed.getD i true) n = m →
  Gu w L ops n (fun i => listed.getD i true) y lo hi W → wpAny P .any ops Q (l2.length + m + x) listed (fill y) W := by
 intro m
 induction m with
 | zero =>
  intro x listed y lo hi W hsz hge hc hcnt hM
  have hall : ∀ i, i < n → listed.getD i true = true := fun i hi => by
   have := Dt n hcnt i hi
   simpa using this
  refine EN x n listed (fill y) W hl2 (hline listed hsz ?_) (hfin y lo hi W ?_)
  · intro i
    rcases Nat.lt_or_ge i n with h | h
    · rw [hall i h]; simp [h]
    · rcases Nat.lt_or_ge i ops.size with h2 | h2
      · rw [hge i h h2]; symm; simp; omega
      · rw [show listed.getD i true = true by simp [Array.getElem?_eq_none (show listed.size ≤ i by omega)]]; symm; simp; omega
  · exact ⟨hM.d, fun i hi _ hr => hM.fact i hi (hall i hi) (fun k hk _ => hr k hk rfl), fun i hi _ => hM.at' i hi (hall i hi), fun i j hi hj _ _ h => hM.apart i j hi hj (hall i hi) (hall j hj) h, fun j o e hj _ ho he hb => hM.order j o e hj (hall j hj) ho he hb⟩
 | succ m ih =>
  intro x listed y lo hi W hsz hge hc hcnt hM
  obtain ⟨i0, hi0, hf0, hless⟩ := CM (f := fun i => !listed.getD i true) n (by omega)
  have hun : listed.getD i0 true = false := by simpa using hf0
  obtain ⟨o0, ho0, hd0⟩ := Bk hdep hi0
  have hin : ∀ i, i < n → i < listed.size := fun i hi => by
   obtain ⟨o, ho, _⟩ := Bk hdep hi
   have := (Array.getElem?_eq_some_iff.1 ho).1
   omega
  have hready : i0 ∈ Region.ready .any ops listed := mem_ready.2 ⟨hun, o0, ho0, fun e he hb => by
   have h1 := hd0 e he hb
   have h2 := hless e.on h1
   have h3 : listed.getD e.on true = true := by simpa using h2
   have h4 := hin e.on (by omega)
   simpa [h4] using h3⟩
  rw [show l2.length + (m + 1) + x = (l2.length + m + x) + 1 by omega]
  refine ⟨fun h => (by rw [h] at hready; cases hready), fun j hj => ?_⟩
  have hjn : j < n := DC hp hc hi0 hun hj
  obtain ⟨hjun, oj, hoj, hall⟩ := mem_ready.1 hj
  have H := ES.at l1 0 j oj hop ((hl1 j oj).2 ⟨hjn, hoj⟩)
  rw [Nat.zero_add] at H
  refine wpOp_step hoj (fun K' hK => H y W hM.d (fun e he hb Ng => ?_) K' ?_)
  · have h1 := hall e he hb
    obtain ⟨o', ho', hd'⟩ := Bk hdep hjn
    rw [hoj] at ho'
    cases ho'
    have h2 := hd' e he hb
    have h3 := BQ _ _ h1
    refine ⟨lo e.on, hi e.on, (hM.at' e.on (by omega) h3).1, (hM.at' e.on (by omega) h3).2.2, hM.fact e.on (by omega) h3 (fun k hk hlk hmem => ?_)⟩
    have hkj : j ≠ k := fun h => by rw [h] at hjun; rw [hjun] at hlk; cases hlk
    have := Bj hc (He hret hk hjn hkj hmem hoj he hb Ng rfl) hlk
    rw [hjun] at this
    cases this
  · rintro v a' W' ⟨hD, hs2, hkeep⟩ hΦ rfl
    have hsj := hin j hjn
    have g1 : (listed.setIfInBounds j true).getD j true = true := by simp [hsj]
    refine hK _ _ ?_
    refine ih x (listed.setIfInBounds j true) (AK y j v) (fun i => if i = j then W.heap.size else lo i) (fun i => if i = j then W'.heap.size else hi i) W' (by simp [hsz]) (fun i h1 h2 => ?_) (hc.set hj) ?_ ?_
    · rw [getD_set_ne true (by omega)]; exact hge i h1 h2
    · have := Dv (f := fun i => !listed.getD i true) (g := fun i => !(listed.setIfInBounds j true).getD i true) (j := j) (by simp only [hjun]; rfl) (by simp only [g1]; rfl) (fun i hi => by simp only [getD_set_ne true (Ne.symm hi)]) n hjn
      omega
    · have old : ∀ i, i ≠ j → (listed.setIfInBounds j true).getD i true = true → listed.getD i true = true := fun i h1 h2 => by rwa [getD_set_ne true (Ne.symm h1)] at h2
      have new : ∀ i, listed.getD i true = true → (listed.setIfInBounds j true).getD i true = true := fun i h => by
       by_cases e : j = i
       · subst e; exact g1
       · rwa [getD_set_ne true e]
      have hs := hM.d.size
      refine ⟨hD, fun i hi h hr => ?_, fun i hi h => ?_, fun i k hi hk h1 h2 hne => ?_, fun k o e hk h1 ho he hb => ?_⟩
      · by_cases e : i = j
        · subst e; simp only [if_pos]; exact hΦ
        · simp only [if_neg e]
          have hli := old i e h
          have h5 := hkeep i e (hr j hjn g1) _ _ (hM.at' i hi hli).2.2 (hM.fact i hi hli (fun k hk hlk => hr k hk (new k hlk)))
          have h6 := AJ.at L 0 i hmono y (AK y j v) (lo i) _ W' W' (Nat.le_trans (hM.at' i hi hli).2.2 hs2) (Below.refl _ _) (fun q hq => by
           rw [Nat.zero_add] at hq
           have hne : q ≠ j := by
            rcases hq with hq | hq
            · rw [hq]; exact e
            · intro hqj
              have := Bj hc (FC hret hi hq) hli
              rw [hqj, hjun] at this
              cases this
           simp [AK, hne])
          exact h6 h5
      · by_cases e : i = j
        · subst e; simp only [if_pos]; exact ⟨hs, hs2, Nat.le_refl _⟩
        · simp only [if_neg e]; have := hM.at' i hi (old i e h); exact ⟨this.1, this.2.1, by omega⟩
      · by_cases e : i = j
        · have e2 : k ≠ j := fun h => hne (by rw [e, h])
          simp only [if_pos e, if_neg e2]
          exact Or.inr (hM.at' k hk (old k e2 h2)).2.2
        · by_cases e2 : k = j
          · simp only [if_neg e, if_pos e2]
            exact Or.inl (hM.at' i hi (old i e h1)).2.2
          · simp only [if_neg e, if_neg e2]
            exact hM.apart i k hi hk (old i e h1) (old k e2 h2) hne
      · obtain ⟨o', ho', hd'⟩ := Bk hdep hk
        rw [ho] at ho'
        cases ho'
        have hlt := hd' e he hb
        by_cases e1 : k = j
        · subst e1
          rw [hoj] at ho
          cases ho
          have h3 := BQ _ _ (hall e he hb)
          have e2 : e.on ≠ k := by omega
          simp only [if_pos, if_neg e2]
          exact (hM.at' e.on (by omega) h3).2.2
        · have h4 := old k e1 h1
          have h5 := BQ _ _ (hc k o ho h4 e he hb)
          have e2 : e.on ≠ j := fun h => by rw [h, hjun] at h5; cases h5
          simp only [if_neg e1, if_neg e2]
          exact hM.order k o e hk h4 ho he hb
def MO (ops : Array Oper) (n : Nat) (rs rd : List (List Nat)) : Bool := JF ops n && I1 ops n rs rd
theorem Hz {id : Nat} {a : Act} {w : World} {l : List Oper} (L : List It) (hm : P.follows .mixedOrders = true) (hB : MO l.toArray L.length (L.map It.ret) (L.map It.reads) = true) (hmono : AJ 0 L)
 (h : ∀ F : (Nat → Value) → Act, F = (fun y => Aw 0 (l.take L.length) y a) → ES P l.toArray Q w F L 0 (l.take L.length) ∧ ∀ y lo hi W, Gu w L l.toArray L.length (fun _ => true) y lo hi W → wpList P l.toArray Q (l.drop L.length) (F y) W) : (Code.region id l.toArray true).wp P Q a w := by
 unfold MO JF at hB
 simp only [Bool.and_eq_true] at hB
 obtain ⟨⟨⟨⟨h0, h2⟩, h3⟩, h4⟩, h5⟩ := hB
 have hn : L.length ≤ l.length := by simpa using Nat.le_of_ble_eq_true h0
 refine wp_region_any hm ?_
 have hl2 : (l.drop L.length).length = l.toArray.size - L.length := by simp
 have F := P1 (P := P) (Q := Q) (w := w) (fill := fun y => Aw 0 (l.take L.length) y a) (L := L) (n := L.length) (ops := l.toArray) (l1 := l.take L.length) (l2 := l.drop L.length) h2 h3 h5
  (fun j o => by
   rw [List.getElem?_take]
   split
   · rename_i h; simp [h]
   · rename_i h; constructor
     · intro h'; cases h'
     · intro h'; exact absurd h'.1 h)
  (fun j o ho => by rw [List.getElem?_drop] at ho; simpa using ho)
  (fun listed hs hg => by
   rw [hl2]
   have e : listed = Array.ofFn (n := l.toArray.size) fun i => decide (i.1 < L.length) := by
    refine Array.ext (by simp [hs]) (fun i h5 h6 => ?_)
    have := hg i
    simp only [Array.getElem_ofFn]
    have e1 : listed.getD i true = listed[i] := by simp [h5]
    rw [← e1, this]
    have : i < l.toArray.size := by omega
    by_cases h7 : i < L.length
    · simp [h7]
    · simp only [h7, false_or, decide_false, decide_eq_false_iff_not]; omega
   rw [e]; exact h4)
  hmono (h _ rfl).1 (h _ rfl).2 L.length 0 (Array.replicate l.toArray.size false) (EB l a) (fun _ => 0) (fun _ => 0) (w.drewN 1) (by simp) (fun i h5 h6 => by simp at h6; simp [h6]) (Cp _ _) ?_ ?_
 · have e : (l.drop L.length).length + L.length + 0 = l.toArray.size := by rw [hl2]; simp; omega
   rw [e, CS l a (l.take L.length) 0 (fun j o ho => by
    rw [List.getElem?_take] at ho
    split at ho
    · simpa using ho
    · cases ho)] at F
   exact F
 · have : ∀ k, k ≤ L.length → Ca (fun i => !(Array.replicate l.toArray.size false).getD i true) k = k := by
    intro k
    induction k with
    | zero => intro _; rfl
    | succ k ih =>
     intro hk
     have h5 : k < l.toArray.size := by simp; omega
     simp only [Ca]
     rw [ih (by omega)]
     have : (Array.replicate l.toArray.size false).getD k true = false := by simp at h5; simp [h5]
     simp only [this]; rfl
   exact this L.length (Nat.le_refl _)
 · have none : ∀ i, i < L.length → (Array.replicate l.toArray.size false).getD i true = true → False := fun i hi h => by
    have : i < l.length := by omega
    simp [this] at h
   exact ⟨⟨rfl, rfl, rfl, Nat.le_refl _, fun _ _ => rfl⟩, fun i hi h => (none i hi h).elim, fun i hi h => (none i hi h).elim, fun i j hi _ h _ _ => (none i hi h).elim, fun j o e hj h _ _ _ => (none j hj h).elim⟩
def Nz (rs : List (List Nat)) (i : Nat) : Bool := rs.all fun l => !l.contains i
theorem Ad {L : List It} {n : Nat} {is : Nat → Bool} (i : Nat) (h : Nz (L.map It.ret) i = true) : ∀ k, k < n → is k = true → i ∉ (Cf L k).ret := fun k _ _ hm => by
 unfold Nz at h
 rw [List.all_eq_true] at h
 rcases Nat.lt_or_ge k L.length with hk | hk
 · have e : (Cf L k).ret = (L[k]).ret := by unfold Cf; simp [hk]
   have := h (L[k]).ret (List.mem_map.2 ⟨L[k], List.getElem_mem hk, rfl⟩)
   rw [e] at hm
   simp [hm] at this
 · have e : (Cf L k).ret = [] := by unfold Cf; simp [List.getElem?_eq_none hk]
   rw [e] at hm
   cases hm
def EU (y : Nat → Value) (W W' : World) (rs : List Nat) : Nat → List It → Prop
 | _, [] => True
 | k, t :: r => (k ∈ rs ∨ ∀ lo hi, hi ≤ W.heap.size → t.p y lo hi W → t.p y lo hi W') ∧ EU y W W' rs (k + 1) r
theorem EU.at {y : Nat → Value} {W W' : World} {rs : List Nat} : ∀ (L : List It) (k j : Nat), EU y W W' rs k L → k + j ∉ rs → ∀ lo hi, hi ≤ W.heap.size → (Cf L j).p y lo hi W → (Cf L j).p y lo hi W'
 | [], _, _, _, _ => fun _ _ _ h => h
 | _ :: _, _, 0, h, hn => h.1.resolve_left hn
 | _ :: r, k, j + 1, h, hn => EU.at r (k + 1) j h.2 (by rwa [show k + 1 + j = k + (j + 1) by omega])
def vI (i : Nat) (v : Value) : It := ⟨[], [], fun y _ _ _ => y i = v⟩
theorem A2 (i : Nat) (v : Value) : ML i (vI i v) := fun _ _ _ _ _ _ _ _ hy h => (hy i (Or.inl rfl)).trans h
def pI (i : Nat) (p : Ef) : It := ⟨[], [], fun y lo hi W => p (y i) lo hi W⟩
theorem Am {i : Nat} {p : Ef} (h : B8 p) : ML i (pI i p) := fun y y' lo hi W W' hs d hy hp => by
 show p (y' i) lo hi W'
 rw [hy i (Or.inl rfl)]
 exact h _ _ _ _ _ hs d hp
end
section
variable {P : Program} {Q : Exit → Act → World → Prop}
theorem MY (a : Act) (d : Nat) (x v : Value) : (a.put (some d) x).put (some d) v = a.put (some d) v := by
 simp [Act.put]
theorem Lh (a : Act) {d e : Nat} (x v : Value) (h : d ≠ e) : (a.put (some d) x).put (some e) v = (a.put (some e) v).put (some d) x := by
 simp only [Act.put]
 rw [Array.setIfInBounds_comm _ _ h]
theorem M2 (a : Act) (d : Option Nat) (x : Value) : (a.put d x).tmps.size = a.tmps.size := by
 cases d <;> simp [Act.put]
theorem Nd (a : Act) {d : Nat} (x : Value) (h : d < a.tmps.size) : (a.put (some d) x).tmps.getD d undef = x := by
 simp [Act.put, h]
theorem K0 (a : Act) {d : Nat} {e : Option Nat} (x : Value) (h : e ≠ some d) : (a.put e x).tmps.getD d undef = a.tmps.getD d undef := by
 cases e with
 | none => rfl
 | some e =>
  have h2 : e ≠ d := fun h3 => h (by rw [h3])
  simp [Act.put, Array.getElem?_setIfInBounds_ne h2]
theorem LR {A : Act} {t : Nat} {b : Bool} (h : A.tmps.getD t undef = .bool b) : A.tmps[t]? = some (.bool b) := by
 rw [Array.getD_eq_getD_getElem?] at h
 cases hx : A.tmps[t]? with
 | none => rw [hx] at h; cases h
 | some v => rw [hx] at h; exact congrArg some h
theorem Bz {A : Act} {t : Nat} (h : A.tmps.getD t undef = undef) : A.tmps[t]? = none ∨ A.tmps[t]? = some (.tuple #[]) := by
 rw [Array.getD_eq_getD_getElem?] at h
 cases hx : A.tmps[t]? with
 | none => exact Or.inl rfl
 | some v => rw [hx] at h; exact Or.inr (congrArg some h)
def KS (d : Nat) (l : List Oper) : Bool := l.any fun o => o.dst == some d
theorem Jp {d : Nat} {l : List Oper} (h : KS d l = false) {o : Oper} (ho : o ∈ l) : o.dst ≠ some d := by
 unfold KS at h
 rw [List.any_eq_false] at h
 simpa using h o ho
def CE : List Oper → Bool
 | [] => true
 | o :: r => (match o.dst with
  | none => true
  | some d => !KS d r) && CE r
theorem C2 : ∀ (r : List Oper) (k : Nat) (y : Nat → Value) (a : Act) (d : Nat), KS d r = false → (Aw k r y a).tmps.getD d undef = a.tmps.getD d undef
 | [], _, _, _, _, _ => rfl
 | o :: r, k, y, a, d, h => by
  have h1 := Jp h (List.mem_cons_self ..)
  have h2 : KS d r = false := by
   unfold KS at h ⊢
   rw [List.any_cons, Bool.or_eq_false_iff] at h
   exact h.2
  unfold Aw
  rw [C2 r (k + 1) y _ d h2, K0 _ _ h1]
theorem Gr : ∀ (r : List Oper) (k : Nat) (y : Nat → Value) (a : Act) (d : Nat) (x : Value), KS d r = false → (Aw k r y a).put (some d) x = Aw k r y (a.put (some d) x)
 | [], _, _, _, _, _, _ => rfl
 | o :: r, k, y, a, d, x, h => by
  have h1 := Jp h (List.mem_cons_self ..)
  have h2 : KS d r = false := by
   unfold KS at h ⊢
   rw [List.any_cons, Bool.or_eq_false_iff] at h
   exact h.2
  unfold Aw
  rw [Gr r (k + 1) y _ d x h2]
  cases hd : o.dst with
  | none => rfl
  | some e => rw [Lh _ _ _ (fun h3 => h1 (by rw [hd, h3]))]
theorem EV : ∀ (r : List Oper) (k : Nat) (y y' : Nat → Value) (a : Act), (∀ j, k ≤ j → y j = y' j) → Aw k r y a = Aw k r y' a
 | [], _, _, _, _, _ => rfl
 | o :: r, k, y, y', a, h => by
  unfold Aw
  rw [h k (Nat.le_refl _)]
  exact EV r (k + 1) y y' _ (fun j hj => h j (by omega))
theorem E6 : ∀ (r : List Oper) (k j : Nat) (y : Nat → Value) (a : Act) (o : Oper) (d : Nat), CE r = true → r[j]? = some o → o.dst = some d → d < a.tmps.size → (Aw k r y a).tmps.getD d undef = y (k + j)
 | [], _, _, _, _, _, _, _, h, _, _ => by simp at h
 | o' :: r, k, 0, y, a, o, d, h1, h, hd, hs => by
  simp at h
  subst h
  unfold CE at h1
  rw [hd, Bool.and_eq_true] at h1
  unfold Aw
  rw [C2 r (k + 1) y _ d (by simpa using h1.1), hd, Nd _ _ hs]
  rfl
 | o' :: r, k, j + 1, y, a, o, d, h1, h, hd, hs => by
  unfold CE at h1
  rw [Bool.and_eq_true] at h1
  unfold Aw
  rw [E6 r (k + 1) j y _ o d h1.2 (by simpa using h) hd (by rw [M2]; exact hs)]
  rw [show k + 1 + j = k + (j + 1) by omega]
theorem Dr : ∀ (r : List Oper) (k j : Nat) (y : Nat → Value) (a : Act) (o : Oper) (x : Value), CE r = true → r[j]? = some o → (Aw k r y a).put o.dst x = Aw k r (AK y (k + j) x) a
 | [], _, _, _, _, _, _, _, h => by simp at h
 | o' :: r, k, 0, y, a, o, x, h1, h => by
  simp at h
  subst h
  unfold CE at h1
  rw [Bool.and_eq_true] at h1
  have e1 : AK y (k + 0) x k = x := by simp [AK]
  have e2 : ∀ b, Aw (k + 1) r (AK y (k + 0) x) b = Aw (k + 1) r y b := fun b => EV r (k + 1) _ _ b (fun j hj => by simp only [AK]; rw [if_neg (by omega)])
  unfold Aw
  rw [e1, e2]
  cases hd : o'.dst with
  | none => rfl
  | some d =>
   rw [hd] at h1
   rw [Gr r (k + 1) y _ d x (by simpa using h1.1), MY]
 | o' :: r, k, j + 1, y, a, o, x, h1, h => by
  unfold CE at h1
  rw [Bool.and_eq_true] at h1
  unfold Aw
  rw [Dr r (k + 1) j y _ o x h1.2 (by simpa using h)]
  have e1 : AK y (k + (j + 1)) x k = y k := by simp only [AK]; rw [if_neg (by omega)]
  rw [e1, show k + 1 + j = k + (j + 1) by omega]
def PL (P : Program) (ops : Array Oper) (Q : Exit → Act → World → Prop) (w : World) (a : Act) (l : List Oper) (L : List It) (i : Nat) (o : Oper) : Prop :=
 ∀ (A : Act) (y : Nat → Value) (W : World), (∀ (j : Nat) (o' : Oper) (d : Nat), l[j]? = some o' → o'.dst = some d → A.tmps.getD d undef = y j) → (∀ d, KS d l = false → A.tmps.getD d undef = a.tmps.getD d undef) → Below w.heap.size w W → (∀ e ∈ o.after, Region.binds .any e = true → KR e = true → ∃ lo hi, w.heap.size ≤ lo ∧ hi ≤ W.heap.size ∧ (Cf L e.on).p y lo hi W) →
  ∀ K : Act → World → Prop, Shut (∀ x W', Pf w L i y W W' → (Cf L i).p (AK y i x) W.heap.size W'.heap.size W' → K (A.put o.dst x) W') → if Region.wanted o (yielded ops A.tmps) = true then Oper.wp P o A W K Q else K (A.put o.dst undef) W
def Mt (P : Program) (ops : Array Oper) (Q : Exit → Act → World → Prop) (w : World) (a : Act) (l : List Oper) (L : List It) : Nat → List Oper → Prop
 | _, [] => True
 | k, o :: r => PL P ops Q w a l L k o ∧ Mt P ops Q w a l L (k + 1) r
def CQ (n : Nat) (l : List Oper) : Bool := l.all fun o => match o.dst with
 | none => true
 | some d => Nat.blt d n
theorem JK {ops : Array Oper} {w : World} {a : Act} {l : List Oper} {L : List It} (hs : CQ a.tmps.size l = true) (h1 : CE l = true) : ∀ (r : List Oper) (k : Nat), (∀ j o, r[j]? = some o → l[k + j]? = some o) → Mt P ops Q w a l L k r → ES P ops Q w (fun y => Aw 0 l y a) L k r
 | [], _, _, _ => trivial
 | o :: r, k, hl, H => by
  refine ⟨fun y W d hd K hK => ?_, JK hs h1 r (k + 1) (fun j o' ho => by have := hl (j + 1) o' (by simpa using ho); rwa [show k + 1 + j = k + (j + 1) by omega]) H.2⟩
  have hk : l[k]? = some o := hl 0 o rfl
  refine H.1 (Aw 0 l y a) y W (fun j o' d' hj hd' => ?_) (fun d' hd' => C2 l 0 y a d' hd') d hd K (fun x W' hst hp => ?_)
  · have hlt : d' < a.tmps.size := by
     unfold CQ at hs
     rw [List.all_eq_true] at hs
     have := hs o' (List.mem_of_getElem? hj)
     rw [hd'] at this
     simpa using this
    have := E6 l 0 j y a o' d' h1 hj hd' hlt
    rwa [Nat.zero_add] at this
  · refine hK x _ W' hst hp ?_
    have := Dr l 0 k y a o x h1 hk
    rwa [Nat.zero_add] at this
theorem Aj {id : Nat} {a : Act} {w : World} {l : List Oper} (L : List It) (hm : P.follows .mixedOrders = true) (hB : MO l.toArray L.length (L.map It.ret) (L.map It.reads) = true) (hO : CE (l.take L.length) = true) (hS : CQ a.tmps.size (l.take L.length) = true) (hmono : AJ 0 L)
 (hop : Mt P l.toArray Q w a (l.take L.length) L 0 (l.take L.length))
 (hfin : ∀ y lo hi W, Gu w L l.toArray L.length (fun _ => true) y lo hi W → wpList P l.toArray Q (l.drop L.length) (Aw 0 (l.take L.length) y a) W) : (Code.region id l.toArray true).wp P Q a w :=
 Hz L hm hB hmono (fun F hF => by
  subst hF
  exact ⟨JK hS hO _ 0 (fun j o ho => by rwa [Nat.zero_add]) hop, hfin⟩)
end
/-! ### Short words for drawn regions -/
theorem AG {A : Act} {t : Nat} {v : Value} (h : A.tmps.getD t undef = v) : A.tmps.getD t undef = v ∧ A.tmps[t]?.getD undef = v := ⟨h, by rw [← h, Array.getD_eq_getD_getElem?]⟩
theorem Q5 {A : Act} {t j a b : Nat} {y : Nat → Value} {L : List It} {W : World} {v : Value} (h : A.tmps.getD t undef = y j) (e : ∃ lo hi, a ≤ lo ∧ hi ≤ b ∧ (Cf L j).p y lo hi W) (hv : Cf L j = vI j v) : A.tmps.getD t undef = v ∧ A.tmps[t]?.getD undef = v := by
  obtain ⟨_, _, _, _, e⟩ := e
  rw [hv] at e
  exact AG (h.trans e)
theorem Ao {A : Act} {y : Nat → Value} {l : List Oper} {L : List It} {E : Array Edge} {a b : Nat} {W : World} {v : Value} (j t : Nat) (g : Ground) (hy : ∀ (j : Nat) (o' : Oper) (d : Nat), l[j]? = some o' → o'.dst = some d → A.tmps.getD d undef = y j) (hd : ∀ e ∈ E, Region.binds .any e = true → KR e = true → ∃ lo hi, a ≤ lo ∧ hi ≤ b ∧ (Cf L e.on).p y lo hi W) (hv : Cf L j = vI j v) (h1 : l[j]?.bind Oper.dst = some t := by exact rfl) (h3 : (⟨j, g⟩ : Edge) ∈ E := by simp) (h4 : Region.binds .any ⟨j, g⟩ = true := by exact rfl) (h5 : KR ⟨j, g⟩ = true := by exact rfl) : A.tmps.getD t undef = v ∧ A.tmps[t]?.getD undef = v := by
  cases h : l[j]? with
  | none => rw [h] at h1; cases h1
  | some o => rw [h] at h1; exact Q5 (hy j o t h h1) (hd _ h3 h4 h5) hv
theorem BG {A : Act} {y : Nat → Value} {l : List Oper} {L : List It} {E : Array Edge} {a b : Nat} {W : World} {v : Bool} (j t : Nat) (hy : ∀ (j : Nat) (o' : Oper) (d : Nat), l[j]? = some o' → o'.dst = some d → A.tmps.getD d undef = y j) (hd : ∀ e ∈ E, Region.binds .any e = true → KR e = true → ∃ lo hi, a ≤ lo ∧ hi ≤ b ∧ (Cf L e.on).p y lo hi W) (hv : Cf L j = vI j (.bool v)) (h1 : l[j]?.bind Oper.dst = some t := by exact rfl) (h3 : (⟨j, .guard⟩ : Edge) ∈ E := by simp) (h4 : Region.binds .any ⟨j, .guard⟩ = true := by exact rfl) (h5 : KR ⟨j, .guard⟩ = true := by exact rfl) : A.tmps[t]? = some (.bool v) := LR (Ao j t .guard hy hd hv h1 h3 h4 h5).1
theorem DT {j a b : Nat} {y : Nat → Value} {L : List It} {W : World} {v : Value} (e : ∃ lo hi, a ≤ lo ∧ hi ≤ b ∧ (Cf L j).p y lo hi W) (hv : Cf L j = vI j v) : y j = v := by
  obtain ⟨_, _, _, _, e⟩ := e
  rw [hv] at e
  exact e
theorem Gu.v {w : World} {L : List It} {ops : Array Oper} {n : Nat} {is : Nat → Bool} {y : Nat → Value} {lo hi : Nat → Nat} {W : World} (hM : Gu w L ops n is y lo hi W) (i : Nat) {v : Value} (h1 : i < n) (h2 : is i = true) (h3 : Nz (L.map It.ret) i = true) (hv : Cf L i = vI i v) : y i = v := by
  have e := hM.fact i h1 h2 (Ad i h3)
  rw [hv] at e
  exact e
theorem Ak {w : World} {L : List It} {i : Nat} {A : Act} {d : Option Nat} {y : Nat → Value} {W : World} {K : Act → World → Prop} {x : Value} (hK : Shut (∀ x W', Pf w L i y W W' → (Cf L i).p (AK y i x) W.heap.size W'.heap.size W' → K (A.put d x) W')) (hm : AJ 0 L) (hd : Below w.heap.size w W) (h : (Cf L i).p (AK y i x) W.heap.size W.heap.size W) : K (A.put d x) W := hK.out x W (Av hm hd (Below.refl _ _)) h
theorem IV {w : World} {b : Nat} {t : TypeId} {f : Nat × Nat} {c : Array Value} {v0 v1 : Value} (h : w.heap[b]? = some (.cells c t f)) (h0 : c[0]? = some v0) (h1 : c[1]? = some v1) : w.cell? ⟨b, 0, none⟩ = some v0 ∧ w.cell? ⟨b, 1, none⟩ = some v1 := ⟨A1 h h0, A1 h h1⟩
theorem Jt {w : World} {b : Nat} {t : TypeId} {f : Nat × Nat} {c : Array Value} {v0 v1 v2 : Value} (h : w.heap[b]? = some (.cells c t f)) (h0 : c[0]? = some v0) (h1 : c[1]? = some v1) (h2 : c[2]? = some v2) : w.cell? ⟨b, 0, none⟩ = some v0 ∧ w.cell? ⟨b, 1, none⟩ = some v1 ∧ w.cell? ⟨b, 2, none⟩ = some v2 := ⟨A1 h h0, A1 h h1, A1 h h2⟩
theorem An {w : World} {b : Nat} {t : TypeId} {f : Nat × Nat} {c : Array Value} {v0 v1 v2 v3 v4 : Value} (h : w.heap[b]? = some (.cells c t f)) (h0 : c[0]? = some v0) (h1 : c[1]? = some v1) (h2 : c[2]? = some v2) (h3 : c[3]? = some v3) (h4 : c[4]? = some v4) : w.cell? ⟨b, 0, none⟩ = some v0 ∧ w.cell? ⟨b, 1, none⟩ = some v1 ∧ w.cell? ⟨b, 2, none⟩ = some v2 ∧ w.cell? ⟨b, 3, none⟩ = some v3 ∧ w.cell? ⟨b, 4, none⟩ = some v4 := ⟨A1 h h0, A1 h h1, A1 h h2, A1 h h3, A1 h h4⟩
theorem PS {w : World} {b : Nat} {t : TypeId} {f : Nat × Nat} {c : Array Value} {v0 v1 v2 v3 v4 v5 : Value} (h : w.heap[b]? = some (.cells c t f)) (h0 : c[0]? = some v0) (h1 : c[1]? = some v1) (h2 : c[2]? = some v2) (h3 : c[3]? = some v3) (h4 : c[4]? = some v4) (h5 : c[5]? = some v5) : w.cell? ⟨b, 0, none⟩ = some v0 ∧ w.cell? ⟨b, 1, none⟩ = some v1 ∧ w.cell? ⟨b, 2, none⟩ = some v2 ∧ w.cell? ⟨b, 3, none⟩ = some v3 ∧ w.cell? ⟨b, 4, none⟩ = some v4 ∧ w.cell? ⟨b, 5, none⟩ = some v5 := ⟨A1 h h0, A1 h h1, A1 h h2, A1 h h3, A1 h h4, A1 h h5⟩
theorem Pn {w : World} {b : Nat} {t : TypeId} {f : Nat × Nat} {c : Array Value} {v0 v1 v2 v3 v4 v5 v6 v7 v8 v9 v10 v11 v12 : Value} (h : w.heap[b]? = some (.cells c t f)) (h0 : c[0]? = some v0) (h1 : c[1]? = some v1) (h2 : c[2]? = some v2) (h3 : c[3]? = some v3) (h4 : c[4]? = some v4) (h5 : c[5]? = some v5) (h6 : c[6]? = some v6) (h7 : c[7]? = some v7) (h8 : c[8]? = some v8) (h9 : c[9]? = some v9) (h10 : c[10]? = some v10) (h11 : c[11]? = some v11) (h12 : c[12]? = some v12) : w.cell? ⟨b, 0, none⟩ = some v0 ∧ w.cell? ⟨b, 1, none⟩ = some v1 ∧ w.cell? ⟨b, 2, none⟩ = some v2 ∧ w.cell? ⟨b, 3, none⟩ = some v3 ∧ w.cell? ⟨b, 4, none⟩ = some v4 ∧ w.cell? ⟨b, 5, none⟩ = some v5 ∧ w.cell? ⟨b, 6, none⟩ = some v6 ∧ w.cell? ⟨b, 7, none⟩ = some v7 ∧ w.cell? ⟨b, 8, none⟩ = some v8 ∧ w.cell? ⟨b, 9, none⟩ = some v9 ∧ w.cell? ⟨b, 10, none⟩ = some v10 ∧ w.cell? ⟨b, 11, none⟩ = some v11 ∧ w.cell? ⟨b, 12, none⟩ = some v12 := ⟨A1 h h0, A1 h h1, A1 h h2, A1 h h3, A1 h h4, A1 h h5, A1 h h6, A1 h h7, A1 h h8, A1 h h9, A1 h h10, A1 h h11, A1 h h12⟩
section
variable {P : Program} {ops : Array Oper} {Q : Exit → Act → World → Prop}
theorem Ce {w : World} {L : List It} {i : Nat} {y : Nat → Value} {W W' : World} (rs : List Nat) (hr : (Cf L i).ret = rs) (d : Below w.heap.size w W') (hs : W.heap.size ≤ W'.heap.size) (h : EU y W W' (i :: rs) 0 L) : Pf w L i y W W' := ⟨d, hs, fun j hj hn => EU.at L 0 j h (by rw [Nat.zero_add]; rw [hr] at hn; simp [hj, hn])⟩
end
end Go.Proofs.YtchoopnjckcohaaGreat
namespace Go.Proofs
open Tryz
open Go.Shelf Go.RowKit Go.Lib Go.Sort
def Tryz.laysNm220_ren : Go.Shelf.Ren := ⟨fun | 20 => 87 | n => n, fun | 22 => 22 | 3 => 3 | 4 => 4 | 0 => 0 | n => n, fun | n => n⟩
theorem Tryz.laysNm220 : Go.Proofs.Lays2.n20 prog Tryz.laysNm220_ren := {
 mixed := by kernel_rfl
 f20 := func87.trans (congrArg some (by kernel_rfl))
 t0 := underlying0
 a0 := isAgg0
 z0 := sizeOf0
 v0 := zeroValue0
 t3 := underlying3
 a3 := isAgg3
 z3 := sizeOf3
 v3 := zeroValue3
 t4 := underlying4
 a4 := isAgg4
 z4 := sizeOf4
 v4 := zeroValue4
 t22 := underlying22
 a22 := isAgg22
 z22 := sizeOf22
 v22 := zeroValue22
 i3 := by kernel_rfl }
theorem Tryz.slices_Compact_int (blk off cap : Nat) (zs : List Int) (w : World) (hH : Holds (Value.int .i64) w blk off zs.toArray) (hsz : zs.length ≤ 9223372036854775807) (hcap : zs.length ≤ cap) :
 Calls prog 87 #[.slice (some ⟨blk, off, none⟩) zs.length cap] w fun e w' => e = .returned (.slice (some ⟨blk, off, none⟩) (Lib.compact zs).length cap) ∧ ∃ q, w' = putRow (Value.int .i64) (Sort.ahead w q) blk off (Lib.compact zs ++ List.replicate (zs.length - (Lib.compact zs).length) 0).toArray := Any.slices_Compact_int Tryz.laysNm220 blk off cap zs w hH hsz hcap
theorem Tryz.slices_Compact_int_empty (a : Option Addr) (cap : Nat) (w : World) :
 Calls prog 87 #[.slice a 0 cap] w fun e w' => e = .returned (.slice a 0 cap) ∧ w' = w := Any.slices_Compact_int_empty Tryz.laysNm220 a cap w
def Tryz.laysSlF6_f125_ren : Go.Shelf.Ren := ⟨fun | 6 => 95 | 15 => 94 | 14 => 110 | 28 => 108 | 29 => 109 | 20 => 117 | 21 => 118 | 22 => 119 | 23 => 120 | 24 => 121 | 25 => 122 | 26 => 123 | 27 => 124 | 46 => 134 | 47 => 113 | 48 => 114 | 49 => 135 | 50 => 136 | 57 => 140 | n => n, fun | 22 => 22 | 24 => 3 | 25 => 111 | 3 => 3 | 39 => 116 | 0 => 0 | 53 => 127 | 55 => 129 | 4 => 4 | 46 => 121 | 45 => 120 | 50 => 105 | 5 => 5 | 9 => 9 | 66 => 132 | 70 => 136 | 76 => 148 | 77 => 149 | n => n, fun | n => n⟩
theorem Tryz.laysSlF6_f125 : Go.Proofs.SlLaysF.n6 prog Tryz.laysSlF6_f125_ren := {
 mixed := by kernel_rfl
 f6 := ⟨Tryz.f95.name, by decide, func95.trans (congrArg some (by kernel_rfl))⟩
 f14 := ⟨Tryz.f110.name, by decide, func110.trans (congrArg some (by kernel_rfl))⟩
 f15 := func94.trans (congrArg some (by kernel_rfl))
 f20 := ⟨Tryz.f117.name, by decide, func117.trans (congrArg some (by kernel_rfl))⟩
 f21 := ⟨Tryz.f118.name, by decide, func118.trans (congrArg some (by kernel_rfl))⟩
 f22 := ⟨Tryz.f119.name, by decide, func119.trans (congrArg some (by kernel_rfl))⟩
 f23 := ⟨Tryz.f120.name, by decide, func120.trans (congrArg some (by kernel_rfl))⟩
 f24 := ⟨Tryz.f121.name, by decide, func121.trans (congrArg some (by kernel_rfl))⟩
 f25 := ⟨Tryz.f122.name, by decide, func122.trans (congrArg some (by kernel_rfl))⟩
 f26 := ⟨Tryz.f123.name, by decide, func123.trans (congrArg some (by kernel_rfl))⟩
 f27 := ⟨Tryz.f124.name, by decide, func124.trans (congrArg some (by kernel_rfl))⟩
 f28 := func108.trans (congrArg some (by kernel_rfl))
 f29 := func109.trans (congrArg some (by kernel_rfl))
 f46 := ⟨Tryz.f134.name, by decide, func134.trans (congrArg some (by kernel_rfl))⟩
 f47 := func113.trans (congrArg some (by kernel_rfl))
 f48 := func114.trans (congrArg some (by kernel_rfl))
 f49 := ⟨Tryz.f135.name, by decide, func135.trans (congrArg some (by kernel_rfl))⟩
 f50 := ⟨Tryz.f136.name, by decide, func136.trans (congrArg some (by kernel_rfl))⟩
 f57 := ⟨Tryz.f140.name, by decide, func140.trans (congrArg some (by kernel_rfl))⟩
 t0 := underlying0
 a0 := isAgg0
 z0 := sizeOf0
 v0 := zeroValue0
 t3 := underlying3
 a3 := isAgg3
 z3 := sizeOf3
 v3 := zeroValue3
 t4 := underlying4
 a4 := isAgg4
 z4 := sizeOf4
 v4 := zeroValue4
 t5 := underlying5
 a5 := isAgg5
 z5 := sizeOf5
 v5 := zeroValue5
 t9 := underlying9
 a9 := isAgg9
 z9 := sizeOf9
 v9 := zeroValue9
 t22 := underlying22
 a22 := isAgg22
 z22 := sizeOf22
 v22 := zeroValue22
 a24 := isAgg3
 z24 := sizeOf3
 t25 := underlying111
 a25 := isAgg111
 z25 := sizeOf111
 v25 := zeroValue111
 t39 := underlying116
 a39 := isAgg116
 z39 := sizeOf116
 v39 := zeroValue116
 t45 := underlying120
 a45 := isAgg120
 z45 := sizeOf120
 v45 := zeroValue120
 t46 := underlying121
 a46 := isAgg121
 z46 := sizeOf121
 v46 := zeroValue121
 t50 := underlying105
 a50 := isAgg105
 z50 := sizeOf105
 v50 := zeroValue105
 t53 := underlying127
 a53 := isAgg127
 z53 := sizeOf127
 v53 := zeroValue127
 t55 := underlying129
 a55 := isAgg129
 z55 := sizeOf129
 v55 := zeroValue129
 t66 := underlying132
 a66 := isAgg132
 z66 := sizeOf132
 v66 := zeroValue132
 t70 := underlying136
 a70 := isAgg136
 z70 := sizeOf136
 v70 := zeroValue136
 t76 := underlying148
 a76 := isAgg148
 z76 := sizeOf148
 v76 := zeroValue148
 t77 := underlying149
 a77 := isAgg149
 z77 := sizeOf149
 v77 := zeroValue149 }
theorem Tryz.slices_SortFunc_total {α : Type} [Inhabited α] (enc : α → Value) (h1 : OneCell enc) (cf : α → α → Int) (hO : SWO (ltOf cf)) (g : Nat) (cb : Array Value) (blk off cap : Nat) (d : Array α) (w : World) (eg : ∀ args w, (callFunc g args).run prog w = .ok (.enter g args) w) (hcmp : CmpLays1 prog g cb enc cf blk off d.size w) (hH : Holds enc w blk off d) (hblk : blk < w.heap.size) (hsz : d.size < 4611686018427387904) (hT : ∀ x y, (ltOf cf) x y = false → (ltOf cf) y x = false → x = y) :
 Calls prog 95 #[.slice (some ⟨blk, off, none⟩) d.size cap, .func (.func g) #[] cb] w fun e w' =>
  e = .returned (.tuple #[]) ∧ ∃ n os, w' = sortWorld enc w blk off n (d.toList.mergeSort fun x y => !(ltOf cf) y x).toArray os := Any.slices_SortFunc_total Tryz.laysSlF6_f125 enc h1 cf hO g cb blk off cap d w eg hcmp hH hblk hsz hT
end Go.Proofs
namespace Go.Proofs.YtchoopnjckcohaaGreat
open Tryz
open Go.RowKit Go.Maps
attribute [local go_sem] Oper.semAt_some
structure Ab (w w' : World) (R : Nat → Prop) : Prop where
 os : w'.os = w.os
 tape : w'.tape = w.tape
 output : w'.output = w.output
 size : w.heap.size ≤ w'.heap.size
 block : ∀ k, k < w.heap.size → ¬ R k → w'.heap[k]? = w.heap[k]?
theorem Ab.ofBelow {w w' : World} {R : Nat → Prop} (h : Below w.heap.size w w') : Ab w w' R := ⟨h.os, h.tape, h.output, h.size, fun k hk _ => h.block k hk⟩
theorem Ab.toBelow {w w' : World} {R : Nat → Prop} {B : Nat} (h : Ab w w' R) (hB : B ≤ w.heap.size) (hR : ∀ k, R k → B ≤ k) : Below B w w' :=
 ⟨h.os, h.tape, h.output, h.size, fun k hk => h.block k (by omega) (fun hr => by have := hR k hr; omega)⟩
theorem Ab.trans {a b c : World} {R : Nat → Prop} (h : Ab a b R) (k : Ab b c R) : Ab a c R :=
 ⟨k.os.trans h.os, k.tape.trans h.tape, k.output.trans h.output, Nat.le_trans h.size k.size, fun i hi hn => (k.block i (Nat.lt_of_lt_of_le hi h.size) hn).trans (h.block i hi hn)⟩
theorem Ab.mono {w w' : World} {R R' : Nat → Prop} (h : Ab w w' R) (hr : ∀ k, k < w.heap.size → R k → R' k) : Ab w w' R' := ⟨h.os, h.tape, h.output, h.size, fun k hk hn => h.block k hk (fun h' => hn (hr k hk h'))⟩
theorem Ab.andNew {a b c : World} {R S : Nat → Prop} (h : Ab a b R) (k : Ab b c S) (hs : ∀ i, i < a.heap.size → S i → R i) : Ab a c R :=
 ⟨k.os.trans h.os, k.tape.trans h.tape, k.output.trans h.output, Nat.le_trans h.size k.size, fun i hi hn => (k.block i (Nat.lt_of_lt_of_le hi h.size) (fun hx => hn (hs i hi hx))).trans (h.block i hi hn)⟩
theorem Da {α : Type} (cs : α → List Value) (sz : Nat) (hl : ∀ a, (cs a).length = sz) : ∀ (l : List α) (j i : Nat) (hj : j < l.length), i < sz → (l.flatMap cs)[j * sz + i]? = (cs l[j])[i]?
 | a :: l, 0, i, _, hi => by
  rw [Nat.zero_mul, Nat.zero_add, List.flatMap_cons, List.getElem?_append_left (by rw [hl]; exact hi)]; rfl
 | a :: l, j + 1, i, hj, hi => by
  rw [List.flatMap_cons, List.getElem?_append_right (by rw [hl, Nat.succ_mul]; omega), hl, show (j + 1) * sz + i - sz = j * sz + i by rw [Nat.succ_mul]; omega]
  exact Da cs sz hl l j i (by simpa using hj) hi
theorem Hk (x : Int) (w : World) : Calls prog 96 #[.int .i64 x] w fun e w' => e = .returned (.bool false) ∧ w' = w := by
 go_enter func96, ntmps96
 go_wp2
 go_ret
 simp
theorem E7 (x y : Int) (w : World) : Calls prog 90 #[.int .i64 x, .int .i64 y] w fun e w' => e = .returned (.int .i64 (Lib.compareInt x y)) ∧ w' = w := by
 unfold Lib.compareInt
 by_cases h1 : x < y
 · go_enter func90, ntmps90
   go_wp2_with (go_at_call 96; refine (Hk _ _).mono ?_; rintro e w' ⟨rfl, rfl⟩)
   go_ret
   simp
 · by_cases h2 : y < x
   · go_enter func90, ntmps90
     go_wp2_with (go_at_call 96; refine (Hk _ _).mono ?_; rintro e w' ⟨rfl, rfl⟩)
     go_ret
     simp
   · go_enter func90, ntmps90
     go_wp2_with (go_at_call 96; refine (Hk _ _).mono ?_; rintro e w' ⟨rfl, rfl⟩)
     go_ret
     simp
def IW (x y : Aa) : Int := if x.1 ≠ y.1 then Lib.compareInt x.1 y.1 else if x.2.1 ≠ y.2.1 then Lib.compareInt x.2.1 y.2.1 else Lib.compareInt x.2.2 y.2.2
theorem Fv (w : World) (a b : Obj) (n : Nat) : ((w.alloc a).alloc b).drewN n = { w with heap := w.heap ++ #[a, b], drawn := w.drawn + n } := by
 have h : (w.heap.push a).push b = w.heap ++ #[a, b] := by apply Array.ext'; simp
 show ({ w with heap := (w.heap.push a).push b, drawn := w.drawn + n } : World) = _
 rw [h]
theorem KW (x y : Aa) (w : World) : Calls prog 92 #[.agg #[.int .i64 x.1, .int .i64 x.2.1, .int .i64 x.2.2], .agg #[.int .i64 y.1, .int .i64 y.2.1, .int .i64 y.2.2]] w fun e w' => e = .returned (.int .i64 (IW x y)) ∧ ∃ q os, w' = { w with heap := w.heap ++ os, drawn := w.drawn + q } := by
 obtain ⟨x0, x1, x2⟩ := x
 obtain ⟨y0, y1, y2⟩ := y
 simp only
 obtain ⟨W0, hW0⟩ : ∃ W0, (w.alloc (.cells #[.int .i64 x0, .int .i64 x1, .int .i64 x2] 50)).alloc (.cells #[.int .i64 y0, .int .i64 y1, .int .i64 y2] 50) = W0 := ⟨_, rfl⟩
 have a0 : W0.heap[w.heap.size]? = some (.cells #[.int .i64 x0, .int .i64 x1, .int .i64 x2] 50 (0, 0)) := by rw [← hW0]; exact (Below.heap_alloc _ _ _ (by simp)).trans (World.alloc_heap_new _ _)
 have b0 : W0.heap[w.heap.size + 1]? = some (.cells #[.int .i64 y0, .int .i64 y1, .int .i64 y2] 50 (0, 0)) := by
  rw [← hW0]
  have := World.alloc_heap_new (w.alloc (.cells #[.int .i64 x0, .int .i64 x1, .int .i64 x2] 50)) (.cells #[.int .i64 y0, .int .i64 y1, .int .i64 y2] 50)
  simpa using this
 have c0 : W0.cell? ⟨w.heap.size, 0, none⟩ = some (.int .i64 x0) := by simp [World.cell?, a0]
 have c1 : W0.cell? ⟨w.heap.size, 1, none⟩ = some (.int .i64 x1) := by simp [World.cell?, a0]
 have c2 : W0.cell? ⟨w.heap.size, 2, none⟩ = some (.int .i64 x2) := by simp [World.cell?, a0]
 have d0 : W0.cell? ⟨w.heap.size + 1, 0, none⟩ = some (.int .i64 y0) := by simp [World.cell?, b0]
 have d1 : W0.cell? ⟨w.heap.size + 1, 1, none⟩ = some (.int .i64 y1) := by simp [World.cell?, b0]
 have d2 : W0.cell? ⟨w.heap.size + 1, 2, none⟩ = some (.int .i64 y2) := by simp [World.cell?, b0]
 have HW := A0 hW0
 clear a0 b0
 unfold IW
 simp only
 have T0 := fun W => E7 x0 y0 W
 have T1 := fun W => E7 x1 y1 W
 have T2 := fun W => E7 x2 y2 W
 by_cases h0 : x0 = y0
 · by_cases h1 : x1 = y1
   · by_cases h2 : x2 = y2
     · subst h0; subst h1; subst h2
       rw [if_neg (by simp), if_neg (by simp), show Lib.compareInt x2 x2 = 0 by simp [Lib.compareInt]]
       go_enter func92, ntmps92
       go_wp2_with fail
       go_ret
       exact ⟨rfl, 0, _, by rw [← HW.out]; exact Fv w _ _ 0⟩
     · subst h0; subst h1
       rw [if_neg (by simp), if_neg (by simp)]
       go_enter func92, ntmps92
       go_wp2_with (go_at_call 90; refine (T2 _).mono ?_; rintro e w' ⟨rfl, rfl⟩)
       go_ret
       exact ⟨rfl, 0, _, by rw [← HW.out]; exact Fv w _ _ 0⟩
   · subst h0
     rw [if_neg (by simp), if_pos h1]
     go_enter func92, ntmps92
     go_wp2_with (go_at_call 90; refine (T1 _).mono ?_; rintro e w' ⟨rfl, rfl⟩)
     go_ret
     exact ⟨rfl, 0, _, by rw [← HW.out]; exact Fv w _ _ 0⟩
 · rw [if_pos h0]
   go_enter func92, ntmps92
   go_wp2_with (go_at_call 90; refine (T0 _).mono ?_; rintro e w' ⟨rfl, rfl⟩)
   go_ret
   exact ⟨rfl, 0, _, by rw [← HW.out]; exact Fv w _ _ 0⟩
end Go.Proofs.YtchoopnjckcohaaGreat
namespace Go.Proofs
open Tryz
open Go.Shelf
def Tryz.sortEdge_ren : Go.Shelf.Ren := ⟨fun | 6 => 97 | 15 => 94 | 14 => 111 | 28 => 108 | 29 => 109 | 20 => 125 | 21 => 126 | 22 => 127 | 23 => 128 | 24 => 129 | 25 => 130 | 26 => 131 | 27 => 132 | 46 => 137 | 47 => 113 | 48 => 114 | 49 => 138 | 50 => 139 | 57 => 141 | n => n, fun | 22 => 23 | 24 => 50 | 25 => 113 | 3 => 3 | 39 => 116 | 0 => 0 | 53 => 127 | 55 => 129 | 4 => 4 | 46 => 121 | 45 => 120 | 50 => 105 | 5 => 5 | 9 => 9 | 66 => 132 | 70 => 136 | 76 => 148 | 77 => 149 | n => n, fun | n => n⟩
theorem Tryz.sortEdge : Go.Proofs.SlLaysF0.n6 prog Tryz.sortEdge_ren := {
 mixed := by kernel_rfl
 f6 := ⟨Tryz.f97.name, by decide, func97.trans (congrArg some (by kernel_rfl))⟩
 f14 := ⟨Tryz.f111.name, by decide, func111.trans (congrArg some (by kernel_rfl))⟩
 f15 := func94.trans (congrArg some (by kernel_rfl))
 f20 := ⟨Tryz.f125.name, by decide, func125.trans (congrArg some (by kernel_rfl))⟩
 f21 := ⟨Tryz.f126.name, by decide, func126.trans (congrArg some (by kernel_rfl))⟩
 f22 := ⟨Tryz.f127.name, by decide, func127.trans (congrArg some (by kernel_rfl))⟩
 f23 := ⟨Tryz.f128.name, by decide, func128.trans (congrArg some (by kernel_rfl))⟩
 f24 := ⟨Tryz.f129.name, by decide, func129.trans (congrArg some (by kernel_rfl))⟩
 f25 := ⟨Tryz.f130.name, by decide, func130.trans (congrArg some (by kernel_rfl))⟩
 f26 := ⟨Tryz.f131.name, by decide, func131.trans (congrArg some (by kernel_rfl))⟩
 f27 := ⟨Tryz.f132.name, by decide, func132.trans (congrArg some (by kernel_rfl))⟩
 f28 := func108.trans (congrArg some (by kernel_rfl))
 f29 := func109.trans (congrArg some (by kernel_rfl))
 f46 := ⟨Tryz.f137.name, by decide, func137.trans (congrArg some (by kernel_rfl))⟩
 f47 := func113.trans (congrArg some (by kernel_rfl))
 f48 := func114.trans (congrArg some (by kernel_rfl))
 f49 := ⟨Tryz.f138.name, by decide, func138.trans (congrArg some (by kernel_rfl))⟩
 f50 := ⟨Tryz.f139.name, by decide, func139.trans (congrArg some (by kernel_rfl))⟩
 f57 := ⟨Tryz.f141.name, by decide, func141.trans (congrArg some (by kernel_rfl))⟩
 t0 := underlying0
 a0 := isAgg0
 z0 := sizeOf0
 v0 := zeroValue0
 t3 := underlying3
 a3 := isAgg3
 z3 := sizeOf3
 v3 := zeroValue3
 t4 := underlying4
 a4 := isAgg4
 z4 := sizeOf4
 v4 := zeroValue4
 t5 := underlying5
 a5 := isAgg5
 z5 := sizeOf5
 v5 := zeroValue5
 t9 := underlying9
 a9 := isAgg9
 z9 := sizeOf9
 v9 := zeroValue9
 t22 := underlying23
 a22 := isAgg23
 z22 := sizeOf23
 v22 := zeroValue23
 t25 := underlying113
 a25 := isAgg113
 z25 := sizeOf113
 v25 := zeroValue113
 t39 := underlying116
 a39 := isAgg116
 z39 := sizeOf116
 v39 := zeroValue116
 t45 := underlying120
 a45 := isAgg120
 z45 := sizeOf120
 v45 := zeroValue120
 t46 := underlying121
 a46 := isAgg121
 z46 := sizeOf121
 v46 := zeroValue121
 t50 := underlying105
 a50 := isAgg105
 z50 := sizeOf105
 v50 := zeroValue105
 t53 := underlying127
 a53 := isAgg127
 z53 := sizeOf127
 v53 := zeroValue127
 t55 := underlying129
 a55 := isAgg129
 z55 := sizeOf129
 v55 := zeroValue129
 t66 := underlying132
 a66 := isAgg132
 z66 := sizeOf132
 v66 := zeroValue132
 t70 := underlying136
 a70 := isAgg136
 z70 := sizeOf136
 v70 := zeroValue136
 t76 := underlying148
 a76 := isAgg148
 z76 := sizeOf148
 v76 := zeroValue148
 t77 := underlying149
 a77 := isAgg149
 z77 := sizeOf149
 v77 := zeroValue149 }
end Go.Proofs
namespace Go.Proofs.YtchoopnjckcohaaGreat
open Tryz
open Go.RowKit Go.Maps Go.Shelf Go.Sort
def Ae (x : Aa) : List Value := [.int .i64 x.1, .int .i64 x.2.1, .int .i64 x.2.2]
def C4 (x y : Aa) : Bool := decide (x.1 < y.1 ∨ (x.1 = y.1 ∧ (x.2.1 < y.2.1 ∨ (x.2.1 = y.2.1 ∧ x.2.2 < y.2.2))))
theorem Ew {x y : Aa} : C4 x y = true ↔ x.1 < y.1 ∨ (x.1 = y.1 ∧ (x.2.1 < y.2.1 ∨ (x.2.1 = y.2.1 ∧ x.2.2 < y.2.2))) := decide_eq_true_iff
theorem Er {x y : Aa} : C4 x y = false ↔ ¬ (x.1 < y.1 ∨ (x.1 = y.1 ∧ (x.2.1 < y.2.1 ∨ (x.2.1 = y.2.1 ∧ x.2.2 < y.2.2)))) := decide_eq_false_iff_not
theorem Ei (x y : Int) : (x < y ∧ Lib.compareInt x y = -1) ∨ (y < x ∧ Lib.compareInt x y = 1) ∨ (x = y ∧ Lib.compareInt x y = 0) := by
 unfold Lib.compareInt
 rcases Int.lt_trichotomy x y with h | h | h
 · exact .inl ⟨h, by simp [h]⟩
 · exact .inr (.inr ⟨h, by simp [h]⟩)
 · exact .inr (.inl ⟨h, by rw [if_neg (by omega), if_pos (by omega)]⟩)
theorem IY : ltOf IW = C4 := by
 funext x y
 unfold ltOf IW C4
 rcases Ei x.1 y.1 with ⟨h1, e1⟩ | ⟨h1, e1⟩ | ⟨h1, e1⟩ <;> rcases Ei x.2.1 y.2.1 with ⟨h2, e2⟩ | ⟨h2, e2⟩ | ⟨h2, e2⟩ <;> rcases Ei x.2.2 y.2.2 with ⟨h3, e3⟩ | ⟨h3, e3⟩ | ⟨h3, e3⟩ <;> simp only [e1, e2, e3] <;> (repeat' split) <;> simp <;> omega
theorem Pm : SWO C4 where
 irrefl x := by rw [Er]; omega
 trans x y z h1 h2 := by rw [Ew] at *; omega
 ntrans x y z h1 h2 := by rw [Er] at *; omega
theorem Oe (x y : Aa) (h1 : C4 x y = false) (h2 : C4 y x = false) : x = y := by
 rw [Er] at h1 h2
 exact Prod.ext (by omega) (Prod.ext (by omega) (by omega))
theorem BC (x : Aa) : (Ae x).length = 3 := rfl
theorem Le (L : List Aa) : (flatK Ae 3 L.toArray).toList = L.flatMap Ae := by
 have hz : (L.flatMap Ae).length = L.length * 3 := by
  induction L with
  | nil => rfl
  | cons x L ih => rw [List.flatMap_cons, List.length_append, ih, BC, List.length_cons]; omega
 apply List.ext_getElem?
 intro t
 by_cases ht : t < L.length * 3
 · have h1 : t / 3 < L.length := by omega
   have h2 : t % 3 < 3 := by omega
   have e := Da Ae 3 BC L (t / 3) (t % 3) h1 h2
   rw [show t / 3 * 3 + t % 3 = t by omega] at e
   rw [e, Array.getElem?_toList]
   have hs : t < (flatK Ae 3 L.toArray).size := by simpa using ht
   have g := get_flatK Ae 3 L.toArray t (by simpa using ht)
   rw [getElem!_pos _ t hs] at g
   rw [Array.getElem?_eq_getElem hs, g]
   have h3 : t % 3 < (Ae L[t / 3]).length := by rw [BC]; exact h2
   have h4 : L.toArray[t / 3]! = L[t / 3] := by rw [getElem!_pos _ _ (by simpa using h1)]; simp
   rw [List.getElem?_eq_getElem h3, h4, getElem!_pos (Ae L[t / 3]) (t % 3) h3]
 · rw [List.getElem?_eq_none (by rw [Array.length_toList, size_flatK]; simpa using ht), List.getElem?_eq_none (by omega)]
def Cm (L : List Aa) : List Aa := L.mergeSort fun x y => !C4 y x
theorem CG (L : List Aa) : (Cm L).length = L.length := List.length_mergeSort _
theorem Nm (blk off size : Nat) (w : World) : CmpLays prog 92 #[] Ae 3 IW blk off size w := fun _ _ _ _ x y => (KW x y _).mono fun _ _ ⟨he, q, os, hw⟩ => ⟨he, q, os, hw⟩
theorem Kh (W : World) (B : Nat) (v : Value) (L : List Aa) (hv : W.ownsRow B 50 3 v L.length (L.flatMap Ae)) (hl : L.length ≤ 4194304) :
 Calls prog 97 #[v, .func (.func 92) #[] #[]] W fun e w' => e = .returned (.tuple #[]) ∧ w'.ownsRow B 50 3 v L.length ((Cm L).flatMap Ae) ∧ Ab W w' (fun k => v.ownBlock = some k) := by
 rcases hv.2 with ⟨rfl, h0⟩ | ⟨g, cap, cur, rfl, hB, hb, hn, hcap, hsz, hxs⟩
 · obtain rfl : L = [] := List.eq_nil_of_length_eq_zero h0
   refine (AnyF.slices_SortFunc_none Tryz.sortEdge none 0 (.func (.func 92) #[] #[]) W).mono ?_
   rintro e w' ⟨rfl, rfl⟩
   refine ⟨rfl, ?_, Ab.ofBelow (Below.refl _ _)⟩
   rw [show Cm [] = [] by simp [Cm]]
   exact hv
 · have eg : ∀ args w, (callFunc 92 args).run prog w = .ok (.enter 92 args) w := enters_of func92 (by kernel_rfl) rfl
   have hg : g < W.heap.size := (Array.getElem?_eq_some_iff.1 hb).1
   have hH : HoldsK Ae 3 W g 0 L.toArray := by
    intro j hj
    have hj2 : j < L.length * 3 := by simpa using hj
    refine ⟨?_, by simp [World.frozen?, hb]⟩
    have hfe : (flatK Ae 3 L.toArray).toList[j]? = cur.toList[j]? := by rw [Le, ← hxs, List.getElem?_take_of_lt hj2]
    have hs : j < (flatK Ae 3 L.toArray).size := hj
    rw [Array.getElem?_toList, Array.getElem?_eq_getElem hs, Array.getElem?_toList] at hfe
    simp only [World.cell?, hb, Nat.zero_add]
    simp only [Option.isSome_none, Bool.false_eq_true, if_false, id]
    rw [← hfe, getElem!_pos (flatK Ae 3 L.toArray) j hs]
   have hO : SWO (ltOf IW) := by rw [IY]; exact Pm
   have H := AnyQ.slices_SortFunc_total Tryz.sortEdge 3 isAgg50 sizeOf50 Ae BC (fun x v hv => by simp [Ae] at hv; rcases hv with rfl | rfl | rfl <;> rfl) IW hO 92 #[] g 0 cap L.toArray W eg (Nm g 0 _ W) hH hg (by simp; omega) (by rw [IY]; exact Oe)
   rw [IY] at H
   have e1 : L.toArray.size = L.length := by simp
   rw [e1] at H
   refine Calls.mono H ?_
   rintro e w' ⟨rfl, n, os, rfl⟩
   have hq : (sortWorldK Ae 3 W g 0 n (Cm L).toArray os).heap[g]? = some (.cells (putCells id 0 (flatK Ae 3 (Cm L).toArray) cur) 50 (0, 0)) := by
    unfold sortWorldK putRowK
    rw [heap_grow_old _ _ (by simpa using hg)]
    simp [putRow, mapBlock, Sort.ahead, Array.getElem?_modify, hb, onCells]
   have hfs : (flatK Ae 3 (Cm L).toArray).size = L.length * 3 := by simp [CG]
   refine ⟨rfl, ⟨?_, .inr ⟨g, cap, _, rfl, hB, hq, hn, hcap, by simp [putCells, hsz], ?_⟩⟩, ?_⟩
   · rw [← Le, Array.length_toList, hfs]
   · rw [← Le]
     apply List.ext_getElem?
     intro j
     by_cases hj : j < L.length * 3
     · have hj3 : j < cur.size := by rw [hsz]; have := Nat.mul_le_mul_right 3 hn; omega
       rw [List.getElem?_take_of_lt hj, Array.getElem?_toList, Array.getElem?_toList]
       simp [putCells, hj3, CG, hj]
     · rw [List.getElem?_take_eq_none (by omega), List.getElem?_eq_none (by rw [Array.length_toList, hfs]; omega)]
   · refine ⟨rfl, rfl, rfl, by simp [sortWorldK, putRowK, putRow, mapBlock, Sort.ahead, grow], fun k hk hne => ?_⟩
     unfold sortWorldK putRowK
     rw [heap_grow_old _ _ (by simpa using hk)]
     have : g ≠ k := fun e => hne (by rw [e]; rfl)
     simp [putRow, mapBlock, Sort.ahead, Array.getElem?_modify, this]
end Go.Proofs.YtchoopnjckcohaaGreat
namespace Go.Proofs.YtchoopnjckcohaaGreat
open Tryz
open Go.RowKit Go.Maps
attribute [local go_sem] Oper.semAt_some
def Bd (W : World) (H : Nat) (t : TypeId) (N : Nat) (val : Nat → Value) (k : Nat) : Prop :=
 ∃ cur : Array Value, W.heap[H]? = some (.cells cur t (0, 0)) ∧ cur.size = N ∧ ∀ j, j < k → cur[j]? = some (val j)
theorem Bd.cell {W : World} {H : Nat} {t : TypeId} {N : Nat} {val : Nat → Value} {k : Nat} (h : Bd W H t N val k) (j : Nat) (hj : j < N) : ∃ u, W.cell? ⟨H, j, none⟩ = some u := by
 obtain ⟨cur, h1, h2, _⟩ := h
 exact ⟨cur[j]'(by omega), A1 h1 (Array.getElem?_eq_getElem (by omega))⟩
theorem Bd.fz {W : World} {H : Nat} {t : TypeId} {N : Nat} {val : Nat → Value} {k : Nat} (h : Bd W H t N val k) (j : Nat) : W.frozen? ⟨H, j, none⟩ = false := by
 obtain ⟨cur, h1, _⟩ := h
 exact A4 h1
theorem Bd.put {W : World} {H : Nat} {t : TypeId} {N : Nat} {val : Nat → Value} {k : Nat} (h : Bd W H t N val k) (hk : k < N) (u : Value) (hu : val k = u) : Bd (W.setCell ⟨H, k, none⟩ u) H t N val (k + 1) := by
 obtain ⟨cur, h1, h2, h3⟩ := h
 refine ⟨_, heap_setCell_same W H k cur t u h1, by simpa using h2, fun i hi => ?_⟩
 by_cases e : i = k
 · subst e
   rw [Array.getElem?_setIfInBounds_self_of_lt (by omega), hu]
 · rw [Array.getElem?_setIfInBounds_ne (by omega)]
   exact h3 i (by omega)
theorem Bd.at {W : World} {H : Nat} {t : TypeId} {N : Nat} {val : Nat → Value} {k : Nat} (h : Bd W H t N val k) (j : Nat) (hj : j < k) : W.cell? ⟨H, j, none⟩ = some (val j) := by
 obtain ⟨cur, h1, h2, h3⟩ := h
 exact A1 h1 (h3 j hj)
theorem Bd.below {W W' : World} {H : Nat} {t : TypeId} {N : Nat} {val : Nat → Value} {k B : Nat} (h : Bd W H t N val k) (d : Below B W W') (hB : H < B) : Bd W' H t N val k := by
 obtain ⟨cur, h1, h2, h3⟩ := h
 exact ⟨cur, (d.block _ hB).trans h1, h2, h3⟩
theorem Bd.lt {W : World} {H : Nat} {t : TypeId} {N : Nat} {val : Nat → Value} {k : Nat} (h : Bd W H t N val k) : H < W.heap.size := by
 obtain ⟨cur, h1, _⟩ := h
 exact (Array.getElem?_eq_some_iff.1 h1).1
theorem Bd.ofRow {W : World} {b H : Nat} {t : TypeId} {sz n : Nat} {xs : List Value} (val : Nat → Value) (h : W.ownsRow b t sz (.slice (some ⟨H, 0, none⟩) n n) n xs) : Bd W H t (n * sz) val 0 := by
 obtain ⟨h0, h1⟩ := h
 rcases h1 with ⟨e, _⟩ | ⟨g, cap, cur, e, h2, h3, h4, h5, h6, h7⟩
 · cases e
 · cases e
   exact ⟨cur, h3, h6, fun j hj => by omega⟩
theorem Ah (w : World) (g k : Nat) (v : Value) : Ab w (w.setCell ⟨g, k, none⟩ v) (fun i => i = g) :=
 ⟨rfl, rfl, rfl, by simp [World.setCell], fun i _ hn => Below.heap_setCell _ _ _ _ (fun e => hn (by rw [e]))⟩
theorem A9 {w w' : World} {R : Nat → Prop} {B : Nat} {e : TypeId} {sz n : Nat} {v : Value} {xs : List Value} (h : w.ownsRow B e sz v n xs) (ho : Ab w w' R) (hn : ∀ k, v.ownBlock = some k → ¬ R k) : w'.ownsRow B e sz v n xs := by
 refine ⟨h.1, ?_⟩
 have hlt := h.lt
 rcases h.2 with h2 | ⟨g, cap, cur, rfl, hb, hg, rest⟩
 · exact .inl h2
 · exact .inr ⟨g, cap, cur, rfl, hb, (ho.block g (hlt g rfl).2 (hn g rfl)).trans hg, rest⟩
theorem LW (W : World) (b i j k : Nat) (x y z : Value) : Ab W (((W.setCell ⟨b, i, none⟩ x).setCell ⟨b, j, none⟩ y).setCell ⟨b, k, none⟩ z) (fun q => q = b) := ((Ah W b i x).trans (Ah _ b j y)).trans (Ah _ b k z)
theorem Au {B : Nat} {w w' : World} (d : Below B w w') (n : Nat) : Below B w (w'.drewN n) := ⟨d.os, d.tape, d.output, d.size, d.block⟩
theorem Bd.upd {W : World} {H : Nat} {t : TypeId} {N : Nat} {f : Nat → Value} (h : Bd W H t N f N) (j : Nat) (u : Value) : Bd (W.setCell ⟨H, j, none⟩ u) H t N (fun c => if c = j then u else f c) N := by
 obtain ⟨cur, h1, h2, h3⟩ := h
 refine ⟨_, heap_setCell_same W H j cur t u h1, by simpa using h2, fun i hi => ?_⟩
 by_cases e : i = j
 · subst e
   rw [Array.getElem?_setIfInBounds_self_of_lt (by omega)]
   simp
 · rw [Array.getElem?_setIfInBounds_ne (by omega), h3 i hi]
   simp [e]
theorem Bd.congr {W : World} {H : Nat} {t : TypeId} {N : Nat} {f g : Nat → Value} (h : Bd W H t N f N) (e : ∀ c, c < N → f c = g c) : Bd W H t N g N := by
 obtain ⟨cur, h1, h2, h3⟩ := h
 exact ⟨cur, h1, h2, fun j hj => by rw [h3 j hj, e j hj]⟩
theorem Bd.only {W W' : World} {H : Nat} {t : TypeId} {N : Nat} {f : Nat → Value} {P : Nat → Prop} (h : Bd W H t N f N) (o : Ab W W' P) (hP : ¬ P H) : Bd W' H t N f N := by
 have hl := h.lt
 obtain ⟨cur, h1, h2, h3⟩ := h
 exact ⟨cur, (o.block H hl hP).trans h1, h2, h3⟩
theorem FS {w : World} {g o : Nat} {L : List Aa} (h : Cl w (some ⟨g, o, none⟩) L) (j : Nat) (u : Value) (hu : (L.flatMap Ae)[j]? = some u) : w.cell? ⟨g, o + j, none⟩ = some u := by
 have hz : (L.flatMap Ae).length = L.length * 3 := by
  clear h hu
  induction L with
  | nil => rfl
  | cons x L ih => rw [List.flatMap_cons, List.length_append, ih, BC, List.length_cons]; omega
 have hj : j < L.length * 3 := by
  have := (List.getElem?_eq_some_iff.1 hu).1
  omega
 have h1 : j / 3 < L.length := by omega
 have e := Da Ae 3 BC L (j / 3) (j % 3) h1 (by omega)
 rw [show j / 3 * 3 + j % 3 = j by omega, hu] at e
 obtain ⟨g', o', e', c0, c1, c2⟩ := h (j / 3) h1
 cases e'
 have h3 : j % 3 = 0 ∨ j % 3 = 1 ∨ j % 3 = 2 := by omega
 rcases h3 with q | q | q
 · rw [q] at e
   rw [show o + j = o + j / 3 * 3 by omega, c0]
   exact e.symm
 · rw [q] at e
   rw [show o + j = o + j / 3 * 3 + 1 by omega, c1]
   exact e.symm
 · rw [q] at e
   rw [show o + j = o + j / 3 * 3 + 2 by omega, c2]
   exact e.symm
theorem I8 (L : List Aa) : ∀ u ∈ L.flatMap Ae, u.oneCell' = true := by
 intro u hu
 obtain ⟨x, _, hx⟩ := List.mem_flatMap.1 hu
 simp only [Ae, List.mem_cons, List.not_mem_nil, or_false] at hx
 rcases hx with rfl | rfl | rfl <;> rfl
theorem Cc (L : List Aa) : (L.flatMap Ae).length = L.length * 3 := by
 induction L with
 | nil => rfl
 | cons x L ih => rw [List.flatMap_cons, List.length_append, ih, BC, List.length_cons]; omega
def NP (f : Nat → Value) (d : Array Aa) : Prop := ∀ j, j < d.size → f (j * 3) = .int .i64 d[j]!.1 ∧ f (j * 3 + 1) = .int .i64 d[j]!.2.1 ∧ f (j * 3 + 2) = .int .i64 d[j]!.2.2
theorem NP.set {f : Nat → Value} {d : Array Aa} (h : NP f d) (k : Nat) (x : Aa) : NP (fun c => if c = k * 3 + 2 then .int .i64 x.2.2 else if c = k * 3 + 1 then .int .i64 x.2.1 else if c = k * 3 then .int .i64 x.1 else f c) (d.setIfInBounds k x) := by
 intro j hj
 rw [Array.size_setIfInBounds] at hj
 by_cases e : j = k
 · subst e
   rw [Sort.getElem!_set_same d j x hj]
   refine ⟨?_, ?_, ?_⟩
   · show (if _ then _ else _) = _
     rw [if_neg (by omega), if_neg (by omega), if_pos rfl]
   · show (if _ then _ else _) = _
     rw [if_neg (by omega), if_pos rfl]
   · show (if _ then _ else _) = _
     rw [if_pos rfl]
 · rw [Sort.getElem!_set_other d k j x e]
   obtain ⟨h0, h1, h2⟩ := h j hj
   refine ⟨?_, ?_, ?_⟩
   · show (if _ then _ else _) = _
     rw [if_neg (by omega), if_neg (by omega), if_neg (by omega)]; exact h0
   · show (if _ then _ else _) = _
     rw [if_neg (by omega), if_neg (by omega), if_neg (by omega)]; exact h1
   · show (if _ then _ else _) = _
     rw [if_neg (by omega), if_neg (by omega), if_neg (by omega)]; exact h2
theorem Ds {W : World} {g N : Nat} {f : Nat → Value} {d : Array Aa} (hM : Bd W g 50 N f N) (hF : NP f d) (hN : d.size * 3 ≤ N) {j : Nat} (hj : j < d.size) {x0 x1 x2 : Int} (hx : d[j]! = (x0, x1, x2)) : W.cell? ⟨g, j * 3, none⟩ = some (.int .i64 x0) ∧ W.cell? ⟨g, j * 3 + 1, none⟩ = some (.int .i64 x1) ∧ W.cell? ⟨g, j * 3 + 2, none⟩ = some (.int .i64 x2) := by
 obtain ⟨h0, h1, h2⟩ := hF j hj
 rw [hx] at h0 h1 h2
 exact ⟨(hM.at _ (by omega)).trans (congrArg some h0), (hM.at _ (by omega)).trans (congrArg some h1), (hM.at _ (by omega)).trans (congrArg some h2)⟩
theorem Mh {W : World} {g N n : Nat} {f : Nat → Value} {L : List Aa} {dk : Array Aa} (hM : Bd W g 50 N f N) (hN : n * 3 ≤ N) (hl : L.length ≤ n) (hL : ∀ j, j < L.length → L[j]? = some dk[j]!) (hF : ∀ j, j < L.length → f (j * 3) = .int .i64 dk[j]!.1 ∧ f (j * 3 + 1) = .int .i64 dk[j]!.2.1 ∧ f (j * 3 + 2) = .int .i64 dk[j]!.2.2) : Cl W (some ⟨g, 0, none⟩) L := fun j hj => by
 obtain ⟨h0, h1, h2⟩ := hF j hj
 have e : L[j] = dk[j]! := Option.some.inj ((List.getElem?_eq_getElem hj).symm.trans (hL j hj))
 rw [← e] at h0 h1 h2
 exact ⟨g, 0, rfl, by rw [Nat.zero_add, hM.at _ (by omega), h0], by rw [Nat.zero_add, hM.at _ (by omega), h1], by rw [Nat.zero_add, hM.at _ (by omega), h2]⟩
theorem Mn {d : Array Aa} {n : Nat} (hn : d.size = n) (hk : ∀ j, j < n → Lib.keeps d j = true) : Lib.compactUpTo d n = d.toList := by
 rw [Lib.compactUpTo_all d n hk, ← hn]
 exact Lib.range_map_get d
theorem KZ {W : World} {g N n : Nat} {f : Nat → Value} {d : Array Aa} (hn : d.size = n) (hM : Bd W g 50 N f N) (hN : n * 3 ≤ N) (hF : NP f d) (hk : ∀ j, j < n → Lib.keeps d j = true) : (Lib.compactUpTo d n).length = n ∧ Cl W (some ⟨g, 0, none⟩) (Lib.compactUpTo d n) := by
 rw [Mn hn hk]
 refine ⟨by simpa using hn, Mh (dk := d) hM hN (by simp; omega) (fun j hj => ?_) fun j hj => hF j (by simpa using hj)⟩
 have hj' : j < d.size := by simpa using hj
 rw [Array.getElem?_toList, Array.getElem?_eq_getElem hj', getElem!_pos d j hj']
theorem GJ {t : TypeId} {g N : Nat} : ∀ (xs : List Value) (o : Nat) {W : World} {f : Nat → Value}, Bd W g t N f N → ∃ f', Bd (W.setCells g o xs) g t N f' N ∧ (∀ c, c < o → f' c = f c) ∧ Ab W (W.setCells g o xs) (fun k => k = g)
 | [], _, _, f, h => ⟨f, h, fun _ _ => rfl, Ab.ofBelow (Below.refl _ _)⟩
 | x :: xs, o, W, f, h => by
  obtain ⟨f', h1, h2, h3⟩ := GJ xs (o + 1) (h.upd o x)
  refine ⟨f', h1, fun c hc => ?_, (Ah W g o x).trans h3⟩
  rw [h2 c (by omega)]
  exact if_neg (by omega)
theorem P4 (n : Nat) : (Builtin.zeroCells #[Value.int .i64 0, .int .i64 0, .int .i64 0] n).toList = List.replicate (n * 3) (.int .i64 0) := by
 apply List.ext_getElem
 · simp [Builtin.zeroCells]
 · intro i h1 h2
   have h3 : i % 3 = 0 ∨ i % 3 = 1 ∨ i % 3 = 2 := by omega
   simp [Builtin.zeroCells]
   rcases h3 with q | q | q <;> simp [q]
theorem Kw (W : World) (ty : TypeId) (g o n c : Nat) (hn : 0 < n) (hc : ∀ j, j < n * 3 → (W.cell? ⟨g, o + j, none⟩).isSome = true) (hf : ∀ j, j < n * 3 → W.frozen? ⟨g, o + j, none⟩ = false) :
 (Builtin.clear_ #[23] ty #[.slice (some ⟨g, o, none⟩) n c]).run prog W = .ok (.tuple #[]) (W.setCells g o (List.replicate (n * 3) (.int .i64 0))) := by
 have hst := run_storeCells_cells (P := prog) g o (List.replicate (n * 3) (.int .i64 0)) 0 W (by simpa using hc) (by simpa using hf) (by intro v hv'; rw [List.eq_of_mem_replicate hv']; rfl)
 simp only [Nat.add_zero] at hst
 obtain ⟨m, rfl⟩ : ∃ m, n = m + 1 := ⟨n - 1, by omega⟩
 have hz : ∀ w : World, (zeroValue 50).run prog w = .ok (.agg #[.int .i64 0, .int .i64 0, .int .i64 0]) w := fun w => by kernel_rfl
 have hcl : (Value.agg #[.int .i64 0, .int .i64 0, .int .i64 0]).cells = #[.int .i64 0, .int .i64 0, .int .i64 0] := rfl
 simp [Builtin.clear_, run_underlying underlying23, hz, hcl, P4, hst]
theorem LU (w : World) (g cap n : Nat) (d : Array Aa) (hn : Hid (d.size = n)) (f : Nat → Value) (hM : Hid (Bd w g 50 (cap * 3) f (cap * 3))) (hF : Hid (NP f d)) (hcap : n ≤ cap) (hl : n ≤ 4194304) :
 Calls prog 98 #[.slice (some ⟨g, 0, none⟩) n cap] w fun e w' => e = .returned (.slice (some ⟨g, 0, none⟩) (Lib.compactUpTo d n).length cap) ∧ Cl w' (some ⟨g, 0, none⟩) (Lib.compactUpTo d n) ∧ Ab w w' (fun k => k = g) ∧ ∃ f', Bd w' g 50 (cap * 3) f' (cap * 3) := by
 by_cases h2 : n < 2
 · have i1 : (n : Int) < 2 := by omega
   go_enter func98, ntmps98
   go_wp2
   go_ret
   obtain ⟨e1, e2⟩ := KZ hn.out hM.out (by omega) hF.out fun j hj => Lib.keeps_lt_one d j (by omega)
   exact ⟨by rw [e1]; rfl, e2, Ab.ofBelow (Below.refl _ _), _, hM.out⟩
 · have i1 : ¬ (n : Int) < 2 := by omega
   go_enter func98, ntmps98
   go_wp2_with fail
   go_loopw [3] (fun i wr => ∃ m : Nat, m + 1 ≤ n ∧ i = .int .i64 ((m + 1 : Nat) : Int) ∧ Hid (Bd wr g 50 (cap * 3) f (cap * 3) ∧ Below w.heap.size w wr ∧ ∀ j, j < m + 1 → Lib.keeps d j = true)) (fun i _ => n - (intOf i).toNat)
   case atStart => exact ⟨0, by omega, rfl, A0 ⟨hM.out, Below.refl _ _, fun j hj => Lib.keeps_lt_one d j (by omega)⟩⟩
   case round =>
    obtain ⟨m, hm, rfl, HK⟩ := hrel
    obtain ⟨wi, rfl⟩ : ∃ z, z = wr := ⟨_, rfl⟩
    by_cases hlt : m + 1 < n
    · have j0 : (m : Int) + 1 < (n : Int) := by omega
      have j1 : (m : Int) < (n : Int) := by omega
      have j2 : (0 : Int) ≤ (m : Int) := by omega
      have j3 : (0 : Int) ≤ (m : Int) + 1 := by omega
      obtain ⟨⟨x0, x1, x2⟩, hx⟩ : ∃ x, d[m + 1]! = x := ⟨_, rfl⟩
      obtain ⟨⟨y0, y1, y2⟩, hy⟩ : ∃ y, d[m]! = y := ⟨_, rfl⟩
      obtain ⟨p0, p1, p2⟩ := Ds HK.out.1 hF.out (by rw [hn.out]; omega) (by rw [hn.out]; omega) hx
      obtain ⟨q0, q1, q2⟩ := Ds HK.out.1 hF.out (by rw [hn.out]; omega) (show m < d.size by rw [hn.out]; omega) hy
      have HE : Hid (Lib.keeps d (m + 1) = !decide (x0 = y0 ∧ x1 = y1 ∧ x2 = y2)) := A0 (by
       unfold Lib.keeps
       rw [Nat.add_sub_cancel, hx, hy]
       simp)
      clear hx hy
      go_upto_region 6 with fail
      go_cut [25] from 16 to 25 (fun b wx => b = .bool (!Lib.keeps d (m + 1)) ∧ Hid (Bd wx g 50 (cap * 3) f (cap * 3) ∧ Below w.heap.size w wx))
      case first =>
       by_cases g0 : x0 = y0
       · by_cases g1 : x1 = y1
         · by_cases g2 : x2 = y2
           · subst g0 g1 g2
             refine Al 9 #[true, true, true, true, true, true, true, true, true, false] (by kernel_rfl) (by kernel_rfl) ?_
             simp only [List.take_succ_cons, List.take_zero, List.drop_succ_cons, List.drop_zero]
             repeat (go_big_quiet_step (fail))
             refine wpQuiet_nil ?_
             intro wz hz
             obtain ⟨nq, rfl⟩ := hz
             go_wp2_with fail
             go_meet
             exact ⟨by rw [HE.out]; simp [], A0 ⟨HK.out.1, Au HK.out.2.1 nq⟩⟩
           · subst g0 g1
             refine Al 9 #[true, true, true, true, true, true, true, true, true, false] (by kernel_rfl) (by kernel_rfl) ?_
             simp only [List.take_succ_cons, List.take_zero, List.drop_succ_cons, List.drop_zero]
             repeat (go_big_quiet_step (fail))
             refine wpQuiet_nil ?_
             intro wz hz
             obtain ⟨nq, rfl⟩ := hz
             go_wp2_with fail
             go_meet
             exact ⟨by rw [HE.out]; simp [g2], A0 ⟨HK.out.1, Au HK.out.2.1 nq⟩⟩
         · subst g0
           refine Al 9 #[true, true, true, true, true, true, true, true, true, false] (by kernel_rfl) (by kernel_rfl) ?_
           simp only [List.take_succ_cons, List.take_zero, List.drop_succ_cons, List.drop_zero]
           repeat (go_big_quiet_step (fail))
           refine wpQuiet_nil ?_
           intro wz hz
           obtain ⟨nq, rfl⟩ := hz
           go_wp2_with fail
           go_meet
           exact ⟨by rw [HE.out]; simp [g1], A0 ⟨HK.out.1, Au HK.out.2.1 nq⟩⟩
       · skip
         refine Al 9 #[true, true, true, true, true, true, true, true, true, false] (by kernel_rfl) (by kernel_rfl) ?_
         simp only [List.take_succ_cons, List.take_zero, List.drop_succ_cons, List.drop_zero]
         repeat (go_big_quiet_step (fail))
         refine wpQuiet_nil ?_
         intro wz hz
         obtain ⟨nq, rfl⟩ := hz
         go_wp2_with fail
         go_meet
         exact ⟨by rw [HE.out]; simp [g0], A0 ⟨HK.out.1, Au HK.out.2.1 nq⟩⟩
      case rest =>
       obtain ⟨rfl, HB⟩ := hcut
       rename World => wx
       clear p0 p1 p2 q0 q1 q2 HE
       by_cases hk : Lib.keeps d (m + 1) = true
       · rw [hk]
         have HKK := A0 hk
         clear hk
         go_wp2_with fail
         exact ⟨⟨m + 1, by omega, by go_num, A0 ⟨HB.out.1, HB.out.2, fun j hj => if e : j = m + 1 then by rw [e]; exact HKK.out else HK.out.2.2 j (by omega)⟩⟩, by simp [intOf]; omega⟩
       · have hk' : Lib.keeps d (m + 1) = false := by simpa using hk
         rw [hk']
         have HI := A0 (Lib.CompInv.start HK.out.2.2 hk')
         clear hk hk' HK
         have c1 : m + 1 ≤ cap := by omega
         have c2 : m + 1 ≤ n := by omega
         go_upto_region 8 with fail
         go_wp2_with fail
         have hs := HI.out
         go_loopw [3, 5] (fun s3 s5 wr => ∃ (kk m2 : Nat) (dk : Array Aa) (f' : Nat → Value), s3 = .int .i64 (kk : Nat) ∧ s5 = .int .i64 ((m2 + 1 : Nat) : Int) ∧ m + 1 + (m2 + 1) ≤ n ∧ Hid (Bd wr g 50 (cap * 3) f' (cap * 3) ∧ NP f' dk ∧ Lib.CompInv d (m + 1 + (m2 + 1)) kk dk ∧ Ab w wr (fun k => k = g))) (fun _ s5 _ => n - (intOf s5).toNat)
         case atStart => exact ⟨m + 1, 0, d, f, rfl, rfl, by omega, A0 ⟨HB.out.1, hF.out, HI.out, Ab.ofBelow HB.out.2⟩⟩
         case round =>
          obtain ⟨kk, m2, dk, f', rfl, rfl, hle, HJ⟩ := hrel
          obtain ⟨wj, rfl⟩ : ∃ z, z = wr := ⟨_, rfl⟩
          have hkk := HJ.out.2.2.1.lt
          by_cases hlt2 : m + 1 + (m2 + 1) < n
          · have l0 : (m2 : Int) + 1 < ((n - (m + 1) : Nat) : Int) := by omega
            have l1 : (m2 : Int) < ((n - (m + 1) : Nat) : Int) := by omega
            have l2 : (0 : Int) ≤ (m2 : Int) := by omega
            have l3 : (0 : Int) ≤ (m2 : Int) + 1 := by omega
            have hds := HJ.out.2.2.1.size
            obtain ⟨⟨x0, x1, x2⟩, hx⟩ : ∃ x, d[m + 1 + (m2 + 1)]! = x := ⟨_, rfl⟩
            obtain ⟨⟨y0, y1, y2⟩, hy⟩ : ∃ y, d[m + 1 + m2]! = y := ⟨_, rfl⟩
            have HC : Hid (∀ W, Bd W g 50 (cap * 3) f' (cap * 3) → (W.cell? ⟨g, (m + 1) * 3 + (m2 + 1) * 3, none⟩ = some (.int .i64 x0) ∧ W.cell? ⟨g, (m + 1) * 3 + (m2 + 1) * 3 + 1, none⟩ = some (.int .i64 x1) ∧ W.cell? ⟨g, (m + 1) * 3 + (m2 + 1) * 3 + 2, none⟩ = some (.int .i64 x2)) ∧ (W.cell? ⟨g, (m + 1) * 3 + m2 * 3, none⟩ = some (.int .i64 y0) ∧ W.cell? ⟨g, (m + 1) * 3 + m2 * 3 + 1, none⟩ = some (.int .i64 y1) ∧ W.cell? ⟨g, (m + 1) * 3 + m2 * 3 + 2, none⟩ = some (.int .i64 y2))) := A0 (fun W hW => by
             have e1 := Ds hW HJ.out.2.1 (by rw [hds, hn.out]; omega) (show m + 1 + (m2 + 1) < dk.size by rw [hds, hn.out]; omega) ((HJ.out.2.2.1.high _ (by omega)).trans hx)
             have e2 := Ds hW HJ.out.2.1 (by rw [hds, hn.out]; omega) (show m + 1 + m2 < dk.size by rw [hds, hn.out]; omega) ((HJ.out.2.2.1.high _ (by omega)).trans hy)
             rw [show (m + 1 + (m2 + 1)) * 3 = (m + 1) * 3 + (m2 + 1) * 3 by omega] at e1
             rw [show (m + 1 + m2) * 3 = (m + 1) * 3 + m2 * 3 by omega] at e2
             exact ⟨e1, e2⟩)
            have HE : Hid (Lib.keeps d (m + 1 + (m2 + 1)) = !decide (x0 = y0 ∧ x1 = y1 ∧ x2 = y2)) := A0 (by
             unfold Lib.keeps
             rw [show m + 1 + (m2 + 1) - 1 = m + 1 + m2 by omega, hx, hy]
             simp)
            have HX := A0 hx
            clear hx hy hs
            go_upto_region 11 with fail
            go_cut [44] from 35 to 44 (fun b wx => b = .bool (Lib.keeps d (m + 1 + (m2 + 1))) ∧ Hid (Bd wx g 50 (cap * 3) f' (cap * 3) ∧ Ab w wx (fun k => k = g)))
            case first =>
             obtain ⟨⟨p0, p1, p2⟩, q0, q1, q2⟩ := HC.out wj HJ.out.1
             by_cases g0 : x0 = y0
             · by_cases g1 : x1 = y1
               · by_cases g2 : x2 = y2
                 · subst g0 g1 g2
                   refine Al 9 #[true, true, true, true, true, true, true, true, true, false] (by kernel_rfl) (by kernel_rfl) ?_
                   simp only [List.take_succ_cons, List.take_zero, List.drop_succ_cons, List.drop_zero]
                   repeat (go_big_quiet_step (fail))
                   refine wpQuiet_nil ?_
                   intro wz hz
                   obtain ⟨nq, rfl⟩ := hz
                   go_wp2_with fail
                   go_meet
                   exact ⟨by rw [HE.out]; simp [], A0 ⟨HJ.out.1, HJ.out.2.2.2.trans (Ab.ofBelow (Au (Below.refl _ _) nq))⟩⟩
                 · subst g0 g1
                   refine Al 9 #[true, true, true, true, true, true, true, true, true, false] (by kernel_rfl) (by kernel_rfl) ?_
                   simp only [List.take_succ_cons, List.take_zero, List.drop_succ_cons, List.drop_zero]
                   repeat (go_big_quiet_step (fail))
                   refine wpQuiet_nil ?_
                   intro wz hz
                   obtain ⟨nq, rfl⟩ := hz
                   go_wp2_with fail
                   go_meet
                   exact ⟨by rw [HE.out]; simp [g2], A0 ⟨HJ.out.1, HJ.out.2.2.2.trans (Ab.ofBelow (Au (Below.refl _ _) nq))⟩⟩
               · subst g0
                 refine Al 9 #[true, true, true, true, true, true, true, true, true, false] (by kernel_rfl) (by kernel_rfl) ?_
                 simp only [List.take_succ_cons, List.take_zero, List.drop_succ_cons, List.drop_zero]
                 repeat (go_big_quiet_step (fail))
                 refine wpQuiet_nil ?_
                 intro wz hz
                 obtain ⟨nq, rfl⟩ := hz
                 go_wp2_with fail
                 go_meet
                 exact ⟨by rw [HE.out]; simp [g1], A0 ⟨HJ.out.1, HJ.out.2.2.2.trans (Ab.ofBelow (Au (Below.refl _ _) nq))⟩⟩
             · skip
               refine Al 9 #[true, true, true, true, true, true, true, true, true, false] (by kernel_rfl) (by kernel_rfl) ?_
               simp only [List.take_succ_cons, List.take_zero, List.drop_succ_cons, List.drop_zero]
               repeat (go_big_quiet_step (fail))
               refine wpQuiet_nil ?_
               intro wz hz
               obtain ⟨nq, rfl⟩ := hz
               go_wp2_with fail
               go_meet
               exact ⟨by rw [HE.out]; simp [g0], A0 ⟨HJ.out.1, HJ.out.2.2.2.trans (Ab.ofBelow (Au (Below.refl _ _) nq))⟩⟩
            case rest =>
             obtain ⟨rfl, HB2⟩ := hcut
             rename World => wy
             clear HE
             by_cases hk : Lib.keeps d (m + 1 + (m2 + 1)) = true
             · rw [hk]
               have HKK := A0 hk
               clear hk
               obtain ⟨⟨p0, p1, p2⟩, _⟩ := HC.out wy HB2.out.1
               obtain ⟨u0, hu0⟩ := HB2.out.1.cell (kk * 3) (by omega)
               obtain ⟨u1, hu1⟩ := HB2.out.1.cell (kk * 3 + 1) (by omega)
               obtain ⟨u2, hu2⟩ := HB2.out.1.cell (kk * 3 + 2) (by omega)
               have f0 := HB2.out.1.fz (kk * 3)
               have f1 := HB2.out.1.fz (kk * 3 + 1)
               have f2 := HB2.out.1.fz (kk * 3 + 2)
               have k1 : (kk : Int) < (n : Int) := by omega
               have k2 : (0 : Int) ≤ (kk : Int) := by omega
               go_wp2_with fail
               exact ⟨⟨kk + 1, m2 + 1, dk.setIfInBounds kk (x0, x1, x2), _, by go_num, by go_num, by omega, A0 ⟨((HB2.out.1.upd (kk * 3) _).upd (kk * 3 + 1) _).upd (kk * 3 + 2) _, HJ.out.2.1.set kk (x0, x1, x2), by have := HJ.out.2.2.1.keep (by rw [hn.out]; omega) HKK.out; rwa [HX.out] at this, HB2.out.2.trans (LW wy g _ _ _ _ _ _)⟩⟩, by simp [intOf]; omega⟩
             · have hk' : Lib.keeps d (m + 1 + (m2 + 1)) = false := by simpa using hk
               rw [hk']
               have HKK := A0 hk'
               clear hk hk'
               go_wp2_with fail
               exact ⟨⟨kk, m2 + 1, dk, f', by go_num, by go_num, by omega, A0 ⟨HB2.out.1, HJ.out.2.1, HJ.out.2.2.1.skip HKK.out, HB2.out.2⟩⟩, by simp [intOf]; omega⟩
          · have l0 : ¬ (m2 : Int) + 1 < ((n - (m + 1) : Nat) : Int) := by omega
            have hend : m + 1 + (m2 + 1) = n := by omega
            rw [hend] at HJ
            obtain ⟨f2, hM2, hF2, hO2⟩ := GJ (List.replicate ((n - kk) * 3) (.int .i64 0)) (kk * 3) HJ.out.1
            have hcl := fun ty => Kw wj ty g (kk * 3) (n - kk) (cap - kk) (by omega) (fun j hj => by obtain ⟨u, hu⟩ := HJ.out.1.cell (kk * 3 + j) (by omega); rw [hu]; rfl) (fun j _ => HJ.out.1.fz _)
            have HZ := A0 (And.intro hM2 (And.intro hF2 hO2))
            have k1 : kk ≤ n := by omega
            have k2 : kk ≤ cap := by omega
            have k3 : (kk : Int) ≤ (n : Int) := by omega
            have k4 : (kk : Int) ≤ (cap : Int) := by omega
            clear hM2 hF2 hO2 hs
            go_wp2
            go_ret
            obtain ⟨hM2, hF2, hO2⟩ := HZ.out
            have I := HJ.out.2.2.1
            refine ⟨by rw [I.len]; rfl, Mh (n := n) (dk := dk) hM2 (by omega) (by rw [I.len]; omega) (fun j hj => I.low j (by rw [I.len] at hj; exact hj)) (fun j hj => ?_), HJ.out.2.2.2.trans hO2, _, hM2⟩
            rw [I.len] at hj
            rw [hF2 _ (by omega), hF2 _ (by omega), hF2 _ (by omega)]
            exact HJ.out.2.1 j (by rw [I.size, hn.out]; omega)
    · have j0 : ¬ (m : Int) + 1 < (n : Int) := by omega
      obtain rfl : n = m + 1 := by omega
      go_wp2
      go_ret
      obtain ⟨e1, e2⟩ := KZ hn.out HK.out.1 (by omega) hF.out HK.out.2.2
      exact ⟨by rw [e1]; rfl, e2, Ab.ofBelow HK.out.2.1, _, HK.out.1⟩
theorem EG {W : World} {B b cap : Nat} {X : List Aa} (h : W.ownsRow B 50 3 (.slice (some ⟨b, 0, none⟩) X.length cap) X.length (X.flatMap Ae)) (j : Nat) (hj : j < X.length) : W.cell? ⟨b, j * 3, none⟩ = some (.int .i64 X[j].1) ∧ W.cell? ⟨b, j * 3 + 1, none⟩ = some (.int .i64 X[j].2.1) ∧ W.cell? ⟨b, j * 3 + 2, none⟩ = some (.int .i64 X[j].2.2) := by
 have hn : ∀ r, r < 3 → W.cell? ⟨b, j * 3 + r, none⟩ = (Ae X[j])[r]? := fun r hr => by
  have c := h.cellAt (j * 3 + r) (show j * 3 + r < X.length * 3 by omega)
  rw [c, Da Ae 3 BC X j r hj hr]
 exact ⟨hn 0 (by omega), hn 1 (by omega), hn 2 (by omega)⟩
theorem JV {W : World} {B n : Nat} {v : Value} {L : List Aa} (h : W.ownsRow B 50 3 v n (L.flatMap Ae)) (hn : n = L.length) : (v = .slice none 0 0 ∧ L = []) ∨ ∃ g cap f, v = .slice (some ⟨g, 0, none⟩) n cap ∧ n ≤ cap ∧ B ≤ g ∧ Bd W g 50 (cap * 3) f (cap * 3) ∧ NP f L.toArray := by
 rcases h.2 with ⟨rfl, h0⟩ | ⟨g, cap, cur, rfl, hB, hb, hnc, hcm, hcs, htake⟩
 · exact .inl ⟨rfl, List.eq_nil_of_length_eq_zero (by omega)⟩
 · refine .inr ⟨g, cap, fun c => cur[c]?.getD default, rfl, hnc, hB, ⟨cur, hb, hcs, fun j hj => ?_⟩, fun j hj => ?_⟩
   · show cur[j]? = some (cur[j]?.getD default)
     rw [Array.getElem?_eq_getElem (by omega)]; rfl
   · have hj' : j < L.length := by simpa using hj
     subst hn
     have c := EG h j hj'
     have e : L.toArray[j]! = L[j] := by rw [getElem!_pos _ j (by simpa using hj')]; simp
     rw [e]
     have k : ∀ r, r < 3 → W.cell? ⟨g, j * 3 + r, none⟩ = some (cur[j * 3 + r]?.getD default) := fun r hr => by
      have : j * 3 + r < cur.size := by omega
      rw [A1 hb (Array.getElem?_eq_getElem this), Array.getElem?_eq_getElem this]; rfl
     obtain ⟨c0, c1, c2⟩ := c
     have k0 := k 0 (by omega)
     have k1 := k 1 (by omega)
     have k2 := k 2 (by omega)
     rw [Nat.add_zero] at k0
     exact ⟨Option.some.inj (k0.symm.trans c0), Option.some.inj (k1.symm.trans c1), Option.some.inj (k2.symm.trans c2)⟩
open Go.Shelf Go.Sort
theorem MR {w : World} {B g cap n : Nat} {e : TypeId} {sz : Nat} {xs : List Value} (h : w.ownsRow B e sz (.slice (some ⟨g, 0, none⟩) n cap) n xs) (m : Nat) (hm : m ≤ n) : w.ownsRow B e sz (.slice (some ⟨g, 0, none⟩) m cap) m (xs.take (m * sz)) := by
 have hle : m * sz ≤ n * sz := Nat.mul_le_mul_right _ hm
 refine ⟨by rw [List.length_take, h.1]; omega, ?_⟩
 rcases h.2 with ⟨hv, _⟩ | ⟨g', cap', cur, hv, hb, hg, h1, h2, h3, h4⟩
 · cases hv
 · cases hv
   exact .inr ⟨g, cap, cur, rfl, hb, hg, by omega, h2, h3, by rw [← h4, List.take_take, Nat.min_eq_left hle]⟩
def BJ (L : List Int) : List Int := L.mergeSort fun x y => decide (x ≤ y)
def A5 (L : List Int) : List Int := Lib.compact (BJ L)
theorem Cd (L : List Int) : (BJ L).length = L.length := List.length_mergeSort _
theorem BI {α : Type} [DecidableEq α] [Inhabited α] (zs : List α) : (Lib.compact zs).length ≤ zs.length := by
 unfold Lib.compact Lib.compactUpTo
 rw [List.length_map]
 exact Nat.le_trans (List.length_filter_le _ _) (by simp)
theorem O7 : (fun x y : Int => !(ltOf Lib.compareInt) y x) = fun x y => decide (x ≤ y) := by
 funext x y
 unfold ltOf
 rcases Ei y x with ⟨h, e⟩ | ⟨h, e⟩ | ⟨h, e⟩ <;> rw [e] <;> simp <;> omega
theorem Jo (x y : Int) : ltOf Lib.compareInt x y = true ↔ x < y := by
 unfold ltOf
 rcases Ei x y with ⟨h, e⟩ | ⟨h, e⟩ | ⟨h, e⟩ <;> rw [e] <;> simp <;> omega
theorem GY (x y : Int) : ltOf Lib.compareInt x y = false ↔ ¬ x < y := by rw [← Jo, Bool.not_eq_true]
theorem PI : SWO (ltOf Lib.compareInt) where
 irrefl x := by rw [GY]; omega
 trans x y z h1 h2 := by rw [Jo] at *; omega
 ntrans x y z h1 h2 := by rw [GY] at *; omega
theorem FG {w : World} {B g cap n : Nat} {L : List Int} (hn : n = L.length) (hv : w.ownsRow B 3 1 (.slice (some ⟨g, 0, none⟩) n cap) n (L.map (Value.int .i64))) : ∃ cur, B ≤ g ∧ w.heap[g]? = some (.cells cur 3 (0, 0)) ∧ L.length ≤ cap ∧ cap ≤ maxLen ∧ cur.size = cap * 1 ∧ cur.toList.take L.length = L.map (Value.int .i64) := by
 subst hn
 rcases hv.2 with ⟨hv, _⟩ | ⟨g', cap', cur, hv, hb, hg, h1, h2, h3, h4⟩
 · cases hv
 · cases hv
   exact ⟨cur, hb, hg, h1, h2, h3, by rw [← h4, Nat.mul_one]⟩
theorem K2 (W : World) (B g cap n : Nat) (L : List Int) (hn : n = L.length) (hv : W.ownsRow B 3 1 (.slice (some ⟨g, 0, none⟩) n cap) n (L.map (Value.int .i64))) (hl : n ≤ 4194304) :
 Calls prog 95 #[.slice (some ⟨g, 0, none⟩) n cap, .func (.func 90) #[] #[]] W fun e w' => e = .returned (.tuple #[]) ∧ w'.ownsRow B 3 1 (.slice (some ⟨g, 0, none⟩) n cap) n ((BJ L).map (Value.int .i64)) ∧ W.grownBy w' (some g) := by
 obtain ⟨cur, hB, hb, h1, h2, h3, h4⟩ := FG hn hv
 subst hn
 have hg : g < W.heap.size := (Array.getElem?_eq_some_iff.1 hb).1
 have eg : ∀ args w, (callFunc 90 args).run prog w = .ok (.enter 90 args) w := enters_of func90 (by kernel_rfl) rfl
 have H := Tryz.slices_SortFunc_total (Value.int .i64) (fun _ => rfl) Lib.compareInt PI 90 #[] g 0 cap L.toArray W eg
  (fun m os dk _ x y => (E7 x y _).mono fun _ _ ⟨he, hw⟩ => ⟨he, 0, #[], by rw [hw]; simp [grow, World.drewN]⟩) (holds_of_blockI hb h4) hg (by simp; omega) (fun x y a b => by rw [GY] at a b; omega)
 have e1 : L.toArray.size = L.length := by simp
 rw [e1, O7] at H
 refine Calls.mono H ?_
 rintro e w' ⟨rfl, k, os, rfl⟩
 exact ⟨rfl, ownsRow_sortedI (ts := BJ L) (ss := L) (Cd L) hB hb h1 h2 h3, grownBy_sortedI _⟩
theorem CU (W : World) (B g cap n : Nat) (L : List Int) (hn : n = L.length) (hv : W.ownsRow B 3 1 (.slice (some ⟨g, 0, none⟩) n cap) n (L.map (Value.int .i64))) (hl : n ≤ 4194304) :
 Calls prog 87 #[.slice (some ⟨g, 0, none⟩) n cap] W fun e w' => e = .returned (.slice (some ⟨g, 0, none⟩) (Lib.compact L).length cap) ∧ w'.ownsRow B 3 1 (.slice (some ⟨g, 0, none⟩) (Lib.compact L).length cap) (Lib.compact L).length ((Lib.compact L).map (Value.int .i64)) ∧ W.grownBy w' (some g) := by
 obtain ⟨cur, hB, hb, h1, h2, h3, h4⟩ := FG hn hv
 subst hn
 refine (Tryz.slices_Compact_int g 0 cap L W (holds_of_blockI hb h4) (by omega) h1).mono ?_
 rintro e w' ⟨rfl, q, hw⟩
 have hc := BI L
 have hlen : (Lib.compact L ++ List.replicate (L.length - (Lib.compact L).length) 0).length = L.length := by
  rw [List.length_append, List.length_replicate]; omega
 have g0 : ∀ W : World, grow W #[] = W := fun W => by simp [grow]
 rw [← g0 (putRow _ _ _ _ _)] at hw
 have hrow := ownsRow_sortedI (n := q) (os := #[]) hlen hB hb h1 h2 h3
 rw [← hw] at hrow
 have hr := MR hrow _ hc
 rw [Nat.mul_one, List.map_append, List.take_left' (by simp)] at hr
 exact ⟨rfl, hr, by rw [hw]; exact grownBy_sortedI _⟩
theorem GX (w : World) (ao : Option Addr) (c : Nat) (L : List Int) (hA : Hid (BB w ao L)) (hl : L.length ≤ 4194304) :
 Calls prog 89 #[.slice ao L.length c, .func (.func 90) #[] #[]] w fun e w' => ∃ g' c', e = .returned (.slice (some ⟨g', 0, none⟩) (A5 L).length c') ∧ w'.ownsRow w.heap.size 3 1 (.slice (some ⟨g', 0, none⟩) (A5 L).length c') (A5 L).length ((A5 L).map (Value.int .i64)) ∧ Below w.heap.size w w' := by
 obtain ⟨i9, hi9, hz90, hz91, hz92⟩ := AA Et
 obtain ⟨m, hm⟩ : ∃ m, m = L.length := ⟨_, rfl⟩
 have HL := A0 hm
 rw [← hm]
 rw [← hm] at hl
 clear hm
 go_enter func89, ntmps89
 go_wp2_with (at_make; refine wpList_make_full _ rfl _ _ 22 rfl w.heap.size 3 i9 (.int .i64 0) 1 underlying22 hi9 hz90 hz91 _ _ _ _ m rfl rfl (by go_num) (by go_num) (by rw [hz92]; omega) (by unfold maxLen; omega) (Nat.le_refl _) ?_)
 intro w1 ho hg
 have D1 : Below w.heap.size w w1 := (Below.refl _ _).grown hg (Nat.le_refl _) (by intro k hk; cases hk)
 have hxy : ∃ cur : List Value, w1.heap[w.heap.size]? = some (.cells cur.toArray 3 (0, 0)) ∧ cur.length = m := by
  rcases ho.2 with ⟨hv, _⟩ | ⟨g', cap', cur, hv, hb, hg, h1, h2, h3, h4⟩
  · cases hv
  · cases hv
    exact ⟨cur.toList, by simpa using hg, by simpa using h3⟩
 obtain ⟨cur, hcur, hcl⟩ := hxy
 obtain ⟨X, hX⟩ : ∃ X, X = L.map (Value.int .i64) := ⟨_, rfl⟩
 have hXl : X.length = m := by rw [hX, List.length_map, HL.out]
 have HX := A0 (And.intro hX hXl)
 have HC := A0 (And.intro hcur (And.intro hcl D1))
 clear ho hg D1 hcur hcl hX hXl
 go_wp2_with (refine wpList_copy_splice rfl (.tmp 9) (.tmp 10) 22 22 rfl 3 underlying22 (by rw [hi9]; simp [hz91]) _ _ _ _ _ _ rfl rfl w.heap.size 0 cur 3 HC.out.1 X (by rw [HX.out.2]; exact (Nat.min_self m).symm) ?_ (by rw [HX.out.2, HC.out.2.1]; omega) ?_ w.heap.size w HC.out.2.2 (Nat.le_refl _) ?_)
 · intro hp
   have h0 : 0 < L.length := by rw [← HL.out, ← HX.out.2]; exact hp
   obtain ⟨g, o, rfl, _⟩ := hA.out 0 h0
   refine ⟨_, rfl, fun j v hv => ?_⟩
   rw [HX.out.1, List.getElem?_map] at hv
   obtain ⟨x, hx, rfl⟩ := Option.map_eq_some_iff.1 hv
   obtain ⟨hj, rfl⟩ := List.getElem?_eq_some_iff.1 hx
   obtain ⟨g', o', e, c0⟩ := (hA.out.on HC.out.2.2) j hj
   cases e
   have ea : Addr.add ⟨g, o, none⟩ j = ⟨g, o + j, none⟩ := by
    unfold Addr.add
    by_cases q : j = 0
    · subst q; simp
    · simp [q]
   rw [ea]
   exact c0
 · intro v hv
   rw [HX.out.1] at hv
   obtain ⟨x, _, rfl⟩ := List.mem_map.1 hv
   rfl
 intro w2 HG2 d2
 have hr2 : w2.ownsRow w.heap.size 3 1 (.slice (some ⟨w.heap.size, 0, none⟩) m m) m (L.map (Value.int .i64)) := by
  have e : splice cur 0 X = L.map (Value.int .i64) := by
   unfold splice
   rw [List.take_zero, List.drop_eq_nil_of_le (by rw [HX.out.2, HC.out.2.1]; omega), List.nil_append, List.append_nil, HX.out.1]
  have hg := HG2.out
  rw [e] at hg
  exact ⟨by rw [List.length_map, ← HL.out]; omega, .inr ⟨_, m, _, rfl, Nat.le_refl _, hg, Nat.le_refl _, by unfold maxLen; omega, by simp [← HL.out], List.take_of_length_le (by simp [← HL.out])⟩⟩
 have HR := A0 (And.intro hr2 d2)
 clear hr2 d2 HG2 HC
 go_wp2_with (go_at_call 95; refine (K2 _ w.heap.size w.heap.size m m L HL.out (by exact HR.out.1) hl).mono ?_; rintro e w3 ⟨rfl, hr3, hg3⟩)
 have HS := A0 (And.intro hr3 (HR.out.2.grown hg3 HR.out.2.size (fun k hk => by cases hk; exact Nat.le_refl _)))
 clear hr3 hg3
 go_wp2_with (go_at_call 87; refine (CU _ w.heap.size w.heap.size m m (BJ L) (by rw [Cd]; exact HL.out) (by exact HS.out.1) hl).mono ?_; rintro e w4 ⟨rfl, hr4, hg4⟩)
 go_ret
 exact ⟨_, _, rfl, hr4, HS.out.2.grown hg4 HS.out.2.size (fun k hk => by cases hk; exact Nat.le_refl _)⟩
theorem DQ : (prog.info? 50).map (fun i => (i.zero, i.size, i.bytes)) = some (some (.agg #[.int .i64 0, .int .i64 0, .int .i64 0]), 3, 24) := by kernel_rfl
theorem K4 (w : World) (ty : TypeId) (g m dCap : Nat) (ao : Option Addr) (sCap : Nat) (L : List Aa) (hL : m = L.length) (cur : Array Value) (hg : w.heap[g]? = some (.cells cur 50 (0, 0))) (hcs : cur.size = m * 3) (hr : Cl w ao L) :
 (Builtin.copy_ #[23, 23] ty #[.slice (some ⟨g, 0, none⟩) m dCap, .slice ao m sCap]).run prog w = .ok (goInt m) (w.setRow g (L.flatMap Ae).toArray) := by
 obtain ⟨i5, hi5, _, hz51, _⟩ := AA DQ
 have hm : Nat.min m m = m := Nat.min_self m
 have hfl : (L.flatMap Ae).length = m * 3 := by rw [Cc, hL]
 have hst := run_storeCells_at prog g 0 50 (L.flatMap Ae) 0 cur w hg (by rw [hfl]; omega) (I8 L)
 rw [hfl, Nat.zero_add, Nat.zero_add, List.take_zero, List.nil_append, List.drop_eq_nil_of_le (by simp [hcs]), List.append_nil] at hst
 by_cases h0 : L = []
 · subst h0
   obtain rfl : m = 0 := hL
   have hl : ∀ (x : Addr), (loadCells x 0).run prog w = .ok #[] w := fun x => by simpa using run_loadCells_list (P := prog) w x [] (by simp)
   obtain rfl : cur = #[] := Array.eq_empty_of_size_eq_zero (by omega)
   rw [show w.setRow g (([] : List Aa).flatMap Ae).toArray = w from setRow_self w g #[] 50 (0, 0) hg]
   cases ao <;> simp [Builtin.copy_, run_underlying underlying23, Builtin.lenOf, Builtin.firstCells, sizeOf, typeInfo, hi5, storeCells, hl]
 · obtain ⟨a, o, rfl, _⟩ := hr 0 (List.length_pos_iff.2 h0)
   have hl := run_loadCells_list (P := prog) w ⟨a, o, none⟩ (L.flatMap Ae) (fun j v hv => by
    have ea : Addr.add ⟨a, o, none⟩ j = ⟨a, o + j, none⟩ := by
     unfold Addr.add
     by_cases q : j = 0
     · subst q; simp
     · simp [q]
    rw [ea]
    exact FS hr j v hv)
   rw [hfl] at hl
   simp [Builtin.copy_, run_underlying underlying23, Builtin.lenOf, Builtin.firstCells, sizeOf, typeInfo, hi5, hz51, hl, hst]
theorem Hj {w : World} {ops : Array Oper} {rest : List Oper} {o : Oper} {a : Act} {Q : Exit → Act → World → Prop} (hgd : o.guard = none) (d s : Operand)
 (ho : o.op = .call { callee := .builtin .copy, args := #[d, s], argTypes := #[23, 23] }) (g m dCap : Nat) (ao : Option Addr) (sCap : Nat) (L : List Aa) (hd : a.eval d = .slice (some ⟨g, 0, none⟩) m dCap) (hs : a.eval s = .slice ao m sCap) (hL : m = L.length)
 (cur : Array Value) (hg : w.heap[g]? = some (.cells cur 50 (0, 0))) (hcs : cur.size = m * 3) (hr : Cl w ao L) (B : Nat) (w0 : World) (hb : Below B w0 w) (hBg : B ≤ g)
 (h : ∀ w', Hid (w'.heap[g]? = some (.cells (L.flatMap Ae).toArray 50 (0, 0)) ∧ Below B w0 w') → wpList prog ops Q rest (a.put o.dst (goInt m)) w') : wpList prog ops Q (o :: rest) a w := by
 refine wpList_plain hgd fun K hK => ?_
 have hrun := K4 w o.type g m dCap ao sCap L hL cur hg hcs hr
 unfold Oper.wp
 simp [execOp, ho, resolve, invoke, builtin, hd, hs, hrun, Result.andThen]
 exact hK _ _ (h _ (A0 ⟨setRow_heap w g _ _ 50 _ hg, below_setRow hb hBg _⟩))
def A7 (L : List Aa) : List Aa := Lib.compact (Cm L)
theorem Ml {w : World} {B g cap : Nat} {f : Nat → Value} {K : List Aa} (hM : Bd w g 50 (cap * 3) f (cap * 3)) (hr : Cl w (some ⟨g, 0, none⟩) K) (hk : K.length ≤ cap) (hc : cap ≤ maxLen) (hB : B ≤ g) : w.ownsRow B 50 3 (.slice (some ⟨g, 0, none⟩) K.length cap) K.length (K.flatMap Ae) := by
 obtain ⟨cur, hg, hz, _⟩ := hM
 refine ⟨Cc K, .inr ⟨g, cap, cur, rfl, hB, hg, hk, hc, hz, ?_⟩⟩
 have hfl := Cc K
 have hle : K.length * 3 ≤ cap * 3 := Nat.mul_le_mul_right _ hk
 apply List.ext_getElem?
 intro j
 by_cases hj : j < K.length * 3
 · rw [List.getElem?_take_of_lt hj, List.getElem?_eq_getElem (by omega : j < (K.flatMap Ae).length)]
   have c := FS hr j _ (List.getElem?_eq_getElem (by omega : j < (K.flatMap Ae).length))
   rw [Nat.zero_add] at c
   have hjc : j < cur.size := by omega
   have e := A1 hg (Array.getElem?_eq_getElem hjc)
   rw [e] at c
   rw [Array.getElem?_toList, Array.getElem?_eq_getElem hjc, Option.some.inj c]
 · rw [List.getElem?_take_eq_none (by omega), List.getElem?_eq_none (by omega)]
theorem Hn (w : World) (B g cap n : Nat) (L : List Aa) (hn : n = L.length) (hv : w.ownsRow B 50 3 (.slice (some ⟨g, 0, none⟩) n cap) L.length (L.flatMap Ae)) (hl : n ≤ 4194304) :
 Calls prog 98 #[.slice (some ⟨g, 0, none⟩) n cap] w fun e w' => e = .returned (.slice (some ⟨g, 0, none⟩) (Lib.compact L).length cap) ∧ w'.ownsRow B 50 3 (.slice (some ⟨g, 0, none⟩) (Lib.compact L).length cap) (Lib.compact L).length ((Lib.compact L).flatMap Ae) ∧ Ab w w' (fun k => k = g) := by
 subst hn
 have hmax : cap ≤ maxLen ∧ B ≤ g := by
  rcases hv.2 with ⟨hv, _⟩ | ⟨g', cap', cur, hv, hb, hg, h1, h2, h3, h4⟩
  · cases hv
  · cases hv; exact ⟨h2, hb⟩
 rcases JV hv rfl with ⟨hq, _⟩ | ⟨g', cap', f, hq, hc, _, hM, hF⟩
 · cases hq
 · cases hq
   refine (LU w g cap L.length L.toArray (A0 (by simp)) f (A0 hM) (A0 hF) hc hl).mono ?_
   rintro e w' ⟨rfl, hr, ho, f', hM'⟩
   have e0 : Lib.compactUpTo L.toArray L.length = Lib.compact L := by simp [Lib.compact]
   rw [e0] at hr ⊢
   exact ⟨rfl, Ml hM' hr (Nat.le_trans (BI L) hc) hmax.1 hmax.2, ho⟩
theorem Hb (w : World) (ao : Option Addr) (c : Nat) (L : List Aa) (hA : Hid (Cl w ao L)) (hl : L.length ≤ 4194304) :
 Calls prog 91 #[.slice ao L.length c, .func (.func 92) #[] #[]] w fun e w' => ∃ g' c', e = .returned (.slice (some ⟨g', 0, none⟩) (A7 L).length c') ∧ w'.ownsRow w.heap.size 50 3 (.slice (some ⟨g', 0, none⟩) (A7 L).length c') (A7 L).length ((A7 L).flatMap Ae) ∧ Below w.heap.size w w' := by
 obtain ⟨i5, hi5, hz50, hz51, hz52⟩ := AA DQ
 obtain ⟨m, hm⟩ : ∃ m, m = L.length := ⟨_, rfl⟩
 have HL := A0 hm
 rw [← hm]
 rw [← hm] at hl
 clear hm
 go_enter func91, ntmps91
 go_wp2_with (at_make; refine wpList_make_full _ rfl _ _ 23 rfl w.heap.size 50 i5 (.agg #[.int .i64 0, .int .i64 0, .int .i64 0]) 3 underlying23 hi5 hz50 hz51 _ _ _ _ m rfl rfl (by go_num) (by go_num) (by rw [hz52]; omega) (by unfold maxLen; omega) (Nat.le_refl _) ?_)
 intro w1 ho hg
 have D1 : Below w.heap.size w w1 := (Below.refl _ _).grown hg (Nat.le_refl _) (by intro k hk; cases hk)
 have hxy : ∃ cur, w1.heap[w.heap.size]? = some (.cells cur 50 (0, 0)) ∧ cur.size = m * 3 := by
  rcases ho.2 with ⟨hv, _⟩ | ⟨g', cap', cur, hv, hb, hg, h1, h2, h3, h4⟩
  · cases hv
  · cases hv
    exact ⟨cur, hg, h3⟩
 obtain ⟨cur, hcur, hcl⟩ := hxy
 have HC := A0 (And.intro hcur (And.intro hcl D1))
 clear ho hg D1 hcur hcl
 go_wp2_with (refine Hj rfl (.tmp 9) (.tmp 10) rfl w.heap.size m m ao c L rfl rfl HL.out cur HC.out.1 HC.out.2.1 (hA.out.on HC.out.2.2) w.heap.size w HC.out.2.2 (Nat.le_refl _) ?_)
 intro w2 HG2
 have hr2 : w2.ownsRow w.heap.size 50 3 (.slice (some ⟨w.heap.size, 0, none⟩) m m) L.length (L.flatMap Ae) := by
  have hfl := Cc L
  rw [← HL.out] at hfl ⊢
  exact ⟨hfl, .inr ⟨_, m, _, rfl, Nat.le_refl _, HG2.out.1, Nat.le_refl _, by unfold maxLen; omega, by simpa using hfl, List.take_of_length_le (by simpa using Nat.le_of_eq hfl)⟩⟩
 have HR := A0 (And.intro hr2 HG2.out.2)
 clear hr2 HG2 HC
 have hl2 : L.length ≤ 4194304 := by rw [← HL.out]; exact hl
 go_wp2_with (go_at_call 97; refine (Kh _ w.heap.size _ L (by exact HR.out.1) (by rw [← HL.out]; exact hl)).mono ?_; rintro e w3 ⟨rfl, hr3, hg3⟩)
 have HS := A0 (And.intro hr3 (HR.out.2.trans (hg3.toBelow HR.out.2.size (fun k hk => by cases hk; exact Nat.le_refl _))))
 clear hr3 hg3
 refine (Hn w3 w.heap.size w.heap.size m m (Cm L) (by rw [CG]; exact HL.out) (by rw [CG]; exact HS.out.1) hl).mono ?_
 rintro e w4 ⟨rfl, hr4, ho4⟩
 have HT := A0 (And.intro hr4 (HS.out.2.trans (ho4.toBelow HS.out.2.size (fun k hk => Nat.le_of_eq hk.symm))))
 clear hr4 ho4
 go_wp2_with fail
 go_ret
 exact ⟨_, _, rfl, HT.out⟩
theorem Gb (w : World) (ao : Option Addr) (c : Nat) (L : List Int) (hA : Hid (BB w ao L)) (hl : L.length ≤ 4194304) :
 Calls prog 84 #[.slice ao L.length c] w fun e w' => ∃ g' c', e = .returned (.slice (some ⟨g', 0, none⟩) (A5 L).length c') ∧ w'.ownsRow w.heap.size 3 1 (.slice (some ⟨g', 0, none⟩) (A5 L).length c') (A5 L).length ((A5 L).map (Value.int .i64)) ∧ Below w.heap.size w w' := by
 have T := GX w ao c L hA hl
 go_enter func84, ntmps84
 go_wp2_with (go_at_call 89; refine T.mono ?_; rintro e w1 ⟨g', c', rfl, hr, d⟩)
 go_ret
 exact ⟨_, _, rfl, hr, d⟩
theorem Kz (w : World) (ao : Option Addr) (c : Nat) (L : List Aa) (hA : Hid (Cl w ao L)) (hl : L.length ≤ 4194304) :
 Calls prog 85 #[.slice ao L.length c] w fun e w' => ∃ g' c', e = .returned (.slice (some ⟨g', 0, none⟩) (A7 L).length c') ∧ w'.ownsRow w.heap.size 50 3 (.slice (some ⟨g', 0, none⟩) (A7 L).length c') (A7 L).length ((A7 L).flatMap Ae) ∧ Below w.heap.size w w' := by
 have T := Hb w ao c L hA hl
 go_enter func85, ntmps85
 go_wp2_with (go_at_call 91; refine T.mono ?_; rintro e w1 ⟨g', c', rfl, hr, d⟩)
 go_ret
 exact ⟨_, _, rfl, hr, d⟩
theorem Ni {W : World} {B b cap : Nat} {X : List Aa} (h : W.ownsRow B 50 3 (.slice (some ⟨b, 0, none⟩) X.length cap) X.length (X.flatMap Ae)) : Cl W (some ⟨b, 0, none⟩) X := fun j hj => by
 have := EG h j hj
 exact ⟨b, 0, rfl, by simpa using this⟩
theorem BT {W : World} {B c : Nat} {b : Option Addr} {X : List Aa} (h : W.ownsRow B 50 3 (.slice b X.length c) X.length (X.flatMap Ae)) : Cl W b X := by
 rcases h.2 with ⟨hv, hn⟩ | ⟨g, cap, cur, hv, _⟩
 · intro j hj; omega
 · cases hv
   exact Ni h
theorem FB {w w' : World} {B C g cap n : Nat} {e : TypeId} {sz : Nat} {xs : List Value} (h : w.ownsRow B e sz (.slice (some ⟨g, 0, none⟩) n cap) n xs) (d : Below C w w') (hC : g < C) : w'.ownsRow B e sz (.slice (some ⟨g, 0, none⟩) n cap) n xs := by
 refine ⟨h.1, ?_⟩
 rcases h.2 with ⟨hv, _⟩ | ⟨g', cap', cur, hv, hb, hg, rest⟩
 · cases hv
 · cases hv
   exact .inr ⟨g, cap, cur, rfl, hb, (d.block _ hC).trans hg, rest⟩
theorem Cs {w : World} {B g cap n : Nat} {e : TypeId} {sz : Nat} {xs : List Value} (h : w.ownsRow B e sz (.slice (some ⟨g, 0, none⟩) n cap) n xs) : B ≤ g ∧ g < w.heap.size := by
 rcases h.2 with ⟨hv, _⟩ | ⟨g', cap', cur, hv, hb, hg, rest⟩
 · cases hv
 · cases hv
   exact ⟨hb, (Array.getElem?_eq_some_iff.1 hg).1⟩
theorem BY {w w' : World} {B q g cap n : Nat} {e : TypeId} {sz : Nat} {xs : List Value} (h : w.ownsRow B e sz (.slice (some ⟨g, 0, none⟩) n cap) n xs) (ho : Ab w w' (fun k => k = q)) (hq : g ≠ q) : w'.ownsRow B e sz (.slice (some ⟨g, 0, none⟩) n cap) n xs :=
 A9 h ho fun k hk => by cases hk; exact hq
theorem AT (w : World) (b : Nat) (v0 v1 v2 v3 v4 u0 u1 u2 u3 u4 : Value) (t : TypeId) (h : w.heap[b]? = some (.cells #[v0, v1, v2, v3, v4] t (0, 0))) :
 (((((w.setCell ⟨b, 0, none⟩ u0).setCell ⟨b, 1, none⟩ u1).setCell ⟨b, 2, none⟩ u2).setCell ⟨b, 3, none⟩ u3).setCell ⟨b, 4, none⟩ u4).heap[b]? = some (.cells #[u0, u1, u2, u3, u4] t (0, 0)) :=
 heap_setCell_same _ _ 4 _ t _ (heap_setCell_same _ _ 3 _ t _ (heap_setCell_same _ _ 2 _ t _ (heap_setCell_same _ _ 1 _ t _ (heap_setCell_same _ _ 0 _ t _ h))))
theorem AF (w : World) (b : Nat) (u0 u1 u2 u3 u4 : Value) : Ab w (((((w.setCell ⟨b, 0, none⟩ u0).setCell ⟨b, 1, none⟩ u1).setCell ⟨b, 2, none⟩ u2).setCell ⟨b, 3, none⟩ u3).setCell ⟨b, 4, none⟩ u4) (fun k => k = b) :=
 ((((Ah w _ 0 _).trans (Ah _ _ 1 _)).trans (Ah _ _ 2 _)).trans (Ah _ _ 3 _)).trans (Ah _ _ 4 _)
structure PP (B : Nat) (w : World) (g1 k1 g2 k2 g3 k3 : Nat) (S F : List Int) (E : List Aa) : Prop where
 s : w.ownsRow B 3 1 (.slice (some ⟨g1, 0, none⟩) S.length k1) S.length (S.map (Value.int .i64))
 f : w.ownsRow B 3 1 (.slice (some ⟨g2, 0, none⟩) F.length k2) F.length (F.map (Value.int .i64))
 e : w.ownsRow B 50 3 (.slice (some ⟨g3, 0, none⟩) E.length k3) E.length (E.flatMap Ae)
 n12 : g1 ≠ g2
 n13 : g1 ≠ g3
 n23 : g2 ≠ g3
theorem Ie (w : World) (n m : Int) (a1 a2 a3 : Option Addr) (c1 c2 c3 : Nat) (St Fi : List Int) (Ed : List Aa) (hA : Hid (AP w a1 a2 a3 St Fi Ed)) (h1 : St.length ≤ 4194304) (h2 : Fi.length ≤ 4194304) (h3 : Ed.length ≤ 4194304) :
 Calls prog 72 #[.agg #[.int .i64 n, .int .i64 m, .slice a1 St.length c1, .slice a2 Fi.length c2, .slice a3 Ed.length c3]] w fun e w' => ∃ g1 k1 g2 k2 g3 k3, e = .returned (.agg #[.int .i64 n, .int .i64 m, .slice (some ⟨g1, 0, none⟩) (A5 St).length k1, .slice (some ⟨g2, 0, none⟩) (A5 Fi).length k2, .slice (some ⟨g3, 0, none⟩) (A7 Ed).length k3]) ∧ PP w.heap.size w' g1 k1 g2 k2 g3 k3 (A5 St) (A5 Fi) (A7 Ed) ∧ Below w.heap.size w w' := by
 obtain ⟨W0, hW0⟩ : ∃ W0, (w.alloc (.cells #[.int .i64 n, .int .i64 m, .slice a1 St.length c1, .slice a2 Fi.length c2, .slice a3 Ed.length c3] 25)).alloc (.cells #[.int .i64 0, .int .i64 0, .slice none 0 0, .slice none 0 0, .slice none 0 0] 25) = W0 := ⟨_, rfl⟩
 have d0 : Below w.heap.size w W0 := by rw [← hW0]; exact ((Below.refl _ _).alloc (Nat.le_refl _) _).alloc (by simp) _
 have b0 : W0.heap[w.heap.size]? = some (.cells #[.int .i64 n, .int .i64 m, .slice a1 St.length c1, .slice a2 Fi.length c2, .slice a3 Ed.length c3] 25 (0, 0)) := by rw [← hW0]; exact (Below.heap_alloc _ _ _ (by simp)).trans (World.alloc_heap_new _ _)
 have b1 : W0.heap[w.heap.size + 1]? = some (.cells #[.int .i64 0, .int .i64 0, .slice none 0 0, .slice none 0 0, .slice none 0 0] 25 (0, 0)) := by
  rw [← hW0]
  have := World.alloc_heap_new (w.alloc (.cells #[.int .i64 n, .int .i64 m, .slice a1 St.length c1, .slice a2 Fi.length c2, .slice a3 Ed.length c3] 25)) (.cells #[.int .i64 0, .int .i64 0, .slice none 0 0, .slice none 0 0, .slice none 0 0] 25)
  simpa using this
 have z0 : W0.heap.size = w.heap.size + 2 := by rw [← hW0]; simp
 have HA := A0 (hA.out.on d0)
 have HD := A0 (And.intro d0 (And.intro b0 (And.intro b1 z0)))
 have CK := A0 (fun (W2 : World) (d : Below W0.heap.size W0 W2) => show W2.cell? ⟨w.heap.size, 0, none⟩ = some (.int .i64 n) ∧ W2.cell? ⟨w.heap.size, 1, none⟩ = some (.int .i64 m) ∧ W2.cell? ⟨w.heap.size, 2, none⟩ = some (.slice a1 St.length c1) ∧ W2.cell? ⟨w.heap.size, 3, none⟩ = some (.slice a2 Fi.length c2) ∧ W2.cell? ⟨w.heap.size, 4, none⟩ = some (.slice a3 Ed.length c3) from by
  have e := A3 HD.out.2.1 d
  exact ⟨A1 e rfl, A1 e rfl, A1 e rfl, A1 e rfl, A1 e rfl⟩)
 have FK := A0 (fun (W2 : World) (d : Below W0.heap.size W0 W2) => show W2.heap[w.heap.size + 1]? = some (.cells #[.int .i64 0, .int .i64 0, .slice none 0 0, .slice none 0 0, .slice none 0 0] 25 (0, 0)) from A3 HD.out.2.2.1 d)
 have T1 := A0 (fun (W2 : World) (d : Below W0.heap.size W0 W2) => Gb W2 a1 c1 St (A0 (HA.out.s.on d)) h1)
 have T2 := A0 (fun (W2 : World) (d : Below W0.heap.size W0 W2) => Gb W2 a2 c2 Fi (A0 (HA.out.f.on d)) h2)
 have T3 := A0 (fun (W2 : World) (d : Below W0.heap.size W0 W2) => Kz W2 a3 c3 Ed (A0 (HA.out.e.on d)) h3)
 generalize A5 St = S1 at T1 ⊢
 generalize A5 Fi = F1 at T2 ⊢
 generalize A7 Ed = E1 at T3 ⊢
 have S0 := CK.out W0 (Below.refl _ _)
 clear d0 b0 b1 z0
 go_enter func72, ntmps72
 go_upto_region 1 with fail
 go_region_held3 (fun W2 => W2.cell? ⟨w.heap.size, 0, none⟩ = some (.int .i64 n) ∧ W2.cell? ⟨w.heap.size, 1, none⟩ = some (.int .i64 m) ∧ W2.cell? ⟨w.heap.size, 2, none⟩ = some (.slice a1 St.length c1) ∧ W2.cell? ⟨w.heap.size, 3, none⟩ = some (.slice a2 Fi.length c2) ∧ W2.cell? ⟨w.heap.size, 4, none⟩ = some (.slice a3 Ed.length c3))
  (first | go_keep | assumption)
  ((first
   | (go_at_call_of 84 a1; refine (T1.out _ (by exact (Below.refl _ W0).drew)).mono ?_; rintro e wa ⟨g1, k1, rfl, hr1, da⟩; have da2 : Below W0.heap.size W0 wa := ⟨da.os, da.tape, da.output, da.size, da.block⟩; have S2 := CK.out wa da2; have H1 := A0 (And.intro hr1 da2); clear hr1 da da2)
   | (go_at_call_of 84 a2; refine (T2.out wa H1.out.2).mono ?_; rintro e wb ⟨g2, k2, rfl, hr2, db⟩; have db2 : Below W0.heap.size W0 wb := H1.out.2.trans (db.mono H1.out.2.size); have S3 := CK.out wb db2; have H2 := A0 (And.intro hr2 (And.intro db db2)); clear hr2 db db2)
   | (go_at_call_of 85 a3; refine (T3.out wb H2.out.2.2).mono ?_; rintro e wc ⟨g3, k3, rfl, hr3, dc⟩; have dc2 : Below W0.heap.size W0 wc := H2.out.2.2.trans (dc.mono H2.out.2.2.size); have S4 := CK.out wc dc2; have F3 := FK.out wc dc2; obtain ⟨o0, o1, o2, o3, o4⟩ := An F3 rfl rfl rfl rfl rfl; have f0 : wc.frozen? ⟨w.heap.size + 1, 0, none⟩ = false := A4 F3; have f1 : wc.frozen? ⟨w.heap.size + 1, 1, none⟩ = false := A4 F3; have f2 : wc.frozen? ⟨w.heap.size + 1, 2, none⟩ = false := A4 F3; have f3 : wc.frozen? ⟨w.heap.size + 1, 3, none⟩ = false := A4 F3; have f4 : wc.frozen? ⟨w.heap.size + 1, 4, none⟩ = false := A4 F3; have H3 := A0 (And.intro hr3 (And.intro dc dc2)); clear hr3 dc dc2)))
 obtain ⟨W6, hW6⟩ : ∃ W6, (((((wc.setCell ⟨w.heap.size + 1, 0, none⟩ (.int .i64 n)).setCell ⟨w.heap.size + 1, 1, none⟩ (.int .i64 m)).setCell ⟨w.heap.size + 1, 2, none⟩ (.slice (some ⟨g1, 0, none⟩) S1.length k1)).setCell ⟨w.heap.size + 1, 3, none⟩ (.slice (some ⟨g2, 0, none⟩) F1.length k2)).setCell ⟨w.heap.size + 1, 4, none⟩ (.slice (some ⟨g3, 0, none⟩) E1.length k3)) = W6 := ⟨_, rfl⟩
 rw [hW6]
 have e6 : W6.heap[w.heap.size + 1]? = some (.cells #[.int .i64 n, .int .i64 m, .slice (some ⟨g1, 0, none⟩) S1.length k1, .slice (some ⟨g2, 0, none⟩) F1.length k2, .slice (some ⟨g3, 0, none⟩) E1.length k3] 25 (0, 0)) := by
  rw [← hW6]
  exact AT _ _ _ _ _ _ _ _ _ _ _ _ 25 F3
 have O6 : Ab wc W6 (fun k => k = w.heap.size + 1) := by
  rw [← hW6]
  exact AF _ _ _ _ _ _ _
 have HZ := A0 (And.intro e6 O6)
 clear o0 o1 o2 o3 o4 f0 f1 f2 f3 f4 F3 S2 S3 S4 hW6 e6 O6 T1 T2 T3
 go_wp2_with fail
 refine bodyPost_ret (results_cell_row (p := 2) (ty := 25) rfl _ _ (w.heap.size + 1) 25 _ (0, 0) _ rfl HZ.out.1 underlying25 rfl (by kernel_rfl)) rfl ?_
 have O6 := HZ.out.2
 have z0 := HD.out.2.2.2
 have q1 := Cs H1.out.1
 have q2 := Cs H2.out.1
 have q3 := Cs H3.out.1
 have y1 := H1.out.2.size
 have y2 := H2.out.2.1.size
 have y3 := H3.out.2.1.size
 have zz : W0.drew.heap.size = W0.heap.size := rfl
 refine ⟨g1, k1, g2, k2, g3, k3, rfl, ⟨?_, ?_, ?_, by omega, by omega, by omega⟩, ?_⟩
 · exact BY (FB (FB (Bv H1.out.1 (by omega)) H2.out.2.1 q1.2) H3.out.2.1 (by omega)) O6 (by omega)
 · exact BY (FB (Bv H2.out.1 (by omega)) H3.out.2.1 q2.2) O6 (by omega)
 · exact BY (Bv H3.out.1 (by omega)) O6 (by omega)
 · exact (HD.out.1.trans (H3.out.2.2.mono (by omega))).trans (O6.toBelow (by omega) (fun k hk => by omega))
theorem B6 {P : Program} {fn : Func} {p q : Tmp} {ty : TypeId} (h : fn.results = #[.cell p ty, .tmp q]) (tmps : Array Value) (w : World) (g : Nat) (t : TypeId) (cs : Array Value) (fr : Nat × Nat) (d : TypeDesc) (x : Value)
 (hp : tmps.getD p undef = .pointer (some ⟨g, 0, none⟩)) (hq : tmps.getD q undef = x) (hg : w.heap[g]? = some (.cells cs t fr))
 (hu : P.underlying ty = some d) (hd : (match d with | .struct _ | .array _ _ => true | _ => false) = true) (hi : (P.info? ty).map (·.size) = some cs.size) :
 (results fn tmps).run P w = .ok (.tuple #[.agg cs, x]) w := by
 have hp' : tmps[p]?.getD undef = .pointer (some ⟨g, 0, none⟩) := by simpa using hp
 have hq' : tmps[q]?.getD undef = x := by simpa using hq
 simp [results, h, hp', hq', asAddr, run_loadVar_row w g t ty cs fr d hg hu hd hi]
theorem Br (w : World) (A Z : Array Value) (t : TypeId) : Below w.heap.size w ((w.alloc (.cells A t)).alloc (.cells Z t)) ∧ ((w.alloc (.cells A t)).alloc (.cells Z t)).heap[w.heap.size]? = some (.cells A t (0, 0)) ∧ ((w.alloc (.cells A t)).alloc (.cells Z t)).heap[w.heap.size + 1]? = some (.cells Z t (0, 0)) ∧ ((w.alloc (.cells A t)).alloc (.cells Z t)).heap.size = w.heap.size + 2 := by
 refine ⟨((Below.refl _ _).alloc (Nat.le_refl _) _).alloc (by simp) _, (Below.heap_alloc _ _ _ (by simp)).trans (World.alloc_heap_new _ _), ?_, by simp⟩
 have := World.alloc_heap_new (w.alloc (.cells A t)) (.cells Z t)
 simpa using this
theorem FM (w : World) (n m : Int) (a1 a2 a3 : Option Addr) (c1 c2 c3 : Nat) (St Fi : List Int) (Ed : List Aa) (hA : Hid (AP w a1 a2 a3 St Fi Ed)) (h1 : St.length ≤ 4194304) (h2 : Fi.length ≤ 4194304) (h3 : Ed.length ≤ 4194304) (em : AC n m St Fi Ed = false) :
 Calls prog 53 #[.agg #[.int .i64 n, .int .i64 m, .slice a1 St.length c1, .slice a2 Fi.length c2, .slice a3 Ed.length c3]] w fun e w' => e = .returned (.tuple #[.agg #[.int .i64 0, .int .i64 0, .slice none 0 0, .slice none 0 0, .slice none 0 0], .int .i64 2]) ∧ Below w.heap.size w w' := by
 obtain ⟨W0, hW0⟩ : ∃ W0, (w.alloc (.cells #[.int .i64 n, .int .i64 m, .slice a1 St.length c1, .slice a2 Fi.length c2, .slice a3 Ed.length c3] 25)).alloc (.cells #[.int .i64 0, .int .i64 0, .slice none 0 0, .slice none 0 0, .slice none 0 0] 25) = W0 := ⟨_, rfl⟩
 have HD := A0 (Br w #[.int .i64 n, .int .i64 m, .slice a1 St.length c1, .slice a2 Fi.length c2, .slice a3 Ed.length c3] #[.int .i64 0, .int .i64 0, .slice none 0 0, .slice none 0 0, .slice none 0 0] 25)
 rw [hW0] at HD
 have B0 := HD.out.2.1
 have T1 := GF W0 n m a1 a2 a3 c1 c2 c3 St Fi Ed (A0 (hA.out.on HD.out.1)) h1 h2 h3
 obtain ⟨k0, k1, k2, k3, k4⟩ := An B0 rfl rfl rfl rfl rfl
 clear B0
 rw [em] at T1
 have T1 : Calls prog 71 #[.agg #[.int .i64 n, .int .i64 m, .slice a1 St.length c1, .slice a2 Fi.length c2, .slice a3 Ed.length c3]] W0 fun e w' => e = .returned (.int .i64 2) ∧ Below W0.heap.size W0 w' := T1
 go_enter func53, ntmps53
 go_upto_region 3 with (go_at_call 71; refine T1.mono ?_; rintro e w1 ⟨rfl, d1⟩)
 have F3 := A3 HD.out.2.2.1 d1
 obtain ⟨o0, o1, o2, o3, o4⟩ := An F3 rfl rfl rfl rfl rfl
 have f0 : w1.frozen? ⟨w.heap.size + 1, 0, none⟩ = false := A4 F3
 have f1 : w1.frozen? ⟨w.heap.size + 1, 1, none⟩ = false := A4 F3
 have f2 : w1.frozen? ⟨w.heap.size + 1, 2, none⟩ = false := A4 F3
 have f3 : w1.frozen? ⟨w.heap.size + 1, 3, none⟩ = false := A4 F3
 have f4 : w1.frozen? ⟨w.heap.size + 1, 4, none⟩ = false := A4 F3
 have O6 := A0 (And.intro (AT w1 (w.heap.size + 1) _ _ _ _ _ (.int .i64 0) (.int .i64 0) (.slice none 0 0) (.slice none 0 0) (.slice none 0 0) 25 F3) (AF w1 (w.heap.size + 1) (.int .i64 0) (.int .i64 0) (.slice none 0 0) (.slice none 0 0) (.slice none 0 0)))
 clear F3
 go_wp2_with fail
 refine bodyPost_ret (B6 (p := 2) (q := 3) (ty := 25) rfl _ _ (w.heap.size + 1) 25 _ (0, 0) _ _ rfl rfl O6.out.1 underlying25 rfl (by kernel_rfl)) rfl ?_
 have z0 := HD.out.2.2.2
 have z1 := d1.size
 exact ⟨rfl, (HD.out.1.trans (d1.mono (by omega))).trans (O6.out.2.toBelow (by omega) (fun k hk => by omega))⟩
theorem CD (w : World) (n m : Int) (a1 a2 a3 : Option Addr) (c1 c2 c3 : Nat) (St Fi : List Int) (Ed : List Aa) (hA : Hid (AP w a1 a2 a3 St Fi Ed)) (h1 : St.length ≤ 4194304) (h2 : Fi.length ≤ 4194304) (h3 : Ed.length ≤ 4194304) (em : AC n m St Fi Ed = true) :
 Calls prog 53 #[.agg #[.int .i64 n, .int .i64 m, .slice a1 St.length c1, .slice a2 Fi.length c2, .slice a3 Ed.length c3]] w fun e w' => ∃ g1 k1 g2 k2 g3 k3, e = .returned (.tuple #[.agg #[.int .i64 n, .int .i64 m, .slice (some ⟨g1, 0, none⟩) (A5 St).length k1, .slice (some ⟨g2, 0, none⟩) (A5 Fi).length k2, .slice (some ⟨g3, 0, none⟩) (A7 Ed).length k3], .int .i64 0]) ∧ PP w.heap.size w' g1 k1 g2 k2 g3 k3 (A5 St) (A5 Fi) (A7 Ed) ∧ Below w.heap.size w w' := by
 obtain ⟨W0, hW0⟩ : ∃ W0, (w.alloc (.cells #[.int .i64 n, .int .i64 m, .slice a1 St.length c1, .slice a2 Fi.length c2, .slice a3 Ed.length c3] 25)).alloc (.cells #[.int .i64 0, .int .i64 0, .slice none 0 0, .slice none 0 0, .slice none 0 0] 25) = W0 := ⟨_, rfl⟩
 have HD := A0 (Br w #[.int .i64 n, .int .i64 m, .slice a1 St.length c1, .slice a2 Fi.length c2, .slice a3 Ed.length c3] #[.int .i64 0, .int .i64 0, .slice none 0 0, .slice none 0 0, .slice none 0 0] 25)
 rw [hW0] at HD
 have B0 := HD.out.2.1
 have T1 := GF W0 n m a1 a2 a3 c1 c2 c3 St Fi Ed (A0 (hA.out.on HD.out.1)) h1 h2 h3
 obtain ⟨k0, k1, k2, k3, k4⟩ := An B0 rfl rfl rfl rfl rfl
 clear B0
 rw [em] at T1
 have T1 : Calls prog 71 #[.agg #[.int .i64 n, .int .i64 m, .slice a1 St.length c1, .slice a2 Fi.length c2, .slice a3 Ed.length c3]] W0 fun e w' => e = .returned (.int .i64 0) ∧ Below W0.heap.size W0 w' := T1
 have T2 := A0 (fun (w1 : World) (d1 : Below W0.heap.size W0 w1) => Ie w1 n m a1 a2 a3 c1 c2 c3 St Fi Ed (A0 ((hA.out.on HD.out.1).on d1)) h1 h2 h3)
 generalize A5 St = S1 at T2 ⊢
 generalize A5 Fi = F1 at T2 ⊢
 generalize A7 Ed = E1 at T2 ⊢
 go_enter func53, ntmps53
 go_upto_region 4 with (go_at_call 71; refine T1.mono ?_; rintro e w1 ⟨rfl, d1⟩)
 have B1 := A3 HD.out.2.1 d1
 have H1 := A0 (And.intro d1 (A3 HD.out.2.2.1 d1))
 obtain ⟨y0, y1, y2, y3, y4⟩ := An B1 rfl rfl rfl rfl rfl
 clear k0 k1 k2 k3 k4 B1 d1 T1 hA
 go_wp2_with (go_at_call 72; refine (T2.out w1 H1.out.1).mono ?_; rintro e w2 ⟨g1, k1, g2, k2, g3, k3, rfl, hO, d2⟩; have F3 := A3 H1.out.2 d2; obtain ⟨o0, o1, o2, o3, o4⟩ := An F3 rfl rfl rfl rfl rfl; have f0 : w2.frozen? ⟨w.heap.size + 1, 0, none⟩ = false := A4 F3; have f1 : w2.frozen? ⟨w.heap.size + 1, 1, none⟩ = false := A4 F3; have f2 : w2.frozen? ⟨w.heap.size + 1, 2, none⟩ = false := A4 F3; have f3 : w2.frozen? ⟨w.heap.size + 1, 3, none⟩ = false := A4 F3; have f4 : w2.frozen? ⟨w.heap.size + 1, 4, none⟩ = false := A4 F3; have H2 := A0 (And.intro hO (And.intro d2 F3)); clear hO d2 F3)
 have O6 := A0 (And.intro (AT w2 (w.heap.size + 1) _ _ _ _ _ (.int .i64 n) (.int .i64 m) (.slice (some ⟨g1, 0, none⟩) S1.length k1) (.slice (some ⟨g2, 0, none⟩) F1.length k2) (.slice (some ⟨g3, 0, none⟩) E1.length k3) 25 H2.out.2.2) (AF w2 (w.heap.size + 1) (.int .i64 n) (.int .i64 m) (.slice (some ⟨g1, 0, none⟩) S1.length k1) (.slice (some ⟨g2, 0, none⟩) F1.length k2) (.slice (some ⟨g3, 0, none⟩) E1.length k3)))
 refine bodyPost_ret (B6 (p := 2) (q := 3) (ty := 25) rfl _ _ (w.heap.size + 1) 25 _ (0, 0) _ _ rfl rfl O6.out.1 underlying25 rfl (by kernel_rfl)) rfl ?_
 have z0 := HD.out.2.2.2
 have z1 := H1.out.1.size
 have z2 := H2.out.2.1.size
 obtain ⟨o1, o2, o3, n1, n2, n3⟩ := H2.out.1
 have q1 := Cs o1
 have q2 := Cs o2
 have q3 := Cs o3
 refine ⟨g1, k1, g2, k2, g3, k3, rfl, ⟨BY (Bv (base := w1.heap.size) o1 (by omega)) O6.out.2 (by omega), BY (Bv (base := w1.heap.size) o2 (by omega)) O6.out.2 (by omega), BY (Bv (base := w1.heap.size) o3 (by omega)) O6.out.2 (by omega), n1, n2, n3⟩, ?_⟩
 exact ((HD.out.1.trans (H1.out.1.mono (by omega))).trans (H2.out.2.1.mono (by omega))).trans (O6.out.2.toBelow (by omega) (fun k hk => by omega))
theorem Pj : (prog.info? 4).map (fun i => (i.zero, i.size, i.bytes)) = some (some (.bool false), 1, 1) := by kernel_rfl
def Pe (B : Nat) (w : World) (g N : Nat) (M : Nat → Bool) : Prop := B ≤ g ∧ Bd w g 4 N (fun q => .bool (M q)) N
theorem Kt {B : Nat} {w1 : World} {g N : Nat} (h : w1.ownsRow B 4 1 (.slice (some ⟨g, 0, none⟩) N N) N (madeCells #[.bool false] N).toList) : Pe B w1 g N (fun _ => false) := by
 rw [toList_madeCells_one] at h
 rcases h.2 with ⟨hv, _⟩ | ⟨g', cap', cur, hv, hb, hg, h1, h2, h3, h4⟩
 · cases hv
 · cases hv
   refine ⟨hb, cur, hg, by omega, fun j hj => ?_⟩
   rw [List.take_of_length_le (by simp; omega)] at h4
   have : cur.toList[j]? = some (.bool false) := by rw [h4]; simp [hj]
   simpa using this
theorem A6 {W W' : World} {B n sz : Nat} {e : TypeId} {v : Value} {xs : List Value} (h : W.ownsRow B e sz v n xs) (d : Below W.heap.size W W') : W'.ownsRow B e sz v n xs := A9 h (Ab.ofBelow (R := fun _ => False) d) (fun _ _ => id)
theorem Ac {W : World} {B C : Nat} {e : TypeId} {sz : Nat} {v : Value} {n : Nat} {xs : List Value} (h : W.ownsRow B e sz v n xs) (hC : C ≤ B) : W.ownsRow C e sz v n xs :=
 ⟨h.1, h.2.imp id (fun ⟨g, cap, cur, h1, h2, h3, h4⟩ => ⟨g, cap, cur, h1, Nat.le_trans hC h2, h3, h4⟩)⟩
theorem A8 {W : World} {B n sz : Nat} {e : TypeId} {v : Value} {xs : List Value} (h : W.ownsRow B e sz v n xs) : ∃ b c, v = .slice b n c := by
 rcases h.2 with ⟨hv, hn⟩ | ⟨g, cap, cur, hv, _⟩
 · exact ⟨none, 0, by rw [hv, hn]⟩
 · exact ⟨_, cap, hv⟩
theorem Dc {W : World} {x : Aa} {t : TypeId} {p : Nat} (z : W.heap[p]? = some (.cells #[.int .i64 x.1, .int .i64 x.2.1, .int .i64 x.2.2] t (0, 0))) : ∀ (j : Nat) (u : Value), (Ae x)[j]? = some u → W.cell? ((⟨p, 0, none⟩ : Addr).add j) = some u := fun j u hu => by
 rw [Addr.add_lit]
 match j, hu with
 | 0, hu => exact A1 z (by simpa [Ae] using hu)
 | 1, hu => exact A1 z (by simpa [Ae] using hu)
 | 2, hu => exact A1 z (by simpa [Ae] using hu)
 | (j + 3), hu => simp [Ae] at hu
theorem BX {ops : Array Oper} {rest : List Oper} {o : Oper} {a : Act} {Q : Exit → Act → World → Prop} {w : World} (hgd : o.guard = none) (s x : Operand)
 (ho : o.op = .call { callee := .builtin .append, args := #[s, x], argTypes := #[23, 23] }) (B : Nat) (v : Value) (X : List Aa) (hs : a.eval s = v) (hown : w.ownsRow B 50 3 v X.length (X.flatMap Ae)) (p : Nat) (y : Aa) (hx : a.eval x = .slice (some ⟨p, 0, none⟩) 1 1) (hp : w.heap[p]? = some (.cells #[.int .i64 y.1, .int .i64 y.2.1, .int .i64 y.2.2] 50 (0, 0))) (hl : X.length ≤ 16777216) (w0 : World) (D : Below B w0 w) (hB : B ≤ w0.heap.size)
 (h : ∀ v' w', Hid (w'.ownsRow B 50 3 v' (X ++ [y]).length ((X ++ [y]).flatMap Ae)) → Hid (Below B w0 w') → wpList prog ops Q rest (a.put o.dst v') w') : wpList prog ops Q (o :: rest) a w := by
 obtain ⟨i5, hi5, hz50, hz51, hz52⟩ := AA DQ
 have hs0 := D.size
 refine wpList_append_own_at _ hgd s x 23 ho B 50 i5 _ 3 24 underlying23 hi5 hz50 hz51 hz52 rfl (by omega) v X.length (X.flatMap Ae) hs hown ⟨p, 0, none⟩ 1 1 (Ae y) hx rfl (Dc hp) (by simp [Ae, Value.oneCell']) (by unfold maxLen; omega) (by omega) (by omega) ?_
 intro v2 w2 h2 hgr _ _
 have hb := hown.lt
 exact h v2 w2 (A0 (by rw [List.flatMap_append, List.length_append]; simpa using h2)) (A0 (D.grown hgr (by omega) (fun k hk => (hb k hk).1)))
theorem Iv (w : World) (o1 o2 o3 o4 : Obj) : Below w.heap.size w ((((w.alloc o1).alloc o2).alloc o3).alloc o4) ∧ ((((w.alloc o1).alloc o2).alloc o3).alloc o4).heap[w.heap.size]? = some o1 ∧ ((((w.alloc o1).alloc o2).alloc o3).alloc o4).heap[w.heap.size + 1]? = some o2 ∧ ((((w.alloc o1).alloc o2).alloc o3).alloc o4).heap[w.heap.size + 1 + 1]? = some o3 ∧ ((((w.alloc o1).alloc o2).alloc o3).alloc o4).heap[w.heap.size + 1 + 1 + 1]? = some o4 := by
 refine ⟨((((Below.refl _ _).alloc (Nat.le_refl _) _).alloc (by simp) _).alloc (by simp <;> omega) _).alloc (by simp <;> omega) _, ?_, ?_, ?_, ?_⟩
 · exact (Below.heap_alloc _ _ _ (by simp <;> omega)).trans ((Below.heap_alloc _ _ _ (by simp <;> omega)).trans ((Below.heap_alloc _ _ _ (by simp)).trans (World.alloc_heap_new _ _)))
 · have := World.alloc_heap_new (w.alloc o1) o2
   rw [World.size_alloc] at this
   exact (Below.heap_alloc _ _ _ (by simp <;> omega)).trans ((Below.heap_alloc _ _ _ (by simp)).trans this)
 · have := World.alloc_heap_new ((w.alloc o1).alloc o2) o3
   rw [World.size_alloc, World.size_alloc] at this
   exact (Below.heap_alloc _ _ _ (by simp)).trans this
 · have := World.alloc_heap_new (((w.alloc o1).alloc o2).alloc o3) o4
   rw [World.size_alloc, World.size_alloc, World.size_alloc] at this
   exact this
end Go.Proofs.YtchoopnjckcohaaGreat
namespace Go.Proofs.YtchoopnjckcohaaGreat
open Tryz
open Go.RowKit Go.Maps
def Fc (l : List Aa) : Prop := l.Pairwise fun a b => C4 a b = true
theorem Mi (x : Aa) : C4 x x = false := Pm.irrefl x
theorem Lo {x y : Aa} (h : C4 x y = true) (k : C4 y x = true) : False := by rw [Ew] at h k; omega
theorem II : ∀ (A B : List Aa), Fc A → Fc B → (∀ x, x ∈ A ↔ x ∈ B) → A = B
 | [], [], _, _, _ => rfl
 | [], b :: B, _, _, h => absurd ((h b).2 (by simp)) (by simp)
 | a :: A, [], _, _, h => absurd ((h a).1 (by simp)) (by simp)
 | a :: A, b :: B, hA, hB, h => by
  unfold Fc at hA hB
  rw [List.pairwise_cons] at hA hB
  have e : a = b := by
   rcases List.mem_cons.1 ((h a).1 (by simp)) with q | q
   · exact q
   · rcases List.mem_cons.1 ((h b).2 (by simp)) with r | r
     · exact r.symm
     · exact (Lo (hB.1 a q) (hA.1 b r)).elim
  subst e
  congr 1
  refine II A B hA.2 hB.2 fun x => ⟨fun q => ?_, fun q => ?_⟩
  · rcases List.mem_cons.1 ((h x).1 (by simp [q])) with r | r
    · subst r; have := hA.1 x q; rw [Mi] at this; cases this
    · exact r
  · rcases List.mem_cons.1 ((h x).2 (by simp [q])) with r | r
    · subst r; have := hB.1 x q; rw [Mi] at this; cases this
    · exact r
theorem Ll {α : Type} [Inhabited α] [DecidableEq α] {zs : List α} {x : α} (h : x ∈ Lib.compact zs) : x ∈ zs := by
 unfold Lib.compact Lib.compactUpTo at h
 obtain ⟨j, hj, rfl⟩ := List.mem_map.1 h
 have hj' := List.mem_range.1 (List.mem_filter.1 hj).1
 rw [getElem!_pos _ j (by simpa using hj')]
 simp
theorem Je {α : Type} [Inhabited α] [DecidableEq α] {zs : List α} : ∀ (j : Nat) (h : j < zs.length), zs[j] ∈ Lib.compact zs
 | 0, h => by
  unfold Lib.compact Lib.compactUpTo
  refine List.mem_map.2 ⟨0, List.mem_filter.2 ⟨List.mem_range.2 h, by simp [Lib.keeps]⟩, ?_⟩
  simp [h]
 | j + 1, h => by
  by_cases e : zs[j + 1] = zs[j]
  · rw [e]; exact Je j (by omega)
  · unfold Lib.compact Lib.compactUpTo
    refine List.mem_map.2 ⟨j + 1, List.mem_filter.2 ⟨List.mem_range.2 h, ?_⟩, ?_⟩
    · unfold Lib.keeps
      rw [decide_eq_true_eq]
      right
      rw [getElem!_pos _ (j + 1) (by simpa using h), getElem!_pos _ (j + 1 - 1) (by simp; omega)]
      simpa using e
    · simp [h]
theorem NZ {zs : List Aa} (hs : zs.Pairwise fun a b => C4 b a = false) : Fc (Lib.compact zs) := by
 have key : ∀ m, m ≤ zs.length → (Lib.compactUpTo zs.toArray m).Pairwise (fun a b => C4 a b = true) ∧ (∀ x ∈ Lib.compactUpTo zs.toArray m, ∃ j, j < m ∧ ∃ h : j < zs.length, x = zs[j]) := by
  intro m
  induction m with
  | zero => intro _; exact ⟨by simp [Lib.compactUpTo], fun x hx => by simp [Lib.compactUpTo] at hx⟩
  | succ m ih =>
   intro hm
   obtain ⟨k1, k2⟩ := ih (by omega)
   rw [Lib.compactUpTo_succ]
   by_cases hk : Lib.keeps zs.toArray m = true
   · rw [if_pos hk]
     have hm' : m < zs.length := by omega
     have em : zs.toArray[m]! = zs[m] := by simp [hm']
     refine ⟨?_, fun x hx => ?_⟩
     · rw [List.pairwise_append]
       refine ⟨k1, by simp, fun x hx y hy => ?_⟩
       rw [List.mem_singleton.1 hy, em]
       obtain ⟨j, hj, hjl, rfl⟩ := k2 x hx
       unfold Lib.keeps at hk
       rw [decide_eq_true_eq] at hk
       have hm0 : m ≠ 0 := by omega
       have hk2 := hk.resolve_left hm0
       have e1 : zs.toArray[m - 1]! = zs[m - 1] := by simp [show m - 1 < zs.length by omega]
       rw [em, e1] at hk2
       have l1 : C4 zs[m] zs[m - 1] = false := (List.pairwise_iff_getElem.1 hs) (m - 1) m (by omega) hm' (by omega)
       have l3 : C4 zs[m - 1] zs[m] = true := by
        cases q : C4 zs[m - 1] zs[m]
        · exact absurd (Oe _ _ l1 q) hk2
        · rfl
       rcases Nat.lt_or_ge j (m - 1) with q | q
       · have l2 : C4 zs[m - 1] zs[j] = false := (List.pairwise_iff_getElem.1 hs) j (m - 1) hjl (by omega) q
         rw [Ew] at l3 ⊢
         rw [Er] at l2
         omega
       · have : j = m - 1 := by omega
         subst this; exact l3
     · rcases List.mem_append.1 hx with hx | hx
       · obtain ⟨j, hj, q⟩ := k2 x hx
         exact ⟨j, by omega, q⟩
       · rw [List.mem_singleton.1 hx]; exact ⟨m, by omega, hm', em⟩
   · rw [if_neg hk, List.append_nil]
     exact ⟨k1, fun x hx => by obtain ⟨j, hj, q⟩ := k2 x hx; exact ⟨j, by omega, q⟩⟩
 exact (key zs.length (Nat.le_refl _)).1
theorem Lc (L : List Aa) : (Cm L).Pairwise fun a b => C4 b a = false := by
 have hp : (Cm L).Pairwise fun a b => (!C4 b a) = true := List.pairwise_mergeSort (le := fun x y => !C4 y x) (fun a b c h1 h2 => by
  simp only [Bool.not_eq_true', Er] at *
  omega) (fun a b => by
  cases h1 : C4 b a
  · simp
  · cases h2 : C4 a b
    · simp
    · exact (Lo h1 h2).elim) L
 exact hp.imp fun q => by simpa using q
theorem AZ (L : List Aa) : Fc (A7 L) := NZ (Lc L)
theorem AY (L : List Aa) (x : Aa) : x ∈ A7 L ↔ x ∈ L := by
 constructor
 · intro h
   have := Ll h
   unfold Cm at this
   exact List.mem_mergeSort.1 this
 · intro h
   have h' : x ∈ Cm L := by unfold Cm; exact List.mem_mergeSort.2 h
   obtain ⟨j, hj, rfl⟩ := List.getElem_of_mem h'
   exact Je j hj
theorem By (L : List Aa) : (A7 L).length ≤ L.length := Nat.le_trans (BI _) (Nat.le_of_eq (CG L))
theorem BN (L : List Int) (x : Int) : x ∈ A5 L ↔ x ∈ L := by
 constructor
 · intro h
   have := Ll h
   unfold BJ at this
   exact List.mem_mergeSort.1 this
 · intro h
   have h' : x ∈ BJ L := by unfold BJ; exact List.mem_mergeSort.2 h
   obtain ⟨j, hj, rfl⟩ := List.getElem_of_mem h'
   exact Je j hj
theorem B9 (L : List Int) : (A5 L).length ≤ L.length := Nat.le_trans (BI _) (Nat.le_of_eq (Cd L))
theorem Gw {α : Type} (P : α → Bool) : ∀ (L : List α), (L.Pairwise fun a b => P b = true → P a = true) → ∀ (i : Nat) (h : i < L.length), (P L[i] = true ↔ i < (L.filter P).length)
 | [], _, i, h => absurd h (Nat.not_lt_zero i)
 | a :: L, hp, i, h => by
  rw [List.pairwise_cons] at hp
  cases ha : P a
  · have hn : ∀ b ∈ L, P b = false := fun b hb => by
     cases hb2 : P b
     · rfl
     · rw [hp.1 b hb hb2] at ha; cases ha
    have hf : (a :: L).filter P = [] := by
     rw [List.filter_eq_nil_iff]
     intro b hb
     rcases List.mem_cons.1 hb with rfl | hb
     · simp [ha]
     · simp [hn b hb]
    rw [hf]
    cases i with
    | zero => simp [ha]
    | succ i =>
     have h2 : i < L.length := by simpa using h
     simp [hn L[i] (List.getElem_mem h2)]
  · rw [List.filter_cons_of_pos ha, List.length_cons]
    cases i with
    | zero => simp [ha]
    | succ i =>
     have h2 : i < L.length := by simpa using h
     have := Gw P L hp.2 i h2
     rw [List.getElem_cons_succ, this]
     omega
def Ar (Es : List Aa) (p : Nat) (y : Int) : List Aa := Es.filter fun e => decide (e.1 = (p : Int) ∧ e.2.1 = y)
theorem Cg {Es : List Aa} {p : Nat} {y : Int} {x : Aa} : x ∈ Ar Es p y ↔ x ∈ Es ∧ x.1 = (p : Int) ∧ x.2.1 = y := by
 unfold Ar
 rw [List.mem_filter, decide_eq_true_eq]
theorem Ic {Es : List Aa} (hS : Fc Es) (p : Nat) (y : Int) : Fc (Ar Es p y) := List.Pairwise.filter _ hS
def En (Es : List Aa) (lo hi : Nat) : List Aa := (Es.drop lo).take (hi - lo)
theorem Eo {Es : List Aa} {lo hi : Nat} (h : hi ≤ Es.length) : (En Es lo hi).length = hi - lo := by
 unfold En; rw [List.length_take, List.length_drop]; omega
theorem FT {Es : List Aa} {lo hi : Nat} (t : Nat) (h : t < (En Es lo hi).length) : ∃ h2 : lo + t < Es.length, (En Es lo hi)[t] = Es[lo + t] := by
 unfold En at h ⊢
 rw [List.length_take, List.length_drop] at h
 refine ⟨by omega, ?_⟩
 rw [List.getElem_take, List.getElem_drop]
theorem MW {Es : List Aa} (hS : Fc Es) (lo hi : Nat) : Fc (En Es lo hi) := List.Pairwise.sublist ((List.take_sublist _ _).trans (List.drop_sublist _ _)) hS
section
variable {P : Program} {md : Region.Mode} {ops : Array Oper} {C0 C1 : World → Prop} {al : Nat}
end
def tw (w : World) (b : Obj) (d : Nat) (q : Bool) : World := if q then (w.drewN d).alloc b else w.drewN d
structure TB where
 d : Nat
 q : Bool
 deriving Inhabited
end Go.Proofs.YtchoopnjckcohaaGreat
namespace Go.Proofs.YtchoopnjckcohaaGreat
open Tryz
open Go.RowKit Go.Maps
attribute [local go_sem] Oper.semAt_some
theorem MQ (w : World) (A Z : Array Value) (t u : TypeId) : Below w.heap.size w ((w.alloc (.cells A t)).alloc (.cells Z u)) ∧ ((w.alloc (.cells A t)).alloc (.cells Z u)).heap[w.heap.size]? = some (.cells A t (0, 0)) ∧ ((w.alloc (.cells A t)).alloc (.cells Z u)).heap[w.heap.size + 1]? = some (.cells Z u (0, 0)) ∧ ((w.alloc (.cells A t)).alloc (.cells Z u)).heap.size = w.heap.size + 2 := by
 refine ⟨((Below.refl _ _).alloc (Nat.le_refl _) _).alloc (by simp) _, (Below.heap_alloc _ _ _ (by simp)).trans (World.alloc_heap_new _ _), ?_, by simp⟩
 have := World.alloc_heap_new (w.alloc (.cells A t)) (.cells Z u)
 simpa using this
theorem Pw (w : World) (b : Nat) (v0 v1 v2 v3 v4 v5 u0 u1 u2 u3 u4 u5 : Value) (t : TypeId) (h : w.heap[b]? = some (.cells #[v0, v1, v2, v3, v4, v5] t (0, 0))) :
 ((((((w.setCell ⟨b, 0, none⟩ u0).setCell ⟨b, 1, none⟩ u1).setCell ⟨b, 2, none⟩ u2).setCell ⟨b, 3, none⟩ u3).setCell ⟨b, 4, none⟩ u4).setCell ⟨b, 5, none⟩ u5).heap[b]? = some (.cells #[u0, u1, u2, u3, u4, u5] t (0, 0)) :=
 heap_setCell_same _ _ 5 _ t _ (heap_setCell_same _ _ 4 _ t _ (heap_setCell_same _ _ 3 _ t _ (heap_setCell_same _ _ 2 _ t _ (heap_setCell_same _ _ 1 _ t _ (heap_setCell_same _ _ 0 _ t _ h)))))
theorem NG (w : World) (b : Nat) (u0 u1 u2 u3 u4 u5 : Value) : Ab w ((((((w.setCell ⟨b, 0, none⟩ u0).setCell ⟨b, 1, none⟩ u1).setCell ⟨b, 2, none⟩ u2).setCell ⟨b, 3, none⟩ u3).setCell ⟨b, 4, none⟩ u4).setCell ⟨b, 5, none⟩ u5) (fun k => k = b) :=
 (AF w b u0 u1 u2 u3 u4).trans (Ah _ _ 5 _)
def BV (L : List Aa) (c : Nat) : Nat := (L.filter fun e => decide (e.1 + 1 = (c : Int))).length
def AN (L : List Aa) (c : Nat) : Nat := (L.filter fun e => decide (e.1 < (c : Int))).length
theorem IU (L : List Aa) (c : Nat) : BV L c ≤ L.length := List.length_filter_le _ _
theorem CF (L : List Aa) (c : Nat) : AN L c ≤ L.length := List.length_filter_le _ _
theorem Jf (L : List Aa) (x : Aa) (c : Nat) : BV (L ++ [x]) c = BV L c + if x.1 + 1 = (c : Int) then 1 else 0 := by
 unfold BV
 rw [List.filter_append, List.length_append]
 by_cases h : x.1 + 1 = (c : Int) <;> simp [h]
theorem DM (L : List Aa) (c : Nat) : AN L (c + 1) = BV L (c + 1) + AN L c := by
 unfold AN BV
 induction L with
 | nil => rfl
 | cons x L ih =>
  simp only [List.filter_cons]
  rcases Int.lt_trichotomy x.1 (c : Int) with h | h | h
  · rw [if_pos (by simp; omega), if_neg (by simp; omega), if_pos (by simpa using h), List.length_cons, List.length_cons, ih]; omega
  · rw [if_pos (by simp; omega), if_pos (by simp; omega), if_neg (by simp; omega), List.length_cons, List.length_cons, ih]; omega
  · rw [if_neg (by simp; omega), if_neg (by simp; omega), if_neg (by simp; omega), ih]
theorem Jm (L : List Aa) (h : ∀ e ∈ L, 0 ≤ e.1) : AN L 0 = 0 ∧ BV L 0 = 0 := by
 unfold AN BV
 constructor <;> rw [List.length_eq_zero_iff, List.filter_eq_nil_iff] <;> intro e he <;> have := h e he <;> simp <;> omega
def Dk (L : List Aa) (p c : Nat) : Value := .int .i64 ((if c ≤ p then AN L c else BV L c : Nat) : Int)
open Go.Shelf
theorem Gm {w w' : World} {R : Nat → Prop} (h : Ab w w' R) : Ab w w'.drew R := ⟨h.os, h.tape, h.output, h.size, h.block⟩
theorem Do {W : World} {B b cap n : Nat} {e : TypeId} {sz : Nat} {xs : List Value} (h : W.ownsRow B e sz (.slice (some ⟨b, 0, none⟩) n cap) n xs) : n ≤ cap := by
 rcases h.2 with ⟨hv, _⟩ | ⟨g', cap', cur, hv, _, _, hn, _⟩
 · cases hv
 · cases hv; exact hn
theorem JN {W : World} {B g c n : Nat} {X L : List Int} (h : W.ownsRow B 3 1 (.slice (some ⟨g, 0, none⟩) n c) n (X.map (Value.int .i64))) (hp : L <+: X) : BB W (some ⟨g, 0, none⟩) L := fun j hj => by
 obtain ⟨t, rfl⟩ := hp
 refine ⟨g, 0, rfl, ?_⟩
 have := h.cells (g := g) rfl j (.int .i64 L[j]) (by rw [List.getElem?_map, List.getElem?_append_left hj, List.getElem?_eq_getElem hj]; rfl)
 rw [Addr.add_lit] at this
 simpa using this
theorem M8 (L : List Int) : ∀ u ∈ L.map (Value.int .i64), u.oneCell' = true := by
 intro u hu
 obtain ⟨k, _, rfl⟩ := List.mem_map.1 hu
 rfl
theorem Nw {W : World} {ad : Addr} {L : List Int} (h : BB W (some ad) L) : ∀ (j : Nat) (u : Value), (L.map (Value.int .i64))[j]? = some u → W.cell? (ad.add j) = some u := fun j u hu => by
 have hj : j < L.length := by have := (List.getElem?_eq_some_iff.1 hu).1; simpa using this
 obtain ⟨g, o, e, q⟩ := h j hj
 cases e
 rw [Addr.add_lit]
 rw [show (L.map (Value.int .i64))[j]? = some (.int .i64 L[j]) by simp [hj]] at hu
 rw [← hu]
 exact q
theorem Eu (w : World) (ao bo : Option Addr) (A B : List Int) (c d : Nat) (hA : Hid (BB w ao A)) (hB : Hid (BB w bo B)) (hl : A.length ≤ 4194304) (hk : B.length ≤ 4194304) :
 Calls prog 26 #[.slice ao A.length c, .slice bo B.length d] w fun e w' => e = .returned (.bool (decide (A = B))) ∧ Below w.heap.size w w' := by
 go_enter func26, ntmps26
 by_cases hlen : A.length = B.length
 · have hl2 : ((A.length : Int) != (B.length : Int)) = false := by simp [hlen]
   go_wp2
   go_loopw [5] (fun iv wr => ∃ i : Nat, i ≤ A.length ∧ iv = .int .i64 i ∧ Hid (∀ t (h : t < A.length), t < i → A[t] = B[t]'(by omega)) ∧ Hid (Below w.heap.size w wr)) (fun iv _ => A.length - (intOf iv).toNat)
   case atStart => exact ⟨0, Nat.zero_le _, rfl, A0 (fun t _ h => absurd h (Nat.not_lt_zero t)), A0 (Below.refl _ _)⟩
   case round =>
    obtain ⟨i, hi, rfl, HY, HW⟩ := hrel
    by_cases hlt : i < A.length
    · have l0 : (i : Int) < (A.length : Int) := by omega
      have l1 : (0 : Int) ≤ (i : Int) := by omega
      have hltB : i < B.length := by omega
      have l2 : (i : Int) < (B.length : Int) := by omega
      obtain ⟨g, o, hao, q⟩ := (hA.out.on HW.out) i hlt
      obtain ⟨g', o', hbo, q'⟩ := (hB.out.on HW.out) i hltB
      subst hao hbo
      by_cases he : A[i] = B[i]
      · have HN : Hid (∀ t (h : t < A.length), t < i + 1 → A[t] = B[t]'(by omega)) := A0 (fun t ht h2 => by
         rcases Nat.lt_or_ge t i with h3 | h3
         · exact HY.out t ht h3
         · obtain rfl : t = i := by omega
           exact he)
        rw [← he] at q'
        generalize A[i] = x at q q' he
        have hb : (x != x) = false := by simp
        clear he
        go_wp2
        refine Al 8 #[true, true, true, true, true, true, true, true, false] (by kernel_rfl) (by kernel_rfl) ?_
        simp only [List.take_succ_cons, List.take_zero, List.drop_succ_cons, List.drop_zero]
        repeat (go_big_quiet_step (fail))
        refine wpQuiet_nil ?_
        intro wz hzz
        obtain ⟨nq, rfl⟩ := hzz
        go_wp2_with fail
        go_roundw
        case rel => exact ⟨i + 1, by omega, by go_num, HN, A0 (Au HW.out nq)⟩
        case measure => simp [intOf]; omega
      · have hd : Hid (decide (A = B) = false) := A0 (by
         rw [decide_eq_false_iff_not]
         intro e
         subst e
         exact he rfl)
        have hb : (A[i] != B[i]) = true := by simpa using he
        generalize A[i] = x at q he hb
        generalize B[i] = y at q' he hb
        go_wp2
        refine Al 8 #[true, true, true, true, true, true, true, true, false] (by kernel_rfl) (by kernel_rfl) ?_
        simp only [List.take_succ_cons, List.take_zero, List.drop_succ_cons, List.drop_zero]
        repeat (go_big_quiet_step (fail))
        refine wpQuiet_nil ?_
        intro wz hzz
        obtain ⟨nq, rfl⟩ := hzz
        go_wp2_with fail
        refine bodyPost_ret (results_tmp rfl _ _ _) rfl ?_
        exact ⟨by rw [hd.out]; rfl, Au HW.out nq⟩
    · have l0 : ¬ (i : Int) < (A.length : Int) := by omega
      have hd : Hid (decide (A = B) = true) := A0 (by
       rw [decide_eq_true_eq]
       exact List.ext_getElem hlen fun t h1 h2 => HY.out t h1 (by omega))
      go_wp2
      refine bodyPost_ret (results_tmp rfl _ _ _) rfl ?_
      exact ⟨by rw [hd.out]; rfl, HW.out⟩
 · have hl2 : ((A.length : Int) != (B.length : Int)) = true := by simp; omega
   have hd : Hid (decide (A = B) = false) := A0 (by
    rw [decide_eq_false_iff_not]
    intro e
    exact hlen (by rw [e]))
   go_wp2
   refine bodyPost_ret (results_tmp rfl _ _ _) rfl ?_
   exact ⟨by rw [hd.out]; rfl, Below.refl _ _⟩
theorem Im (x : Int) : A5 [x] = [x] := by
 unfold A5 BJ
 rw [List.mergeSort_singleton]
 apply Lib.compact_all
 intro j hj
 obtain rfl : j = 0 := by simpa using hj
 simp [Lib.keeps]
theorem EZ (w : World) (o : Obj) : Below w.heap.size w (w.alloc o) := (Below.refl _ _).alloc (Nat.le_refl _) _
end Go.Proofs.YtchoopnjckcohaaGreat
namespace Go.Proofs.YtchoopnjckcohaaGreat
open Tryz
open Go.RowKit Go.Maps Go.Shelf
theorem Od {zs : List Int} (hs : zs.Pairwise (· ≤ ·)) : (Lib.compact zs).Pairwise (· < ·) := by
 have key : ∀ m, m ≤ zs.length → (Lib.compactUpTo zs.toArray m).Pairwise (· < ·) ∧ (∀ x ∈ Lib.compactUpTo zs.toArray m, ∃ j, j < m ∧ ∃ h : j < zs.length, x = zs[j]) := by
  intro m
  induction m with
  | zero => intro _; exact ⟨by simp [Lib.compactUpTo], fun x hx => by simp [Lib.compactUpTo] at hx⟩
  | succ m ih =>
   intro hm
   obtain ⟨k1, k2⟩ := ih (by omega)
   rw [Lib.compactUpTo_succ]
   by_cases hk : Lib.keeps zs.toArray m = true
   · rw [if_pos hk]
     have hm' : m < zs.length := by omega
     have em : zs.toArray[m]! = zs[m] := by simp [hm']
     refine ⟨?_, fun x hx => ?_⟩
     · rw [List.pairwise_append]
       refine ⟨k1, by simp, fun x hx y hy => ?_⟩
       rw [List.mem_singleton.1 hy, em]
       obtain ⟨j, hj, hjl, rfl⟩ := k2 x hx
       unfold Lib.keeps at hk
       rw [decide_eq_true_eq] at hk
       have hm0 : m ≠ 0 := by omega
       have hk2 := hk.resolve_left hm0
       have e1 : zs.toArray[m - 1]! = zs[m - 1] := by simp [show m - 1 < zs.length by omega]
       rw [em, e1] at hk2
       have l1 : zs[m - 1] ≤ zs[m] := (List.pairwise_iff_getElem.1 hs) (m - 1) m (by omega) hm' (by omega)
       rcases Nat.lt_or_ge j (m - 1) with q | q
       · have l2 : zs[j] ≤ zs[m - 1] := (List.pairwise_iff_getElem.1 hs) j (m - 1) hjl (by omega) q
         omega
       · have : j = m - 1 := by omega
         subst this; omega
     · rcases List.mem_append.1 hx with hx | hx
       · obtain ⟨j, hj, q⟩ := k2 x hx
         exact ⟨j, by omega, q⟩
       · rw [List.mem_singleton.1 hx]; exact ⟨m, by omega, hm', em⟩
   · rw [if_neg hk, List.append_nil]
     exact ⟨k1, fun x hx => by obtain ⟨j, hj, q⟩ := k2 x hx; exact ⟨j, by omega, q⟩⟩
 exact (key zs.length (Nat.le_refl _)).1
theorem Mu (L : List Int) : (BJ L).Pairwise (· ≤ ·) := by
 have hp : (BJ L).Pairwise fun a b => decide (a ≤ b) = true := List.pairwise_mergeSort (le := fun x y : Int => decide (x ≤ y)) (fun a b c h1 h2 => by
  simp only [decide_eq_true_eq] at *
  omega) (fun a b => by
  simp only [Bool.or_eq_true, decide_eq_true_eq]
  omega) L
 exact hp.imp fun q => by simpa using q
theorem Ba (L : List Int) : (A5 L).Pairwise (· < ·) := Od (Mu L)
theorem Jc : ∀ (A B : List Int), A.Pairwise (· < ·) → B.Pairwise (· < ·) → (∀ x, x ∈ A ↔ x ∈ B) → A = B
 | [], [], _, _, _ => rfl
 | [], b :: B, _, _, h => absurd ((h b).2 (by simp)) (by simp)
 | a :: A, [], _, _, h => absurd ((h a).1 (by simp)) (by simp)
 | a :: A, b :: B, hA, hB, h => by
  rw [List.pairwise_cons] at hA hB
  have e : a = b := by
   rcases List.mem_cons.1 ((h a).1 (by simp)) with q | q
   · exact q
   · rcases List.mem_cons.1 ((h b).2 (by simp)) with r | r
     · exact r.symm
     · have := hB.1 a q; have := hA.1 b r; omega
  subst e
  congr 1
  refine Jc A B hA.2 hB.2 fun x => ⟨fun q => ?_, fun q => ?_⟩
  · rcases List.mem_cons.1 ((h x).1 (by simp [q])) with r | r
    · subst r; have := hA.1 x q; omega
    · exact r
  · rcases List.mem_cons.1 ((h x).2 (by simp [q])) with r | r
    · subst r; have := hB.1 x q; omega
    · exact r
theorem NS {n m : Int} {St Fi : List Int} {Ed : List Aa} (h1 : 0 ≤ n ∧ n ≤ 4096) (h2 : 0 ≤ m ∧ m ≤ 128) (h3 : Ed.length ≤ 65536) (h4 : ∀ x ∈ St, 0 ≤ x ∧ x < n) (h5 : ∀ x ∈ Fi, 0 ≤ x ∧ x < n) (h6 : ∀ e ∈ Ed, (0 ≤ e.1 ∧ e.1 < n) ∧ (0 ≤ e.2.1 ∧ e.2.1 < m) ∧ 0 ≤ e.2.2 ∧ e.2.2 < n) : AC n m St Fi Ed = true := by
 unfold AC
 simp only [Bool.and_eq_true, List.all_eq_true, decide_eq_true_eq]
 refine ⟨⟨⟨⟨⟨B3.2 (by omega), B3.2 (by omega)⟩, h3⟩, fun x hx => B3.2 (h4 x hx)⟩, fun x hx => B3.2 (h5 x hx)⟩, fun e he => ?_⟩
 obtain ⟨q1, q2, q3⟩ := h6 e he
 unfold Cy
 rw [B3.2 q1, B3.2 q2, B3.2 q3]
 rfl
theorem Bf {n m : Int} {St Fi : List Int} {Ed : List Aa} (h : AC n m St Fi Ed = true) : (∀ x ∈ St, 0 ≤ x ∧ x < n) ∧ (∀ x ∈ Fi, 0 ≤ x ∧ x < n) := by
 obtain ⟨_, _, _, h4, h5, _⟩ := Ag h
 exact ⟨fun x hx => B3.1 (List.all_eq_true.1 h4 x hx), fun x hx => B3.1 (List.all_eq_true.1 h5 x hx)⟩
open Classical in
open Classical in
theorem AD {n m : Int} {St Fi : List Int} {Ed : List Aa} (h : AC n m St Fi Ed = true) : AC n m (A5 St) (A5 Fi) (A7 Ed) = true := by
 obtain ⟨h1, h2, h3, _, _, h6⟩ := Ag h
 obtain ⟨h4, h5⟩ := Bf h
 exact NS h1 h2 (Nat.le_trans (By Ed) h3) (fun x hx => h4 x ((BN St x).1 hx)) (fun x hx => h5 x ((BN Fi x).1 hx)) (fun e he => h6 e ((AY Ed e).1 he))
end Go.Proofs.YtchoopnjckcohaaGreat
namespace Go.Proofs.YtchoopnjckcohaaGreat
open Tryz
open Go.RowKit Go.Maps Go.Shelf
attribute [local go_sem] Oper.semAt_some
def Bh {α : Type} (f : α → α) (L : List α) (i : Nat) : List α := (L.take i).map f ++ L.drop i
theorem Ab.cellK {w w' : World} {R : Nat → Prop} (h : Ab w w' R) {b : Nat} {o : Obj} (hb : w.heap[b]? = some o) (hn : ¬ R b) : w'.heap[b]? = some o := (h.block b (Array.getElem?_eq_some_iff.1 hb).1 hn).trans hb
section
variable {W0 W : World} {B : Nat} {na : Int} {h1 c1 h2 c2 h3 c3 : Nat} {S F : List Int} {E : List Aa} {i j l : Nat}
end
section
variable {w W W' : World} {B : Nat} {v0 v1 v2 v3 v4 : Value} {bb : Array Value}
end
theorem Cx {α : Type} (f : α → α) (L : List α) (i : Nat) : (Bh f L i).length = L.length := by simp [Bh]; omega
theorem EQ {α : Type} (f : α → α) (L : List α) : Bh f L 0 = L := by simp [Bh]
theorem EP {α : Type} (f : α → α) (L : List α) : Bh f L L.length = L.map f := by simp [Bh]
theorem IE {α : Type} (f : α → α) (L : List α) (i : Nat) (h : i < L.length) : (Bh f L i)[i]? = some L[i] := by
 unfold Bh
 rw [List.getElem?_append_right (by simp; omega)]
 simp [List.length_take, Nat.min_eq_left (Nat.le_of_lt h)]
theorem Iy {α : Type} (f : α → α) (L : List α) (i : Nat) (h : i < L.length) : (Bh f L i).set i (f L[i]) = Bh f L (i + 1) := by
 unfold Bh
 have hl : ((L.take i).map f).length = i := by simp; omega
 rw [List.drop_eq_getElem_cons h, List.set_append_right _ _ (by omega), hl, Nat.sub_self, List.set_cons_zero, ← List.take_append_getElem h, List.map_append, List.append_assoc]
 rfl
theorem If {W : World} {B b n cap : Nat} {e : TypeId} {xs : List Value} (h : W.ownsRow B e 1 (.slice (some ⟨b, 0, none⟩) n cap) n xs) (j : Nat) (u : Value) :
 (W.setCell ⟨b, j, none⟩ u).ownsRow B e 1 (.slice (some ⟨b, 0, none⟩) n cap) n (xs.set j u) := by
 refine ⟨by rw [List.length_set]; exact h.1, ?_⟩
 rcases h.2 with ⟨z, _⟩ | ⟨g, cap', cur, e1, hb, hg, hn, hc, hs, ht⟩
 · cases z
 · cases e1
   refine .inr ⟨b, cap, _, rfl, hb, heap_setCell_same _ _ _ _ e _ hg, hn, hc, by simpa using hs, ?_⟩
   rw [← ht, Array.toList_setIfInBounds, List.take_set]
theorem Gy (X : List Aa) : (X.flatMap Ae).length = X.length * 3 := by
 induction X with
 | nil => rfl
 | cons x X ih => rw [List.flatMap_cons, List.length_append, ih, BC, List.length_cons]; omega
theorem CL (X : List Aa) (t : Nat) (h : t / 3 < X.length) : (X.flatMap Ae)[t]? = (Ae X[t / 3])[t % 3]? := by
 have := Da Ae 3 BC X (t / 3) (t % 3) h (by omega)
 rwa [show t / 3 * 3 + t % 3 = t by omega] at this
theorem J1 (X : List Aa) (t : Nat) (h : ¬ t / 3 < X.length) : (X.flatMap Ae)[t]? = none := List.getElem?_eq_none (by rw [Gy]; omega)
theorem HH {W : World} {B g c n : Nat} {e : TypeId} {sz : Nat} {xs : List Value} (h : W.ownsRow B e sz (.slice (some ⟨g, 0, none⟩) n c) n xs) (j : Nat) : W.frozen? ⟨g, j, none⟩ = false := by
 rcases h.2 with ⟨z, _⟩ | ⟨g', cap', cur, e1, hb, hg, hn, hc, hs, ht⟩
 · cases z
 · cases e1
   exact A4 hg
theorem BS {W : World} {B g c n : Nat} {e : TypeId} {sz : Nat} {xs : List Value} (h : W.ownsRow B e sz (.slice (some ⟨g, 0, none⟩) n c) n xs) {j : Nat} {u : Value} (hu : xs[j]? = some u) : W.cell? ⟨g, j, none⟩ = some u := by
 have := h.cells (g := g) rfl j u hu
 rw [Addr.add_lit] at this
 simpa using this
section
variable {W0 W : World} {B : Nat} {na : Int} {h1 c1 h2 c2 h3 c3 : Nat} {S F : List Int} {E : List Aa} {i j l : Nat}
end
section
variable {w W W' : World} {B : Nat} {v0 v1 v2 v3 v4 : Value} {bb : Array Value}
end
theorem OA {W : World} {B n : Nat} {v : Value} {X : List Int} (h : W.ownsRow B 3 1 v n (X.map (Value.int .i64))) : ∃ ao c, v = .slice ao X.length c ∧ BB W ao X := by
 have hn : n = X.length := by have := h.1; simpa using this.symm
 subst hn
 rcases h.2 with ⟨hv, h0⟩ | ⟨g, cap, cur, hv, _⟩
 · exact ⟨none, 0, by rw [hv, h0], fun j hj => by omega⟩
 · subst hv
   exact ⟨some ⟨g, 0, none⟩, cap, rfl, JN h (List.prefix_refl X)⟩
end Go.Proofs.YtchoopnjckcohaaGreat
namespace Go.Proofs.YtchoopnjckcohaaGreat
open Tryz
open Go.RowKit Go.Maps Go.Shelf
def Pr : Ef := fun x lo hi W => x = .pointer (some ⟨lo, 0, none⟩) ∧ lo < hi ∧ W.heap[lo]? = some (.cells #[.int .i64 0, .int .i64 0, .slice none 0 0, .slice none 0 0, .slice none 0 0] 25 (0, 0))
theorem Kc : B8 Pr := fun _ _ _ _ _ hs d ⟨e, l, z⟩ => ⟨e, l, (d.block _ (by omega)).trans z⟩
end Go.Proofs.YtchoopnjckcohaaGreat
namespace Go.Proofs.YtchoopnjckcohaaGreat
open Tryz
open Go.RowKit Go.Maps Go.Shelf
attribute [local go_sem] Oper.semAt_some
theorem AM {W : World} {B c : Nat} {b : Option Addr} {X : List Int} (h : W.ownsRow B 3 1 (.slice b X.length c) X.length (X.map (Value.int .i64))) : BB W b X := by
 obtain ⟨b', c', hv, hD⟩ := OA h
 cases hv
 exact hD
theorem Ap {W W' : World} {B n sz p : Nat} {e t : TypeId} {v : Value} {xs : List Value} {cs : Array Value} (h : W.ownsRow B e sz v n xs) (z : W.heap[p]? = some (.cells cs t (0, 0))) (ne : e ≠ t) (o : Ab W W' (fun k => k = p)) : W'.ownsRow B e sz v n xs := by
 refine ⟨h.1, ?_⟩
 rcases h.2 with h1 | ⟨g, cap, cur, hv, hb, hg, rest⟩
 · exact Or.inl h1
 · refine Or.inr ⟨g, cap, cur, hv, hb, o.cellK hg (fun e2 => ?_), rest⟩
   subst e2
   rw [z] at hg
   injection hg with hg
   injection hg with _ h2 _
   exact ne h2.symm
theorem EF {W : World} {v : Value} {t : TypeId} {p : Nat} (z : W.heap[p]? = some (.cells #[v] t (0, 0))) : ∀ (j : Nat) (u : Value), [v][j]? = some u → W.cell? ((⟨p, 0, none⟩ : Addr).add j) = some u := fun j u hu => by
 cases j with
 | zero =>
  obtain rfl : v = u := by simpa using hu
  rw [Addr.add_lit]
  exact A1 z rfl
 | succ j => simp at hu
theorem Bt {ops : Array Oper} {rest : List Oper} {o : Oper} {a : Act} {Q : Exit → Act → World → Prop} {w : World} (hgd : o.guard = none) (s x : Operand)
 (ho : o.op = .call { callee := .builtin .append, args := #[s, x], argTypes := #[22, 22] }) (B : Nat) (v : Value) (X : List Int) (hs : a.eval s = v) (hown : w.ownsRow B 3 1 v X.length (X.map (Value.int .i64))) (p : Nat) (y : Int) (hx : a.eval x = .slice (some ⟨p, 0, none⟩) 1 1) (hp : w.heap[p]? = some (.cells #[.int .i64 y] 3 (0, 0))) (hl : X.length ≤ 16777216) (w0 : World) (D : Below B w0 w) (hB : B ≤ w0.heap.size)
 (h : ∀ v' w', Hid (w'.ownsRow B 3 1 v' (X ++ [y]).length ((X ++ [y]).map (Value.int .i64))) → Hid (Below B w0 w') → wpList prog ops Q rest (a.put o.dst v') w') : wpList prog ops Q (o :: rest) a w := by
 obtain ⟨i3, hi3, hz30, hz31, hz32⟩ := AA Et
 have hs0 := D.size
 refine wpList_append_own_at _ hgd s x 22 ho B 3 i3 _ 1 8 underlying22 hi3 hz30 hz31 hz32 rfl (by omega) v X.length (X.map (Value.int .i64)) hs hown ⟨p, 0, none⟩ 1 1 [.int .i64 y] hx rfl (EF hp) (by simp [Value.oneCell']) (by unfold maxLen; omega) (by omega) (by omega) ?_
 intro v2 w2 h2 hgr _ _
 have hb := hown.lt
 exact h v2 w2 (A0 (by rw [List.map_append, List.length_append]; exact h2)) (A0 (D.grown hgr (by omega) (fun k hk => (hb k hk).1)))
def AW (n : Int) (s : Bool × List Int) (x : Int) : Bool × List Int :=
 let t : Bool × List Int := if s.1 = false ∧ n ≤ x then (true, s.2 ++ [n]) else s
 if x = n then t else (t.1, t.2 ++ [x])
def wS (n : Int) (L : List Int) : Bool × List Int := L.foldl (AW n) (false, [])
def F9 (L : List Int) (n : Int) : List Int := if (wS n L).1 then (wS n L).2 else (wS n L).2 ++ [n]
theorem N7 {n : Int} {L : List Int} {i : Nat} (h : i < L.length) : wS n (L.take (i + 1)) = AW n (wS n (L.take i)) L[i] := by
 unfold wS
 rw [List.take_succ_eq_append_getElem h, List.foldl_append]
 rfl
theorem K3 (n : Int) (s : Bool × List Int) (x : Int) : (AW n s x).2.length ≤ s.2.length + 2 := by
 unfold AW
 simp only
 split <;> split <;> simp <;> omega
theorem GM (n : Int) : ∀ (L : List Int) (s : Bool × List Int), (L.foldl (AW n) s).2.length ≤ s.2.length + 2 * L.length
 | [], s => by simp
 | x :: L, s => by
  have h1 := K3 n s x
  have h2 := GM n L (AW n s x)
  simp only [List.foldl_cons, List.length_cons]
  omega
theorem Li (n : Int) (L : List Int) (i : Nat) : (wS n (L.take i)).2.length ≤ 2 * L.length := by
 have h := GM n (L.take i) (false, [])
 have h2 : (L.take i).length ≤ L.length := by rw [List.length_take]; omega
 unfold wS
 simp only [List.length_nil] at h
 omega
theorem LA (w : World) (ao : Option Addr) (L : List Int) (cp : Nat) (n : Int) (hr : Hid (BB w ao L)) (hl : L.length ≤ 4194304) :
 Calls prog 80 #[.slice ao L.length cp, .int .i64 n] w fun e w' => ∃ b c, e = .returned (.slice b (F9 L n).length c) ∧ Hid (w'.ownsRow w.heap.size 3 1 (.slice b (F9 L n).length c) (F9 L n).length ((F9 L n).map (Value.int .i64))) ∧ Below w.heap.size w w' := by
 go_enter func80, ntmps80
 go_wp2
 go_loopw [5, 6, 7] (fun ov pv iv wr => ∃ i : Nat, i ≤ L.length ∧ pv = .bool (wS n (L.take i)).1 ∧ iv = .int .i64 i ∧ Hid (wr.ownsRow w.heap.size 3 1 ov (wS n (L.take i)).2.length ((wS n (L.take i)).2.map (Value.int .i64)) ∧ Below w.heap.size w wr)) (fun _ _ iv _ => L.length - (intOf iv).toNat)
 case atStart => exact ⟨0, Nat.zero_le _, rfl, rfl, A0 ⟨World.ownsRow_nil _ _ _ _, Below.refl _ _⟩⟩
 case round =>
  obtain ⟨i, hi, rfl, rfl, HY⟩ := hrel
  by_cases hlt : i < L.length
  · have i0 : (i : Int) < (L.length : Int) := by omega
    have i1 : (0 : Int) ≤ (i : Int) := by omega
    have iw : IntKind.i64.wrap ((i : Int) + 1) = (i : Int) + 1 := by rw [IntKind.wrap_i64]; omega
    have HLn : Hid ((wS n (L.take i)).2.length ≤ 8388608) := A0 (by have := Li n L i; omega)
    obtain ⟨g, o, hao, q0⟩ := hr.out i hlt
    subst hao
    have QC0 : Hid (∀ w2, Below w.heap.size w w2 → w2.cell? ⟨g, o + i, none⟩ = some (.int .i64 L[i])) := A0 (fun w2 d => (d.cell (p := ⟨g, o + i, none⟩) (World.block_lt_of_cell? w _ q0)).trans q0)
    have q := QC0.out wr HY.out.2
    clear q0
    have HS := A0 (N7 (n := n) hlt)
    generalize L[i] = x at q HS QC0
    generalize wS n (L.take i) = s at HY HS HLn ⊢
    obtain ⟨p, X⟩ := s
    simp only at HY HLn ⊢
    have NX : Hid (∀ (p2 : Bool) (X2 : List Int) (v2 : Value) (w2 : World), AW n (p, X) x = (p2, X2) → w2.ownsRow w.heap.size 3 1 v2 X2.length (X2.map (Value.int .i64)) → Below w.heap.size w w2 → ∃ j : Nat, j ≤ L.length ∧ Value.bool p2 = .bool (wS n (L.take j)).1 ∧ Value.int .i64 ((i : Int) + 1) = .int .i64 j ∧ Hid (w2.ownsRow w.heap.size 3 1 v2 (wS n (L.take j)).2.length ((wS n (L.take j)).2.map (Value.int .i64)) ∧ Below w.heap.size w w2)) := A0 (fun p2 X2 v2 w2 e o d => ⟨i + 1, by omega, by rw [HS.out, e], by simp, A0 ⟨by rw [HS.out, e]; exact o, d⟩⟩)
    have QC := QC0
    cases p with
    | false =>
     by_cases hge : n ≤ x
     · by_cases he : x = n
       · have b0 : (x != n) = false := by simpa using he
         have HN := A0 (show AW n (false, X) x = (true, X ++ [n]) by simp [AW, he])
         clear he
         go_wp2_with (at_builtin; refine Bt rfl _ _ rfl w.heap.size u5 X rfl (A6 HY.out.1 ((Below.refl _ _).alloc (Nat.le_refl _) _)) wr.heap.size n rfl (World.alloc_heap_new _ _) (by have := HLn.out; (try simp only [List.length_append, List.length_cons, List.length_nil]); omega) w (HY.out.2.alloc HY.out.2.size _) (Nat.le_refl _) ?_; intro v2 w2 HO2 HD2; have q2 := QC.out w2 HD2.out)
         go_roundw
         case rel => exact NX.out _ _ _ _ HN.out HO2.out HD2.out
         case measure => simp [intOf]; omega
       · have b0 : (x != n) = true := by simpa using he
         have HN := A0 (show AW n (false, X) x = (true, X ++ [n] ++ [x]) by simp [AW, hge, he])
         clear he
         go_wp2_with (first
          | (at_builtin; refine Bt rfl _ _ rfl w.heap.size u5 X rfl (A6 HY.out.1 ((Below.refl _ _).alloc (Nat.le_refl _) _)) wr.heap.size n rfl (World.alloc_heap_new _ _) (by have := HLn.out; (try simp only [List.length_append, List.length_cons, List.length_nil]); omega) w (HY.out.2.alloc HY.out.2.size _) (Nat.le_refl _) ?_; intro v2 w2 HO2 HD2; have q2 := QC.out w2 HD2.out)
          | (at_builtin; refine Bt rfl _ _ rfl w.heap.size v2 (X ++ [n]) rfl (A6 HO2.out ((Below.refl _ _).alloc (Nat.le_refl _) _)) w2.heap.size x rfl (World.alloc_heap_new _ _) (by have := HLn.out; (try simp only [List.length_append, List.length_cons, List.length_nil]); omega) w (HD2.out.alloc HD2.out.size _) (Nat.le_refl _) ?_; intro v3 w3 HO3 HD3))
         go_roundw
         case rel => exact NX.out _ _ _ _ HN.out HO3.out HD3.out
         case measure => simp [intOf]; omega
     · have he : ¬ x = n := by omega
       have b0 : (x != n) = true := by simpa using he
       have HN := A0 (show AW n (false, X) x = (false, X ++ [x]) by simp [AW, hge, he])
       clear he
       go_wp2_with (at_builtin; refine Bt rfl _ _ rfl w.heap.size u5 X rfl (A6 HY.out.1 ((Below.refl _ _).alloc (Nat.le_refl _) _)) wr.heap.size x rfl (World.alloc_heap_new _ _) (by have := HLn.out; (try simp only [List.length_append, List.length_cons, List.length_nil]); omega) w (HY.out.2.alloc HY.out.2.size _) (Nat.le_refl _) ?_; intro v2 w2 HO2 HD2)
       go_roundw
       case rel => exact NX.out _ _ _ _ HN.out HO2.out HD2.out
       case measure => simp [intOf]; omega
    | true =>
     by_cases he : x = n
     · have b0 : (x != n) = false := by simpa using he
       have HN := A0 (show AW n (true, X) x = (true, X) by simp [AW, he])
       clear he
       go_wp2_with fail
       go_roundw
       case rel => exact NX.out _ _ _ _ HN.out HY.out.1 HY.out.2
       case measure => simp [intOf]; omega
     · have b0 : (x != n) = true := by simpa using he
       have HN := A0 (show AW n (true, X) x = (true, X ++ [x]) by simp [AW, he])
       clear he
       go_wp2_with (at_builtin; refine Bt rfl _ _ rfl w.heap.size u5 X rfl (A6 HY.out.1 ((Below.refl _ _).alloc (Nat.le_refl _) _)) wr.heap.size x rfl (World.alloc_heap_new _ _) (by have := HLn.out; (try simp only [List.length_append, List.length_cons, List.length_nil]); omega) w (HY.out.2.alloc HY.out.2.size _) (Nat.le_refl _) ?_; intro v2 w2 HO2 HD2)
       go_roundw
       case rel => exact NX.out _ _ _ _ HN.out HO2.out HD2.out
       case measure => simp [intOf]; omega
  · have i0 : ¬ (i : Int) < (L.length : Int) := by omega
    have etk : L.take i = L := List.take_of_length_le (by omega)
    have HLn : Hid ((wS n (L.take i)).2.length ≤ 8388608) := A0 (by have := Li n L i; omega)
    rw [etk] at HY HLn ⊢
    have HF : Hid (F9 L n = if (wS n L).1 then (wS n L).2 else (wS n L).2 ++ [n]) := A0 rfl
    generalize wS n L = s at HY HF HLn ⊢
    obtain ⟨p, X⟩ := s
    simp only at HY HF HLn ⊢
    cases p with
    | false =>
     go_wp2_with (at_builtin; refine Bt rfl _ _ rfl w.heap.size u5 X rfl (A6 HY.out.1 ((Below.refl _ _).alloc (Nat.le_refl _) _)) wr.heap.size n rfl (World.alloc_heap_new _ _) (by have := HLn.out; (try simp only [List.length_append, List.length_cons, List.length_nil]); omega) w (HY.out.2.alloc HY.out.2.size _) (Nat.le_refl _) ?_; intro v2 w2 HO2 HD2; have HF2 := HF.out; simp only [Bool.false_eq_true, if_false] at HF2; obtain ⟨b, c, hv⟩ := A8 HO2.out; subst hv; have HF3 := A0 HF2; clear HF2)
     refine bodyPost_ret (results_tmp rfl _ _ _) rfl ?_
     exact ⟨b, c, by rw [HF3.out, List.length_append]; rfl, by rw [HF3.out]; exact HO2, HD2.out⟩
    | true =>
     have HF2 := HF.out
     simp only [if_true] at HF2
     have HF3 := A0 HF2
     clear HF2
     obtain ⟨b, c, hv⟩ := A8 HY.out.1
     subst hv
     go_wp2_with fail
     refine bodyPost_ret (results_tmp rfl _ _ _) rfl ?_
     exact ⟨b, c, by rw [HF3.out]; rfl, by rw [HF3.out]; exact A0 HY.out.1, HY.out.2⟩
theorem Dp (n : Int) : ∀ (X O : List Int), X.foldl (AW n) (true, O) = (true, O ++ X.filter (fun x => decide (x ≠ n)))
 | [], O => by simp
 | x :: X, O => by
  rw [List.foldl_cons]
  by_cases h : x = n
  · rw [show AW n (true, O) x = (true, O) by simp [AW, h], Dp n X O]
    simp [h]
  · rw [show AW n (true, O) x = (true, O ++ [x]) by simp [AW, h], Dp n X (O ++ [x])]
    simp [h]
theorem IO (n : Int) : ∀ (X O : List Int), X.Pairwise (· < ·) → (if (X.foldl (AW n) (false, O)).1 then (X.foldl (AW n) (false, O)).2 else (X.foldl (AW n) (false, O)).2 ++ [n]) = O ++ X.filter (fun x => decide (x < n)) ++ [n] ++ X.filter (fun x => decide (n < x))
 | [], O, _ => by simp
 | x :: X, O, h => by
  rw [List.pairwise_cons] at h
  rw [List.foldl_cons]
  by_cases hx : x < n
  · rw [show AW n (false, O) x = (false, O ++ [x]) by simp [AW, show ¬ n ≤ x by omega, show ¬ x = n by omega], IO n X (O ++ [x]) h.2]
    simp [hx, show ¬ n < x by omega]
  · have hgt : ∀ y ∈ X, n < y := fun y hy => by have := h.1 y hy; omega
    have f1 : X.filter (fun x => decide (x < n)) = [] := List.filter_eq_nil_iff.2 fun y hy => by have := hgt y hy; simp; omega
    have f2 : X.filter (fun x => decide (n < x)) = X := List.filter_eq_self.2 fun y hy => by simpa using hgt y hy
    have f3 : X.filter (fun x => decide (x ≠ n)) = X := List.filter_eq_self.2 fun y hy => by have := hgt y hy; simp; omega
    by_cases he : x = n
    · rw [show AW n (false, O) x = (true, O ++ [n]) by simp [AW, he], Dp, f3]
      simp [f1, f2, he]
    · rw [show AW n (false, O) x = (true, O ++ [n] ++ [x]) by simp [AW, he, show n ≤ x by omega], Dp, f3]
      simp [f1, f2, hx, show n < x by omega]
theorem JQ {X : List Int} (n : Int) (h : X.Pairwise (· < ·)) : F9 X n = X.filter (fun x => decide (x < n)) ++ [n] ++ X.filter (fun x => decide (n < x)) := by
 unfold F9 wS
 rw [IO n X [] h, List.nil_append]
theorem FL : A5 [] = [] := List.eq_nil_of_length_eq_zero (Nat.le_zero.1 (B9 []))
theorem KB (A : List Int) (n : Int) : F9 (A5 A) n = A5 (A ++ [n]) := by
 have hs := Ba A
 refine Jc _ _ ?_ (Ba _) fun x => ?_
 · rw [JQ n hs, List.append_assoc, List.pairwise_append]
   refine ⟨hs.filter _, ?_, ?_⟩
   · rw [List.singleton_append, List.pairwise_cons]
     exact ⟨fun y hy => by simpa using (List.mem_filter.1 hy).2, hs.filter _⟩
   · intro a ha b hb
     have h1 : a < n := by simpa using (List.mem_filter.1 ha).2
     rw [List.singleton_append, List.mem_cons] at hb
     rcases hb with rfl | hb
     · exact h1
     · have h2 : n < b := by simpa using (List.mem_filter.1 hb).2
       omega
 · rw [JQ n hs, BN]
   simp only [List.mem_append, List.mem_filter, List.mem_singleton, decide_eq_true_eq, BN]
   constructor
   · rintro ((⟨h, _⟩ | h) | ⟨h, _⟩)
     · exact Or.inl h
     · exact Or.inr h
     · exact Or.inl h
   · rintro (h | h)
     · rcases Int.lt_trichotomy x n with h1 | h1 | h1
       · exact Or.inl (Or.inl ⟨h, h1⟩)
       · exact Or.inl (Or.inr h1)
       · exact Or.inr ⟨h, h1⟩
     · exact Or.inl (Or.inr h)
theorem Dn (w : World) (ao : Option Addr) (L : List Int) (cp : Nat) (hr : Hid (BB w ao L)) (hl : L.length ≤ 4194304) :
 Calls prog 63 #[.slice ao L.length cp] w fun e w' => ∃ b c, e = .returned (.slice b (A5 L).length c) ∧ Hid (w'.ownsRow w.heap.size 3 1 (.slice b (A5 L).length c) (A5 L).length ((A5 L).map (Value.int .i64))) ∧ Below w.heap.size w w' := by
 go_enter func63, ntmps63
 go_wp2
 go_loopw [3, 4] (fun ov iv wr => ∃ i b c, i ≤ L.length ∧ ov = .slice b (A5 (L.take i)).length c ∧ iv = .int .i64 (i : Nat) ∧ Hid (wr.ownsRow w.heap.size 3 1 (.slice b (A5 (L.take i)).length c) (A5 (L.take i)).length ((A5 (L.take i)).map (Value.int .i64)) ∧ Below w.heap.size w wr)) (fun _ iv _ => L.length - (intOf iv).toNat)
 case atStart => exact ⟨0, none, 0, Nat.zero_le _, by rw [List.take_zero, FL]; rfl, rfl, A0 ⟨by rw [List.take_zero, FL]; exact World.ownsRow_nil _ _ _ _, Below.refl _ _⟩⟩
 case round =>
  obtain ⟨i, b, c, hi, rfl, rfl, HY⟩ := hrel
  by_cases hlt : i < L.length
  · have i0 : (i : Int) < (L.length : Int) := by omega
    have i1 : (0 : Int) ≤ (i : Int) := by omega
    have iw : IntKind.i64.wrap ((i : Int) + 1) = (i : Int) + 1 := by rw [IntKind.wrap_i64]; omega
    obtain ⟨g, o, hao, q⟩ := (hr.out.on HY.out.2) i hlt
    subst hao
    have hlen : (A5 (L.take i)).length ≤ 4194304 := Nat.le_trans (B9 _) (by rw [List.length_take]; omega)
    have T := LA wr b (A5 (L.take i)) c L[i] (A0 (AM HY.out.1)) hlen
    rw [KB, ← List.take_succ_eq_append_getElem hlt] at T
    generalize L[i] = x at q T
    generalize A5 (L.take i) = X at HY T ⊢
    clear hlen
    obtain ⟨Y, hY⟩ : ∃ Y, A5 (L.take (i + 1)) = Y := ⟨_, rfl⟩
    rw [hY] at T
    have HE := A0 hY
    clear hY
    go_wp2_with (go_at_call 80; refine T.mono ?_; rintro e w2 ⟨b2, c2, rfl, HR, d2⟩; have HD := A0 (HY.out.2.trans (d2.mono HY.out.2.size)); have HR2 := A0 (Ac HR.out HY.out.2.size); clear d2 HR)
    go_roundw
    case rel => exact ⟨i + 1, b2, c2, by omega, by rw [HE.out], by go_num, A0 ⟨by rw [HE.out]; exact HR2.out, HD.out⟩⟩
    case measure => simp [intOf]; omega
  · have i0 : ¬ (i : Int) < (L.length : Int) := by omega
    have etk : L.take i = L := List.take_of_length_le (by omega)
    rw [etk] at HY ⊢
    go_wp2_with fail
    refine bodyPost_ret (results_tmp rfl _ _ _) rfl ?_
    exact ⟨b, c, rfl, A0 HY.out.1, HY.out.2⟩
theorem K9 (x y : Aa) (w : World) : Calls prog 88 #[.agg #[.int .i64 x.1, .int .i64 x.2.1, .int .i64 x.2.2], .agg #[.int .i64 y.1, .int .i64 y.2.1, .int .i64 y.2.2]] w fun e w' => e = .returned (.bool (C4 x y)) ∧ Below w.heap.size w w' := by
 obtain ⟨x0, x1, x2⟩ := x
 obtain ⟨y0, y1, y2⟩ := y
 simp only
 obtain ⟨W0, hW0⟩ : ∃ W0, (w.alloc (.cells #[.int .i64 x0, .int .i64 x1, .int .i64 x2] 50)).alloc (.cells #[.int .i64 y0, .int .i64 y1, .int .i64 y2] 50) = W0 := ⟨_, rfl⟩
 have HD := A0 (Br w #[.int .i64 x0, .int .i64 x1, .int .i64 x2] #[.int .i64 y0, .int .i64 y1, .int .i64 y2] 50)
 rw [hW0] at HD
 obtain ⟨c0, c1, c2⟩ := Jt HD.out.2.1 rfl rfl rfl
 obtain ⟨d0, d1, d2⟩ := Jt HD.out.2.2.1 rfl rfl rfl
 go_enter func88, ntmps88
 by_cases h0 : x0 = y0
 · have e0 : (x0 != y0) = false := by simpa using h0
   by_cases h1 : x1 = y1
   · have e1 : (x1 != y1) = false := by simpa using h1
     have HE : Hid (C4 (x0, x1, x2) (y0, y1, y2) = decide (x2 < y2)) := A0 (by unfold C4; rw [decide_eq_decide]; simp [h0, h1])
     clear h0 h1
     go_wp2
     refine bodyPost_ret (results_tmp rfl _ _ _) rfl ?_
     exact ⟨by rw [HE.out]; rfl, HD.out.1⟩
   · have e1 : (x1 != y1) = true := by simpa using h1
     have HE : Hid (C4 (x0, x1, x2) (y0, y1, y2) = decide (x1 < y1)) := A0 (by unfold C4; rw [decide_eq_decide]; simp [h0, h1])
     clear h0 h1
     go_wp2
     refine bodyPost_ret (results_tmp rfl _ _ _) rfl ?_
     exact ⟨by rw [HE.out]; rfl, HD.out.1⟩
 · have e0 : (x0 != y0) = true := by simpa using h0
   have HE : Hid (C4 (x0, x1, x2) (y0, y1, y2) = decide (x0 < y0)) := A0 (by unfold C4; rw [decide_eq_decide]; simp [h0])
   clear h0
   go_wp2
   refine bodyPost_ret (results_tmp rfl _ _ _) rfl ?_
   exact ⟨by rw [HE.out]; rfl, HD.out.1⟩
theorem PJ {α : Type} {p q r : Prop} [Decidable p] [Decidable q] [Decidable r] (h : ¬ (p ∧ q ∧ r)) (a b : α) : (if p then if q then if r then a else b else b else b) = b := by
 by_cases h1 : p
 · by_cases h2 : q
   · by_cases h3 : r
     · exact absurd ⟨h1, h2, h3⟩ h
     · rw [if_pos h1, if_pos h2, if_neg h3]
   · rw [if_pos h1, if_neg h2]
 · rw [if_neg h1]
def AV : List Aa → List Aa → List Aa
 | [], B => B
 | A, [] => A
 | x :: A, y :: B => if C4 x y then x :: AV A (y :: B) else if x = y then y :: AV A B else y :: AV (x :: A) B
termination_by A B => A.length + B.length
theorem Fw (A : List Aa) : AV A [] = A := by cases A <;> simp [AV]
theorem Pg {A B : List Aa} {i k : Nat} (hi : i < A.length) (hk : k < B.length) (h : C4 A[i] B[k] = true) : AV (A.drop i) (B.drop k) = A[i] :: AV (A.drop (i + 1)) (B.drop k) := by
 rw [List.drop_eq_getElem_cons hi, List.drop_eq_getElem_cons hk, AV, if_pos h]
theorem Pv {A B : List Aa} {i k : Nat} (hi : i < A.length) (hk : k < B.length) (h : C4 A[i] B[k] = false) (he : A[i] = B[k]) : AV (A.drop i) (B.drop k) = B[k] :: AV (A.drop (i + 1)) (B.drop (k + 1)) := by
 rw [List.drop_eq_getElem_cons hi, List.drop_eq_getElem_cons hk, AV, if_neg (by rw [h]; simp), if_pos he]
theorem Pq {A B : List Aa} {i k : Nat} (hi : i < A.length) (hk : k < B.length) (h : C4 A[i] B[k] = false) (he : ¬ A[i] = B[k]) : AV (A.drop i) (B.drop k) = B[k] :: AV (A.drop i) (B.drop (k + 1)) := by
 rw [List.drop_eq_getElem_cons hi, List.drop_eq_getElem_cons hk, AV, if_neg (by rw [h]; simp), if_neg he]
theorem Oq {A B : List Aa} {i k : Nat} (hi : i < A.length) (hk : ¬ k < B.length) : AV (A.drop i) (B.drop k) = A[i] :: AV (A.drop (i + 1)) (B.drop k) := by
 rw [List.drop_eq_nil_of_le (show B.length ≤ k by omega), Fw, Fw, List.drop_eq_getElem_cons hi]
theorem O3 {A B : List Aa} {i k : Nat} (hi : ¬ i < A.length) (hk : k < B.length) : AV (A.drop i) (B.drop k) = B[k] :: AV (A.drop i) (B.drop (k + 1)) := by
 rw [List.drop_eq_nil_of_le (show A.length ≤ i by omega), List.drop_eq_getElem_cons hk]
 simp [AV]
theorem Fp : ∀ (A B : List Aa), (AV A B).length ≤ A.length + B.length
 | [], B => by simp [AV]
 | x :: A, [] => by simp [AV]
 | x :: A, y :: B => by
  rw [AV]
  split
  · have := Fp A (y :: B); simp only [List.length_cons] at this ⊢; omega
  · split
    · have := Fp A B; simp only [List.length_cons]; omega
    · have := Fp (x :: A) B; simp only [List.length_cons] at this ⊢; omega
termination_by A B => A.length + B.length
theorem EK (w : World) (aa ab : Option Addr) (A B : List Aa) (ca cb : Nat) (hA : Hid (Cl w aa A)) (hB : Hid (Cl w ab B)) (hla : A.length ≤ 4194304) (hlb : B.length ≤ 4194304) :
 Calls prog 81 #[.slice aa A.length ca, .slice ab B.length cb] w fun e w' => ∃ b c, e = .returned (.slice b (AV A B).length c) ∧ Hid (w'.ownsRow w.heap.size 50 3 (.slice b (AV A B).length c) (AV A B).length ((AV A B).flatMap Ae)) ∧ Below w.heap.size w w' := by
 go_enter func81, ntmps81
 go_wp2
 go_loopw [5, 6, 7] (fun ov iv kv wr => ∃ i k X, i ≤ A.length ∧ k ≤ B.length ∧ iv = .int .i64 (i : Nat) ∧ kv = .int .i64 (k : Nat) ∧ Hid (wr.ownsRow w.heap.size 50 3 ov X.length (X.flatMap Ae) ∧ AV A B = X ++ AV (A.drop i) (B.drop k) ∧ Below w.heap.size w wr)) (fun _ iv kv _ => A.length + B.length - (intOf iv).toNat - (intOf kv).toNat)
 case atStart => exact ⟨0, 0, [], Nat.zero_le _, Nat.zero_le _, rfl, rfl, A0 ⟨World.ownsRow_nil _ _ _ _, by simp, Below.refl _ _⟩⟩
 case round =>
  obtain ⟨i, k, X, hi, hk, rfl, rfl, HY⟩ := hrel
  have HYO := A0 HY.out.1
  have HYE := A0 HY.out.2.1
  have HYB := A0 HY.out.2.2
  clear HY
  have HXL : Hid (X.length ≤ 8388608) := A0 (by
   have h1 := Fp A B
   have h2 := congrArg List.length HYE.out
   rw [List.length_append] at h2
   omega)
  have iw : IntKind.i64.wrap ((i : Int) + 1) = (i : Int) + 1 := by rw [IntKind.wrap_i64]; omega
  have kw : IntKind.i64.wrap ((k : Int) + 1) = (k : Int) + 1 := by rw [IntKind.wrap_i64]; omega
  have i1 : (0 : Int) ≤ (i : Int) := by omega
  have k1 : (0 : Int) ≤ (k : Int) := by omega
  by_cases hia : i < A.length
  · have i0 : (i : Int) < (A.length : Int) := by omega
    obtain ⟨ga, oa, haa, p1, p2, p3⟩ := hA.out i hia
    subst haa
    have RA : Hid (∀ W, Below w.heap.size w W → W.cell? ⟨ga, oa + i * 3, none⟩ = some (.int .i64 A[i].1) ∧ W.cell? ⟨ga, oa + i * 3 + 1, none⟩ = some (.int .i64 A[i].2.1) ∧ W.cell? ⟨ga, oa + i * 3 + 2, none⟩ = some (.int .i64 A[i].2.2)) := A0 (fun W d => ⟨(d.cell (p := ⟨ga, oa + i * 3, none⟩) (World.block_lt_of_cell? w _ p1)).trans p1, (d.cell (p := ⟨ga, oa + i * 3 + 1, none⟩) (World.block_lt_of_cell? w _ p2)).trans p2, (d.cell (p := ⟨ga, oa + i * 3 + 2, none⟩) (World.block_lt_of_cell? w _ p3)).trans p3⟩)
    clear p1 p2 p3
    by_cases hkb : k < B.length
    · have k0 : (k : Int) < (B.length : Int) := by omega
      have kne : ((k : Int) == (B.length : Int)) = false := by simp; omega
      obtain ⟨gb, ob, hbb, p1, p2, p3⟩ := hB.out k hkb
      subst hbb
      have RB : Hid (∀ W, Below w.heap.size w W → W.cell? ⟨gb, ob + k * 3, none⟩ = some (.int .i64 B[k].1) ∧ W.cell? ⟨gb, ob + k * 3 + 1, none⟩ = some (.int .i64 B[k].2.1) ∧ W.cell? ⟨gb, ob + k * 3 + 2, none⟩ = some (.int .i64 B[k].2.2)) := A0 (fun W d => ⟨(d.cell (p := ⟨gb, ob + k * 3, none⟩) (World.block_lt_of_cell? w _ p1)).trans p1, (d.cell (p := ⟨gb, ob + k * 3 + 1, none⟩) (World.block_lt_of_cell? w _ p2)).trans p2, (d.cell (p := ⟨gb, ob + k * 3 + 2, none⟩) (World.block_lt_of_cell? w _ p3)).trans p3⟩)
      clear p1 p2 p3
      have NA : Hid (C4 A[i] B[k] = true → AV A B = X ++ [A[i]] ++ AV (A.drop (i + 1)) (B.drop k)) := A0 (fun h => by rw [HYE.out, Pg hia hkb h]; simp)
      have NE : Hid (C4 A[i] B[k] = false → A[i] = B[k] → AV A B = X ++ [B[k]] ++ AV (A.drop (i + 1)) (B.drop (k + 1))) := A0 (fun h he => by rw [HYE.out, Pv hia hkb h he]; simp)
      have NB : Hid (C4 A[i] B[k] = false → ¬ A[i] = B[k] → AV A B = X ++ [B[k]] ++ AV (A.drop i) (B.drop (k + 1))) := A0 (fun h he => by rw [HYE.out, Pq hia hkb h he]; simp)
      generalize A[i] = x at RA NA NE NB
      generalize B[k] = y at RB NA NE NB
      go_upto_region 5 with fail
      go_cut [38] from 18 to 38 (fun v W => v = .bool (C4 x y) ∧ Hid (W.ownsRow w.heap.size 50 3 u5 X.length (X.flatMap Ae)) ∧ Hid (Below w.heap.size w W))
      case first =>
       have hmo : AJ 0 [vI 0 (.int .i64 k), vI 1 (.slice (some ⟨gb, ob, none⟩) B.length cb), vI 2 (.int .i64 (B.length : Int)), vI 3 (.bool false), vI 4 (.bool false), vI 5 (.int .i64 i), vI 6 (.slice (some ⟨ga, oa, none⟩) A.length ca), vI 7 (.int .i64 (A.length : Int)), vI 8 (.bool true), vI 9 (.bool true), vI 10 (.slice (some ⟨ga, oa, none⟩) A.length ca), vI 11 (.int .i64 i), vI 12 (.pointer (some ⟨ga, oa + i * 3, none⟩)), vI 13 (.agg #[.int .i64 x.1, .int .i64 x.2.1, .int .i64 x.2.2]), vI 14 (.slice (some ⟨gb, ob, none⟩) B.length cb), vI 15 (.int .i64 k), vI 16 (.pointer (some ⟨gb, ob + k * 3, none⟩)), vI 17 (.agg #[.int .i64 y.1, .int .i64 y.2.1, .int .i64 y.2.2]), vI 18 (.bool (C4 x y)), vI 19 (.bool (C4 x y)), vI 20 (.bool (C4 x y))] := ⟨A2 _ _, A2 _ _, A2 _ _, A2 _ _, A2 _ _, A2 _ _, A2 _ _, A2 _ _, A2 _ _, A2 _ _, A2 _ _, A2 _ _, A2 _ _, A2 _ _, A2 _ _, A2 _ _, A2 _ _, A2 _ _, A2 _ _, A2 _ _, A2 _ _, trivial⟩
       refine Aj _ (by kernel_rfl) (by kernel_rfl) (by kernel_rfl) (by kernel_rfl) hmo ⟨?o0, ?o1, ?o2, ?o3, ?o4, ?o5, ?o6, ?o7, ?o8, ?o9, ?o10, ?o11, ?o12, ?o13, ?o14, ?o15, ?o16, ?o17, ?o18, ?o19, ?o20, trivial⟩ ?fin
       case o0 =>
        intro At yy W hy hb d hd K hK
        obtain ⟨s7, s7'⟩ := AG (hb 7 rfl : _ = .int .i64 k)
        clear hd hy hb
        go_simp
        exact Ak hK hmo d (if_pos rfl)
       case o1 =>
        intro At yy W hy hb d hd K hK
        obtain ⟨s1, s1'⟩ := AG (hb 1 rfl : _ = .slice (some ⟨gb, ob, none⟩) B.length cb)
        clear hd hy hb
        go_simp
        exact Ak hK hmo d (if_pos rfl)
       case o2 =>
        intro At yy W hy hb d hd K hK
        obtain ⟨s19, s19'⟩ := Ao 1 19 .data hy hd rfl
        clear hd hy hb
        go_simp
        exact Ak hK hmo d (if_pos rfl)
       case o3 =>
        intro At yy W hy hb d hd K hK
        obtain ⟨s18, s18'⟩ := Ao 0 18 .data hy hd rfl
        obtain ⟨s20, s20'⟩ := Ao 2 20 .data hy hd rfl
        clear hd hy hb
        go_simp
        exact Ak hK hmo d (if_pos rfl)
       case o4 =>
        intro At yy W hy hb d hd K hK
        obtain ⟨s21, s21'⟩ := Ao 3 21 .data hy hd rfl
        clear hd hy hb
        go_simp
        exact Ak hK hmo d (if_pos rfl)
       case o5 =>
        intro At yy W hy hb d hd K hK
        obtain ⟨s6, s6'⟩ := AG (hb 6 rfl : _ = .int .i64 i)
        have g22 := BG 4 22 hy hd rfl
        clear hd hy hb
        go_simp
        exact Ak hK hmo d (if_pos rfl)
       case o6 =>
        intro At yy W hy hb d hd K hK
        obtain ⟨s0, s0'⟩ := AG (hb 0 rfl : _ = .slice (some ⟨ga, oa, none⟩) A.length ca)
        have g22 := BG 4 22 hy hd rfl
        clear hd hy hb
        go_simp
        exact Ak hK hmo d (if_pos rfl)
       case o7 =>
        intro At yy W hy hb d hd K hK
        obtain ⟨s24, s24'⟩ := Ao 6 24 .data hy hd rfl
        have g22 := BG 4 22 hy hd rfl
        clear hd hy hb
        go_simp
        exact Ak hK hmo d (if_pos rfl)
       case o8 =>
        intro At yy W hy hb d hd K hK
        obtain ⟨s23, s23'⟩ := Ao 5 23 .data hy hd rfl
        obtain ⟨s25, s25'⟩ := Ao 7 25 .data hy hd rfl
        have g22 := BG 4 22 hy hd rfl
        clear hd hy hb
        go_simp
        exact Ak hK hmo d (if_pos rfl)
       case o9 =>
        intro At yy W hy hb d hd K hK
        obtain ⟨s26, s26'⟩ := Ao 8 26 .data hy hd rfl
        have g22 := BG 4 22 hy hd rfl
        clear hd hy hb
        go_simp
        exact Ak hK hmo d (if_pos rfl)
       case o10 =>
        intro At yy W hy hb d hd K hK
        obtain ⟨s0, s0'⟩ := AG (hb 0 rfl : _ = .slice (some ⟨ga, oa, none⟩) A.length ca)
        have g27 := BG 9 27 hy hd rfl
        clear hd hy hb
        go_simp
        exact Ak hK hmo d (if_pos rfl)
       case o11 =>
        intro At yy W hy hb d hd K hK
        obtain ⟨s6, s6'⟩ := AG (hb 6 rfl : _ = .int .i64 i)
        have g27 := BG 9 27 hy hd rfl
        clear hd hy hb
        go_simp
        exact Ak hK hmo d (if_pos rfl)
       case o12 =>
        intro At yy W hy hb d hd K hK
        obtain ⟨s28, s28'⟩ := Ao 10 28 .data hy hd rfl
        obtain ⟨s29, s29'⟩ := Ao 11 29 .data hy hd rfl
        have g27 := BG 9 27 hy hd rfl
        clear hd hy hb
        go_simp
        exact Ak hK hmo d (if_pos rfl)
       case o13 =>
        intro At yy W hy hb d hd K hK
        obtain ⟨s30, s30'⟩ := Ao 12 30 .data hy hd rfl
        have g27 := BG 9 27 hy hd rfl
        clear hd hy hb
        obtain ⟨q1, q2, q3⟩ := RA.out W (HYB.out.trans (d.mono HYB.out.size))
        go_simp
        exact Ak hK hmo d (if_pos rfl)
       case o14 =>
        intro At yy W hy hb d hd K hK
        obtain ⟨s1, s1'⟩ := AG (hb 1 rfl : _ = .slice (some ⟨gb, ob, none⟩) B.length cb)
        have g27 := BG 9 27 hy hd rfl
        clear hd hy hb
        go_simp
        exact Ak hK hmo d (if_pos rfl)
       case o15 =>
        intro At yy W hy hb d hd K hK
        obtain ⟨s7, s7'⟩ := AG (hb 7 rfl : _ = .int .i64 k)
        have g27 := BG 9 27 hy hd rfl
        clear hd hy hb
        go_simp
        exact Ak hK hmo d (if_pos rfl)
       case o16 =>
        intro At yy W hy hb d hd K hK
        obtain ⟨s32, s32'⟩ := Ao 14 32 .data hy hd rfl
        obtain ⟨s33, s33'⟩ := Ao 15 33 .data hy hd rfl
        have g27 := BG 9 27 hy hd rfl
        clear hd hy hb
        go_simp
        exact Ak hK hmo d (if_pos rfl)
       case o17 =>
        intro At yy W hy hb d hd K hK
        obtain ⟨s34, s34'⟩ := Ao 16 34 .data hy hd rfl
        have g27 := BG 9 27 hy hd rfl
        clear hd hy hb
        obtain ⟨q1, q2, q3⟩ := RB.out W (HYB.out.trans (d.mono HYB.out.size))
        go_simp
        exact Ak hK hmo d (if_pos rfl)
       case o18 =>
        intro At yy W hy hb d hd K hK
        obtain ⟨s31, s31'⟩ := Ao 13 31 .data hy hd rfl
        obtain ⟨s35, s35'⟩ := Ao 17 35 .data hy hd rfl
        have g27 := BG 9 27 hy hd rfl
        clear hd hy hb
        go_simp
        go_wp2_with (go_at_call 88; refine (K9 x y _).mono ?_; rintro e wa ⟨rfl, da⟩)
        exact hK.out _ wa (Av hmo d da) (if_pos rfl)
       case o19 =>
        intro At yy W hy hb d hd K hK
        obtain ⟨s27, s27'⟩ := Ao 9 27 .data hy hd rfl
        obtain ⟨s36, s36'⟩ := Ao 18 36 .data hy hd rfl
        have g22 := BG 4 22 hy hd rfl
        clear hd hy hb
        go_simp
        exact Ak hK hmo d (if_pos rfl)
       case o20 =>
        intro At yy W hy hb d hd K hK
        obtain ⟨s22, s22'⟩ := Ao 4 22 .data hy hd rfl
        obtain ⟨s37, s37'⟩ := Ao 19 37 .data hy hd rfl
        clear hd hy hb
        go_simp
        exact Ak hK hmo d (if_pos rfl)
       case fin =>
        intro yy lo hi W hM
        show wpList _ _ _ [] _ _
        have e0 := hM.v 0 (by simp) rfl rfl rfl
        have e1 := hM.v 1 (by simp) rfl rfl rfl
        have e2 := hM.v 2 (by simp) rfl rfl rfl
        have e3 := hM.v 3 (by simp) rfl rfl rfl
        have e4 := hM.v 4 (by simp) rfl rfl rfl
        have e5 := hM.v 5 (by simp) rfl rfl rfl
        have e6 := hM.v 6 (by simp) rfl rfl rfl
        have e7 := hM.v 7 (by simp) rfl rfl rfl
        have e8 := hM.v 8 (by simp) rfl rfl rfl
        have e9 := hM.v 9 (by simp) rfl rfl rfl
        have e10 := hM.v 10 (by simp) rfl rfl rfl
        have e11 := hM.v 11 (by simp) rfl rfl rfl
        have e12 := hM.v 12 (by simp) rfl rfl rfl
        have e13 := hM.v 13 (by simp) rfl rfl rfl
        have e14 := hM.v 14 (by simp) rfl rfl rfl
        have e15 := hM.v 15 (by simp) rfl rfl rfl
        have e16 := hM.v 16 (by simp) rfl rfl rfl
        have e17 := hM.v 17 (by simp) rfl rfl rfl
        have e18 := hM.v 18 (by simp) rfl rfl rfl
        have e19 := hM.v 19 (by simp) rfl rfl rfl
        have e20 := hM.v 20 (by simp) rfl rfl rfl
        have DW := A0 (HYB.out.trans (hM.d.mono HYB.out.size))
        have OW := A0 (A6 HYO.out hM.d)
        simp only [Aw, Act.put, List.take, List.length, List.setIfInBounds_toArray, List.set_cons_zero, List.set_cons_succ, e0, e1, e2, e3, e4, e5, e6, e7, e8, e9, e10, e11, e12, e13, e14, e15, e16, e17, e18, e19, e20]
        clear hM hmo e0 e1 e2 e3 e4 e5 e6 e7 e8 e9 e10 e11 e12 e13 e14 e15 e16 e17 e18 e19 e20
        go_wp2_with fail
        go_meet
        exact ⟨rfl, OW, DW⟩
      case rest =>
       obtain ⟨rfl, HYO, HYB⟩ := hcut
       rename World => wk
       cases hlt : C4 x y with
       | true =>
        have HNA := A0 (NA.out hlt)
        obtain ⟨q1, q2, q3⟩ := RA.out wk HYB.out
        go_wp2_with (at_builtin; refine BX rfl _ _ rfl w.heap.size u5 X rfl (A6 HYO.out ((Below.refl _ _).alloc (Nat.le_refl _) _)) wk.heap.size x rfl (World.alloc_heap_new _ _) (by have := HXL.out; omega) w (HYB.out.alloc HYB.out.size _) (Nat.le_refl _) ?_; intro v2 w2 HO2 HD2)
        go_roundw
        case rel => exact ⟨i + 1, k, X ++ [x], by omega, by omega, by go_num, rfl, A0 ⟨HO2.out, HNA.out, HD2.out⟩⟩
        case measure => simp [intOf]; omega
       | false =>
        go_upto_region 8 with fail
        by_cases hxy : x = y
        · have HN := A0 (NE.out hlt hxy)
          subst hxy
          clear hlt
          go_cut [62] from 48 to 62 (fun v W => v = .bool true ∧ Hid (W.ownsRow w.heap.size 50 3 u5 X.length (X.flatMap Ae)) ∧ Hid (Below w.heap.size w W))
          case first =>
           have hmo : AJ 0 [vI 0 (.int .i64 i), vI 1 (.slice (some ⟨ga, oa, none⟩) A.length ca), vI 2 (.int .i64 (A.length : Int)), vI 3 (.bool true), vI 4 (.bool true), vI 5 (.slice (some ⟨ga, oa, none⟩) A.length ca), vI 6 (.int .i64 i), vI 7 (.pointer (some ⟨ga, oa + i * 3, none⟩)), vI 8 (.agg #[.int .i64 x.1, .int .i64 x.2.1, .int .i64 x.2.2]), vI 9 (.slice (some ⟨gb, ob, none⟩) B.length cb), vI 10 (.int .i64 k), vI 11 (.pointer (some ⟨gb, ob + k * 3, none⟩)), vI 12 (.agg #[.int .i64 x.1, .int .i64 x.2.1, .int .i64 x.2.2]), vI 13 (.bool true), vI 14 (.bool true)] := ⟨A2 _ _, A2 _ _, A2 _ _, A2 _ _, A2 _ _, A2 _ _, A2 _ _, A2 _ _, A2 _ _, A2 _ _, A2 _ _, A2 _ _, A2 _ _, A2 _ _, A2 _ _, trivial⟩
           refine Aj _ (by kernel_rfl) (by kernel_rfl) (by kernel_rfl) (by kernel_rfl) hmo ⟨?o0, ?o1, ?o2, ?o3, ?o4, ?o5, ?o6, ?o7, ?o8, ?o9, ?o10, ?o11, ?o12, ?o13, ?o14, trivial⟩ ?fin
           case o0 =>
            intro At yy W hy hb d hd K hK
            obtain ⟨s6, s6'⟩ := AG (hb 6 rfl : _ = .int .i64 i)
            clear hd hy hb
            go_simp
            exact Ak hK hmo d (if_pos rfl)
           case o1 =>
            intro At yy W hy hb d hd K hK
            obtain ⟨s0, s0'⟩ := AG (hb 0 rfl : _ = .slice (some ⟨ga, oa, none⟩) A.length ca)
            clear hd hy hb
            go_simp
            exact Ak hK hmo d (if_pos rfl)
           case o2 =>
            intro At yy W hy hb d hd K hK
            obtain ⟨s49, s49'⟩ := Ao 1 49 .data hy hd rfl
            clear hd hy hb
            go_simp
            exact Ak hK hmo d (if_pos rfl)
           case o3 =>
            intro At yy W hy hb d hd K hK
            obtain ⟨s48, s48'⟩ := Ao 0 48 .data hy hd rfl
            obtain ⟨s50, s50'⟩ := Ao 2 50 .data hy hd rfl
            clear hd hy hb
            go_simp
            exact Ak hK hmo d (if_pos rfl)
           case o4 =>
            intro At yy W hy hb d hd K hK
            obtain ⟨s51, s51'⟩ := Ao 3 51 .data hy hd rfl
            clear hd hy hb
            go_simp
            exact Ak hK hmo d (if_pos rfl)
           case o5 =>
            intro At yy W hy hb d hd K hK
            obtain ⟨s0, s0'⟩ := AG (hb 0 rfl : _ = .slice (some ⟨ga, oa, none⟩) A.length ca)
            have g52 := BG 4 52 hy hd rfl
            clear hd hy hb
            go_simp
            exact Ak hK hmo d (if_pos rfl)
           case o6 =>
            intro At yy W hy hb d hd K hK
            obtain ⟨s6, s6'⟩ := AG (hb 6 rfl : _ = .int .i64 i)
            have g52 := BG 4 52 hy hd rfl
            clear hd hy hb
            go_simp
            exact Ak hK hmo d (if_pos rfl)
           case o7 =>
            intro At yy W hy hb d hd K hK
            obtain ⟨s53, s53'⟩ := Ao 5 53 .data hy hd rfl
            obtain ⟨s54, s54'⟩ := Ao 6 54 .data hy hd rfl
            have g52 := BG 4 52 hy hd rfl
            clear hd hy hb
            go_simp
            exact Ak hK hmo d (if_pos rfl)
           case o8 =>
            intro At yy W hy hb d hd K hK
            obtain ⟨s55, s55'⟩ := Ao 7 55 .data hy hd rfl
            have g52 := BG 4 52 hy hd rfl
            clear hd hy hb
            obtain ⟨q1, q2, q3⟩ := RA.out W (HYB.out.trans (d.mono HYB.out.size))
            go_simp
            exact Ak hK hmo d (if_pos rfl)
           case o9 =>
            intro At yy W hy hb d hd K hK
            obtain ⟨s1, s1'⟩ := AG (hb 1 rfl : _ = .slice (some ⟨gb, ob, none⟩) B.length cb)
            have g52 := BG 4 52 hy hd rfl
            clear hd hy hb
            go_simp
            exact Ak hK hmo d (if_pos rfl)
           case o10 =>
            intro At yy W hy hb d hd K hK
            obtain ⟨s7, s7'⟩ := AG (hb 7 rfl : _ = .int .i64 k)
            have g52 := BG 4 52 hy hd rfl
            clear hd hy hb
            go_simp
            exact Ak hK hmo d (if_pos rfl)
           case o11 =>
            intro At yy W hy hb d hd K hK
            obtain ⟨s57, s57'⟩ := Ao 9 57 .data hy hd rfl
            obtain ⟨s58, s58'⟩ := Ao 10 58 .data hy hd rfl
            have g52 := BG 4 52 hy hd rfl
            clear hd hy hb
            go_simp
            exact Ak hK hmo d (if_pos rfl)
           case o12 =>
            intro At yy W hy hb d hd K hK
            obtain ⟨s59, s59'⟩ := Ao 11 59 .data hy hd rfl
            have g52 := BG 4 52 hy hd rfl
            clear hd hy hb
            obtain ⟨q1, q2, q3⟩ := RB.out W (HYB.out.trans (d.mono HYB.out.size))
            go_simp
            exact Ak hK hmo d (if_pos rfl)
           case o13 =>
            intro At yy W hy hb d hd K hK
            obtain ⟨s56, s56'⟩ := Ao 8 56 .data hy hd rfl
            obtain ⟨s60, s60'⟩ := Ao 12 60 .data hy hd rfl
            have g52 := BG 4 52 hy hd rfl
            clear hd hy hb
            go_simp
            exact Ak hK hmo d (if_pos rfl)
           case o14 =>
            intro At yy W hy hb d hd K hK
            obtain ⟨s52, s52'⟩ := Ao 4 52 .data hy hd rfl
            obtain ⟨s61, s61'⟩ := Ao 13 61 .data hy hd rfl
            clear hd hy hb
            go_simp
            exact Ak hK hmo d (if_pos rfl)
           case fin =>
            intro yy lo hi W hM
            show wpList _ _ _ [] _ _
            have e0 := hM.v 0 (by simp) rfl rfl rfl
            have e1 := hM.v 1 (by simp) rfl rfl rfl
            have e2 := hM.v 2 (by simp) rfl rfl rfl
            have e3 := hM.v 3 (by simp) rfl rfl rfl
            have e4 := hM.v 4 (by simp) rfl rfl rfl
            have e5 := hM.v 5 (by simp) rfl rfl rfl
            have e6 := hM.v 6 (by simp) rfl rfl rfl
            have e7 := hM.v 7 (by simp) rfl rfl rfl
            have e8 := hM.v 8 (by simp) rfl rfl rfl
            have e9 := hM.v 9 (by simp) rfl rfl rfl
            have e10 := hM.v 10 (by simp) rfl rfl rfl
            have e11 := hM.v 11 (by simp) rfl rfl rfl
            have e12 := hM.v 12 (by simp) rfl rfl rfl
            have e13 := hM.v 13 (by simp) rfl rfl rfl
            have e14 := hM.v 14 (by simp) rfl rfl rfl
            have DW := A0 (HYB.out.trans (hM.d.mono HYB.out.size))
            have OW := A0 (A6 HYO.out hM.d)
            simp only [Aw, Act.put, List.take, List.length, List.setIfInBounds_toArray, List.set_cons_zero, List.set_cons_succ, e0, e1, e2, e3, e4, e5, e6, e7, e8, e9, e10, e11, e12, e13, e14]
            clear hM hmo e0 e1 e2 e3 e4 e5 e6 e7 e8 e9 e10 e11 e12 e13 e14
            go_wp2_with fail
            go_meet
            exact ⟨rfl, OW, DW⟩
          case rest =>
           obtain ⟨rfl, HYO, HYB⟩ := hcut
           rename World => wk
           obtain ⟨q1, q2, q3⟩ := RB.out wk HYB.out
           go_wp2_with (at_builtin; refine BX rfl _ _ rfl w.heap.size u5 X rfl (A6 HYO.out ((Below.refl _ _).alloc (Nat.le_refl _) _)) wk.heap.size x rfl (World.alloc_heap_new _ _) (by have := HXL.out; omega) w (HYB.out.alloc HYB.out.size _) (Nat.le_refl _) ?_; intro v2 w2 HO2 HD2)
           go_roundw
           case rel => exact ⟨i + 1, k + 1, X ++ [x], by omega, by omega, by go_num, by go_num, A0 ⟨HO2.out, HN.out, HD2.out⟩⟩
           case measure => simp [intOf]; omega
        · have HN := A0 (NB.out hlt hxy)
          have hne : Hid (¬ (x.1 = y.1 ∧ x.2.1 = y.2.1 ∧ x.2.2 = y.2.2)) := A0 (fun h => hxy (Prod.ext h.1 (Prod.ext h.2.1 h.2.2)))
          clear hxy hlt
          go_cut [62] from 48 to 62 (fun v W => v = .bool false ∧ Hid (W.ownsRow w.heap.size 50 3 u5 X.length (X.flatMap Ae)) ∧ Hid (Below w.heap.size w W))
          case first =>
           have hmo : AJ 0 [vI 0 (.int .i64 i), vI 1 (.slice (some ⟨ga, oa, none⟩) A.length ca), vI 2 (.int .i64 (A.length : Int)), vI 3 (.bool true), vI 4 (.bool true), vI 5 (.slice (some ⟨ga, oa, none⟩) A.length ca), vI 6 (.int .i64 i), vI 7 (.pointer (some ⟨ga, oa + i * 3, none⟩)), vI 8 (.agg #[.int .i64 x.1, .int .i64 x.2.1, .int .i64 x.2.2]), vI 9 (.slice (some ⟨gb, ob, none⟩) B.length cb), vI 10 (.int .i64 k), vI 11 (.pointer (some ⟨gb, ob + k * 3, none⟩)), vI 12 (.agg #[.int .i64 y.1, .int .i64 y.2.1, .int .i64 y.2.2]), vI 13 (.bool false), vI 14 (.bool false)] := ⟨A2 _ _, A2 _ _, A2 _ _, A2 _ _, A2 _ _, A2 _ _, A2 _ _, A2 _ _, A2 _ _, A2 _ _, A2 _ _, A2 _ _, A2 _ _, A2 _ _, A2 _ _, trivial⟩
           refine Aj _ (by kernel_rfl) (by kernel_rfl) (by kernel_rfl) (by kernel_rfl) hmo ⟨?o0, ?o1, ?o2, ?o3, ?o4, ?o5, ?o6, ?o7, ?o8, ?o9, ?o10, ?o11, ?o12, ?o13, ?o14, trivial⟩ ?fin
           case o0 =>
            intro At yy W hy hb d hd K hK
            obtain ⟨s6, s6'⟩ := AG (hb 6 rfl : _ = .int .i64 i)
            clear hd hy hb
            go_simp
            exact Ak hK hmo d (if_pos rfl)
           case o1 =>
            intro At yy W hy hb d hd K hK
            obtain ⟨s0, s0'⟩ := AG (hb 0 rfl : _ = .slice (some ⟨ga, oa, none⟩) A.length ca)
            clear hd hy hb
            go_simp
            exact Ak hK hmo d (if_pos rfl)
           case o2 =>
            intro At yy W hy hb d hd K hK
            obtain ⟨s49, s49'⟩ := Ao 1 49 .data hy hd rfl
            clear hd hy hb
            go_simp
            exact Ak hK hmo d (if_pos rfl)
           case o3 =>
            intro At yy W hy hb d hd K hK
            obtain ⟨s48, s48'⟩ := Ao 0 48 .data hy hd rfl
            obtain ⟨s50, s50'⟩ := Ao 2 50 .data hy hd rfl
            clear hd hy hb
            go_simp
            exact Ak hK hmo d (if_pos rfl)
           case o4 =>
            intro At yy W hy hb d hd K hK
            obtain ⟨s51, s51'⟩ := Ao 3 51 .data hy hd rfl
            clear hd hy hb
            go_simp
            exact Ak hK hmo d (if_pos rfl)
           case o5 =>
            intro At yy W hy hb d hd K hK
            obtain ⟨s0, s0'⟩ := AG (hb 0 rfl : _ = .slice (some ⟨ga, oa, none⟩) A.length ca)
            have g52 := BG 4 52 hy hd rfl
            clear hd hy hb
            go_simp
            exact Ak hK hmo d (if_pos rfl)
           case o6 =>
            intro At yy W hy hb d hd K hK
            obtain ⟨s6, s6'⟩ := AG (hb 6 rfl : _ = .int .i64 i)
            have g52 := BG 4 52 hy hd rfl
            clear hd hy hb
            go_simp
            exact Ak hK hmo d (if_pos rfl)
           case o7 =>
            intro At yy W hy hb d hd K hK
            obtain ⟨s53, s53'⟩ := Ao 5 53 .data hy hd rfl
            obtain ⟨s54, s54'⟩ := Ao 6 54 .data hy hd rfl
            have g52 := BG 4 52 hy hd rfl
            clear hd hy hb
            go_simp
            exact Ak hK hmo d (if_pos rfl)
           case o8 =>
            intro At yy W hy hb d hd K hK
            obtain ⟨s55, s55'⟩ := Ao 7 55 .data hy hd rfl
            have g52 := BG 4 52 hy hd rfl
            clear hd hy hb
            obtain ⟨q1, q2, q3⟩ := RA.out W (HYB.out.trans (d.mono HYB.out.size))
            go_simp
            exact Ak hK hmo d (if_pos rfl)
           case o9 =>
            intro At yy W hy hb d hd K hK
            obtain ⟨s1, s1'⟩ := AG (hb 1 rfl : _ = .slice (some ⟨gb, ob, none⟩) B.length cb)
            have g52 := BG 4 52 hy hd rfl
            clear hd hy hb
            go_simp
            exact Ak hK hmo d (if_pos rfl)
           case o10 =>
            intro At yy W hy hb d hd K hK
            obtain ⟨s7, s7'⟩ := AG (hb 7 rfl : _ = .int .i64 k)
            have g52 := BG 4 52 hy hd rfl
            clear hd hy hb
            go_simp
            exact Ak hK hmo d (if_pos rfl)
           case o11 =>
            intro At yy W hy hb d hd K hK
            obtain ⟨s57, s57'⟩ := Ao 9 57 .data hy hd rfl
            obtain ⟨s58, s58'⟩ := Ao 10 58 .data hy hd rfl
            have g52 := BG 4 52 hy hd rfl
            clear hd hy hb
            go_simp
            exact Ak hK hmo d (if_pos rfl)
           case o12 =>
            intro At yy W hy hb d hd K hK
            obtain ⟨s59, s59'⟩ := Ao 11 59 .data hy hd rfl
            have g52 := BG 4 52 hy hd rfl
            clear hd hy hb
            obtain ⟨q1, q2, q3⟩ := RB.out W (HYB.out.trans (d.mono HYB.out.size))
            go_simp
            exact Ak hK hmo d (if_pos rfl)
           case o13 =>
            intro At yy W hy hb d hd K hK
            obtain ⟨s56, s56'⟩ := Ao 8 56 .data hy hd rfl
            obtain ⟨s60, s60'⟩ := Ao 12 60 .data hy hd rfl
            have g52 := BG 4 52 hy hd rfl
            clear hd hy hb
            go_simp
            rw [PJ hne.out]
            simp only [Oper.upon]
            exact Ak hK hmo d (if_pos rfl)
           case o14 =>
            intro At yy W hy hb d hd K hK
            obtain ⟨s52, s52'⟩ := Ao 4 52 .data hy hd rfl
            obtain ⟨s61, s61'⟩ := Ao 13 61 .data hy hd rfl
            clear hd hy hb
            go_simp
            exact Ak hK hmo d (if_pos rfl)
           case fin =>
            intro yy lo hi W hM
            show wpList _ _ _ [] _ _
            have e0 := hM.v 0 (by simp) rfl rfl rfl
            have e1 := hM.v 1 (by simp) rfl rfl rfl
            have e2 := hM.v 2 (by simp) rfl rfl rfl
            have e3 := hM.v 3 (by simp) rfl rfl rfl
            have e4 := hM.v 4 (by simp) rfl rfl rfl
            have e5 := hM.v 5 (by simp) rfl rfl rfl
            have e6 := hM.v 6 (by simp) rfl rfl rfl
            have e7 := hM.v 7 (by simp) rfl rfl rfl
            have e8 := hM.v 8 (by simp) rfl rfl rfl
            have e9 := hM.v 9 (by simp) rfl rfl rfl
            have e10 := hM.v 10 (by simp) rfl rfl rfl
            have e11 := hM.v 11 (by simp) rfl rfl rfl
            have e12 := hM.v 12 (by simp) rfl rfl rfl
            have e13 := hM.v 13 (by simp) rfl rfl rfl
            have e14 := hM.v 14 (by simp) rfl rfl rfl
            have DW := A0 (HYB.out.trans (hM.d.mono HYB.out.size))
            have OW := A0 (A6 HYO.out hM.d)
            simp only [Aw, Act.put, List.take, List.length, List.setIfInBounds_toArray, List.set_cons_zero, List.set_cons_succ, e0, e1, e2, e3, e4, e5, e6, e7, e8, e9, e10, e11, e12, e13, e14]
            clear hM hmo e0 e1 e2 e3 e4 e5 e6 e7 e8 e9 e10 e11 e12 e13 e14
            go_wp2_with fail
            go_meet
            exact ⟨rfl, OW, DW⟩
          case rest =>
           obtain ⟨rfl, HYO, HYB⟩ := hcut
           rename World => wk
           obtain ⟨q1, q2, q3⟩ := RB.out wk HYB.out
           go_wp2_with (at_builtin; refine BX rfl _ _ rfl w.heap.size u5 X rfl (A6 HYO.out ((Below.refl _ _).alloc (Nat.le_refl _) _)) wk.heap.size y rfl (World.alloc_heap_new _ _) (by have := HXL.out; omega) w (HYB.out.alloc HYB.out.size _) (Nat.le_refl _) ?_; intro v2 w2 HO2 HD2)
           go_roundw
           case rel => exact ⟨i, k + 1, X ++ [y], by omega, by omega, rfl, by go_num, A0 ⟨HO2.out, HN.out, HD2.out⟩⟩
           case measure => simp [intOf]; omega
    · have k0 : ¬ (k : Int) < (B.length : Int) := by omega
      have keq : ((k : Int) == (B.length : Int)) = true := by simp; omega
      have HNA : Hid (AV A B = X ++ [A[i]] ++ AV (A.drop (i + 1)) (B.drop k)) := A0 (by rw [HYE.out, Oq hia hkb]; simp)
      generalize A[i] = x at RA HNA
      go_upto_region 5 with fail
      go_cut [38] from 18 to 38 (fun v W => v = .bool true ∧ Hid (W.ownsRow w.heap.size 50 3 u5 X.length (X.flatMap Ae)) ∧ Hid (Below w.heap.size w W))
      case first =>
       have hmo : AJ 0 [vI 0 (.int .i64 k), vI 1 (.slice ab B.length cb), vI 2 (.int .i64 (B.length : Int)), vI 3 (.bool true), vI 4 (.bool true), vI 5 (undef), vI 6 (undef), vI 7 (undef), vI 8 (undef), vI 9 (undef), vI 10 (undef), vI 11 (undef), vI 12 (undef), vI 13 (undef), vI 14 (undef), vI 15 (undef), vI 16 (undef), vI 17 (undef), vI 18 (undef), vI 19 (undef), vI 20 (.bool true)] := ⟨A2 _ _, A2 _ _, A2 _ _, A2 _ _, A2 _ _, A2 _ _, A2 _ _, A2 _ _, A2 _ _, A2 _ _, A2 _ _, A2 _ _, A2 _ _, A2 _ _, A2 _ _, A2 _ _, A2 _ _, A2 _ _, A2 _ _, A2 _ _, A2 _ _, trivial⟩
       refine Aj _ (by kernel_rfl) (by kernel_rfl) (by kernel_rfl) (by kernel_rfl) hmo ⟨?o0, ?o1, ?o2, ?o3, ?o4, ?o5, ?o6, ?o7, ?o8, ?o9, ?o10, ?o11, ?o12, ?o13, ?o14, ?o15, ?o16, ?o17, ?o18, ?o19, ?o20, trivial⟩ ?fin
       case o0 =>
        intro At yy W hy hb d hd K hK
        obtain ⟨s7, s7'⟩ := AG (hb 7 rfl : _ = .int .i64 k)
        clear hd hy hb
        go_simp
        exact Ak hK hmo d (if_pos rfl)
       case o1 =>
        intro At yy W hy hb d hd K hK
        obtain ⟨s1, s1'⟩ := AG (hb 1 rfl : _ = .slice ab B.length cb)
        clear hd hy hb
        go_simp
        exact Ak hK hmo d (if_pos rfl)
       case o2 =>
        intro At yy W hy hb d hd K hK
        obtain ⟨s19, s19'⟩ := Ao 1 19 .data hy hd rfl
        clear hd hy hb
        go_simp
        exact Ak hK hmo d (if_pos rfl)
       case o3 =>
        intro At yy W hy hb d hd K hK
        obtain ⟨s18, s18'⟩ := Ao 0 18 .data hy hd rfl
        obtain ⟨s20, s20'⟩ := Ao 2 20 .data hy hd rfl
        clear hd hy hb
        go_simp
        exact Ak hK hmo d (if_pos rfl)
       case o4 =>
        intro At yy W hy hb d hd K hK
        obtain ⟨s21, s21'⟩ := Ao 3 21 .data hy hd rfl
        clear hd hy hb
        go_simp
        exact Ak hK hmo d (if_pos rfl)
       case o5 =>
        intro At yy W hy hb d hd K hK
        have g22 := BG 4 22 hy hd rfl
        clear hd hy hb
        go_simp
        exact Ak hK hmo d (if_pos rfl)
       case o6 =>
        intro At yy W hy hb d hd K hK
        have g22 := BG 4 22 hy hd rfl
        clear hd hy hb
        go_simp
        exact Ak hK hmo d (if_pos rfl)
       case o7 =>
        intro At yy W hy hb d hd K hK
        have e6 := DT (hd ⟨6, .data⟩ (by simp) rfl rfl) rfl
        have g22 := BG 4 22 hy hd rfl
        clear hd hy hb
        go_simp
        exact Ak hK hmo d (if_pos rfl)
       case o8 =>
        intro At yy W hy hb d hd K hK
        have e5 := DT (hd ⟨5, .data⟩ (by simp) rfl rfl) rfl
        have e7 := DT (hd ⟨7, .data⟩ (by simp) rfl rfl) rfl
        have g22 := BG 4 22 hy hd rfl
        clear hd hy hb
        go_simp
        exact Ak hK hmo d (if_pos rfl)
       case o9 =>
        intro At yy W hy hb d hd K hK
        have e8 := DT (hd ⟨8, .data⟩ (by simp) rfl rfl) rfl
        have g22 := BG 4 22 hy hd rfl
        clear hd hy hb
        go_simp
        exact Ak hK hmo d (if_pos rfl)
       case o10 =>
        intro At yy W hy hb d hd K hK
        obtain ⟨s27, s27'⟩ := Ao 9 27 .guard hy hd rfl
        have g27 := Bz s27
        clear hd hy hb
        rcases g27 with g27 | g27
        · go_simp
          exact Ak hK hmo d (if_pos rfl)
        · go_simp
          exact Ak hK hmo d (if_pos rfl)
       case o11 =>
        intro At yy W hy hb d hd K hK
        obtain ⟨s27, s27'⟩ := Ao 9 27 .guard hy hd rfl
        have g27 := Bz s27
        clear hd hy hb
        rcases g27 with g27 | g27
        · go_simp
          exact Ak hK hmo d (if_pos rfl)
        · go_simp
          exact Ak hK hmo d (if_pos rfl)
       case o12 =>
        intro At yy W hy hb d hd K hK
        have e10 := DT (hd ⟨10, .data⟩ (by simp) rfl rfl) rfl
        have e11 := DT (hd ⟨11, .data⟩ (by simp) rfl rfl) rfl
        obtain ⟨s27, s27'⟩ := Ao 9 27 .guard hy hd rfl
        have g27 := Bz s27
        clear hd hy hb
        rcases g27 with g27 | g27
        · go_simp
          exact Ak hK hmo d (if_pos rfl)
        · go_simp
          exact Ak hK hmo d (if_pos rfl)
       case o13 =>
        intro At yy W hy hb d hd K hK
        have e12 := DT (hd ⟨12, .data⟩ (by simp) rfl rfl) rfl
        obtain ⟨s27, s27'⟩ := Ao 9 27 .guard hy hd rfl
        have g27 := Bz s27
        clear hd hy hb
        rcases g27 with g27 | g27
        · go_simp
          exact Ak hK hmo d (if_pos rfl)
        · go_simp
          exact Ak hK hmo d (if_pos rfl)
       case o14 =>
        intro At yy W hy hb d hd K hK
        obtain ⟨s27, s27'⟩ := Ao 9 27 .guard hy hd rfl
        have g27 := Bz s27
        clear hd hy hb
        rcases g27 with g27 | g27
        · go_simp
          exact Ak hK hmo d (if_pos rfl)
        · go_simp
          exact Ak hK hmo d (if_pos rfl)
       case o15 =>
        intro At yy W hy hb d hd K hK
        obtain ⟨s27, s27'⟩ := Ao 9 27 .guard hy hd rfl
        have g27 := Bz s27
        clear hd hy hb
        rcases g27 with g27 | g27
        · go_simp
          exact Ak hK hmo d (if_pos rfl)
        · go_simp
          exact Ak hK hmo d (if_pos rfl)
       case o16 =>
        intro At yy W hy hb d hd K hK
        have e14 := DT (hd ⟨14, .data⟩ (by simp) rfl rfl) rfl
        have e15 := DT (hd ⟨15, .data⟩ (by simp) rfl rfl) rfl
        obtain ⟨s27, s27'⟩ := Ao 9 27 .guard hy hd rfl
        have g27 := Bz s27
        clear hd hy hb
        rcases g27 with g27 | g27
        · go_simp
          exact Ak hK hmo d (if_pos rfl)
        · go_simp
          exact Ak hK hmo d (if_pos rfl)
       case o17 =>
        intro At yy W hy hb d hd K hK
        have e16 := DT (hd ⟨16, .data⟩ (by simp) rfl rfl) rfl
        obtain ⟨s27, s27'⟩ := Ao 9 27 .guard hy hd rfl
        have g27 := Bz s27
        clear hd hy hb
        rcases g27 with g27 | g27
        · go_simp
          exact Ak hK hmo d (if_pos rfl)
        · go_simp
          exact Ak hK hmo d (if_pos rfl)
       case o18 =>
        intro At yy W hy hb d hd K hK
        have e13 := DT (hd ⟨13, .data⟩ (by simp) rfl rfl) rfl
        have e17 := DT (hd ⟨17, .data⟩ (by simp) rfl rfl) rfl
        obtain ⟨s27, s27'⟩ := Ao 9 27 .guard hy hd rfl
        have g27 := Bz s27
        clear hd hy hb
        rcases g27 with g27 | g27
        · go_simp
          exact Ak hK hmo d (if_pos rfl)
        · go_simp
          exact Ak hK hmo d (if_pos rfl)
       case o19 =>
        intro At yy W hy hb d hd K hK
        have e9 := DT (hd ⟨9, .data⟩ (by simp) rfl rfl) rfl
        have e18 := DT (hd ⟨18, .data⟩ (by simp) rfl rfl) rfl
        have g22 := BG 4 22 hy hd rfl
        clear hd hy hb
        go_simp
        exact Ak hK hmo d (if_pos rfl)
       case o20 =>
        intro At yy W hy hb d hd K hK
        obtain ⟨s22, s22'⟩ := Ao 4 22 .data hy hd rfl
        obtain ⟨s37, s37'⟩ := Ao 19 37 .data hy hd rfl
        clear hd hy hb
        go_simp
        exact Ak hK hmo d (if_pos rfl)
       case fin =>
        intro yy lo hi W hM
        show wpList _ _ _ [] _ _
        have e0 := hM.v 0 (by simp) rfl rfl rfl
        have e1 := hM.v 1 (by simp) rfl rfl rfl
        have e2 := hM.v 2 (by simp) rfl rfl rfl
        have e3 := hM.v 3 (by simp) rfl rfl rfl
        have e4 := hM.v 4 (by simp) rfl rfl rfl
        have e5 := hM.v 5 (by simp) rfl rfl rfl
        have e6 := hM.v 6 (by simp) rfl rfl rfl
        have e7 := hM.v 7 (by simp) rfl rfl rfl
        have e8 := hM.v 8 (by simp) rfl rfl rfl
        have e9 := hM.v 9 (by simp) rfl rfl rfl
        have e10 := hM.v 10 (by simp) rfl rfl rfl
        have e11 := hM.v 11 (by simp) rfl rfl rfl
        have e12 := hM.v 12 (by simp) rfl rfl rfl
        have e13 := hM.v 13 (by simp) rfl rfl rfl
        have e14 := hM.v 14 (by simp) rfl rfl rfl
        have e15 := hM.v 15 (by simp) rfl rfl rfl
        have e16 := hM.v 16 (by simp) rfl rfl rfl
        have e17 := hM.v 17 (by simp) rfl rfl rfl
        have e18 := hM.v 18 (by simp) rfl rfl rfl
        have e19 := hM.v 19 (by simp) rfl rfl rfl
        have e20 := hM.v 20 (by simp) rfl rfl rfl
        have DW := A0 (HYB.out.trans (hM.d.mono HYB.out.size))
        have OW := A0 (A6 HYO.out hM.d)
        simp only [Aw, Act.put, List.take, List.length, List.setIfInBounds_toArray, List.set_cons_zero, List.set_cons_succ, e0, e1, e2, e3, e4, e5, e6, e7, e8, e9, e10, e11, e12, e13, e14, e15, e16, e17, e18, e19, e20]
        clear hM hmo e0 e1 e2 e3 e4 e5 e6 e7 e8 e9 e10 e11 e12 e13 e14 e15 e16 e17 e18 e19 e20
        go_wp2_with fail
        go_meet
        exact ⟨rfl, OW, DW⟩
      case rest =>
       obtain ⟨rfl, HYO, HYB⟩ := hcut
       rename World => wk
       obtain ⟨q1, q2, q3⟩ := RA.out wk HYB.out
       go_wp2_with (at_builtin; refine BX rfl _ _ rfl w.heap.size u5 X rfl (A6 HYO.out ((Below.refl _ _).alloc (Nat.le_refl _) _)) wk.heap.size x rfl (World.alloc_heap_new _ _) (by have := HXL.out; omega) w (HYB.out.alloc HYB.out.size _) (Nat.le_refl _) ?_; intro v2 w2 HO2 HD2)
       go_roundw
       case rel => exact ⟨i + 1, k, X ++ [x], by omega, by omega, by go_num, rfl, A0 ⟨HO2.out, HNA.out, HD2.out⟩⟩
       case measure => simp [intOf]; omega
  · have i0 : ¬ (i : Int) < (A.length : Int) := by omega
    by_cases hkb : k < B.length
    · have k0 : (k : Int) < (B.length : Int) := by omega
      have kne : ((k : Int) == (B.length : Int)) = false := by simp; omega
      obtain ⟨gb, ob, hbb, p1, p2, p3⟩ := hB.out k hkb
      subst hbb
      have RB : Hid (∀ W, Below w.heap.size w W → W.cell? ⟨gb, ob + k * 3, none⟩ = some (.int .i64 B[k].1) ∧ W.cell? ⟨gb, ob + k * 3 + 1, none⟩ = some (.int .i64 B[k].2.1) ∧ W.cell? ⟨gb, ob + k * 3 + 2, none⟩ = some (.int .i64 B[k].2.2)) := A0 (fun W d => ⟨(d.cell (p := ⟨gb, ob + k * 3, none⟩) (World.block_lt_of_cell? w _ p1)).trans p1, (d.cell (p := ⟨gb, ob + k * 3 + 1, none⟩) (World.block_lt_of_cell? w _ p2)).trans p2, (d.cell (p := ⟨gb, ob + k * 3 + 2, none⟩) (World.block_lt_of_cell? w _ p3)).trans p3⟩)
      clear p1 p2 p3
      have HN : Hid (AV A B = X ++ [B[k]] ++ AV (A.drop i) (B.drop (k + 1))) := A0 (by rw [HYE.out, O3 hia hkb]; simp)
      generalize B[k] = y at RB HN
      go_upto_region 5 with fail
      go_cut [38] from 18 to 38 (fun v W => v = .bool false ∧ Hid (W.ownsRow w.heap.size 50 3 u5 X.length (X.flatMap Ae)) ∧ Hid (Below w.heap.size w W))
      case first =>
       have hmo : AJ 0 [vI 0 (.int .i64 k), vI 1 (.slice (some ⟨gb, ob, none⟩) B.length cb), vI 2 (.int .i64 (B.length : Int)), vI 3 (.bool false), vI 4 (.bool false), vI 5 (.int .i64 i), vI 6 (.slice aa A.length ca), vI 7 (.int .i64 (A.length : Int)), vI 8 (.bool false), vI 9 (.bool false), vI 10 (undef), vI 11 (undef), vI 12 (undef), vI 13 (undef), vI 14 (undef), vI 15 (undef), vI 16 (undef), vI 17 (undef), vI 18 (undef), vI 19 (.bool false), vI 20 (.bool false)] := ⟨A2 _ _, A2 _ _, A2 _ _, A2 _ _, A2 _ _, A2 _ _, A2 _ _, A2 _ _, A2 _ _, A2 _ _, A2 _ _, A2 _ _, A2 _ _, A2 _ _, A2 _ _, A2 _ _, A2 _ _, A2 _ _, A2 _ _, A2 _ _, A2 _ _, trivial⟩
       refine Aj _ (by kernel_rfl) (by kernel_rfl) (by kernel_rfl) (by kernel_rfl) hmo ⟨?o0, ?o1, ?o2, ?o3, ?o4, ?o5, ?o6, ?o7, ?o8, ?o9, ?o10, ?o11, ?o12, ?o13, ?o14, ?o15, ?o16, ?o17, ?o18, ?o19, ?o20, trivial⟩ ?fin
       case o0 =>
        intro At yy W hy hb d hd K hK
        obtain ⟨s7, s7'⟩ := AG (hb 7 rfl : _ = .int .i64 k)
        clear hd hy hb
        go_simp
        exact Ak hK hmo d (if_pos rfl)
       case o1 =>
        intro At yy W hy hb d hd K hK
        obtain ⟨s1, s1'⟩ := AG (hb 1 rfl : _ = .slice (some ⟨gb, ob, none⟩) B.length cb)
        clear hd hy hb
        go_simp
        exact Ak hK hmo d (if_pos rfl)
       case o2 =>
        intro At yy W hy hb d hd K hK
        obtain ⟨s19, s19'⟩ := Ao 1 19 .data hy hd rfl
        clear hd hy hb
        go_simp
        exact Ak hK hmo d (if_pos rfl)
       case o3 =>
        intro At yy W hy hb d hd K hK
        obtain ⟨s18, s18'⟩ := Ao 0 18 .data hy hd rfl
        obtain ⟨s20, s20'⟩ := Ao 2 20 .data hy hd rfl
        clear hd hy hb
        go_simp
        exact Ak hK hmo d (if_pos rfl)
       case o4 =>
        intro At yy W hy hb d hd K hK
        obtain ⟨s21, s21'⟩ := Ao 3 21 .data hy hd rfl
        clear hd hy hb
        go_simp
        exact Ak hK hmo d (if_pos rfl)
       case o5 =>
        intro At yy W hy hb d hd K hK
        obtain ⟨s6, s6'⟩ := AG (hb 6 rfl : _ = .int .i64 i)
        have g22 := BG 4 22 hy hd rfl
        clear hd hy hb
        go_simp
        exact Ak hK hmo d (if_pos rfl)
       case o6 =>
        intro At yy W hy hb d hd K hK
        obtain ⟨s0, s0'⟩ := AG (hb 0 rfl : _ = .slice aa A.length ca)
        have g22 := BG 4 22 hy hd rfl
        clear hd hy hb
        go_simp
        exact Ak hK hmo d (if_pos rfl)
       case o7 =>
        intro At yy W hy hb d hd K hK
        obtain ⟨s24, s24'⟩ := Ao 6 24 .data hy hd rfl
        have g22 := BG 4 22 hy hd rfl
        clear hd hy hb
        go_simp
        exact Ak hK hmo d (if_pos rfl)
       case o8 =>
        intro At yy W hy hb d hd K hK
        obtain ⟨s23, s23'⟩ := Ao 5 23 .data hy hd rfl
        obtain ⟨s25, s25'⟩ := Ao 7 25 .data hy hd rfl
        have g22 := BG 4 22 hy hd rfl
        clear hd hy hb
        go_simp
        exact Ak hK hmo d (if_pos rfl)
       case o9 =>
        intro At yy W hy hb d hd K hK
        obtain ⟨s26, s26'⟩ := Ao 8 26 .data hy hd rfl
        have g22 := BG 4 22 hy hd rfl
        clear hd hy hb
        go_simp
        exact Ak hK hmo d (if_pos rfl)
       case o10 =>
        intro At yy W hy hb d hd K hK
        have g27 := BG 9 27 hy hd rfl
        clear hd hy hb
        go_simp
        exact Ak hK hmo d (if_pos rfl)
       case o11 =>
        intro At yy W hy hb d hd K hK
        have g27 := BG 9 27 hy hd rfl
        clear hd hy hb
        go_simp
        exact Ak hK hmo d (if_pos rfl)
       case o12 =>
        intro At yy W hy hb d hd K hK
        have e10 := DT (hd ⟨10, .data⟩ (by simp) rfl rfl) rfl
        have e11 := DT (hd ⟨11, .data⟩ (by simp) rfl rfl) rfl
        have g27 := BG 9 27 hy hd rfl
        clear hd hy hb
        go_simp
        exact Ak hK hmo d (if_pos rfl)
       case o13 =>
        intro At yy W hy hb d hd K hK
        have e12 := DT (hd ⟨12, .data⟩ (by simp) rfl rfl) rfl
        have g27 := BG 9 27 hy hd rfl
        clear hd hy hb
        go_simp
        exact Ak hK hmo d (if_pos rfl)
       case o14 =>
        intro At yy W hy hb d hd K hK
        have g27 := BG 9 27 hy hd rfl
        clear hd hy hb
        go_simp
        exact Ak hK hmo d (if_pos rfl)
       case o15 =>
        intro At yy W hy hb d hd K hK
        have g27 := BG 9 27 hy hd rfl
        clear hd hy hb
        go_simp
        exact Ak hK hmo d (if_pos rfl)
       case o16 =>
        intro At yy W hy hb d hd K hK
        have e14 := DT (hd ⟨14, .data⟩ (by simp) rfl rfl) rfl
        have e15 := DT (hd ⟨15, .data⟩ (by simp) rfl rfl) rfl
        have g27 := BG 9 27 hy hd rfl
        clear hd hy hb
        go_simp
        exact Ak hK hmo d (if_pos rfl)
       case o17 =>
        intro At yy W hy hb d hd K hK
        have e16 := DT (hd ⟨16, .data⟩ (by simp) rfl rfl) rfl
        have g27 := BG 9 27 hy hd rfl
        clear hd hy hb
        go_simp
        exact Ak hK hmo d (if_pos rfl)
       case o18 =>
        intro At yy W hy hb d hd K hK
        have e13 := DT (hd ⟨13, .data⟩ (by simp) rfl rfl) rfl
        have e17 := DT (hd ⟨17, .data⟩ (by simp) rfl rfl) rfl
        have g27 := BG 9 27 hy hd rfl
        clear hd hy hb
        go_simp
        exact Ak hK hmo d (if_pos rfl)
       case o19 =>
        intro At yy W hy hb d hd K hK
        obtain ⟨s27, s27'⟩ := Ao 9 27 .data hy hd rfl
        obtain ⟨s36, s36'⟩ := Ao 18 36 .data hy hd rfl
        have g22 := BG 4 22 hy hd rfl
        clear hd hy hb
        go_simp
        exact Ak hK hmo d (if_pos rfl)
       case o20 =>
        intro At yy W hy hb d hd K hK
        obtain ⟨s22, s22'⟩ := Ao 4 22 .data hy hd rfl
        obtain ⟨s37, s37'⟩ := Ao 19 37 .data hy hd rfl
        clear hd hy hb
        go_simp
        exact Ak hK hmo d (if_pos rfl)
       case fin =>
        intro yy lo hi W hM
        show wpList _ _ _ [] _ _
        have e0 := hM.v 0 (by simp) rfl rfl rfl
        have e1 := hM.v 1 (by simp) rfl rfl rfl
        have e2 := hM.v 2 (by simp) rfl rfl rfl
        have e3 := hM.v 3 (by simp) rfl rfl rfl
        have e4 := hM.v 4 (by simp) rfl rfl rfl
        have e5 := hM.v 5 (by simp) rfl rfl rfl
        have e6 := hM.v 6 (by simp) rfl rfl rfl
        have e7 := hM.v 7 (by simp) rfl rfl rfl
        have e8 := hM.v 8 (by simp) rfl rfl rfl
        have e9 := hM.v 9 (by simp) rfl rfl rfl
        have e10 := hM.v 10 (by simp) rfl rfl rfl
        have e11 := hM.v 11 (by simp) rfl rfl rfl
        have e12 := hM.v 12 (by simp) rfl rfl rfl
        have e13 := hM.v 13 (by simp) rfl rfl rfl
        have e14 := hM.v 14 (by simp) rfl rfl rfl
        have e15 := hM.v 15 (by simp) rfl rfl rfl
        have e16 := hM.v 16 (by simp) rfl rfl rfl
        have e17 := hM.v 17 (by simp) rfl rfl rfl
        have e18 := hM.v 18 (by simp) rfl rfl rfl
        have e19 := hM.v 19 (by simp) rfl rfl rfl
        have e20 := hM.v 20 (by simp) rfl rfl rfl
        have DW := A0 (HYB.out.trans (hM.d.mono HYB.out.size))
        have OW := A0 (A6 HYO.out hM.d)
        simp only [Aw, Act.put, List.take, List.length, List.setIfInBounds_toArray, List.set_cons_zero, List.set_cons_succ, e0, e1, e2, e3, e4, e5, e6, e7, e8, e9, e10, e11, e12, e13, e14, e15, e16, e17, e18, e19, e20]
        clear hM hmo e0 e1 e2 e3 e4 e5 e6 e7 e8 e9 e10 e11 e12 e13 e14 e15 e16 e17 e18 e19 e20
        go_wp2_with fail
        go_meet
        exact ⟨rfl, OW, DW⟩
      case rest =>
       obtain ⟨rfl, HYO, HYB⟩ := hcut
       rename World => wk
       go_upto_region 8 with fail
       go_cut [62] from 48 to 62 (fun v W => v = .bool false ∧ Hid (W.ownsRow w.heap.size 50 3 u5 X.length (X.flatMap Ae)) ∧ Hid (Below w.heap.size w W))
       case first =>
        have hmo : AJ 0 [vI 0 (.int .i64 i), vI 1 (.slice aa A.length ca), vI 2 (.int .i64 (A.length : Int)), vI 3 (.bool false), vI 4 (.bool false), vI 5 (undef), vI 6 (undef), vI 7 (undef), vI 8 (undef), vI 9 (undef), vI 10 (undef), vI 11 (undef), vI 12 (undef), vI 13 (undef), vI 14 (.bool false)] := ⟨A2 _ _, A2 _ _, A2 _ _, A2 _ _, A2 _ _, A2 _ _, A2 _ _, A2 _ _, A2 _ _, A2 _ _, A2 _ _, A2 _ _, A2 _ _, A2 _ _, A2 _ _, trivial⟩
        refine Aj _ (by kernel_rfl) (by kernel_rfl) (by kernel_rfl) (by kernel_rfl) hmo ⟨?o0, ?o1, ?o2, ?o3, ?o4, ?o5, ?o6, ?o7, ?o8, ?o9, ?o10, ?o11, ?o12, ?o13, ?o14, trivial⟩ ?fin
        case o0 =>
         intro At yy W hy hb d hd K hK
         obtain ⟨s6, s6'⟩ := AG (hb 6 rfl : _ = .int .i64 i)
         clear hd hy hb
         go_simp
         exact Ak hK hmo d (if_pos rfl)
        case o1 =>
         intro At yy W hy hb d hd K hK
         obtain ⟨s0, s0'⟩ := AG (hb 0 rfl : _ = .slice aa A.length ca)
         clear hd hy hb
         go_simp
         exact Ak hK hmo d (if_pos rfl)
        case o2 =>
         intro At yy W hy hb d hd K hK
         obtain ⟨s49, s49'⟩ := Ao 1 49 .data hy hd rfl
         clear hd hy hb
         go_simp
         exact Ak hK hmo d (if_pos rfl)
        case o3 =>
         intro At yy W hy hb d hd K hK
         obtain ⟨s48, s48'⟩ := Ao 0 48 .data hy hd rfl
         obtain ⟨s50, s50'⟩ := Ao 2 50 .data hy hd rfl
         clear hd hy hb
         go_simp
         exact Ak hK hmo d (if_pos rfl)
        case o4 =>
         intro At yy W hy hb d hd K hK
         obtain ⟨s51, s51'⟩ := Ao 3 51 .data hy hd rfl
         clear hd hy hb
         go_simp
         exact Ak hK hmo d (if_pos rfl)
        case o5 =>
         intro At yy W hy hb d hd K hK
         have g52 := BG 4 52 hy hd rfl
         clear hd hy hb
         go_simp
         exact Ak hK hmo d (if_pos rfl)
        case o6 =>
         intro At yy W hy hb d hd K hK
         have g52 := BG 4 52 hy hd rfl
         clear hd hy hb
         go_simp
         exact Ak hK hmo d (if_pos rfl)
        case o7 =>
         intro At yy W hy hb d hd K hK
         have e5 := DT (hd ⟨5, .data⟩ (by simp) rfl rfl) rfl
         have e6 := DT (hd ⟨6, .data⟩ (by simp) rfl rfl) rfl
         have g52 := BG 4 52 hy hd rfl
         clear hd hy hb
         go_simp
         exact Ak hK hmo d (if_pos rfl)
        case o8 =>
         intro At yy W hy hb d hd K hK
         have e7 := DT (hd ⟨7, .data⟩ (by simp) rfl rfl) rfl
         have g52 := BG 4 52 hy hd rfl
         clear hd hy hb
         go_simp
         exact Ak hK hmo d (if_pos rfl)
        case o9 =>
         intro At yy W hy hb d hd K hK
         have g52 := BG 4 52 hy hd rfl
         clear hd hy hb
         go_simp
         exact Ak hK hmo d (if_pos rfl)
        case o10 =>
         intro At yy W hy hb d hd K hK
         have g52 := BG 4 52 hy hd rfl
         clear hd hy hb
         go_simp
         exact Ak hK hmo d (if_pos rfl)
        case o11 =>
         intro At yy W hy hb d hd K hK
         have e9 := DT (hd ⟨9, .data⟩ (by simp) rfl rfl) rfl
         have e10 := DT (hd ⟨10, .data⟩ (by simp) rfl rfl) rfl
         have g52 := BG 4 52 hy hd rfl
         clear hd hy hb
         go_simp
         exact Ak hK hmo d (if_pos rfl)
        case o12 =>
         intro At yy W hy hb d hd K hK
         have e11 := DT (hd ⟨11, .data⟩ (by simp) rfl rfl) rfl
         have g52 := BG 4 52 hy hd rfl
         clear hd hy hb
         go_simp
         exact Ak hK hmo d (if_pos rfl)
        case o13 =>
         intro At yy W hy hb d hd K hK
         have e8 := DT (hd ⟨8, .data⟩ (by simp) rfl rfl) rfl
         have e12 := DT (hd ⟨12, .data⟩ (by simp) rfl rfl) rfl
         have g52 := BG 4 52 hy hd rfl
         clear hd hy hb
         go_simp
         exact Ak hK hmo d (if_pos rfl)
        case o14 =>
         intro At yy W hy hb d hd K hK
         obtain ⟨s52, s52'⟩ := Ao 4 52 .data hy hd rfl
         obtain ⟨s61, s61'⟩ := Ao 13 61 .data hy hd rfl
         clear hd hy hb
         go_simp
         exact Ak hK hmo d (if_pos rfl)
        case fin =>
         intro yy lo hi W hM
         show wpList _ _ _ [] _ _
         have e0 := hM.v 0 (by simp) rfl rfl rfl
         have e1 := hM.v 1 (by simp) rfl rfl rfl
         have e2 := hM.v 2 (by simp) rfl rfl rfl
         have e3 := hM.v 3 (by simp) rfl rfl rfl
         have e4 := hM.v 4 (by simp) rfl rfl rfl
         have e5 := hM.v 5 (by simp) rfl rfl rfl
         have e6 := hM.v 6 (by simp) rfl rfl rfl
         have e7 := hM.v 7 (by simp) rfl rfl rfl
         have e8 := hM.v 8 (by simp) rfl rfl rfl
         have e9 := hM.v 9 (by simp) rfl rfl rfl
         have e10 := hM.v 10 (by simp) rfl rfl rfl
         have e11 := hM.v 11 (by simp) rfl rfl rfl
         have e12 := hM.v 12 (by simp) rfl rfl rfl
         have e13 := hM.v 13 (by simp) rfl rfl rfl
         have e14 := hM.v 14 (by simp) rfl rfl rfl
         have DW := A0 (HYB.out.trans (hM.d.mono HYB.out.size))
         have OW := A0 (A6 HYO.out hM.d)
         simp only [Aw, Act.put, List.take, List.length, List.setIfInBounds_toArray, List.set_cons_zero, List.set_cons_succ, e0, e1, e2, e3, e4, e5, e6, e7, e8, e9, e10, e11, e12, e13, e14]
         clear hM hmo e0 e1 e2 e3 e4 e5 e6 e7 e8 e9 e10 e11 e12 e13 e14
         go_wp2_with fail
         go_meet
         exact ⟨rfl, OW, DW⟩
       case rest =>
        obtain ⟨rfl, HYO, HYB⟩ := hcut
        rename World => wk
        obtain ⟨q1, q2, q3⟩ := RB.out wk HYB.out
        go_wp2_with (at_builtin; refine BX rfl _ _ rfl w.heap.size u5 X rfl (A6 HYO.out ((Below.refl _ _).alloc (Nat.le_refl _) _)) wk.heap.size y rfl (World.alloc_heap_new _ _) (by have := HXL.out; omega) w (HYB.out.alloc HYB.out.size _) (Nat.le_refl _) ?_; intro v2 w2 HO2 HD2)
        go_roundw
        case rel => exact ⟨i, k + 1, X ++ [y], by omega, by omega, rfl, by go_num, A0 ⟨HO2.out, HN.out, HD2.out⟩⟩
        case measure => simp [intOf]; omega
    · have k0 : ¬ (k : Int) < (B.length : Int) := by omega
      have HX : Hid (AV A B = X) := A0 (by rw [HYE.out, List.drop_eq_nil_of_le (show A.length ≤ i by omega), List.drop_eq_nil_of_le (show B.length ≤ k by omega)]; simp [AV])
      obtain ⟨b, c, hv⟩ := A8 HYO.out
      subst hv
      go_wp2_with fail
      refine bodyPost_ret (results_tmp rfl _ _ _) rfl ?_
      exact ⟨b, c, by rw [HX.out]; rfl, by rw [HX.out]; exact HYO, HYB.out⟩
theorem Cu {L : List Aa} (h : L.length < 2) : A7 L = L :=
 II _ _ (AZ _) (by
  match L, h with
  | [], _ => exact List.Pairwise.nil
  | [x], _ => exact List.pairwise_singleton _ _) fun x => AY L x
theorem Cl.take {W : World} {ao : Option Addr} {L : List Aa} (h : Cl W ao L) (k : Nat) : Cl W ao (L.take k) := fun j hj => by
 have hj2 : j < L.length := by rw [List.length_take] at hj; omega
 obtain ⟨g, o, e, q⟩ := h j hj2
 exact ⟨g, o, e, by simpa using q⟩
theorem Cl.drop {W : World} {g o : Nat} {L : List Aa} (h : Cl W (some ⟨g, o, none⟩) L) (k : Nat) : Cl W (some ⟨g, o + k * 3, none⟩) (L.drop k) := fun j hj => by
 have hj2 : k + j < L.length := by rw [List.length_drop] at hj; omega
 obtain ⟨g', o', e, q1, q2, q3⟩ := h (k + j) hj2
 cases e
 refine ⟨g, o + k * 3, rfl, ?_⟩
 have e1 : o + k * 3 + j * 3 = o + (k + j) * 3 := by omega
 rw [e1]
 simpa using And.intro q1 (And.intro q2 q3)
def NR (X : List Aa) : Ef := fun x _ _ W => ∃ b c, x = .slice b X.length c ∧ Cl W b X
theorem Gl {X : List Aa} : B8 (NR X) := fun _ _ _ _ _ _ d ⟨b, c, e, o⟩ => ⟨b, c, e, o.on d⟩
def P7 (B : Nat) (X : List Aa) : Ef := fun x _ _ W => W.ownsRow B 50 3 x X.length (X.flatMap Ae)
theorem JT {B : Nat} {X : List Aa} : B8 (P7 B X) := fun _ _ _ _ _ _ d h => A6 h d
theorem CV : ∀ (A B : List Aa) (x : Aa), x ∈ AV A B ↔ x ∈ A ∨ x ∈ B
 | [], B, x => by simp [AV]
 | a :: A, [], x => by simp [AV]
 | a :: A, b :: B, x => by
  rw [AV]
  split
  · rw [List.mem_cons, CV A (b :: B), List.mem_cons (a := x) (l := A)]; exact or_assoc.symm
  · split
    · rename_i h; subst h
      rw [List.mem_cons, CV A B, List.mem_cons, List.mem_cons]
      constructor
      · rintro (h | h | h)
        · exact Or.inl (Or.inl h)
        · exact Or.inl (Or.inr h)
        · exact Or.inr (Or.inr h)
      · rintro ((h | h) | (h | h))
        · exact Or.inl h
        · exact Or.inr (Or.inl h)
        · exact Or.inl h
        · exact Or.inr (Or.inr h)
    · rw [List.mem_cons, CV (a :: A) B, List.mem_cons (a := x) (l := B)]
      constructor
      · rintro (h | h | h)
        · exact Or.inr (Or.inl h)
        · exact Or.inl h
        · exact Or.inr (Or.inr h)
      · rintro (h | h | h)
        · exact Or.inr (Or.inl h)
        · exact Or.inl h
        · exact Or.inr (Or.inr h)
termination_by A B => A.length + B.length
theorem Hi : ∀ (A B : List Aa), Fc A → Fc B → Fc (AV A B)
 | [], B, _, hB => by simpa [AV] using hB
 | a :: A, [], hA, _ => by simpa [AV] using hA
 | a :: A, b :: B, hA, hB => by
  have hA' := List.pairwise_cons.1 hA
  have hB' := List.pairwise_cons.1 hB
  have tr : ∀ {x y z : Aa}, C4 x y = true → C4 y z = true → C4 x z = true := fun h1 h2 => by rw [Ew] at h1 h2 ⊢; omega
  rw [AV]
  split
  · rename_i hab
    refine List.pairwise_cons.2 ⟨fun y hy => ?_, Hi A (b :: B) hA'.2 hB⟩
    rcases (CV A (b :: B) y).1 hy with h | h
    · exact hA'.1 y h
    · rcases List.mem_cons.1 h with rfl | h
      · exact hab
      · exact tr hab (hB'.1 y h)
  · rename_i hab
    split
    · rename_i h; subst h
      refine List.pairwise_cons.2 ⟨fun y hy => ?_, Hi A B hA'.2 hB'.2⟩
      rcases (CV A B y).1 hy with h | h
      · exact hA'.1 y h
      · exact hB'.1 y h
    · rename_i hne
      have hba : C4 b a = true := by
       cases h : C4 b a with
       | true => rfl
       | false => exact absurd (Oe a b (by simpa using hab) h) hne
      refine List.pairwise_cons.2 ⟨fun y hy => ?_, Hi (a :: A) B hA hB'.2⟩
      rcases (CV (a :: A) B y).1 hy with h | h
      · rcases List.mem_cons.1 h with rfl | h
        · exact hba
        · exact tr hba (hA'.1 y h)
      · exact hB'.1 y h
termination_by A B => A.length + B.length
theorem M3 (A B : List Aa) : AV (A7 A) (A7 B) = A7 (A ++ B) :=
 II _ _ (Hi _ _ (AZ A) (AZ B)) (AZ _) fun x => by rw [CV, AY, AY, AY, List.mem_append]
theorem DN : ∀ (n : Nat) (w : World) (ao : Option Addr) (L : List Aa) (cp : Nat), L.length ≤ n → Hid (Cl w ao L) → L.length ≤ cp → L.length ≤ 4194304 →
 Calls prog 68 #[.slice ao L.length cp] w fun e w' => ∃ b c, e = .returned (.slice b (A7 L).length c) ∧ Hid (w'.ownsRow w.heap.size 50 3 (.slice b (A7 L).length c) (A7 L).length ((A7 L).flatMap Ae)) ∧ Below w.heap.size w w' := by
 intro n
 induction n with
 | zero =>
  intro w ao L cp hn hr hc hl
  have T := EK w ao none L [] cp 0 hr (A0 fun j hj => by simp at hj) hl (by simp)
  rw [Fw] at T
  have l0 : ((L.length : Nat) : Int) < 2 := by omega
  have HE : Hid (A7 L = L) := A0 (Cu (by omega))
  go_enter func68, ntmps68
  go_wp2_with (go_at_call 81; refine T.mono ?_; rintro e w2 ⟨b, c, rfl, HR, d2⟩; have HD := A0 d2; clear d2)
  refine bodyPost_ret (results_tmp rfl _ _ _) rfl ?_
  exact ⟨b, c, by rw [HE.out]; rfl, by rw [HE.out]; exact HR, HD.out⟩
 | succ n ih =>
  intro w ao L cp hn hr hc hl
  by_cases h2 : L.length < 2
  · have T := EK w ao none L [] cp 0 hr (A0 fun j hj => by simp at hj) hl (by simp)
    rw [Fw] at T
    have l0 : ((L.length : Nat) : Int) < 2 := by omega
    have HE : Hid (A7 L = L) := A0 (Cu h2)
    clear ih
    go_enter func68, ntmps68
    go_wp2_with (go_at_call 81; refine T.mono ?_; rintro e w2 ⟨b, c, rfl, HR, d2⟩; have HD := A0 d2; clear d2)
    refine bodyPost_ret (results_tmp rfl _ _ _) rfl ?_
    exact ⟨b, c, by rw [HE.out]; rfl, by rw [HE.out]; exact HR, HD.out⟩
  · obtain ⟨h, hh⟩ : ∃ h, L.length / 2 = h := ⟨_, rfl⟩
    have hpos : 0 < L.length := by omega
    obtain ⟨g, o, hao, hq0⟩ := hr.out 0 hpos
    subst hao
    clear hq0
    have h1 : h ≤ L.length := by omega
    have h3 : 1 ≤ h ∧ h + 1 ≤ L.length := by omega
    have T1 : Hid (∀ W, Below w.heap.size w W → Calls prog 68 #[.slice (some ⟨g, o, none⟩) h cp] W fun e w' => ∃ b c, e = .returned (.slice b (A7 (L.take h)).length c) ∧ Hid (Cl w' b (A7 (L.take h))) ∧ Below W.heap.size W w') := A0 (fun W d => by
     have t := ih W (some ⟨g, o, none⟩) (L.take h) cp (by rw [List.length_take]; omega) (A0 ((hr.out.on d).take h)) (by rw [List.length_take]; omega) (by rw [List.length_take]; omega)
     rw [show (L.take h).length = h by rw [List.length_take]; omega] at t
     exact t.mono fun e w' ⟨b, c, he, ho, dd⟩ => ⟨b, c, he, A0 (BT ho.out), dd⟩)
    have T2 : Hid (∀ W, Below w.heap.size w W → Calls prog 68 #[.slice (some ⟨g, o + h * 3, none⟩) (L.length - h) (cp - h)] W fun e w' => ∃ b c, e = .returned (.slice b (A7 (L.drop h)).length c) ∧ Hid (Cl w' b (A7 (L.drop h))) ∧ Below W.heap.size W w') := A0 (fun W d => by
     have t := ih W (some ⟨g, o + h * 3, none⟩) (L.drop h) (cp - h) (by rw [List.length_drop]; omega) (A0 ((hr.out.on d).drop h)) (by rw [List.length_drop]; omega) (by rw [List.length_drop]; omega)
     rw [show (L.drop h).length = L.length - h by rw [List.length_drop]] at t
     exact t.mono fun e w' ⟨b, c, he, ho, dd⟩ => ⟨b, c, he, A0 (BT ho.out), dd⟩)
    have T3 : Hid (∀ W b1 c1 b2 c2, Below w.heap.size w W → Cl W b1 (A7 (L.take h)) → Cl W b2 (A7 (L.drop h)) → Calls prog 81 #[.slice b1 (A7 (L.take h)).length c1, .slice b2 (A7 (L.drop h)).length c2] W fun e w' => ∃ b c, e = .returned (.slice b (A7 L).length c) ∧ Hid (w'.ownsRow w.heap.size 50 3 (.slice b (A7 L).length c) (A7 L).length ((A7 L).flatMap Ae)) ∧ Below W.heap.size W w') := A0 (fun W b1 c1 b2 c2 d r1 r2 => by
     have t := EK W b1 b2 (A7 (L.take h)) (A7 (L.drop h)) c1 c2 (A0 r1) (A0 r2) (Nat.le_trans (By _) (by rw [List.length_take]; omega)) (Nat.le_trans (By _) (by rw [List.length_drop]; omega))
     rw [M3, List.take_append_drop] at t
     refine t.mono ?_
     rintro e w' ⟨b, c, he, ho, dd⟩
     exact ⟨b, c, he, A0 (Ac ho.out d.size), dd⟩)
    have l0 : ¬ ((L.length : Nat) : Int) < 2 := by omega
    have iw : IntKind.i64.wrap ((L.length : Int) / 2) = (h : Int) := by rw [IntKind.wrap_i64]; omega
    have iw2 : (L.length : Int) / 2 = (h : Int) := by omega
    have iw3 : IntKind.i64.wrap ((h : Int)) = (h : Int) := by rw [IntKind.wrap_i64]; omega
    have iw4 : (L.length : Int).tdiv 2 = (h : Int) := by rw [Int.tdiv_eq_ediv_of_nonneg (by omega)]; omega
    have c0 : (h : Int) ≤ (cp : Int) := by omega
    have c1 : (h : Int) ≤ (L.length : Int) := by omega
    have c2 : (0 : Int) ≤ (h : Int) := by omega
    have c3 : (L.length : Int) ≤ (cp : Int) := by omega
    have c4 : ¬ cp = h := by omega
    clear ih hh hpos
    go_enter func68, ntmps68
    go_upto_region 3 with fail
    have hmo : AJ 0 [vI 0 (.slice (some ⟨g, o, none⟩) L.length cp), vI 1 (.slice (some ⟨g, o, none⟩) L.length cp), vI 2 (.int .i64 (L.length : Int)), vI 3 (.int .i64 (h : Int)), vI 4 (.slice (some ⟨g, o, none⟩) h cp), pI 5 (NR (A7 (L.take h))), vI 6 (.slice (some ⟨g, o, none⟩) L.length cp), vI 7 (.slice (some ⟨g, o, none⟩) L.length cp), vI 8 (.int .i64 (L.length : Int)), vI 9 (.int .i64 (h : Int)), vI 10 (.slice (some ⟨g, o + h * 3, none⟩) (L.length - h) (cp - h)), pI 11 (NR (A7 (L.drop h))), pI 12 (P7 w.heap.size (A7 L))] := ⟨A2 _ _, A2 _ _, A2 _ _, A2 _ _, A2 _ _, Am Gl, A2 _ _, A2 _ _, A2 _ _, A2 _ _, A2 _ _, Am Gl, Am JT, trivial⟩
    refine Aj _ (by kernel_rfl) (by kernel_rfl) (by kernel_rfl) (by kernel_rfl) hmo ⟨?o0, ?o1, ?o2, ?o3, ?o4, ?o5, ?o6, ?o7, ?o8, ?o9, ?o10, ?o11, ?o12, trivial⟩ ?fin
    case o0 =>
     intro At yy W hy hb d hd K hK
     obtain ⟨s0, s0'⟩ := AG (hb 0 rfl : _ = .slice (some ⟨g, o, none⟩) L.length cp)
     clear hd hy hb
     go_simp
     exact Ak hK hmo d (if_pos rfl)
    case o1 =>
     intro At yy W hy hb d hd K hK
     obtain ⟨s0, s0'⟩ := AG (hb 0 rfl : _ = .slice (some ⟨g, o, none⟩) L.length cp)
     clear hd hy hb
     go_simp
     exact Ak hK hmo d (if_pos rfl)
    case o2 =>
     intro At yy W hy hb d hd K hK
     obtain ⟨s9, s9'⟩ := Ao 1 9 .data hy hd rfl
     clear hd hy hb
     go_simp
     exact Ak hK hmo d (if_pos rfl)
    case o3 =>
     intro At yy W hy hb d hd K hK
     obtain ⟨s10, s10'⟩ := Ao 2 10 .data hy hd rfl
     clear hd hy hb
     go_simp
     exact Ak hK hmo d (if_pos rfl)
    case o4 =>
     intro At yy W hy hb d hd K hK
     obtain ⟨s8, s8'⟩ := Ao 0 8 .data hy hd rfl
     obtain ⟨s11, s11'⟩ := Ao 3 11 .data hy hd rfl
     clear hd hy hb
     go_simp
     exact Ak hK hmo d (if_pos rfl)
    case o5 =>
     intro At yy W hy hb d hd K hK
     obtain ⟨s12, s12'⟩ := Ao 4 12 .data hy hd rfl
     clear hd hy hb
     go_simp
     go_wp2_with (go_at_call 68; refine (T1.out _ d).mono ?_; rintro e wa ⟨b, c, rfl, hR, da⟩)
     exact hK.out _ wa (Av hmo d da) ⟨b, c, if_pos rfl, hR.out⟩
    case o6 =>
     intro At yy W hy hb d hd K hK
     obtain ⟨s0, s0'⟩ := AG (hb 0 rfl : _ = .slice (some ⟨g, o, none⟩) L.length cp)
     clear hd hy hb
     go_simp
     exact Ak hK hmo d (if_pos rfl)
    case o7 =>
     intro At yy W hy hb d hd K hK
     obtain ⟨s0, s0'⟩ := AG (hb 0 rfl : _ = .slice (some ⟨g, o, none⟩) L.length cp)
     clear hd hy hb
     go_simp
     exact Ak hK hmo d (if_pos rfl)
    case o8 =>
     intro At yy W hy hb d hd K hK
     obtain ⟨s15, s15'⟩ := Ao 7 15 .data hy hd rfl
     clear hd hy hb
     go_simp
     exact Ak hK hmo d (if_pos rfl)
    case o9 =>
     intro At yy W hy hb d hd K hK
     obtain ⟨s16, s16'⟩ := Ao 8 16 .data hy hd rfl
     clear hd hy hb
     go_simp
     exact Ak hK hmo d (if_pos rfl)
    case o10 =>
     intro At yy W hy hb d hd K hK
     obtain ⟨s14, s14'⟩ := Ao 6 14 .data hy hd rfl
     obtain ⟨s17, s17'⟩ := Ao 9 17 .data hy hd rfl
     clear hd hy hb
     go_simp
     exact Ak hK hmo d (if_pos rfl)
    case o11 =>
     intro At yy W hy hb d hd K hK
     obtain ⟨s18, s18'⟩ := Ao 10 18 .data hy hd rfl
     clear hd hy hb
     go_simp
     go_wp2_with (go_at_call 68; refine (T2.out _ d).mono ?_; rintro e wa ⟨b, c, rfl, hR, da⟩)
     exact hK.out _ wa (Av hmo d da) ⟨b, c, if_pos rfl, hR.out⟩
    case o12 =>
     intro At yy W hy hb d hd K hK
     have f5 := hd ⟨5, .data⟩ (by simp) rfl rfl
     have f11 := hd ⟨11, .data⟩ (by simp) rfl rfl
     obtain ⟨_, _, _, _, b1, c1, e5, r5⟩ := f5
     obtain ⟨_, _, _, _, b2, c2, e11, r11⟩ := f11
     obtain ⟨s13, s13'⟩ := AG ((hy 5 _ 13 rfl rfl).trans e5)
     obtain ⟨s19, s19'⟩ := AG ((hy 11 _ 19 rfl rfl).trans e11)
     clear hd hy hb
     go_simp
     go_wp2_with (go_at_call 81; refine (T3.out _ _ _ _ _ d r5 r11).mono ?_; rintro e wa ⟨b, c, rfl, hR, da⟩)
     exact hK.out _ wa (Av hmo d da) (by show World.ownsRow _ _ _ _ (AK yy 12 _ 12) _ _; rw [show AK yy 12 (.slice b (A7 L).length c) 12 = .slice b (A7 L).length c from if_pos rfl]; exact hR.out)
    case fin =>
     intro yy lo hi W hM
     show wpList _ _ _ [_] _ _
     have e0 := hM.v 0 (by simp) rfl rfl rfl
     have e1 := hM.v 1 (by simp) rfl rfl rfl
     have e2 := hM.v 2 (by simp) rfl rfl rfl
     have e3 := hM.v 3 (by simp) rfl rfl rfl
     have e4 := hM.v 4 (by simp) rfl rfl rfl
     have e6 := hM.v 6 (by simp) rfl rfl rfl
     have e7 := hM.v 7 (by simp) rfl rfl rfl
     have e8 := hM.v 8 (by simp) rfl rfl rfl
     have e9 := hM.v 9 (by simp) rfl rfl rfl
     have e10 := hM.v 10 (by simp) rfl rfl rfl
     have DW := A0 hM.d
     have r12 : W.ownsRow w.heap.size 50 3 (yy 12) (A7 L).length ((A7 L).flatMap Ae) := hM.fact 12 (by simp) rfl (Ad 12 rfl)
     obtain ⟨b, c, e12⟩ := A8 r12
     rw [e12] at r12
     have HR := A0 r12
     simp only [Aw, Act.put, List.take, List.length, List.setIfInBounds_toArray, List.set_cons_zero, List.set_cons_succ, e0, e1, e2, e3, e4, e6, e7, e8, e9, e10, e12]
     clear hM hmo e0 e1 e2 e3 e4 e6 e7 e8 e9 e10 e12 r12
     go_wp2_with fail
     refine bodyPost_ret (results_tmp rfl _ _ _) rfl ?_
     exact ⟨b, c, rfl, HR, DW.out⟩
theorem Cn {n m : Int} {St Fi : List Int} {Ed : List Aa} (h : AC n m St Fi Ed = true → False) : AC n m St Fi Ed = false := by
 cases q : AC n m St Fi Ed with
 | false => rfl
 | true => exact (h q).elim
theorem GG (w : World) (ao : Option Addr) (L : List Int) (c : Nat) (n : Int) (hr : Hid (BB w ao L)) (hl : L.length ≤ 4194304) :
 Calls prog 79 #[.slice ao L.length c, .int .i64 n] w fun e w' => e = .returned (.bool (L.all (DF n))) ∧ w' = w := by
 go_enter func79, ntmps79
 go_wp2
 go_loopw [5] (fun iv wr => ∃ i : Nat, i ≤ L.length ∧ iv = .int .i64 i ∧ Hid ((L.take i).all (DF n) = true) ∧ wr = w) (fun iv _ => L.length - (intOf iv).toNat)
 case atStart => exact ⟨0, Nat.zero_le _, rfl, A0 (by simp), rfl⟩
 case round =>
  obtain ⟨i, hi, rfl, HY, hw⟩ := hrel
  obtain rfl := hw.symm
  clear hw
  by_cases hlt : i < L.length
  · have l0 : (i : Int) < (L.length : Int) := by omega
    have l1 : (0 : Int) ≤ (i : Int) := by omega
    have iw : IntKind.i64.wrap ((i : Int) + 1) = (i : Int) + 1 := by rw [IntKind.wrap_i64]; omega
    obtain ⟨g, o, rfl, q⟩ := hr.out i hlt
    by_cases hb : DF n L[i] = true
    · have HN : Hid ((L.take (i + 1)).all (DF n) = true) := A0 (by rw [List.take_succ_eq_append_getElem hlt, List.all_append, HY.out]; simp [hb])
      have h2 := B3.1 hb
      clear hb
      generalize L[i] = x at q h2
      have x0 : ¬ x < 0 := by omega
      have x1 : ¬ x ≥ n := by omega
      clear h2
      go_wp2
      go_roundw
      case rel => exact ⟨i + 1, by omega, by go_num, HN, by simp⟩
      case measure => simp [intOf]; omega
    · have HD : Hid (L.all (DF n) = false) := A0 (by
       rw [List.all_eq_false]
       exact ⟨L[i], List.getElem_mem hlt, hb⟩)
      have h2 : ¬ (0 ≤ L[i] ∧ L[i] < n) := fun h => hb (B3.2 h)
      clear hb
      generalize L[i] = x at q h2
      by_cases x0 : x < 0
      · clear h2
        go_wp2
        refine bodyPost_ret (results_tmp rfl _ _ _) rfl ?_
        exact ⟨by rw [HD.out]; rfl, rfl⟩
      · have x1 : x ≥ n := by omega
        clear h2
        go_wp2
        refine bodyPost_ret (results_tmp rfl _ _ _) rfl ?_
        exact ⟨by rw [HD.out]; rfl, rfl⟩
  · have l0 : ¬ (i : Int) < (L.length : Int) := by omega
    have HD : Hid (L.all (DF n) = true) := A0 (by have := HY.out; rwa [List.take_of_length_le (by omega)] at this)
    go_wp2
    refine bodyPost_ret (results_tmp rfl _ _ _) rfl ?_
    exact ⟨by rw [HD.out]; rfl, rfl⟩
theorem FX (w : World) (n m : Int) (a1 a2 a3 : Option Addr) (c1 c2 c3 : Nat) (St Fi : List Int) (Ed : List Aa) (hA : Hid (AP w a1 a2 a3 St Fi Ed)) (h1 : St.length ≤ 4194304) (h2 : Fi.length ≤ 4194304) (h3 : Ed.length ≤ 4194304) :
 Calls prog 78 #[.agg #[.int .i64 n, .int .i64 m, .slice a1 St.length c1, .slice a2 Fi.length c2, .slice a3 Ed.length c3]] w fun e w' => e = .returned (.int .i64 (if AC n m St Fi Ed then 0 else 2)) ∧ Below w.heap.size w w' := by
 obtain ⟨r, hr⟩ : ∃ r : Int, (if AC n m St Fi Ed then (0 : Int) else 2) = r := ⟨_, rfl⟩
 rw [hr]
 have HRr := A0 hr
 clear hr
 obtain ⟨W0, hW0⟩ : ∃ W0, w.alloc (.cells #[.int .i64 n, .int .i64 m, .slice a1 St.length c1, .slice a2 Fi.length c2, .slice a3 Ed.length c3] 25) = W0 := ⟨_, rfl⟩
 have D0 : Hid (Below w.heap.size w W0) := A0 (by rw [← hW0]; exact (Below.refl _ _).alloc (Nat.le_refl _) _)
 have B0 : Hid (W0.heap[w.heap.size]? = some (.cells #[.int .i64 n, .int .i64 m, .slice a1 St.length c1, .slice a2 Fi.length c2, .slice a3 Ed.length c3] 25 (0, 0))) := A0 (by rw [← hW0]; exact World.alloc_heap_new _ _)
 obtain ⟨y0, y1, y2, y3, y4⟩ := An B0.out rfl rfl rfl rfl rfl
 have T1 := GG W0 a1 St c1 n (A0 (hA.out.s.on D0.out)) h1
 have T2 := GG W0 a2 Fi c2 n (A0 (hA.out.f.on D0.out)) h2
 go_enter func78, ntmps78
 by_cases x0 : n < 0
 · have HM : Hid (AC n m St Fi Ed = false) := A0 (Cn fun h => by
    have := Ag h
    omega)
   go_wp2_with fail
   refine bodyPost_ret (results_tmp rfl _ _ _) rfl ?_
   exact ⟨by rw [← HRr.out, HM.out]; rfl, D0.out⟩
 · by_cases x1 : n > 4096
   · have HM : Hid (AC n m St Fi Ed = false) := A0 (Cn fun h => by
      have := Ag h
      omega)
     go_wp2_with fail
     refine bodyPost_ret (results_tmp rfl _ _ _) rfl ?_
     exact ⟨by rw [← HRr.out, HM.out]; rfl, D0.out⟩
   · by_cases x2 : m < 0
     · have HM : Hid (AC n m St Fi Ed = false) := A0 (Cn fun h => by
        have := Ag h
        omega)
       go_wp2_with fail
       refine bodyPost_ret (results_tmp rfl _ _ _) rfl ?_
       exact ⟨by rw [← HRr.out, HM.out]; rfl, D0.out⟩
     · by_cases x3 : m > 128
       · have HM : Hid (AC n m St Fi Ed = false) := A0 (Cn fun h => by
          have := Ag h
          omega)
         go_wp2_with fail
         refine bodyPost_ret (results_tmp rfl _ _ _) rfl ?_
         exact ⟨by rw [← HRr.out, HM.out]; rfl, D0.out⟩
       · by_cases x4 : (Ed.length : Int) > 65536
         · have HM : Hid (AC n m St Fi Ed = false) := A0 (Cn fun h => by
            have := Ag h
            omega)
           go_wp2_with fail
           refine bodyPost_ret (results_tmp rfl _ _ _) rfl ?_
           exact ⟨by rw [← HRr.out, HM.out]; rfl, D0.out⟩
         · cases hs : St.all (DF n) with
           | false =>
            rw [hs] at T1
            have HM : Hid (AC n m St Fi Ed = false) := A0 (Cn fun h => by
             have := (Ag h).2.2.2.1
             rw [hs] at this
             cases this)
            clear hs T2
            go_wp2_with (go_at_call 79; refine T1.mono ?_; rintro e wa ⟨rfl, hw⟩; obtain rfl := hw.symm; clear hw)
            refine bodyPost_ret (results_tmp rfl _ _ _) rfl ?_
            exact ⟨by rw [← HRr.out, HM.out]; rfl, D0.out⟩
           | true =>
            rw [hs] at T1
            cases hf : Fi.all (DF n) with
            | false =>
             rw [hf] at T2
             have HM : Hid (AC n m St Fi Ed = false) := A0 (Cn fun h => by
              have := (Ag h).2.2.2.2.1
              rw [hf] at this
              cases this)
             clear hf hs
             go_wp2_with (first
              | (go_at_call 79; refine T1.mono ?_; rintro e wa ⟨rfl, hw⟩; obtain rfl := hw.symm; clear hw T1)
              | (go_at_call 79; refine T2.mono ?_; rintro e wa ⟨rfl, hw⟩; obtain rfl := hw.symm; clear hw))
             refine bodyPost_ret (results_tmp rfl _ _ _) rfl ?_
             exact ⟨by rw [← HRr.out, HM.out]; rfl, D0.out⟩
            | true =>
             rw [hf] at T2
             have HSF := A0 (And.intro hs hf)
             clear hf hs
             have HNM : Hid ((0 ≤ n ∧ n ≤ 4096) ∧ (0 ≤ m ∧ m ≤ 128) ∧ Ed.length ≤ 65536) := A0 (by omega)
             go_wp2_with (first
              | (go_at_call 79; refine T1.mono ?_; rintro e wa ⟨rfl, hw⟩; obtain rfl := hw.symm; clear hw T1)
              | (go_at_call 79; refine T2.mono ?_; rintro e wa ⟨rfl, hw⟩; obtain rfl := hw.symm; clear hw T2))
             go_loopw [3] (fun iv wr => ∃ i : Nat, i ≤ Ed.length ∧ iv = .int .i64 i ∧ Hid ((∀ e ∈ Ed.take i, Cy n m e = true) ∧ Below W0.heap.size W0 wr)) (fun iv _ => Ed.length - (intOf iv).toNat)
             case atStart => exact ⟨0, Nat.zero_le _, rfl, A0 ⟨by simp, Below.refl _ _⟩⟩
             case round =>
              obtain ⟨i, hi, rfl, HY⟩ := hrel
              clear y0 y1 y2 y3 y4
              have KE := A0 (D0.out.trans (HY.out.2.mono D0.out.size))
              by_cases hlt : i < Ed.length
              · have l0 : (i : Int) < (Ed.length : Int) := by omega
                have l1 : (0 : Int) ≤ (i : Int) := by omega
                have iw : IntKind.i64.wrap ((i : Int) + 1) = (i : Int) + 1 := by rw [IntKind.wrap_i64]; omega
                obtain ⟨g, o, haa, q1, q2, q3⟩ := (hA.out.e.on KE.out) i hlt
                subst haa
                have HIN := A0 (List.getElem_mem hlt)
                have HTK := A0 (List.take_succ_eq_append_getElem hlt)
                generalize Ed[i] = x at q1 q2 q3 HIN HTK
                obtain ⟨X1, hX1⟩ : ∃ X1, wr.alloc (.cells #[.int .i64 x.1, .int .i64 x.2.1, .int .i64 x.2.2] 50) = X1 := ⟨_, rfl⟩
                have HX : Hid (X1.heap[wr.heap.size]? = some (.cells #[.int .i64 x.1, .int .i64 x.2.1, .int .i64 x.2.2] 50 (0, 0)) ∧ Below wr.heap.size wr X1) := A0 (by rw [← hX1]; exact ⟨World.alloc_heap_new _ _, (Below.refl _ _).alloc (Nat.le_refl _) _⟩)
                have HD := A0 (HY.out.2.trans (HX.out.2.mono HY.out.2.size))
                have KX := A0 (D0.out.trans (HD.out.mono D0.out.size))
                obtain ⟨z0, z1, z2⟩ := Jt HX.out.1 rfl rfl rfl
                have B1 := A3 B0.out HY.out.2
                have B2 := A3 B0.out HD.out
                have y4 : wr.cell? ⟨w.heap.size, 4, none⟩ = some (.slice (some ⟨g, o, none⟩) Ed.length c3) := A1 B1 rfl
                obtain ⟨y0, y1⟩ := IV B2 rfl rfl
                clear B1 B2
                have NO : Hid (Cy n m x = false → AC n m St Fi Ed = false) := A0 (fun hx => Cn fun h => by
                 have := (Ag h).2.2.2.2.2 x HIN.out
                 rw [show Cy n m x = true by unfold Cy; simp only [Bool.and_eq_true, B3]; omega] at hx
                 cases hx)
                cases hx : Cy n m x with
                | true =>
                 have hxx := hx
                 unfold Cy at hxx
                 simp only [Bool.and_eq_true, B3] at hxx
                 have p0 : ¬ x.1 < 0 := by omega
                 have p1 : ¬ x.1 ≥ n := by omega
                 have p2 : ¬ x.2.2 < 0 := by omega
                 have p3 : ¬ x.2.2 ≥ n := by omega
                 have p4 : ¬ x.2.1 < 0 := by omega
                 have p5 : ¬ x.2.1 ≥ m := by omega
                 have HX2 : Hid (∀ e ∈ Ed.take (i + 1), Cy n m e = true) := A0 (fun e he => by
                  rw [HTK.out, List.mem_append] at he
                  rcases he with he | he
                  · exact HY.out.1 e he
                  · rw [List.mem_singleton] at he
                    rw [he]
                    exact hx)
                 clear hxx hx NO
                 go_wp2_with fail
                 go_roundw
                 case rel => exact ⟨i + 1, by omega, by go_num, A0 ⟨HX2.out, HD.out⟩⟩
                 case measure => simp [intOf]; omega
                | false =>
                 have HM := A0 (NO.out hx)
                 have hxx : ¬ (((0 ≤ x.1 ∧ x.1 < n) ∧ 0 ≤ x.2.1 ∧ x.2.1 < m) ∧ 0 ≤ x.2.2 ∧ x.2.2 < n) := fun h => by
                  rw [show Cy n m x = true by unfold Cy; simp only [Bool.and_eq_true, B3]; exact h] at hx
                  cases hx
                 clear hx NO
                 by_cases p0 : x.1 < 0
                 · clear hxx
                   go_wp2_with fail
                   refine bodyPost_ret (results_tmp rfl _ _ _) rfl ?_
                   exact ⟨by rw [← HRr.out, HM.out]; rfl, KX.out⟩
                 · by_cases p1 : x.1 ≥ n
                   · clear hxx
                     go_wp2_with fail
                     refine bodyPost_ret (results_tmp rfl _ _ _) rfl ?_
                     exact ⟨by rw [← HRr.out, HM.out]; rfl, KX.out⟩
                   · by_cases p2 : x.2.2 < 0
                     · clear hxx
                       go_wp2_with fail
                       refine bodyPost_ret (results_tmp rfl _ _ _) rfl ?_
                       exact ⟨by rw [← HRr.out, HM.out]; rfl, KX.out⟩
                     · by_cases p3 : x.2.2 ≥ n
                       · clear hxx
                         go_wp2_with fail
                         refine bodyPost_ret (results_tmp rfl _ _ _) rfl ?_
                         exact ⟨by rw [← HRr.out, HM.out]; rfl, KX.out⟩
                       · by_cases p4 : x.2.1 < 0
                         · clear hxx
                           go_wp2_with fail
                           refine bodyPost_ret (results_tmp rfl _ _ _) rfl ?_
                           exact ⟨by rw [← HRr.out, HM.out]; rfl, KX.out⟩
                         · have p5 : x.2.1 ≥ m := by omega
                           clear hxx
                           go_wp2_with fail
                           refine bodyPost_ret (results_tmp rfl _ _ _) rfl ?_
                           exact ⟨by rw [← HRr.out, HM.out]; rfl, KX.out⟩
              · have l0 : ¬ (i : Int) < (Ed.length : Int) := by omega
                have y4 : wr.cell? ⟨w.heap.size, 4, none⟩ = some (.slice a3 Ed.length c3) := A1 (A3 B0.out HY.out.2) rfl
                have HM : Hid (AC n m St Fi Ed = true) := A0 (by
                 have h5 := HY.out.1
                 rw [List.take_of_length_le (by omega)] at h5
                 have h6 := HNM.out
                 unfold AC
                 simp only [Bool.and_eq_true, decide_eq_true_eq, B3]
                 exact ⟨⟨⟨⟨⟨by omega, by omega⟩, by omega⟩, HSF.out.1⟩, HSF.out.2⟩, List.all_eq_true.2 h5⟩)
                go_wp2_with fail
                refine bodyPost_ret (results_tmp rfl _ _ _) rfl ?_
                exact ⟨by rw [← HRr.out, HM.out]; rfl, KE.out⟩
def DL (X : List Int) : Ef := fun x lo hi W => W.ownsRow lo 3 1 x X.length (X.map (Value.int .i64)) ∧ ∀ g, x.ownBlock = some g → g < hi
theorem Bq {X : List Int} : B8 (DL X) := fun _ _ _ _ _ _ d h => ⟨A6 h.1 d, h.2⟩
theorem BU {X : List Int} {B : Nat} {W : World} {x v : Value} (e : x = v) (h : W.ownsRow B 3 1 v X.length (X.map (Value.int .i64))) : DL X x B W.heap.size W := by
 subst e
 exact ⟨h, fun g hg => (h.lt g hg).2⟩
structure AE (B : Nat) (w : World) (v1 v2 v3 : Value) (S F : List Int) (E : List Aa) : Prop where
 s : w.ownsRow B 3 1 v1 S.length (S.map (Value.int .i64))
 f : w.ownsRow B 3 1 v2 F.length (F.map (Value.int .i64))
 e : w.ownsRow B 50 3 v3 E.length (E.flatMap Ae)
 ne : ∀ g, v1.ownBlock = some g → v2.ownBlock ≠ some g
theorem Fr {B l1 l2 l3 h1 h2 : Nat} {w : World} {v1 v2 v3 : Value} {S F : List Int} {E : List Aa} (s : w.ownsRow l1 3 1 v1 S.length (S.map (Value.int .i64))) (f : w.ownsRow l2 3 1 v2 F.length (F.map (Value.int .i64))) (e : w.ownsRow l3 50 3 v3 E.length (E.flatMap Ae)) (g1 : ∀ g, v1.ownBlock = some g → g < h1) (g2 : ∀ g, v2.ownBlock = some g → g < h2) (hB1 : B ≤ l1) (hB2 : B ≤ l2) (hB3 : B ≤ l3) (ap : h1 ≤ l2 ∨ h2 ≤ l1) : AE B w v1 v2 v3 S F E :=
 ⟨Ac s hB1, Ac f hB2, Ac e hB3, fun g hg hh => by
  have a1 := s.lt g hg
  have a2 := f.lt g hh
  have b1 := g1 g hg
  have b2 := g2 g hh
  omega⟩
theorem AE.on {B : Nat} {w w' : World} {v1 v2 v3 : Value} {S F : List Int} {E : List Aa} (h : AE B w v1 v2 v3 S F E) (d : Below w.heap.size w w') : AE B w' v1 v2 v3 S F E := ⟨A6 h.s d, A6 h.f d, A6 h.e d, h.ne⟩
theorem AE.down {B C : Nat} {w : World} {v1 v2 v3 : Value} {S F : List Int} {E : List Aa} (h : AE C w v1 v2 v3 S F E) (hB : B ≤ C) : AE B w v1 v2 v3 S F E := ⟨Ac h.s hB, Ac h.f hB, Ac h.e hB, h.ne⟩
theorem AE.keep {B p : Nat} {w w' : World} {v1 v2 v3 : Value} {S F : List Int} {E : List Aa} {cs : Array Value} (h : AE B w v1 v2 v3 S F E) (z : w.heap[p]? = some (.cells cs 25 (0, 0))) (o : Ab w w' (fun k => k = p)) : AE B w' v1 v2 v3 S F E := ⟨Ap h.s z (by decide) o, Ap h.f z (by decide) o, Ap h.e z (by decide) o, h.ne⟩
theorem AE.rd {B : Nat} {w : World} {b1 b2 b3 : Option Addr} {k1 k2 k3 : Nat} {S F : List Int} {E : List Aa} (h : AE B w (.slice b1 S.length k1) (.slice b2 F.length k2) (.slice b3 E.length k3) S F E) : AP w b1 b2 b3 S F E := ⟨AM h.s, AM h.f, BT h.e⟩
end Go.Proofs.YtchoopnjckcohaaGreat
