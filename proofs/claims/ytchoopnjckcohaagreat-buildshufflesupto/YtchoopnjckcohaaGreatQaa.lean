import Derived.Test.YtchoopnjckcohaaGreatProg
import Derived.WalkKit
import Derived.WalkSpells
import Derived.WalkLawsBesides
import Derived.Lib.TrailingZeros
import Derived.BigQuiet
import Derived.Deep.QuietTactic
import Derived.Deep.AppendLies
import Derived.Deep.RegionWith
import Derived.BigRegion
import Derived.Deep.RegionHeld3
import Derived.RangeFuncRecord
import Derived.Deep.CutBlock
import Derived.Deep.CutRange
import Derived.Deep.DeepCutAuto
import Derived.Shelf.Small.Bits
import Derived.Shelf.Small.Wraps
import Derived.Shelf.Strconv.Itoa0
import Derived.Shelf.Slices.Turned
import Derived.Shelf.Slices.Equal
import Derived.Shelf.Slices.CompactI
import Derived.Shelf.Slices.SearchI
import Derived.Shelf.Slices.Cells
import Derived.Shelf.Slices.Empties2
import Derived.Shelf.SlicesE.Clone
import Derived.Shelf.SlSortCmp.Insertion
import Derived.Shelf.SlSortCmp.SiftDown1
import Derived.Shelf.SlSortCmp.HeapSort1
import Derived.Shelf.SlSortCmp.Insertion1
import Derived.Shelf.SlSortCmp.Median1
import Derived.Shelf.SlSortCmp.Pivot1
import Derived.Shelf.SlSortCmp.ReverseRange1
import Derived.Shelf.SlSortCmp.PartialInsertion1
import Derived.Shelf.SlSortCmp.PartitionEqual1
import Derived.Shelf.SlSortCmp.Partition1
import Derived.Shelf.SlSortCmp.Pdq1
import Derived.Shelf.SlSortCmp.Whole1
import Derived.Shelf.SlSortCmp.NoneTotal
import Derived.Ground.Names2Prog
import Derived.Ground.SlsfProg
import Derived.Lib.Small
import Derived.DeepKeys4
import Derived.Maps.OwnSet
import Derived.Lib.SliceRun
import Derived.Lib.SlicesCompact
import Derived.Laws.CopyOwn
import Derived.Sort.OwnSortedInts
import Derived.Laws.EntriesVeiled
namespace Go.Proofs.YtchoopnjckcohaaGreat
def M (c : Nat) : Nat → Nat
  | 0 => 0
  | k + 1 => M c k * 256 + c
def a1 (l : Nat) : Nat := (l / 2 &&& 85) + (l &&& 85)
def b1 (l : Nat) : Nat := (a1 l / 4 &&& 51) + (a1 l &&& 51)
def c1 (l : Nat) : Nat := (b1 l / 16 + b1 l) &&& 15
open Go.RowKit
/-- The table of math/bits in its variable. -/
def TabAt (w : World) : Prop := ∀ j, j < 64 → w.cell? ⟨0, j, none⟩ = some (.int .u8 (Lib.deBruijn64tab.getD j 0))
def nw (n : Nat) : Nat := (n + 63) / 64
def wordAt (X k : Nat) : Nat := X / 2 ^ (64 * k) % 18446744073709551616
def wordVals (n X : Nat) : List Value := (List.range (nw n)).map fun k => .int .u64 (wordAt X k)
theorem wordVals_length (n X : Nat) : (wordVals n X).length = nw n := by simp [wordVals]
theorem wordVals_get (n X k : Nat) (h : k < nw n) : (wordVals n X)[k]? = some (.int .u64 (wordAt X k)) := by
  simp [wordVals, h]
/-- A set of the program: its struct is block b, its words begin block g. -/
structure IsSet (w : World) (b g cap n X : Nat) : Prop where
  hn : n ≤ 8192
  hX : X < 2 ^ n
  blk : w.heap[b]? = some (.cells #[.int .i64 n, .slice (some ⟨g, 0, none⟩) (nw n) cap] 120 (0, 0))
  own : w.ownsRow 0 143 1 (.slice (some ⟨g, 0, none⟩) (nw n) cap) (nw n) (wordVals n X)
theorem IsSet.c0 {w : World} {b g cap n X : Nat} (h : IsSet w b g cap n X) : w.cell? ⟨b, 0, none⟩ = some (.int .i64 n) := by
  rw [cell_of_row w b 0 _ 120 (0, 0) h.blk]; rfl
theorem IsSet.c1 {w : World} {b g cap n X : Nat} (h : IsSet w b g cap n X) : w.cell? ⟨b, 1, none⟩ = some (.slice (some ⟨g, 0, none⟩) (nw n) cap) := by
  rw [cell_of_row w b 1 _ 120 (0, 0) h.blk]; rfl
theorem IsSet.word {w : World} {b g cap n X : Nat} (h : IsSet w b g cap n X) (k : Nat) (hk : k < nw n) : w.cell? ⟨g, k, none⟩ = some (.int .u64 (wordAt X k)) := by
  have := h.own.cells (g := g) rfl k _ (wordVals_get n X k hk)
  rw [Addr.add_lit] at this
  simpa using this
theorem cell_lt {w : World} {k : Nat} {o : Obj} (h : w.heap[k]? = some o) : k < w.heap.size := (Array.getElem?_eq_some_iff.1 h).1
theorem IsSet.blt {w : World} {b g cap n X : Nat} (h : IsSet w b g cap n X) : b < w.heap.size := cell_lt h.blk
theorem IsSet.glt {w : World} {b g cap n X : Nat} (h : IsSet w b g cap n X) : g < w.heap.size := (h.own.lt g rfl).2
theorem IsSet.below {w w' : World} {b g cap n X : Nat} (h : IsSet w b g cap n X) (hb : Below w.heap.size w w') : IsSet w' b g cap n X := by
  refine ⟨h.hn, h.hX, ?_, ?_⟩
  · rw [hb.block b h.blt]; exact h.blk
  · exact h.own.kept (row := none) ⟨hb.os, hb.tape, hb.output, hb.size, fun k hk _ => hb.block k hk⟩ (.inr (by simp [Value.ownBlock]))
/-- Has of whatever number. -/
def hasB (X : Nat) (i : Int) : Bool := decide (0 ≤ i) && X.testBit i.toNat
theorem ownsRow_base {w : World} {base base' : Nat} {e : TypeId} {size : Nat} {v : Value} {n : Nat} {xs : List Value} (h : w.ownsRow base e size v n xs) (hb : base' ≤ base) : w.ownsRow base' e size v n xs := by
  refine ⟨h.1, ?_⟩
  rcases h.2 with h2 | ⟨g, cap, cur, hv, hg, r⟩
  · exact .inl h2
  · exact .inr ⟨g, cap, cur, hv, by omega, r⟩
theorem wordAt_testBit (X k t : Nat) : (wordAt X k).testBit t = (decide (t < 64) && X.testBit (64 * k + t)) := by
  have e : wordAt X k = X / 2 ^ (64 * k) % 2 ^ 64 := rfl
  rw [e, Nat.testBit_mod_two_pow, Nat.testBit_div_two_pow, Nat.add_comm]
theorem drewN_cell (w : World) (q : Nat) (a : Addr) : (w.drewN q).cell? a = w.cell? a := rfl
theorem TabAt.drewN {w : World} (h : TabAt w) (q : Nat) : TabAt (w.drewN q) := fun j hj => (drewN_cell w q _).trans (h j hj)
theorem hide {p : Prop} (h : p) : Hid p := h
theorem IsSet.drew {w : World} {b g cap n X : Nat} (h : IsSet w b g cap n X) : IsSet w.drew b g cap n X := ⟨h.hn, h.hX, h.blk, h.own.drew⟩
theorem IsSet.store {w : World} {b g cap n X X' j : Nat} {v : Int} (h : IsSet w b g cap n X) (hbg : b ≠ g) (hj : j < nw n) (hX' : X' < 2 ^ n)
    (ho : ∀ i, i < nw n → i ≠ j → wordAt X' i = wordAt X i) (hv : v = (wordAt X' j : Int)) : IsSet (w.setCell ⟨g, j, none⟩ (.int .u64 v)) b g cap n X' := by
  refine ⟨h.hn, hX', ?_, ?_⟩
  · rw [heap_setCell_other w ⟨g, j, none⟩ b _ hbg]; exact h.blk
  · have := (h.own.stored j (.int .u64 v)).1
    have e : (wordVals n X).set j (.int .u64 v) = wordVals n X' := by
      apply List.ext_getElem?
      intro i
      rw [List.getElem?_set]
      by_cases hij : j = i
      · subst hij
        rw [if_pos rfl, if_pos (by rw [wordVals_length]; exact hj), wordVals_get n X' j hj, hv]
      · rw [if_neg hij]
        by_cases hi : i < nw n
        · rw [wordVals_get n X i hi, wordVals_get n X' i hi, ho i hi (fun h => hij h.symm)]
        · rw [List.getElem?_eq_none (by rw [wordVals_length]; omega), List.getElem?_eq_none (by rw [wordVals_length]; omega)]
    rwa [e] at this
theorem below_drewN' {B : Nat} {w w' : World} (h : Below B w w') (q : Nat) : Below B w (w'.drewN q) := ⟨h.os, h.tape, h.output, h.size, h.block⟩
theorem info_parts {P : Program} {t : TypeId} {z : Option Value} {s b : Nat} (h : (P.info? t).map (fun i => (i.zero, i.size, i.bytes)) = some (z, s, b)) : ∃ i, P.info? t = some i ∧ i.zero = z ∧ i.size = s ∧ i.bytes = b := by
  cases hi : P.info? t with
  | none => simp [hi] at h
  | some i =>
    rw [hi] at h
    simp only [Option.map_some, Option.some.injEq, Prod.mk.injEq] at h
    exact ⟨i, rfl, h.1, h.2.1, h.2.2⟩
theorem info3 : (Tryz.prog.info? 3).map (fun i => (i.zero, i.size, i.bytes)) = some (some (.int .i64 0), 1, 8) := by kernel_rfl
/-- The numbers as the program holds them. -/
def intV (l : List Nat) : List Value := l.map fun (i : Nat) => .int .i64 (i : Int)
/-- A variable (block c) that holds a slice of the call's own with these numbers; below B nothing has turned since w. -/
structure LSt (w : World) (B base c : Nat) (l : List Nat) (wr : World) : Prop where
  ex : ∃ g cap, wr.heap[c]? = some (.cells #[.slice (some ⟨g, 0, none⟩) l.length cap] 22 (0, 0)) ∧ wr.ownsRow base 3 1 (.slice (some ⟨g, 0, none⟩) l.length cap) l.length (intV l) ∧ g ≠ c
  below : Below B w wr
  base_le : base ≤ wr.heap.size
set_option maxRecDepth 100000 in
theorem TabAt.below {w w' : World} {B : Nat} (h : TabAt w) (hb : Below B w w') (h0 : 0 < B) : TabAt w' := fun j hj => (hb.cell (p := ⟨0, j, none⟩) h0).trans (h j hj)
/-- A slice of numbers that can be read. -/
def ReadsI (w : World) (ao : Option Addr) (l : List Int) : Prop := ∀ k, k < l.length → ∃ g o, ao = some ⟨g, o, none⟩ ∧ w.cell? ⟨g, o + k, none⟩ = some (.int .i64 (l.getD k 0))
theorem ReadsI.below {w w' : World} {ao : Option Addr} {l : List Int} (h : ReadsI w ao l) (hb : Below w.heap.size w w') : ReadsI w' ao l := fun k hk => by
  obtain ⟨g, o, rfl, hc⟩ := h k hk
  exact ⟨g, o, rfl, (hb.cell (p := ⟨g, o + k, none⟩) (World.block_lt_of_cell? w _ hc)).trans hc⟩
/-- An operation on sets that goes bit by bit. -/
structure BitOp (F : Nat → Nat → Nat) : Prop where
  ex : ∃ φ : Bool → Bool → Bool, φ false false = false ∧ ∀ x y i, (F x y).testBit i = φ (x.testBit i) (y.testBit i)
theorem lt_of_bits {x n : Nat} (h : ∀ i, n ≤ i → x.testBit i = false) : x < 2 ^ n := Nat.lt_pow_two_of_testBit x h
theorem BitOp.lt {F : Nat → Nat → Nat} (h : BitOp F) {x y n : Nat} (hx : x < 2 ^ n) (hy : y < 2 ^ n) : F x y < 2 ^ n := by
  obtain ⟨φ, h0, hb⟩ := h.ex
  apply lt_of_bits
  intro i hi
  rw [hb, Nat.testBit_lt_two_pow (Nat.lt_of_lt_of_le hx (Nat.pow_le_pow_right (by decide) hi)), Nat.testBit_lt_two_pow (Nat.lt_of_lt_of_le hy (Nat.pow_le_pow_right (by decide) hi)), h0]
theorem BitOp.word {F : Nat → Nat → Nat} (h : BitOp F) (X Y k : Nat) : wordAt (F X Y) k = F (wordAt X k) (wordAt Y k) := by
  obtain ⟨φ, h0, hb⟩ := h.ex
  apply Nat.eq_of_testBit_eq
  intro t
  rw [wordAt_testBit, hb, hb, wordAt_testBit, wordAt_testBit]
  by_cases ht : t < 64 <;> simp [ht, h0]
theorem IsSet.other {w w' : World} {b g cap n X r : Nat} (h : IsSet w b g cap n X) (hg : w.grownBy w' (some r)) (h1 : b ≠ r) (h2 : g ≠ r) : IsSet w' b g cap n X := by
  refine ⟨h.hn, h.hX, ?_, h.own.kept hg (.inr (by simp [Value.ownBlock]; exact h2))⟩
  rw [hg.block b h.blt (by simp; exact h1)]; exact h.blk
end Go.Proofs.YtchoopnjckcohaaGreat
namespace Go.Proofs.YtchoopnjckcohaaGreat
open Go.RowKit
/-! ### nfa: which automata may be -/
attribute [local go_sem] Oper.semAt_some
abbrev EdT := Int × Int × Int
def RdN (W : World) (ao : Option Addr) (L : List Int) : Prop := ∀ (j : Nat) (h : j < L.length), ∃ g o, ao = some ⟨g, o, none⟩ ∧ W.cell? ⟨g, o + j, none⟩ = some (.int .i64 L[j])
def RdE (W : World) (ao : Option Addr) (L : List EdT) : Prop := ∀ (j : Nat) (h : j < L.length), ∃ g o, ao = some ⟨g, o, none⟩ ∧ W.cell? ⟨g, o + j * 3, none⟩ = some (.int .i64 L[j].1) ∧ W.cell? ⟨g, o + j * 3 + 1, none⟩ = some (.int .i64 L[j].2.1) ∧ W.cell? ⟨g, o + j * 3 + 2, none⟩ = some (.int .i64 L[j].2.2)
theorem RdN.on {W W' : World} {ao : Option Addr} {L : List Int} (h : RdN W ao L) (d : Below W.heap.size W W') : RdN W' ao L := fun j hj => by
  obtain ⟨g, o, rfl, c⟩ := h j hj
  exact ⟨g, o, rfl, (d.cell (p := ⟨g, o + j, none⟩) (World.block_lt_of_cell? W _ c)).trans c⟩
theorem RdE.on {W W' : World} {ao : Option Addr} {L : List EdT} (h : RdE W ao L) (d : Below W.heap.size W W') : RdE W' ao L := fun j hj => by
  obtain ⟨g, o, rfl, c1, c2, c3⟩ := h j hj
  have hg : g < W.heap.size := World.block_lt_of_cell? W ⟨g, o + j * 3, none⟩ c1
  exact ⟨g, o, rfl, (d.cell (p := ⟨g, o + j * 3, none⟩) hg).trans c1, (d.cell (p := ⟨g, o + j * 3 + 1, none⟩) hg).trans c2, (d.cell (p := ⟨g, o + j * 3 + 2, none⟩) hg).trans c3⟩
theorem cell_of {w : World} {b j : Nat} {cs : Array Value} {t : TypeId} {fr : Nat × Nat} {v : Value} (h : w.heap[b]? = some (.cells cs t fr)) (hv : cs[j]? = some v) : w.cell? ⟨b, j, none⟩ = some v := by simp [World.cell?, h, hv]
theorem fz_of {W : World} {b j : Nat} {c : Array Value} {t : TypeId} (h : W.heap[b]? = some (.cells c t (0, 0))) : W.frozen? ⟨b, j, none⟩ = false := by simp [World.frozen?, h]
theorem blk_on {W W' : World} {g : Nat} {o : Obj} (h : W.heap[g]? = some o) (d : Below W.heap.size W W') : W'.heap[g]? = some o := (d.block _ (Array.getElem?_eq_some_iff.1 h).1).trans h
/-- A number from 0 to one below a bound. -/
def inB (n x : Int) : Bool := decide (0 ≤ x ∧ x < n)
theorem inB_iff {n x : Int} : inB n x = true ↔ 0 ≤ x ∧ x < n := by simp [inB]
theorem inB_not {n x : Int} : inB n x = false ↔ ¬ (0 ≤ x ∧ x < n) := by simp [inB]
set_option maxRecDepth 100000 in
theorem within_any (x n : Int) (w : World) : Calls Tryz.prog 82 #[.int .i64 x, .int .i64 n] w fun e w' => e = .returned (.bool (inB n x)) ∧ w' = w := by
  by_cases h : 0 ≤ x
  · go_enter Tryz.func82, Tryz.ntmps82
    go_wp2
    go_ret
    exact ⟨by simp [inB, h], rfl⟩
  · go_enter Tryz.func82, Tryz.ntmps82
    go_wp2
    go_ret
    exact ⟨by simp [inB]; omega, rfl⟩
set_option maxRecDepth 100000 in
set_option maxHeartbeats 1000000 in
theorem allWithin_any (ao : Option Addr) (cp : Nat) (L : List Int) (n : Int) (w : World) (hr : Hid (RdN w ao L)) (hl : L.length ≤ 4194304) : Calls Tryz.prog 83 #[.slice ao L.length cp, .int .i64 n] w fun e w' => e = .returned (.bool (L.all (inB n))) ∧ w' = w := by
  obtain ⟨m, hm⟩ : ∃ m, m = L.length := ⟨_, rfl⟩
  have HL := hide hm
  rw [← hm]
  rw [← hm] at hl
  clear hm
  go_enter Tryz.func83, Tryz.ntmps83
  go_wp2
  go_loopw [9] (fun iv wr => ∃ i : Nat, i ≤ m ∧ iv = .int .i64 i ∧ wr = w ∧ Hid ((L.take i).all (inB n) = true)) (fun iv _ => m - (intOf iv).toNat)
  case atStart => exact ⟨0, Nat.zero_le _, rfl, rfl, hide (by simp)⟩
  case round =>
    obtain ⟨i, hi, rfl, hw, HY⟩ := hrel
    obtain rfl := hw
    by_cases hil : i < m
    · have i0 : (0 : Int) ≤ (i : Int) := by omega
      have i1 : (i : Int) < (m : Int) := by omega
      have hi2 : i < L.length := by rw [← HL.out]; exact hil
      obtain ⟨g, o, rfl, c⟩ := hr.out i hi2
      have HT := hide (show L.take (i + 1) = L.take i ++ [L[i]] by rw [List.take_add_one, List.getElem?_eq_getElem hi2]; rfl)
      have HM := hide (List.getElem_mem hi2)
      obtain ⟨x, hx⟩ : ∃ x, L[i] = x := ⟨_, rfl⟩
      rw [hx] at c HT HM
      clear hx
      cases hb : inB n x
      · go_wp2_with (go_at_call 82; refine (within_any x n wr).mono ?_; rintro e w2 ⟨rfl, rfl⟩)
        go_wp2
        go_ret
        refine ⟨?_, rfl⟩
        have : L.all (inB n) = false := List.all_eq_false.2 ⟨x, HM.out, by rw [hb]; simp⟩
        rw [this]
        rfl
      · go_wp2_with (go_at_call 82; refine (within_any x n wr).mono ?_; rintro e w2 ⟨rfl, rfl⟩)
        go_wp2
        go_roundw
        case rel => exact ⟨i + 1, by omega, by go_num, trivial, hide (by rw [HT.out, List.all_append, HY.out]; simp [hb])⟩
        case measure => simp [intOf]; omega
    · obtain rfl : m = i := by omega
      have i1 : ¬ (m : Int) < (m : Int) := by omega
      go_wp2
      go_ret
      refine ⟨?_, rfl⟩
      have q := HY.out
      rw [HL.out, List.take_length] at q
      rw [q]
      rfl
/-- An automaton may be. -/
def edOk (n m : Int) (e : EdT) : Bool := inB n e.1 && inB m e.2.1 && inB n e.2.2
def mayA (n m : Int) (St Fi : List Int) (Ed : List EdT) : Bool := inB 4097 n && inB 129 m && decide (Ed.length ≤ 65536) && St.all (inB n) && Fi.all (inB n) && Ed.all (edOk n m)
/-- Its lists, read. -/
structure RdA (W : World) (a1 a2 a3 : Option Addr) (St Fi : List Int) (Ed : List EdT) : Prop where
  s : RdN W a1 St
  f : RdN W a2 Fi
  e : RdE W a3 Ed
theorem RdA.on {W W' : World} {a1 a2 a3 : Option Addr} {St Fi : List Int} {Ed : List EdT} (h : RdA W a1 a2 a3 St Fi Ed) (d : Below W.heap.size W W') : RdA W' a1 a2 a3 St Fi Ed := ⟨h.s.on d, h.f.on d, h.e.on d⟩
set_option maxRecDepth 100000 in
set_option maxHeartbeats 4000000 in
theorem valid_any (w : World) (n m : Int) (a1 a2 a3 : Option Addr) (c1 c2 c3 : Nat) (St Fi : List Int) (Ed : List EdT) (hA : Hid (RdA w a1 a2 a3 St Fi Ed)) (h1 : St.length ≤ 4194304) (h2 : Fi.length ≤ 4194304) (h3 : Ed.length ≤ 4194304) :
    Calls Tryz.prog 71 #[.agg #[.int .i64 n, .int .i64 m, .slice a1 St.length c1, .slice a2 Fi.length c2, .slice a3 Ed.length c3]] w fun e w' => e = .returned (.int .i64 (if mayA n m St Fi Ed then 0 else 2)) ∧ Below w.heap.size w w' := by
  obtain ⟨W0, hW0⟩ : ∃ W0, w.alloc (.cells #[.int .i64 n, .int .i64 m, .slice a1 St.length c1, .slice a2 Fi.length c2, .slice a3 Ed.length c3] 25) = W0 := ⟨_, rfl⟩
  have d0 : Below w.heap.size w W0 := by rw [← hW0]; exact (Below.refl _ _).alloc (Nat.le_refl _) _
  have B0 : W0.heap[w.heap.size]? = some (.cells #[.int .i64 n, .int .i64 m, .slice a1 St.length c1, .slice a2 Fi.length c2, .slice a3 Ed.length c3] 25 (0, 0)) := by rw [← hW0]; exact World.alloc_heap_new _ _
  have HD := hide (And.intro d0 B0)
  have k0 : W0.cell? ⟨w.heap.size, 0, none⟩ = some (.int .i64 n) := cell_of B0 rfl
  have k1 : W0.cell? ⟨w.heap.size, 1, none⟩ = some (.int .i64 m) := cell_of B0 rfl
  have k2 : W0.cell? ⟨w.heap.size, 2, none⟩ = some (.slice a1 St.length c1) := cell_of B0 rfl
  have k3 : W0.cell? ⟨w.heap.size, 3, none⟩ = some (.slice a2 Fi.length c2) := cell_of B0 rfl
  have k4 : W0.cell? ⟨w.heap.size, 4, none⟩ = some (.slice a3 Ed.length c3) := cell_of B0 rfl
  have HA := hide (hA.out.on d0)
  clear d0 B0 hA
  have T1 := allWithin_any a1 c1 St n W0 (hide HA.out.s) h1
  have T2 := allWithin_any a2 c2 Fi n W0 (hide HA.out.f) h2
  obtain ⟨r, hr⟩ : ∃ r : Int, (if mayA n m St Fi Ed then (0 : Int) else 2) = r := ⟨_, rfl⟩
  rw [hr]
  have HR := hide hr
  have HB : Hid (mayA n m St Fi Ed = false → Ending.returned (.int .i64 2) = Ending.returned (.int .i64 r)) := hide (fun h => by rw [← HR.out, h]; rfl)
  clear hr
  go_enter Tryz.func71, Tryz.ntmps71
  cases e1 : inB 4097 n
  · go_wp2_with (go_at_call 82; refine (within_any _ _ _).mono ?_; rintro e w2 ⟨rfl, hw⟩; obtain rfl := hw.symm)
    go_ret
    exact ⟨HB.out (by simp [mayA, e1]), HD.out.1⟩
  cases e2 : inB 129 m
  · go_wp2_with (go_at_call 82; refine (within_any _ _ _).mono ?_; rintro e w2 ⟨rfl, hw⟩; obtain rfl := hw.symm)
    go_ret
    exact ⟨HB.out (by simp [mayA, e2]), HD.out.1⟩
  by_cases e3 : Ed.length ≤ 65536
  case neg =>
    have i3 : (65536 : Int) < (Ed.length : Int) := by omega
    go_wp2_with (go_at_call 82; refine (within_any _ _ _).mono ?_; rintro e w2 ⟨rfl, hw⟩; obtain rfl := hw.symm)
    go_ret
    exact ⟨HB.out (by simp [mayA, e3]), HD.out.1⟩
  have i3 : ¬ (65536 : Int) < (Ed.length : Int) := by omega
  cases e4 : St.all (inB n)
  · rw [e4] at T1
    go_wp2_with (first
      | (go_at_call 82; refine (within_any _ _ _).mono ?_; rintro e w2 ⟨rfl, hw⟩; obtain rfl := hw.symm)
      | (go_at_call 83; refine T1.mono ?_; rintro e w2 ⟨rfl, hw⟩; obtain rfl := hw.symm))
    go_ret
    exact ⟨HB.out (by simp [mayA, e4]), HD.out.1⟩
  rw [e4] at T1
  cases e5 : Fi.all (inB n)
  · rw [e5] at T2
    go_wp2_with (first
      | (go_at_call 82; refine (within_any _ _ _).mono ?_; rintro e w2 ⟨rfl, hw⟩; obtain rfl := hw.symm)
      | (go_at_call_of 83 a1; refine T1.mono ?_; rintro e w2 ⟨rfl, hw⟩; obtain rfl := hw.symm)
      | (go_at_call_of 83 a2; refine T2.mono ?_; rintro e w2 ⟨rfl, hw⟩; obtain rfl := hw.symm))
    go_ret
    exact ⟨HB.out (by simp [mayA, e5]), HD.out.1⟩
  rw [e5] at T2
  have HM : Hid (Ed.all (edOk n m) = true → mayA n m St Fi Ed = true) := hide (fun h => by simp [mayA, e1, e2, e3, e4, e5, h])
  obtain ⟨L, hL⟩ : ∃ L, Ed.length = L := ⟨_, rfl⟩
  have HL := hide hL
  rw [hL] at k4 h3 e3 i3 hW0
  rw [hL]
  clear hL
  go_upto_region 5 with (first
    | (go_at_call 82; refine (within_any _ _ _).mono ?_; rintro e w2 ⟨rfl, hw⟩; obtain rfl := hw.symm)
    | (go_at_call_of 83 a1; refine T1.mono ?_; rintro e w2 ⟨rfl, hw⟩; obtain rfl := hw.symm)
      | (go_at_call_of 83 a2; refine T2.mono ?_; rintro e w2 ⟨rfl, hw⟩; obtain rfl := hw.symm))
  clear T1 T2 e1 e2 e4 e5
  go_wp2
  go_loopw [38] (fun iv wr => ∃ i : Nat, i ≤ L ∧ iv = .int .i64 i ∧ Hid (Below W0.heap.size W0 wr ∧ (Ed.take i).all (edOk n m) = true)) (fun iv _ => L - (intOf iv).toNat)
  case atStart => exact ⟨0, Nat.zero_le _, rfl, hide ⟨Below.refl _ _, by simp⟩⟩
  case round =>
    obtain ⟨i, hi, rfl, HY⟩ := hrel
    by_cases hil : i < L
    · have i0 : (0 : Int) ≤ (i : Int) := by omega
      have i1 : (i : Int) < (L : Int) := by omega
      have hi2 : i < Ed.length := by rw [HL.out]; exact hil
      obtain ⟨g, o, rfl, q1, q2, q3⟩ := (HA.out.e.on HY.out.1) i hi2
      have HT := hide (show Ed.take (i + 1) = Ed.take i ++ [Ed[i]] by rw [List.take_add_one, List.getElem?_eq_getElem hi2]; rfl)
      have HN := hide (List.getElem_mem hi2)
      obtain ⟨x, hx⟩ : ∃ x, Ed[i] = x := ⟨_, rfl⟩
      rw [hx] at q1 q2 q3 HT HN
      clear hx
      obtain ⟨x1, x2, x3⟩ := x
      obtain ⟨W1, hW1⟩ : ∃ W1, wr.alloc (.cells #[.int .i64 x1, .int .i64 x2, .int .i64 x3] 50) = W1 := ⟨_, rfl⟩
      have HW : Hid (W1.heap[wr.heap.size]? = some (.cells #[.int .i64 x1, .int .i64 x2, .int .i64 x3] 50 (0, 0)) ∧ Below W0.heap.size W0 W1) := hide (by rw [← hW1]; exact ⟨World.alloc_heap_new _ _, HY.out.1.alloc HY.out.1.size _⟩)
      have HBx := hide (blk_on HD.out.2 HW.out.2)
      have y0 : W1.cell? ⟨wr.heap.size, 0, none⟩ = some (.int .i64 x1) := cell_of HW.out.1 rfl
      have y1 : W1.cell? ⟨wr.heap.size, 1, none⟩ = some (.int .i64 x2) := cell_of HW.out.1 rfl
      have y2 : W1.cell? ⟨wr.heap.size, 2, none⟩ = some (.int .i64 x3) := cell_of HW.out.1 rfl
      have z0 : W1.cell? ⟨w.heap.size, 0, none⟩ = some (.int .i64 n) := cell_of HBx.out rfl
      have z1 : W1.cell? ⟨w.heap.size, 1, none⟩ = some (.int .i64 m) := cell_of HBx.out rfl
      have HBd : Hid (edOk n m (x1, x2, x3) = false → mayA n m St Fi Ed = false) := hide (fun h => by
        have : Ed.all (edOk n m) = false := List.all_eq_false.2 ⟨_, HN.out, by rw [h]; simp⟩
        simp [mayA, this])
      cases f1 : inB n x1
      · go_wp2_with (go_at_call 82; refine (within_any _ _ _).mono ?_; rintro e w2 ⟨rfl, hw⟩; obtain rfl := hw.symm)
        go_ret
        exact ⟨HB.out (HBd.out (by simp [edOk, f1])), HD.out.1.trans (HW.out.2.mono HD.out.1.size)⟩
      cases f2 : inB m x2
      · go_wp2_with (go_at_call 82; refine (within_any _ _ _).mono ?_; rintro e w2 ⟨rfl, hw⟩; obtain rfl := hw.symm)
        go_ret
        exact ⟨HB.out (HBd.out (by simp [edOk, f2])), HD.out.1.trans (HW.out.2.mono HD.out.1.size)⟩
      cases f3 : inB n x3
      · go_wp2_with (go_at_call 82; refine (within_any _ _ _).mono ?_; rintro e w2 ⟨rfl, hw⟩; obtain rfl := hw.symm)
        go_ret
        exact ⟨HB.out (HBd.out (by simp [edOk, f3])), HD.out.1.trans (HW.out.2.mono HD.out.1.size)⟩
      go_wp2_with (go_at_call 82; refine (within_any _ _ _).mono ?_; rintro e w2 ⟨rfl, hw⟩; obtain rfl := hw.symm)
      go_roundw
      case rel => exact ⟨i + 1, by omega, by go_num, hide ⟨HW.out.2, by rw [HT.out, List.all_append, HY.out.2]; simp [edOk, f1, f2, f3]⟩⟩
      case measure => simp [intOf]; omega
    · obtain rfl : L = i := by omega
      have i1 : ¬ (L : Int) < (L : Int) := by omega
      go_wp2
      go_ret
      have q := HY.out.2
      rw [← HL.out, List.take_length] at q
      exact ⟨by rw [← HR.out, HM.out q]; rfl, HD.out.1.trans (HY.out.1.mono HD.out.1.size)⟩
end Go.Proofs.YtchoopnjckcohaaGreat
namespace Go.Proofs.YtchoopnjckcohaaGreat
open Go.RowKit
attribute [local go_sem] Oper.semAt_some
/-! ### Sets of states; Post and Pre -/
theorem own_blk {w w' : World} {B e sz n g cap : Nat} {xs : List Value} (h : w.ownsRow B e sz (.slice (some ⟨g, 0, none⟩) n cap) n xs) (hg : w'.heap[g]? = w.heap[g]?) : w'.ownsRow B e sz (.slice (some ⟨g, 0, none⟩) n cap) n xs := by
  refine ⟨h.1, ?_⟩
  rcases h.2 with z | ⟨g', cap', cur, e1, hb, hc, rest⟩
  · exact .inl z
  · cases e1
    exact .inr ⟨g, cap, cur, rfl, hb, hg.trans hc, rest⟩
theorem IsSet.keep {w w' : World} {b g cap n X : Nat} (h : IsSet w b g cap n X) (h1 : w'.heap[b]? = w.heap[b]?) (h2 : w'.heap[g]? = w.heap[g]?) : IsSet w' b g cap n X := ⟨h.hn, h.hX, h1.trans h.blk, own_blk h.own h2⟩
/-- An edge's ends. -/
def ends (back : Bool) (e : EdT) : Int × Int := if back then (e.2.2, e.1) else (e.1, e.2.2)
/-! ### image -/
def imgF (back : Bool) (X : Nat) (sym : Int) (L : List EdT) : Nat := L.foldl (fun R e => if e.2.1 = sym ∧ hasB X (ends back e).1 = true then R ||| 2 ^ (ends back e).2.toNat else R) 0
theorem may_parts {n m : Int} {St Fi : List Int} {Ed : List EdT} (h : mayA n m St Fi Ed = true) : (0 ≤ n ∧ n ≤ 4096) ∧ (0 ≤ m ∧ m ≤ 128) ∧ Ed.length ≤ 65536 ∧ St.all (inB n) = true ∧ Fi.all (inB n) = true ∧ ∀ e ∈ Ed, (0 ≤ e.1 ∧ e.1 < n) ∧ (0 ≤ e.2.1 ∧ e.2.1 < m) ∧ 0 ≤ e.2.2 ∧ e.2.2 < n := by
  unfold mayA at h
  simp only [Bool.and_eq_true, decide_eq_true_eq, inB_iff] at h
  obtain ⟨⟨⟨⟨⟨h1, h2⟩, h3⟩, h4⟩, h5⟩, h6⟩ := h
  refine ⟨by omega, by omega, h3, h4, h5, fun e he => ?_⟩
  have := List.all_eq_true.1 h6 e he
  simp only [edOk, Bool.and_eq_true, inB_iff] at this
  exact ⟨this.1.1, this.1.2, this.2⟩
end Go.Proofs.YtchoopnjckcohaaGreat
namespace Go.Proofs
open Go.Shelf Go.RowKit Go.Lib Go.Sort
def Tryz.laysNm220_ren : Go.Shelf.Ren := ⟨fun | 20 => 87 | n => n, fun | 22 => 22 | 3 => 3 | 4 => 4 | 0 => 0 | n => n, fun | n => n⟩
theorem Tryz.laysNm220 : Go.Proofs.Lays2.n20 Tryz.prog Tryz.laysNm220_ren := {
  mixed := by kernel_rfl
  f20 := Tryz.func87.trans (congrArg some (by kernel_rfl))
  t0 := Tryz.underlying0
  a0 := Tryz.isAgg0
  z0 := Tryz.sizeOf0
  v0 := Tryz.zeroValue0
  t3 := Tryz.underlying3
  a3 := Tryz.isAgg3
  z3 := Tryz.sizeOf3
  v3 := Tryz.zeroValue3
  t4 := Tryz.underlying4
  a4 := Tryz.isAgg4
  z4 := Tryz.sizeOf4
  v4 := Tryz.zeroValue4
  t22 := Tryz.underlying22
  a22 := Tryz.isAgg22
  z22 := Tryz.sizeOf22
  v22 := Tryz.zeroValue22
  i3 := by kernel_rfl }
theorem Tryz.slices_Compact_int (blk off cap : Nat) (zs : List Int) (w : World) (hH : Holds (Value.int .i64) w blk off zs.toArray) (hsz : zs.length ≤ 9223372036854775807) (hcap : zs.length ≤ cap) :
    Calls Tryz.prog 87 #[.slice (some ⟨blk, off, none⟩) zs.length cap] w fun e w' => e = .returned (.slice (some ⟨blk, off, none⟩) (Lib.compact zs).length cap) ∧ ∃ q, w' = putRow (Value.int .i64) (Sort.ahead w q) blk off (Lib.compact zs ++ List.replicate (zs.length - (Lib.compact zs).length) 0).toArray := Any.slices_Compact_int Tryz.laysNm220 blk off cap zs w hH hsz hcap
theorem Tryz.slices_Compact_int_empty (a : Option Addr) (cap : Nat) (w : World) :
    Calls Tryz.prog 87 #[.slice a 0 cap] w fun e w' => e = .returned (.slice a 0 cap) ∧ w' = w := Any.slices_Compact_int_empty Tryz.laysNm220 a cap w
def Tryz.laysSlF6_f125_ren : Go.Shelf.Ren := ⟨fun | 6 => 95 | 15 => 94 | 14 => 110 | 28 => 108 | 29 => 109 | 20 => 117 | 21 => 118 | 22 => 119 | 23 => 120 | 24 => 121 | 25 => 122 | 26 => 123 | 27 => 124 | 46 => 134 | 47 => 113 | 48 => 114 | 49 => 135 | 50 => 136 | 57 => 140 | n => n, fun | 22 => 22 | 24 => 3 | 25 => 111 | 3 => 3 | 39 => 116 | 0 => 0 | 53 => 127 | 55 => 129 | 4 => 4 | 46 => 121 | 45 => 120 | 50 => 105 | 5 => 5 | 9 => 9 | 66 => 132 | 70 => 136 | 76 => 148 | 77 => 149 | n => n, fun | n => n⟩
theorem Tryz.laysSlF6_f125 : Go.Proofs.SlLaysF.n6 Tryz.prog Tryz.laysSlF6_f125_ren := {
  mixed := by kernel_rfl
  f6 := ⟨Tryz.f95.name, by decide, Tryz.func95.trans (congrArg some (by kernel_rfl))⟩
  f14 := ⟨Tryz.f110.name, by decide, Tryz.func110.trans (congrArg some (by kernel_rfl))⟩
  f15 := Tryz.func94.trans (congrArg some (by kernel_rfl))
  f20 := ⟨Tryz.f117.name, by decide, Tryz.func117.trans (congrArg some (by kernel_rfl))⟩
  f21 := ⟨Tryz.f118.name, by decide, Tryz.func118.trans (congrArg some (by kernel_rfl))⟩
  f22 := ⟨Tryz.f119.name, by decide, Tryz.func119.trans (congrArg some (by kernel_rfl))⟩
  f23 := ⟨Tryz.f120.name, by decide, Tryz.func120.trans (congrArg some (by kernel_rfl))⟩
  f24 := ⟨Tryz.f121.name, by decide, Tryz.func121.trans (congrArg some (by kernel_rfl))⟩
  f25 := ⟨Tryz.f122.name, by decide, Tryz.func122.trans (congrArg some (by kernel_rfl))⟩
  f26 := ⟨Tryz.f123.name, by decide, Tryz.func123.trans (congrArg some (by kernel_rfl))⟩
  f27 := ⟨Tryz.f124.name, by decide, Tryz.func124.trans (congrArg some (by kernel_rfl))⟩
  f28 := Tryz.func108.trans (congrArg some (by kernel_rfl))
  f29 := Tryz.func109.trans (congrArg some (by kernel_rfl))
  f46 := ⟨Tryz.f134.name, by decide, Tryz.func134.trans (congrArg some (by kernel_rfl))⟩
  f47 := Tryz.func113.trans (congrArg some (by kernel_rfl))
  f48 := Tryz.func114.trans (congrArg some (by kernel_rfl))
  f49 := ⟨Tryz.f135.name, by decide, Tryz.func135.trans (congrArg some (by kernel_rfl))⟩
  f50 := ⟨Tryz.f136.name, by decide, Tryz.func136.trans (congrArg some (by kernel_rfl))⟩
  f57 := ⟨Tryz.f140.name, by decide, Tryz.func140.trans (congrArg some (by kernel_rfl))⟩
  t0 := Tryz.underlying0
  a0 := Tryz.isAgg0
  z0 := Tryz.sizeOf0
  v0 := Tryz.zeroValue0
  t3 := Tryz.underlying3
  a3 := Tryz.isAgg3
  z3 := Tryz.sizeOf3
  v3 := Tryz.zeroValue3
  t4 := Tryz.underlying4
  a4 := Tryz.isAgg4
  z4 := Tryz.sizeOf4
  v4 := Tryz.zeroValue4
  t5 := Tryz.underlying5
  a5 := Tryz.isAgg5
  z5 := Tryz.sizeOf5
  v5 := Tryz.zeroValue5
  t9 := Tryz.underlying9
  a9 := Tryz.isAgg9
  z9 := Tryz.sizeOf9
  v9 := Tryz.zeroValue9
  t22 := Tryz.underlying22
  a22 := Tryz.isAgg22
  z22 := Tryz.sizeOf22
  v22 := Tryz.zeroValue22
  a24 := Tryz.isAgg3
  z24 := Tryz.sizeOf3
  t25 := Tryz.underlying111
  a25 := Tryz.isAgg111
  z25 := Tryz.sizeOf111
  v25 := Tryz.zeroValue111
  t39 := Tryz.underlying116
  a39 := Tryz.isAgg116
  z39 := Tryz.sizeOf116
  v39 := Tryz.zeroValue116
  t45 := Tryz.underlying120
  a45 := Tryz.isAgg120
  z45 := Tryz.sizeOf120
  v45 := Tryz.zeroValue120
  t46 := Tryz.underlying121
  a46 := Tryz.isAgg121
  z46 := Tryz.sizeOf121
  v46 := Tryz.zeroValue121
  t50 := Tryz.underlying105
  a50 := Tryz.isAgg105
  z50 := Tryz.sizeOf105
  v50 := Tryz.zeroValue105
  t53 := Tryz.underlying127
  a53 := Tryz.isAgg127
  z53 := Tryz.sizeOf127
  v53 := Tryz.zeroValue127
  t55 := Tryz.underlying129
  a55 := Tryz.isAgg129
  z55 := Tryz.sizeOf129
  v55 := Tryz.zeroValue129
  t66 := Tryz.underlying132
  a66 := Tryz.isAgg132
  z66 := Tryz.sizeOf132
  v66 := Tryz.zeroValue132
  t70 := Tryz.underlying136
  a70 := Tryz.isAgg136
  z70 := Tryz.sizeOf136
  v70 := Tryz.zeroValue136
  t76 := Tryz.underlying148
  a76 := Tryz.isAgg148
  z76 := Tryz.sizeOf148
  v76 := Tryz.zeroValue148
  t77 := Tryz.underlying149
  a77 := Tryz.isAgg149
  z77 := Tryz.sizeOf149
  v77 := Tryz.zeroValue149 }
def Tryz.laysSlF06_f125_ren : Go.Shelf.Ren := ⟨fun | 6 => 95 | 15 => 94 | 14 => 110 | 28 => 108 | 29 => 109 | 20 => 117 | 21 => 118 | 22 => 119 | 23 => 120 | 24 => 121 | 25 => 122 | 26 => 123 | 27 => 124 | 46 => 134 | 47 => 113 | 48 => 114 | 49 => 135 | 50 => 136 | 57 => 140 | n => n, fun | 22 => 22 | 24 => 3 | 25 => 111 | 3 => 3 | 39 => 116 | 0 => 0 | 53 => 127 | 55 => 129 | 4 => 4 | 46 => 121 | 45 => 120 | 50 => 105 | 5 => 5 | 9 => 9 | 66 => 132 | 70 => 136 | 76 => 148 | 77 => 149 | n => n, fun | n => n⟩
theorem Tryz.laysSlF06_f125 : Go.Proofs.SlLaysF0.n6 Tryz.prog Tryz.laysSlF06_f125_ren := {
  mixed := by kernel_rfl
  f6 := ⟨Tryz.f95.name, by decide, Tryz.func95.trans (congrArg some (by kernel_rfl))⟩
  f14 := ⟨Tryz.f110.name, by decide, Tryz.func110.trans (congrArg some (by kernel_rfl))⟩
  f15 := Tryz.func94.trans (congrArg some (by kernel_rfl))
  f20 := ⟨Tryz.f117.name, by decide, Tryz.func117.trans (congrArg some (by kernel_rfl))⟩
  f21 := ⟨Tryz.f118.name, by decide, Tryz.func118.trans (congrArg some (by kernel_rfl))⟩
  f22 := ⟨Tryz.f119.name, by decide, Tryz.func119.trans (congrArg some (by kernel_rfl))⟩
  f23 := ⟨Tryz.f120.name, by decide, Tryz.func120.trans (congrArg some (by kernel_rfl))⟩
  f24 := ⟨Tryz.f121.name, by decide, Tryz.func121.trans (congrArg some (by kernel_rfl))⟩
  f25 := ⟨Tryz.f122.name, by decide, Tryz.func122.trans (congrArg some (by kernel_rfl))⟩
  f26 := ⟨Tryz.f123.name, by decide, Tryz.func123.trans (congrArg some (by kernel_rfl))⟩
  f27 := ⟨Tryz.f124.name, by decide, Tryz.func124.trans (congrArg some (by kernel_rfl))⟩
  f28 := Tryz.func108.trans (congrArg some (by kernel_rfl))
  f29 := Tryz.func109.trans (congrArg some (by kernel_rfl))
  f46 := ⟨Tryz.f134.name, by decide, Tryz.func134.trans (congrArg some (by kernel_rfl))⟩
  f47 := Tryz.func113.trans (congrArg some (by kernel_rfl))
  f48 := Tryz.func114.trans (congrArg some (by kernel_rfl))
  f49 := ⟨Tryz.f135.name, by decide, Tryz.func135.trans (congrArg some (by kernel_rfl))⟩
  f50 := ⟨Tryz.f136.name, by decide, Tryz.func136.trans (congrArg some (by kernel_rfl))⟩
  f57 := ⟨Tryz.f140.name, by decide, Tryz.func140.trans (congrArg some (by kernel_rfl))⟩
  t0 := Tryz.underlying0
  a0 := Tryz.isAgg0
  z0 := Tryz.sizeOf0
  v0 := Tryz.zeroValue0
  t3 := Tryz.underlying3
  a3 := Tryz.isAgg3
  z3 := Tryz.sizeOf3
  v3 := Tryz.zeroValue3
  t4 := Tryz.underlying4
  a4 := Tryz.isAgg4
  z4 := Tryz.sizeOf4
  v4 := Tryz.zeroValue4
  t5 := Tryz.underlying5
  a5 := Tryz.isAgg5
  z5 := Tryz.sizeOf5
  v5 := Tryz.zeroValue5
  t9 := Tryz.underlying9
  a9 := Tryz.isAgg9
  z9 := Tryz.sizeOf9
  v9 := Tryz.zeroValue9
  t22 := Tryz.underlying22
  a22 := Tryz.isAgg22
  z22 := Tryz.sizeOf22
  v22 := Tryz.zeroValue22
  t25 := Tryz.underlying111
  a25 := Tryz.isAgg111
  z25 := Tryz.sizeOf111
  v25 := Tryz.zeroValue111
  t39 := Tryz.underlying116
  a39 := Tryz.isAgg116
  z39 := Tryz.sizeOf116
  v39 := Tryz.zeroValue116
  t45 := Tryz.underlying120
  a45 := Tryz.isAgg120
  z45 := Tryz.sizeOf120
  v45 := Tryz.zeroValue120
  t46 := Tryz.underlying121
  a46 := Tryz.isAgg121
  z46 := Tryz.sizeOf121
  v46 := Tryz.zeroValue121
  t50 := Tryz.underlying105
  a50 := Tryz.isAgg105
  z50 := Tryz.sizeOf105
  v50 := Tryz.zeroValue105
  t53 := Tryz.underlying127
  a53 := Tryz.isAgg127
  z53 := Tryz.sizeOf127
  v53 := Tryz.zeroValue127
  t55 := Tryz.underlying129
  a55 := Tryz.isAgg129
  z55 := Tryz.sizeOf129
  v55 := Tryz.zeroValue129
  t66 := Tryz.underlying132
  a66 := Tryz.isAgg132
  z66 := Tryz.sizeOf132
  v66 := Tryz.zeroValue132
  t70 := Tryz.underlying136
  a70 := Tryz.isAgg136
  z70 := Tryz.sizeOf136
  v70 := Tryz.zeroValue136
  t76 := Tryz.underlying148
  a76 := Tryz.isAgg148
  z76 := Tryz.sizeOf148
  v76 := Tryz.zeroValue148
  t77 := Tryz.underlying149
  a77 := Tryz.isAgg149
  z77 := Tryz.sizeOf149
  v77 := Tryz.zeroValue149 }
theorem Tryz.slices_SortFunc_none {α : Type} [Inhabited α] (p : Option Addr) (cap : Nat) (fv : Value) (w : World) :
    Calls Tryz.prog 95 #[.slice p 0 cap, fv] w fun e w' => e = .returned (.tuple #[]) ∧ w' = w := AnyF.slices_SortFunc_none Tryz.laysSlF06_f125 p cap fv w
theorem Tryz.slices_SortFunc_total {α : Type} [Inhabited α] (enc : α → Value) (h1 : OneCell enc) (cf : α → α → Int) (hO : SWO (ltOf cf)) (g : Nat) (cb : Array Value) (blk off cap : Nat) (d : Array α) (w : World) (eg : ∀ args w, (callFunc g args).run Tryz.prog w = .ok (.enter g args) w) (hcmp : CmpLays1 Tryz.prog g cb enc cf blk off d.size w) (hH : Holds enc w blk off d) (hblk : blk < w.heap.size) (hsz : d.size < 4611686018427387904) (hT : ∀ x y, (ltOf cf) x y = false → (ltOf cf) y x = false → x = y) :
    Calls Tryz.prog 95 #[.slice (some ⟨blk, off, none⟩) d.size cap, .func (.func g) #[] cb] w fun e w' =>
      e = .returned (.tuple #[]) ∧ ∃ n os, w' = sortWorld enc w blk off n (d.toList.mergeSort fun x y => !(ltOf cf) y x).toArray os := Any.slices_SortFunc_total Tryz.laysSlF6_f125 enc h1 cf hO g cb blk off cap d w eg hcmp hH hblk hsz hT
end Go.Proofs
namespace Go.Proofs.YtchoopnjckcohaaGreat
open Go.RowKit Go.Maps
attribute [local go_sem] Oper.semAt_some
/-! ### How two edges are compared -/
structure Only (w w' : World) (R : Nat → Prop) : Prop where
  os : w'.os = w.os
  tape : w'.tape = w.tape
  output : w'.output = w.output
  size : w.heap.size ≤ w'.heap.size
  block : ∀ k, k < w.heap.size → ¬ R k → w'.heap[k]? = w.heap[k]?
theorem Only.ofBelow {w w' : World} {R : Nat → Prop} (h : Below w.heap.size w w') : Only w w' R := ⟨h.os, h.tape, h.output, h.size, fun k hk _ => h.block k hk⟩
theorem Only.toBelow {w w' : World} {R : Nat → Prop} {B : Nat} (h : Only w w' R) (hB : B ≤ w.heap.size) (hR : ∀ k, R k → B ≤ k) : Below B w w' :=
  ⟨h.os, h.tape, h.output, h.size, fun k hk => h.block k (by omega) (fun hr => by have := hR k hr; omega)⟩
theorem Only.trans {a b c : World} {R : Nat → Prop} (h : Only a b R) (k : Only b c R) : Only a c R :=
  ⟨k.os.trans h.os, k.tape.trans h.tape, k.output.trans h.output, Nat.le_trans h.size k.size, fun i hi hn => (k.block i (Nat.lt_of_lt_of_le hi h.size) hn).trans (h.block i hi hn)⟩
theorem Only.mono {w w' : World} {R R' : Nat → Prop} (h : Only w w' R) (hr : ∀ k, k < w.heap.size → R k → R' k) : Only w w' R' := ⟨h.os, h.tape, h.output, h.size, fun k hk hn => h.block k hk (fun h' => hn (hr k hk h'))⟩
/-- What is new may be written. -/
theorem Only.andNew {a b c : World} {R S : Nat → Prop} (h : Only a b R) (k : Only b c S) (hs : ∀ i, i < a.heap.size → S i → R i) : Only a c R :=
  ⟨k.os.trans h.os, k.tape.trans h.tape, k.output.trans h.output, Nat.le_trans h.size k.size, fun i hi hn => (k.block i (Nat.lt_of_lt_of_le hi h.size) (fun hx => hn (hs i hi hx))).trans (h.block i hi hn)⟩
theorem flat_get {α : Type} (cs : α → List Value) (sz : Nat) (hl : ∀ a, (cs a).length = sz) : ∀ (l : List α) (j i : Nat) (hj : j < l.length), i < sz → (l.flatMap cs)[j * sz + i]? = (cs l[j])[i]?
  | a :: l, 0, i, _, hi => by
    rw [Nat.zero_mul, Nat.zero_add, List.flatMap_cons, List.getElem?_append_left (by rw [hl]; exact hi)]; rfl
  | a :: l, j + 1, i, hj, hi => by
    rw [List.flatMap_cons, List.getElem?_append_right (by rw [hl, Nat.succ_mul]; omega), hl, show (j + 1) * sz + i - sz = j * sz + i by rw [Nat.succ_mul]; omega]
    exact flat_get cs sz hl l j i (by simpa using hj) hi
theorem nan_any (x : Int) (w : World) : Calls Tryz.prog 96 #[.int .i64 x] w fun e w' => e = .returned (.bool false) ∧ w' = w := by
  go_enter Tryz.func96, Tryz.ntmps96
  go_wp2
  go_ret
  simp
theorem cmpi_any (x y : Int) (w : World) : Calls Tryz.prog 90 #[.int .i64 x, .int .i64 y] w fun e w' => e = .returned (.int .i64 (Lib.compareInt x y)) ∧ w' = w := by
  unfold Lib.compareInt
  by_cases h1 : x < y
  · go_enter Tryz.func90, Tryz.ntmps90
    go_wp2_with (go_at_call 96; refine (nan_any _ _).mono ?_; rintro e w' ⟨rfl, rfl⟩)
    go_ret
    simp
  · by_cases h2 : y < x
    · go_enter Tryz.func90, Tryz.ntmps90
      go_wp2_with (go_at_call 96; refine (nan_any _ _).mono ?_; rintro e w' ⟨rfl, rfl⟩)
      go_ret
      simp
    · go_enter Tryz.func90, Tryz.ntmps90
      go_wp2_with (go_at_call 96; refine (nan_any _ _).mono ?_; rintro e w' ⟨rfl, rfl⟩)
      go_ret
      simp
/-- How two edges stand: by From, by Sym, by To. -/
def cmpE (x y : EdT) : Int := if x.1 ≠ y.1 then Lib.compareInt x.1 y.1 else if x.2.1 ≠ y.2.1 then Lib.compareInt x.2.1 y.2.1 else Lib.compareInt x.2.2 y.2.2
theorem two_new (w : World) (a b : Obj) (n : Nat) : ((w.alloc a).alloc b).drewN n = { w with heap := w.heap ++ #[a, b], drawn := w.drawn + n } := by
  have h : (w.heap.push a).push b = w.heap ++ #[a, b] := by apply Array.ext'; simp
  show ({ w with heap := (w.heap.push a).push b, drawn := w.drawn + n } : World) = _
  rw [h]
set_option maxRecDepth 100000 in
set_option maxHeartbeats 1000000 in
theorem cmpE_any (x y : EdT) (w : World) : Calls Tryz.prog 92 #[.agg #[.int .i64 x.1, .int .i64 x.2.1, .int .i64 x.2.2], .agg #[.int .i64 y.1, .int .i64 y.2.1, .int .i64 y.2.2]] w fun e w' => e = .returned (.int .i64 (cmpE x y)) ∧ ∃ q os, w' = { w with heap := w.heap ++ os, drawn := w.drawn + q } := by
  obtain ⟨x0, x1, x2⟩ := x
  obtain ⟨y0, y1, y2⟩ := y
  simp only
  obtain ⟨W0, hW0⟩ : ∃ W0, (w.alloc (.cells #[.int .i64 x0, .int .i64 x1, .int .i64 x2] 50)).alloc (.cells #[.int .i64 y0, .int .i64 y1, .int .i64 y2] 50) = W0 := ⟨_, rfl⟩
  have a0 : W0.heap[w.heap.size]? = some (.cells #[.int .i64 x0, .int .i64 x1, .int .i64 x2] 50 (0, 0)) := by rw [← hW0]; exact (Below.heap_alloc _ _ _ (by simp)).trans (World.alloc_heap_new _ _)
  have b0 : W0.heap[w.heap.size + 1]? = some (.cells #[.int .i64 y0, .int .i64 y1, .int .i64 y2] 50 (0, 0)) := by
    rw [← hW0]
    have := World.alloc_heap_new (w.alloc (.cells #[.int .i64 x0, .int .i64 x1, .int .i64 x2] 50)) (.cells #[.int .i64 y0, .int .i64 y1, .int .i64 y2] 50)
    simpa using this
  have c0 : W0.cell? ⟨w.heap.size, 0, none⟩ = some (.int .i64 x0) := by simp [World.cell?, a0]
  have c1 : W0.cell? ⟨w.heap.size, 1, none⟩ = some (.int .i64 x1) := by simp [World.cell?, a0]
  have c2 : W0.cell? ⟨w.heap.size, 2, none⟩ = some (.int .i64 x2) := by simp [World.cell?, a0]
  have d0 : W0.cell? ⟨w.heap.size + 1, 0, none⟩ = some (.int .i64 y0) := by simp [World.cell?, b0]
  have d1 : W0.cell? ⟨w.heap.size + 1, 1, none⟩ = some (.int .i64 y1) := by simp [World.cell?, b0]
  have d2 : W0.cell? ⟨w.heap.size + 1, 2, none⟩ = some (.int .i64 y2) := by simp [World.cell?, b0]
  have HW := hide hW0
  clear a0 b0
  unfold cmpE
  simp only
  have T0 := fun W => cmpi_any x0 y0 W
  have T1 := fun W => cmpi_any x1 y1 W
  have T2 := fun W => cmpi_any x2 y2 W
  by_cases h0 : x0 = y0
  · by_cases h1 : x1 = y1
    · by_cases h2 : x2 = y2
      · subst h0; subst h1; subst h2
        rw [if_neg (by simp), if_neg (by simp), show Lib.compareInt x2 x2 = 0 by simp [Lib.compareInt]]
        go_enter Tryz.func92, Tryz.ntmps92
        go_wp2_with fail
        go_ret
        exact ⟨rfl, 0, _, by rw [← HW.out]; exact two_new w _ _ 0⟩
      · subst h0; subst h1
        rw [if_neg (by simp), if_neg (by simp)]
        go_enter Tryz.func92, Tryz.ntmps92
        go_wp2_with (go_at_call 90; refine (T2 _).mono ?_; rintro e w' ⟨rfl, rfl⟩)
        go_ret
        exact ⟨rfl, 0, _, by rw [← HW.out]; exact two_new w _ _ 0⟩
    · subst h0
      rw [if_neg (by simp), if_pos h1]
      go_enter Tryz.func92, Tryz.ntmps92
      go_wp2_with (go_at_call 90; refine (T1 _).mono ?_; rintro e w' ⟨rfl, rfl⟩)
      go_ret
      exact ⟨rfl, 0, _, by rw [← HW.out]; exact two_new w _ _ 0⟩
  · rw [if_pos h0]
    go_enter Tryz.func92, Tryz.ntmps92
    go_wp2_with (go_at_call 90; refine (T0 _).mono ?_; rintro e w' ⟨rfl, rfl⟩)
    go_ret
    exact ⟨rfl, 0, _, by rw [← HW.out]; exact two_new w _ _ 0⟩
end Go.Proofs.YtchoopnjckcohaaGreat
namespace Go.Proofs
open Go.Shelf
def Tryz.sortEdge_ren : Go.Shelf.Ren := ⟨fun | 6 => 97 | 15 => 94 | 14 => 111 | 28 => 108 | 29 => 109 | 20 => 125 | 21 => 126 | 22 => 127 | 23 => 128 | 24 => 129 | 25 => 130 | 26 => 131 | 27 => 132 | 46 => 137 | 47 => 113 | 48 => 114 | 49 => 138 | 50 => 139 | 57 => 141 | n => n, fun | 22 => 23 | 24 => 50 | 25 => 113 | 3 => 3 | 39 => 116 | 0 => 0 | 53 => 127 | 55 => 129 | 4 => 4 | 46 => 121 | 45 => 120 | 50 => 105 | 5 => 5 | 9 => 9 | 66 => 132 | 70 => 136 | 76 => 148 | 77 => 149 | n => n, fun | n => n⟩
theorem Tryz.sortEdge : Go.Proofs.SlLaysF0.n6 Tryz.prog Tryz.sortEdge_ren := {
  mixed := by kernel_rfl
  f6 := ⟨Tryz.f97.name, by decide, Tryz.func97.trans (congrArg some (by kernel_rfl))⟩
  f14 := ⟨Tryz.f111.name, by decide, Tryz.func111.trans (congrArg some (by kernel_rfl))⟩
  f15 := Tryz.func94.trans (congrArg some (by kernel_rfl))
  f20 := ⟨Tryz.f125.name, by decide, Tryz.func125.trans (congrArg some (by kernel_rfl))⟩
  f21 := ⟨Tryz.f126.name, by decide, Tryz.func126.trans (congrArg some (by kernel_rfl))⟩
  f22 := ⟨Tryz.f127.name, by decide, Tryz.func127.trans (congrArg some (by kernel_rfl))⟩
  f23 := ⟨Tryz.f128.name, by decide, Tryz.func128.trans (congrArg some (by kernel_rfl))⟩
  f24 := ⟨Tryz.f129.name, by decide, Tryz.func129.trans (congrArg some (by kernel_rfl))⟩
  f25 := ⟨Tryz.f130.name, by decide, Tryz.func130.trans (congrArg some (by kernel_rfl))⟩
  f26 := ⟨Tryz.f131.name, by decide, Tryz.func131.trans (congrArg some (by kernel_rfl))⟩
  f27 := ⟨Tryz.f132.name, by decide, Tryz.func132.trans (congrArg some (by kernel_rfl))⟩
  f28 := Tryz.func108.trans (congrArg some (by kernel_rfl))
  f29 := Tryz.func109.trans (congrArg some (by kernel_rfl))
  f46 := ⟨Tryz.f137.name, by decide, Tryz.func137.trans (congrArg some (by kernel_rfl))⟩
  f47 := Tryz.func113.trans (congrArg some (by kernel_rfl))
  f48 := Tryz.func114.trans (congrArg some (by kernel_rfl))
  f49 := ⟨Tryz.f138.name, by decide, Tryz.func138.trans (congrArg some (by kernel_rfl))⟩
  f50 := ⟨Tryz.f139.name, by decide, Tryz.func139.trans (congrArg some (by kernel_rfl))⟩
  f57 := ⟨Tryz.f141.name, by decide, Tryz.func141.trans (congrArg some (by kernel_rfl))⟩
  t0 := Tryz.underlying0
  a0 := Tryz.isAgg0
  z0 := Tryz.sizeOf0
  v0 := Tryz.zeroValue0
  t3 := Tryz.underlying3
  a3 := Tryz.isAgg3
  z3 := Tryz.sizeOf3
  v3 := Tryz.zeroValue3
  t4 := Tryz.underlying4
  a4 := Tryz.isAgg4
  z4 := Tryz.sizeOf4
  v4 := Tryz.zeroValue4
  t5 := Tryz.underlying5
  a5 := Tryz.isAgg5
  z5 := Tryz.sizeOf5
  v5 := Tryz.zeroValue5
  t9 := Tryz.underlying9
  a9 := Tryz.isAgg9
  z9 := Tryz.sizeOf9
  v9 := Tryz.zeroValue9
  t22 := Tryz.underlying23
  a22 := Tryz.isAgg23
  z22 := Tryz.sizeOf23
  v22 := Tryz.zeroValue23
  t25 := Tryz.underlying113
  a25 := Tryz.isAgg113
  z25 := Tryz.sizeOf113
  v25 := Tryz.zeroValue113
  t39 := Tryz.underlying116
  a39 := Tryz.isAgg116
  z39 := Tryz.sizeOf116
  v39 := Tryz.zeroValue116
  t45 := Tryz.underlying120
  a45 := Tryz.isAgg120
  z45 := Tryz.sizeOf120
  v45 := Tryz.zeroValue120
  t46 := Tryz.underlying121
  a46 := Tryz.isAgg121
  z46 := Tryz.sizeOf121
  v46 := Tryz.zeroValue121
  t50 := Tryz.underlying105
  a50 := Tryz.isAgg105
  z50 := Tryz.sizeOf105
  v50 := Tryz.zeroValue105
  t53 := Tryz.underlying127
  a53 := Tryz.isAgg127
  z53 := Tryz.sizeOf127
  v53 := Tryz.zeroValue127
  t55 := Tryz.underlying129
  a55 := Tryz.isAgg129
  z55 := Tryz.sizeOf129
  v55 := Tryz.zeroValue129
  t66 := Tryz.underlying132
  a66 := Tryz.isAgg132
  z66 := Tryz.sizeOf132
  v66 := Tryz.zeroValue132
  t70 := Tryz.underlying136
  a70 := Tryz.isAgg136
  z70 := Tryz.sizeOf136
  v70 := Tryz.zeroValue136
  t76 := Tryz.underlying148
  a76 := Tryz.isAgg148
  z76 := Tryz.sizeOf148
  v76 := Tryz.zeroValue148
  t77 := Tryz.underlying149
  a77 := Tryz.isAgg149
  z77 := Tryz.sizeOf149
  v77 := Tryz.zeroValue149 }
end Go.Proofs
namespace Go.Proofs.YtchoopnjckcohaaGreat
open Go.RowKit Go.Maps Go.Shelf Go.Sort
/-! ### Edges sorted -/
/-- An edge's cells. -/
def encE (x : EdT) : List Value := [.int .i64 x.1, .int .i64 x.2.1, .int .i64 x.2.2]
def ltE (x y : EdT) : Bool := decide (x.1 < y.1 ∨ (x.1 = y.1 ∧ (x.2.1 < y.2.1 ∨ (x.2.1 = y.2.1 ∧ x.2.2 < y.2.2))))
theorem ltE_iff {x y : EdT} : ltE x y = true ↔ x.1 < y.1 ∨ (x.1 = y.1 ∧ (x.2.1 < y.2.1 ∨ (x.2.1 = y.2.1 ∧ x.2.2 < y.2.2))) := decide_eq_true_iff
theorem ltE_not {x y : EdT} : ltE x y = false ↔ ¬ (x.1 < y.1 ∨ (x.1 = y.1 ∧ (x.2.1 < y.2.1 ∨ (x.2.1 = y.2.1 ∧ x.2.2 < y.2.2)))) := decide_eq_false_iff_not
theorem cmp_pos (x y : Int) : (x < y ∧ Lib.compareInt x y = -1) ∨ (y < x ∧ Lib.compareInt x y = 1) ∨ (x = y ∧ Lib.compareInt x y = 0) := by
  unfold Lib.compareInt
  rcases Int.lt_trichotomy x y with h | h | h
  · exact .inl ⟨h, by simp [h]⟩
  · exact .inr (.inr ⟨h, by simp [h]⟩)
  · exact .inr (.inl ⟨h, by rw [if_neg (by omega), if_pos (by omega)]⟩)
theorem ltE_is : ltOf cmpE = ltE := by
  funext x y
  unfold ltOf cmpE ltE
  rcases cmp_pos x.1 y.1 with ⟨h1, e1⟩ | ⟨h1, e1⟩ | ⟨h1, e1⟩ <;> rcases cmp_pos x.2.1 y.2.1 with ⟨h2, e2⟩ | ⟨h2, e2⟩ | ⟨h2, e2⟩ <;> rcases cmp_pos x.2.2 y.2.2 with ⟨h3, e3⟩ | ⟨h3, e3⟩ | ⟨h3, e3⟩ <;> simp only [e1, e2, e3] <;> (repeat' split) <;> simp <;> omega
theorem swoE : SWO ltE where
  irrefl x := by rw [ltE_not]; omega
  trans x y z h1 h2 := by rw [ltE_iff] at *; omega
  ntrans x y z h1 h2 := by rw [ltE_not] at *; omega
theorem totE (x y : EdT) (h1 : ltE x y = false) (h2 : ltE y x = false) : x = y := by
  rw [ltE_not] at h1 h2
  exact Prod.ext (by omega) (Prod.ext (by omega) (by omega))
theorem encE_len (x : EdT) : (encE x).length = 3 := rfl
theorem flatE (L : List EdT) : (flatK encE 3 L.toArray).toList = L.flatMap encE := by
  have hz : (L.flatMap encE).length = L.length * 3 := by
    induction L with
    | nil => rfl
    | cons x L ih => rw [List.flatMap_cons, List.length_append, ih, encE_len, List.length_cons]; omega
  apply List.ext_getElem?
  intro t
  by_cases ht : t < L.length * 3
  · have h1 : t / 3 < L.length := by omega
    have h2 : t % 3 < 3 := by omega
    have e := flat_get encE 3 encE_len L (t / 3) (t % 3) h1 h2
    rw [show t / 3 * 3 + t % 3 = t by omega] at e
    rw [e, Array.getElem?_toList]
    have hs : t < (flatK encE 3 L.toArray).size := by simpa using ht
    have g := get_flatK encE 3 L.toArray t (by simpa using ht)
    rw [getElem!_pos _ t hs] at g
    rw [Array.getElem?_eq_getElem hs, g]
    have h3 : t % 3 < (encE L[t / 3]).length := by rw [encE_len]; exact h2
    have h4 : L.toArray[t / 3]! = L[t / 3] := by rw [getElem!_pos _ _ (by simpa using h1)]; simp
    rw [List.getElem?_eq_getElem h3, h4, getElem!_pos (encE L[t / 3]) (t % 3) h3]
  · rw [List.getElem?_eq_none (by rw [Array.length_toList, size_flatK]; simpa using ht), List.getElem?_eq_none (by omega)]
/-- A list of edges in order. -/
def sortE (L : List EdT) : List EdT := L.mergeSort fun x y => !ltE y x
theorem sortE_len (L : List EdT) : (sortE L).length = L.length := List.length_mergeSort _
theorem cmpLays (blk off size : Nat) (w : World) : CmpLays Tryz.prog 92 #[] encE 3 cmpE blk off size w := fun _ _ _ _ x y => (cmpE_any x y _).mono fun _ _ ⟨he, q, os, hw⟩ => ⟨he, q, os, hw⟩
theorem sortE_any (W : World) (B : Nat) (v : Value) (L : List EdT) (hv : W.ownsRow B 50 3 v L.length (L.flatMap encE)) (hl : L.length ≤ 4194304) :
    Calls Tryz.prog 97 #[v, .func (.func 92) #[] #[]] W fun e w' => e = .returned (.tuple #[]) ∧ w'.ownsRow B 50 3 v L.length ((sortE L).flatMap encE) ∧ Only W w' (fun k => v.ownBlock = some k) := by
  rcases hv.2 with ⟨rfl, h0⟩ | ⟨g, cap, cur, rfl, hB, hb, hn, hcap, hsz, hxs⟩
  · obtain rfl : L = [] := List.eq_nil_of_length_eq_zero h0
    refine (AnyF.slices_SortFunc_none Tryz.sortEdge none 0 (.func (.func 92) #[] #[]) W).mono ?_
    rintro e w' ⟨rfl, rfl⟩
    refine ⟨rfl, ?_, Only.ofBelow (Below.refl _ _)⟩
    rw [show sortE [] = [] by simp [sortE]]
    exact hv
  · have eg : ∀ args w, (callFunc 92 args).run Tryz.prog w = .ok (.enter 92 args) w := enters_of Tryz.func92 (by kernel_rfl) rfl
    have hg : g < W.heap.size := (Array.getElem?_eq_some_iff.1 hb).1
    have hH : HoldsK encE 3 W g 0 L.toArray := by
      intro j hj
      have hj2 : j < L.length * 3 := by simpa using hj
      refine ⟨?_, by simp [World.frozen?, hb]⟩
      have hfe : (flatK encE 3 L.toArray).toList[j]? = cur.toList[j]? := by rw [flatE, ← hxs, List.getElem?_take_of_lt hj2]
      have hs : j < (flatK encE 3 L.toArray).size := hj
      rw [Array.getElem?_toList, Array.getElem?_eq_getElem hs, Array.getElem?_toList] at hfe
      simp only [World.cell?, hb, Nat.zero_add]
      simp only [Option.isSome_none, Bool.false_eq_true, if_false, id]
      rw [← hfe, getElem!_pos (flatK encE 3 L.toArray) j hs]
    have hO : SWO (ltOf cmpE) := by rw [ltE_is]; exact swoE
    have H := AnyQ.slices_SortFunc_total Tryz.sortEdge 3 Tryz.isAgg50 Tryz.sizeOf50 encE encE_len (fun x v hv => by simp [encE] at hv; rcases hv with rfl | rfl | rfl <;> rfl) cmpE hO 92 #[] g 0 cap L.toArray W eg (cmpLays g 0 _ W) hH hg (by simp; omega) (by rw [ltE_is]; exact totE)
    rw [ltE_is] at H
    have e1 : L.toArray.size = L.length := by simp
    rw [e1] at H
    refine Calls.mono H ?_
    rintro e w' ⟨rfl, n, os, rfl⟩
    have hq : (sortWorldK encE 3 W g 0 n (sortE L).toArray os).heap[g]? = some (.cells (putCells id 0 (flatK encE 3 (sortE L).toArray) cur) 50 (0, 0)) := by
      unfold sortWorldK putRowK
      rw [heap_grow_old _ _ (by simpa using hg)]
      simp [putRow, mapBlock, Sort.ahead, Array.getElem?_modify, hb, onCells]
    have hfs : (flatK encE 3 (sortE L).toArray).size = L.length * 3 := by simp [sortE_len]
    refine ⟨rfl, ⟨?_, .inr ⟨g, cap, _, rfl, hB, hq, hn, hcap, by simp [putCells, hsz], ?_⟩⟩, ?_⟩
    · rw [← flatE, Array.length_toList, hfs]
    · rw [← flatE]
      apply List.ext_getElem?
      intro j
      by_cases hj : j < L.length * 3
      · have hj3 : j < cur.size := by rw [hsz]; have := Nat.mul_le_mul_right 3 hn; omega
        rw [List.getElem?_take_of_lt hj, Array.getElem?_toList, Array.getElem?_toList]
        simp [putCells, hj3, sortE_len, hj]
      · rw [List.getElem?_take_eq_none (by omega), List.getElem?_eq_none (by rw [Array.length_toList, hfs]; omega)]
    · refine ⟨rfl, rfl, rfl, by simp [sortWorldK, putRowK, putRow, mapBlock, Sort.ahead, grow], fun k hk hne => ?_⟩
      unfold sortWorldK putRowK
      rw [heap_grow_old _ _ (by simpa using hk)]
      have : g ≠ k := fun e => hne (by rw [e]; rfl)
      simp [putRow, mapBlock, Sort.ahead, Array.getElem?_modify, this]
end Go.Proofs.YtchoopnjckcohaaGreat
namespace Go.Proofs.YtchoopnjckcohaaGreat
/-! ### A region in two phases: the first operations only read, and all the others wait for them -/
section
variable {P : Program} {md : Region.Mode} {ops : Array Oper} {C : World → Prop}
/-- What has come up has come up behind all that it waits for. -/
def ClosedL (md : Region.Mode) (ops : Array Oper) (listed : Array Bool) : Prop :=
  ∀ (j : Nat) (oj : Oper), ops[j]? = some oj → listed.getD j true = true → ∀ e ∈ oj.after, Region.binds md e = true → listed.getD e.on false = true
/-- Does one wait for another, over some others? -/
def waitsL (md : Region.Mode) (ops : Array Oper) : Nat → Nat → Nat → Bool
  | 0, _, _ => false
  | f + 1, j, i => match ops[j]? with
    | none => false
    | some o => o.after.any fun e => Region.binds md e && (e.on == i || waitsL md ops f e.on i)
theorem getD_of (l : Array Bool) (i : Nat) (h : l.getD i true = false) : l.getD i false = false := by
  rcases Nat.lt_or_ge i l.size with h' | h'
  · simpa [h'] using h
  · simp [Array.getElem?_eq_none h']
theorem getD_to (l : Array Bool) (i : Nat) (h : l.getD i false = true) : l.getD i true = true := by
  rcases Nat.lt_or_ge i l.size with h' | h'
  · simpa [h'] using h
  · simp [Array.getElem?_eq_none h'] at h
theorem waits_un {listed : Array Bool} (hc : ClosedL md ops listed) {i : Nat} (hi : listed.getD i true = false) : ∀ (f j : Nat), waitsL md ops f j i = true → ∃ e oj, ops[j]? = some oj ∧ e ∈ oj.after ∧ Region.binds md e = true ∧ listed.getD e.on false = false
  | 0, _, h => by simp [waitsL] at h
  | f + 1, j, h => by
    unfold waitsL at h
    cases ho : ops[j]? with
    | none => simp [ho] at h
    | some oj =>
      simp only [ho] at h
      obtain ⟨e, he, h2⟩ : ∃ e ∈ oj.after, (Region.binds md e && (e.on == i || waitsL md ops f e.on i)) = true := by
        obtain ⟨i1, hi1, h2⟩ := Array.any_eq_true.1 h
        exact ⟨_, Array.getElem_mem hi1, h2⟩
      simp only [Bool.and_eq_true, Bool.or_eq_true, beq_iff_eq] at h2
      obtain ⟨hb, h3⟩ := h2
      refine ⟨e, oj, rfl, he, hb, ?_⟩
      rcases h3 with rfl | h3
      · exact getD_of _ _ hi
      · cases hx : listed.getD e.on false with
        | false => rfl
        | true =>
          obtain ⟨e', oj', h4, h5, h6, h7⟩ := waits_un hc hi f e.on h3
          have := hc _ _ h4 (getD_to _ _ hx) e' h5 h6
          rw [h7] at this; cases this
/-- The others wait for each of the first n. -/
def phasedB (md : Region.Mode) (ops : Array Oper) (n : Nat) : Bool :=
  (List.range ops.size).all fun j => decide (j < n) || (List.range n).all fun i => waitsL md ops ops.size j i
theorem phased_lt {n : Nat} {listed : Array Bool} (hp : phasedB md ops n = true) (hc : ClosedL md ops listed) {i j : Nat} (hin : i < n) (hi : listed.getD i true = false) (hj : j ∈ Region.ready md ops listed) : j < n := by
  obtain ⟨h0, oj, ho, hall⟩ := mem_ready.1 hj
  rcases Nat.lt_or_ge j n with h | h
  · exact h
  · unfold phasedB at hp
    rw [List.all_eq_true] at hp
    have h1 := hp j (List.mem_range.2 (Array.getElem?_eq_some_iff.1 ho).1)
    simp only [Bool.or_eq_true, decide_eq_true_eq, List.all_eq_true, List.mem_range] at h1
    rcases h1 with h1 | h1
    · exact h1
    · obtain ⟨e, oj', h4, h5, h6, h7⟩ := waits_un hc hi _ _ (h1 i hin)
      rw [ho] at h4
      cases h4
      rw [hall e h5 h6] at h7
      cases h7
theorem ClosedL.set {listed : Array Bool} (hc : ClosedL md ops listed) {j : Nat} (hj : j ∈ Region.ready md ops listed) : ClosedL md ops (listed.setIfInBounds j true) := by
  intro k ok hk hl e he hb
  by_cases hjk : j = k
  · subst hjk
    obtain ⟨h0, oj, ho, hall⟩ := mem_ready.1 hj
    rw [ho] at hk
    cases hk
    exact getD_set_true (hall e he hb)
  · rw [getD_set_ne true hjk] at hl
    exact getD_set_true (hc k ok hk hl e he hb)
/-- Whatever order is picked until the first n have all come up. -/
def wpFirst (P : Program) (md : Region.Mode) (ops : Array Oper) (C : World → Prop) (n : Nat) (T : Array Bool → Act → Prop) : Nat → Array Bool → Act → Prop
  | 0, listed, a => (∀ j, j < n → listed.getD j true = true) ∧ T listed a
  | m + 1, listed, a => Region.ready md ops listed ≠ [] ∧ ∀ i ∈ Region.ready md ops listed, qOp P ops C i (wpFirst P md ops C n T m (listed.setIfInBounds i true)) a
theorem wpAny_of_first {n : Nat} {T : Array Bool → Act → Prop} {Q : Exit → Act → World → Prop} {k : Nat} (hT : ∀ listed a w, C w → T listed a → wpAny P md ops Q k listed a w) :
    ∀ (m : Nat) (listed : Array Bool) (a : Act) (w : World), C w → wpFirst P md ops C n T m listed a → wpAny P md ops Q (k + m) listed a w
  | 0, _, _, _, hw, h => hT _ _ _ hw h.2
  | m + 1, _, _, _, hw, h => ⟨fun h0 => absurd h0 h.1, fun i hi => wpOp_of_qOp hw (fun a' w' hw' => wpAny_of_first hT m _ a' w' hw') (h.2 i hi)⟩
theorem wpFirst_first {n : Nat} {T : Array Bool → Act → Prop} {i : Nat} {oi : Oper} {v : Value} (hi : ops[i]? = some oi) (hin : i < n) (hp : phasedB md ops n = true)
    (hsel : ∀ (j : Nat) (o : Oper) cs b, ops[j]? = some o → o.op ≠ .select cs b) :
    ∀ (fuel : Nat) (listed : Array Bool) (a : Act), ClosedL md ops listed →
      (∀ j oj, ops[j]? = some oj → j ≠ i → listed.getD j true = false → (∀ e ∈ oj.after, Region.binds md e = true → e.on ≠ i) → oi.apart ops oj = true) →
      i ∈ Region.ready md ops listed → YieldsIn P ops C oi v a →
      wpFirst P md ops C n T fuel (listed.setIfInBounds i true) (a.put oi.dst v) → wpFirst P md ops C n T (fuel + 1) listed a := by
  intro fuel
  induction fuel with
  | zero =>
    intro listed a hc _ hr hy H
    refine ⟨fun h => (by rw [h] at hr; cases hr), fun j hj => ?_⟩
    by_cases hji : j = i
    · subst hji; exact hy.qOp hi H
    · have hjn := phased_lt hp hc hin (mem_ready.1 hr).1 hj
      have h1 := H.1 j hjn
      rw [getD_set_ne true (Ne.symm hji), (mem_ready.1 hj).1] at h1
      cases h1
  | succ fuel ih =>
    intro listed a hc hfree hr hy H
    refine ⟨fun h => (by rw [h] at hr; cases hr), fun j hj => ?_⟩
    by_cases hji : j = i
    · subst hji; exact hy.qOp hi H
    · have h1 := H.2 j (ready_mono hj hji)
      obtain ⟨hjun, oj, hoj, hall⟩ := mem_ready.1 hj
      have hnot : ∀ e ∈ oj.after, Region.binds md e = true → e.on ≠ i := fun e he hb heq => by
        have h1 := hall e he hb
        rw [heq, getD_of _ _ (mem_ready.1 hr).1] at h1
        cases h1
      have h2 := qOp_put hoj (hfree j oj hoj hji hjun hnot) (fun cs b => hsel i oi cs b hi) (fun cs b => hsel j oj cs b hoj) hy h1
      have hfree' : ∀ k ok, ops[k]? = some ok → k ≠ i → (listed.setIfInBounds j true).getD k true = false →
          (∀ e ∈ ok.after, Region.binds md e = true → e.on ≠ i) → oi.apart ops ok = true := fun k ok hk hki hun hno => by
        refine hfree k ok hk hki ?_ hno
        by_cases hjk : j = k
        · subst hjk; exact hjun
        · rw [getD_set_ne true hjk] at hun; exact hun
      refine qOp_mono (fun a' h3 => ih (listed.setIfInBounds j true) a' (hc.set hj) hfree' (ready_mono hr (Ne.symm hji)) h3.1 ?_) h2
      rw [Array.setIfInBounds_comm _ _ hji]
      exact h3.2
/-- The first ones, in their order; L: what has come up then. -/
def firstB (md : Region.Mode) (ops : Array Oper) (n : Nat) : Nat → Nat → Array Bool → Array Bool → Bool
  | 0, _, listed, L => (List.range n).all (fun j => listed.getD j true) && decide (listed = L)
  | fuel + 1, k, listed, L => (Region.ready md ops listed).contains k && Region.free md ops listed k && decide (k < n) && firstB md ops n fuel (k + 1) (listed.setIfInBounds k true) L
theorem wpFirst_lex {n : Nat} {L : Array Bool} {Q : Act → Prop} (hs : Region.noSelect ops = true) (hp : phasedB md ops n = true) : ∀ (l : List Oper) (k : Nat) (listed : Array Bool) (a : Act), ClosedL md ops listed → (∀ j o, l[j]? = some o → ops[k + j]? = some o) →
    firstB md ops n l.length k listed L = true → wpQuiet P ops C Q l a → wpFirst P md ops C n (fun listed' a' => listed' = L ∧ Q a') l.length listed a
  | [], _, _, _, _, _, hB, h => by
    simp only [List.length_nil, firstB, Bool.and_eq_true, List.all_eq_true, List.mem_range, decide_eq_true_eq] at hB
    exact ⟨hB.1, hB.2, h⟩
  | o :: l, k, listed, a, hc, hl, hB, h => by
    have h0 : ops[k]? = some o := hl 0 o rfl
    simp only [List.length_cons, firstB, Bool.and_eq_true, decide_eq_true_eq] at hB
    obtain ⟨⟨⟨hr, hf⟩, hk⟩, hB'⟩ := hB
    have hr' : k ∈ Region.ready md ops listed := by simpa using hr
    have hst : qOp P ops C k (wpQuiet P ops C Q l) a := by unfold qOp; simp only [h0]; exact h
    obtain ⟨v, hy, hK⟩ := yieldsIn_of_qOp h0 hst
    exact wpFirst_first h0 hk hp (Region.noSelect_spec hs) l.length listed a hc (Region.free_spec h0 hf) hr' hy
      (wpFirst_lex hs hp l (k + 1) _ _ (hc.set hr') (fun j o' ho => by have := hl (j + 1) o' (by simpa using ho); simpa [Nat.add_assoc, Nat.add_comm 1 j] using this) hB' hK)
/-- The others, one at a time. -/
def lineB (md : Region.Mode) (ops : Array Oper) : Nat → Nat → Array Bool → Bool
  | 0, _, listed => (Region.ready md ops listed).isEmpty
  | fuel + 1, k, listed => decide (Region.ready md ops listed = [k]) && lineB md ops fuel (k + 1) (listed.setIfInBounds k true)
theorem wpAny_line {Q : Exit → Act → World → Prop} : ∀ (l : List Oper) (k : Nat) (listed : Array Bool) (a : Act) (w : World), (∀ j o, l[j]? = some o → ops[k + j]? = some o) →
    lineB md ops l.length k listed = true → wpList P ops Q l a w → wpAny P md ops Q l.length listed a w
  | [], _, _, _, _, _, hB, h => ⟨by simpa [lineB] using hB, h⟩
  | o :: l, k, listed, a, w, hl, hB, h => by
    have h0 : ops[k]? = some o := hl 0 o rfl
    simp only [List.length_cons, lineB, Bool.and_eq_true, decide_eq_true_eq] at hB
    obtain ⟨hr, hB'⟩ := hB
    refine ⟨fun h1 => (by rw [hr] at h1; cases h1), fun j hj => ?_⟩
    rw [hr] at hj
    obtain rfl := List.mem_singleton.1 hj
    have NX : ∀ a' w', wpList P ops Q l a' w' → wpAny P md ops Q l.length (listed.setIfInBounds j true) a' w' := fun a' w' =>
      wpAny_line l (j + 1) _ a' w' (fun i o' ho => by have := hl (i + 1) o' (by simpa using ho); simpa [Nat.add_assoc, Nat.add_comm 1 i] using this) hB'
    unfold wpOp
    simp only [h0]
    unfold wpList at h
    split
    · rename_i hw
      rw [if_pos hw] at h
      exact h.imp (Oper.wp_mono NX) id
    · rename_i hw
      rw [if_neg hw] at h
      exact NX _ _ h
theorem closed_none (md : Region.Mode) (ops : Array Oper) : ClosedL md ops (Array.replicate ops.size false) := by
  intro j oj ho hl
  have := (Array.getElem?_eq_some_iff.1 ho).1
  simp [this] at hl
/-- Both phases, asked of a region's text. -/
def phaseB (ops : Array Oper) (n : Nat) (L : Array Bool) : Bool :=
  Nat.ble n ops.size && Region.noSelect ops && phasedB .any ops n && firstB .any ops n n 0 (Array.replicate ops.size false) L && lineB .any ops (ops.size - n) n L
/-- A region of two phases. -/
theorem wp_region_phase {id : Nat} {Q : Exit → Act → World → Prop} {a : Act} {w : World} {l : List Oper} (n : Nat) (L : Array Bool) (hm : P.follows .mixedOrders = true) (hB : phaseB l.toArray n L = true)
    (h : wpQuiet P l.toArray (fun w' => ∃ n, w' = w.drewN n) (fun a' => ∀ w', (∃ n, w' = w.drewN n) → wpList P l.toArray Q (l.drop n) a' w') (l.take n) a) : (Code.region id l.toArray true).wp P Q a w := by
  unfold phaseB at hB
  simp only [Bool.and_eq_true] at hB
  obtain ⟨⟨⟨⟨h0, h1⟩, h2⟩, h3⟩, h4⟩ := hB
  have hn : n ≤ l.length := by simpa using Nat.le_of_ble_eq_true h0
  refine wp_region_any hm ?_
  have hl1 : (l.take n).length = n := by simp [hn]
  have hl2 : (l.drop n).length = l.toArray.size - n := by simp
  have F := wpFirst_lex (P := P) (C := fun w' => ∃ n, w' = w.drewN n) (L := L) h1 h2 (l.take n) 0 (Array.replicate l.toArray.size false) a (closed_none _ _)
    (fun j o ho => by
      rw [List.getElem?_take] at ho
      split at ho
      · simpa using ho
      · cases ho) (by rw [hl1]; exact h3) h
  have A := wpAny_of_first (Q := Q) (k := l.toArray.size - n) (fun listed a' w' hw' hT => by
    obtain ⟨e, hT⟩ := hT
    subst e
    have := wpAny_line (P := P) (md := .any) (Q := Q) (l.drop n) n _ a' w' (fun j o ho => by rw [List.getElem?_drop] at ho; simpa using ho) (by rw [hl2]; exact h4) (hT w' hw')
    rwa [hl2] at this) _ _ _ (w.drewN 1) ⟨1, rfl⟩ F
  rw [hl1, show l.toArray.size - n + n = l.toArray.size by simp only [List.size_toArray]; omega] at A
  exact A
end
end Go.Proofs.YtchoopnjckcohaaGreat
namespace Go.Proofs.YtchoopnjckcohaaGreat
open Go.RowKit Go.Maps
attribute [local go_sem] Oper.semAt_some
/-! ### Edges that stand side by side, each once -/
/-- A made row being filled: its cells below k are known. -/
def Mrw (W : World) (H : Nat) (t : TypeId) (N : Nat) (val : Nat → Value) (k : Nat) : Prop :=
  ∃ cur : Array Value, W.heap[H]? = some (.cells cur t (0, 0)) ∧ cur.size = N ∧ ∀ j, j < k → cur[j]? = some (val j)
theorem Mrw.cell {W : World} {H : Nat} {t : TypeId} {N : Nat} {val : Nat → Value} {k : Nat} (h : Mrw W H t N val k) (j : Nat) (hj : j < N) : ∃ u, W.cell? ⟨H, j, none⟩ = some u := by
  obtain ⟨cur, h1, h2, _⟩ := h
  exact ⟨cur[j]'(by omega), cell_of h1 (Array.getElem?_eq_getElem (by omega))⟩
theorem Mrw.fz {W : World} {H : Nat} {t : TypeId} {N : Nat} {val : Nat → Value} {k : Nat} (h : Mrw W H t N val k) (j : Nat) : W.frozen? ⟨H, j, none⟩ = false := by
  obtain ⟨cur, h1, _⟩ := h
  exact fz_of h1
theorem Mrw.set {W : World} {H : Nat} {t : TypeId} {N : Nat} {val : Nat → Value} {k : Nat} (h : Mrw W H t N val k) (j : Nat) (hj : k ≤ j) (u : Value) : Mrw (W.setCell ⟨H, j, none⟩ u) H t N val k := by
  obtain ⟨cur, h1, h2, h3⟩ := h
  refine ⟨_, heap_setCell_same W H j cur t u h1, by simpa using h2, fun i hi => ?_⟩
  rw [Array.getElem?_setIfInBounds_ne (by omega)]
  exact h3 i hi
theorem Mrw.put {W : World} {H : Nat} {t : TypeId} {N : Nat} {val : Nat → Value} {k : Nat} (h : Mrw W H t N val k) (hk : k < N) (u : Value) (hu : val k = u) : Mrw (W.setCell ⟨H, k, none⟩ u) H t N val (k + 1) := by
  obtain ⟨cur, h1, h2, h3⟩ := h
  refine ⟨_, heap_setCell_same W H k cur t u h1, by simpa using h2, fun i hi => ?_⟩
  by_cases e : i = k
  · subst e
    rw [Array.getElem?_setIfInBounds_self_of_lt (by omega), hu]
  · rw [Array.getElem?_setIfInBounds_ne (by omega)]
    exact h3 i (by omega)
theorem Mrw.at {W : World} {H : Nat} {t : TypeId} {N : Nat} {val : Nat → Value} {k : Nat} (h : Mrw W H t N val k) (j : Nat) (hj : j < k) : W.cell? ⟨H, j, none⟩ = some (val j) := by
  obtain ⟨cur, h1, h2, h3⟩ := h
  exact cell_of h1 (h3 j hj)
theorem Mrw.below {W W' : World} {H : Nat} {t : TypeId} {N : Nat} {val : Nat → Value} {k B : Nat} (h : Mrw W H t N val k) (d : Below B W W') (hB : H < B) : Mrw W' H t N val k := by
  obtain ⟨cur, h1, h2, h3⟩ := h
  exact ⟨cur, (d.block _ hB).trans h1, h2, h3⟩
theorem Mrw.lt {W : World} {H : Nat} {t : TypeId} {N : Nat} {val : Nat → Value} {k : Nat} (h : Mrw W H t N val k) : H < W.heap.size := by
  obtain ⟨cur, h1, _⟩ := h
  exact (Array.getElem?_eq_some_iff.1 h1).1
theorem Mrw.ofRow {W : World} {b H : Nat} {t : TypeId} {sz n : Nat} {xs : List Value} (val : Nat → Value) (h : W.ownsRow b t sz (.slice (some ⟨H, 0, none⟩) n n) n xs) : Mrw W H t (n * sz) val 0 := by
  obtain ⟨h0, h1⟩ := h
  rcases h1 with ⟨e, _⟩ | ⟨g, cap, cur, e, h2, h3, h4, h5, h6, h7⟩
  · cases e
  · cases e
    exact ⟨cur, h3, h6, fun j hj => by omega⟩
theorem only_set (w : World) (g k : Nat) (v : Value) : Only w (w.setCell ⟨g, k, none⟩ v) (fun i => i = g) :=
  ⟨rfl, rfl, rfl, by simp [World.setCell], fun i _ hn => Below.heap_setCell _ _ _ _ (fun e => hn (by rw [e]))⟩
theorem row_only {w w' : World} {R : Nat → Prop} {B : Nat} {e : TypeId} {sz n : Nat} {v : Value} {xs : List Value} (h : w.ownsRow B e sz v n xs) (ho : Only w w' R) (hn : ∀ k, v.ownBlock = some k → ¬ R k) : w'.ownsRow B e sz v n xs := by
  refine ⟨h.1, ?_⟩
  have hlt := h.lt
  rcases h.2 with h2 | ⟨g, cap, cur, rfl, hb, hg, rest⟩
  · exact .inl h2
  · exact .inr ⟨g, cap, cur, rfl, hb, (ho.block g (hlt g rfl).2 (hn g rfl)).trans hg, rest⟩
theorem only3 (W : World) (b i j k : Nat) (x y z : Value) : Only W (((W.setCell ⟨b, i, none⟩ x).setCell ⟨b, j, none⟩ y).setCell ⟨b, k, none⟩ z) (fun q => q = b) := ((only_set W b i x).trans (only_set _ b j y)).trans (only_set _ b k z)
theorem below_drewN2 {B : Nat} {w w' : World} (d : Below B w w') (n : Nat) : Below B w (w'.drewN n) := ⟨d.os, d.tape, d.output, d.size, d.block⟩
theorem Mrw.upd {W : World} {H : Nat} {t : TypeId} {N : Nat} {f : Nat → Value} (h : Mrw W H t N f N) (j : Nat) (u : Value) : Mrw (W.setCell ⟨H, j, none⟩ u) H t N (fun c => if c = j then u else f c) N := by
  obtain ⟨cur, h1, h2, h3⟩ := h
  refine ⟨_, heap_setCell_same W H j cur t u h1, by simpa using h2, fun i hi => ?_⟩
  by_cases e : i = j
  · subst e
    rw [Array.getElem?_setIfInBounds_self_of_lt (by omega)]
    simp
  · rw [Array.getElem?_setIfInBounds_ne (by omega), h3 i hi]
    simp [e]
theorem Mrw.congr {W : World} {H : Nat} {t : TypeId} {N : Nat} {f g : Nat → Value} (h : Mrw W H t N f N) (e : ∀ c, c < N → f c = g c) : Mrw W H t N g N := by
  obtain ⟨cur, h1, h2, h3⟩ := h
  exact ⟨cur, h1, h2, fun j hj => by rw [h3 j hj, e j hj]⟩
theorem Mrw.drew {W : World} {H : Nat} {t : TypeId} {N : Nat} {f : Nat → Value} (h : Mrw W H t N f N) : Mrw W.drew H t N f N := h
theorem Mrw.alloc {W : World} {H : Nat} {t : TypeId} {N : Nat} {f : Nat → Value} (h : Mrw W H t N f N) (o : Obj) : Mrw (W.alloc o) H t N f N := h.below ((Below.refl _ _).alloc (Nat.le_refl _) _) h.lt
theorem Mrw.far {W : World} {H : Nat} {t : TypeId} {N : Nat} {f : Nat → Value} (h : Mrw W H t N f N) {g : Nat} (hg : H ≠ g) (j : Nat) (u : Value) : Mrw (W.setCell ⟨g, j, none⟩ u) H t N f N := by
  obtain ⟨cur, h1, h2, h3⟩ := h
  exact ⟨cur, (Below.heap_setCell _ _ _ _ hg).trans h1, h2, h3⟩
theorem Mrw.only {W W' : World} {H : Nat} {t : TypeId} {N : Nat} {f : Nat → Value} {P : Nat → Prop} (h : Mrw W H t N f N) (o : Only W W' P) (hP : ¬ P H) : Mrw W' H t N f N := by
  have hl := h.lt
  obtain ⟨cur, h1, h2, h3⟩ := h
  exact ⟨cur, (o.block H hl hP).trans h1, h2, h3⟩
theorem Mrw.ne {W : World} {H K : Nat} {t u : TypeId} {N M : Nat} {f g : Nat → Value} {a b : Nat} (h : Mrw W H t N f a) (k : Mrw W K u M g b) (htu : t ≠ u) : H ≠ K := by
  rintro rfl
  obtain ⟨c, h1, _⟩ := h
  obtain ⟨d, k1, _⟩ := k
  rw [h1] at k1
  simp only [Option.some.injEq, Obj.cells.injEq] at k1
  exact htu k1.2.1
theorem edges_at {w : World} {g o : Nat} {L : List EdT} (h : RdE w (some ⟨g, o, none⟩) L) (j : Nat) (u : Value) (hu : (L.flatMap encE)[j]? = some u) : w.cell? ⟨g, o + j, none⟩ = some u := by
  have hz : (L.flatMap encE).length = L.length * 3 := by
    clear h hu
    induction L with
    | nil => rfl
    | cons x L ih => rw [List.flatMap_cons, List.length_append, ih, encE_len, List.length_cons]; omega
  have hj : j < L.length * 3 := by
    have := (List.getElem?_eq_some_iff.1 hu).1
    omega
  have h1 : j / 3 < L.length := by omega
  have e := flat_get encE 3 encE_len L (j / 3) (j % 3) h1 (by omega)
  rw [show j / 3 * 3 + j % 3 = j by omega, hu] at e
  obtain ⟨g', o', e', c0, c1, c2⟩ := h (j / 3) h1
  cases e'
  have h3 : j % 3 = 0 ∨ j % 3 = 1 ∨ j % 3 = 2 := by omega
  rcases h3 with q | q | q
  · rw [q] at e
    rw [show o + j = o + j / 3 * 3 by omega, c0]
    exact e.symm
  · rw [q] at e
    rw [show o + j = o + j / 3 * 3 + 1 by omega, c1]
    exact e.symm
  · rw [q] at e
    rw [show o + j = o + j / 3 * 3 + 2 by omega, c2]
    exact e.symm
theorem encE_one (L : List EdT) : ∀ u ∈ L.flatMap encE, u.oneCell' = true := by
  intro u hu
  obtain ⟨x, _, hx⟩ := List.mem_flatMap.1 hu
  simp only [encE, List.mem_cons, List.not_mem_nil, or_false] at hx
  rcases hx with rfl | rfl | rfl <;> rfl
theorem encE_flat (L : List EdT) : (L.flatMap encE).length = L.length * 3 := by
  induction L with
  | nil => rfl
  | cons x L ih => rw [List.flatMap_cons, List.length_append, ih, encE_len, List.length_cons]; omega
/-- The cells of edges in a row. -/
def EdF (f : Nat → Value) (d : Array EdT) : Prop := ∀ j, j < d.size → f (j * 3) = .int .i64 d[j]!.1 ∧ f (j * 3 + 1) = .int .i64 d[j]!.2.1 ∧ f (j * 3 + 2) = .int .i64 d[j]!.2.2
theorem EdF.set {f : Nat → Value} {d : Array EdT} (h : EdF f d) (k : Nat) (x : EdT) : EdF (fun c => if c = k * 3 + 2 then .int .i64 x.2.2 else if c = k * 3 + 1 then .int .i64 x.2.1 else if c = k * 3 then .int .i64 x.1 else f c) (d.setIfInBounds k x) := by
  intro j hj
  rw [Array.size_setIfInBounds] at hj
  by_cases e : j = k
  · subst e
    rw [Sort.getElem!_set_same d j x hj]
    refine ⟨?_, ?_, ?_⟩
    · show (if _ then _ else _) = _
      rw [if_neg (by omega), if_neg (by omega), if_pos rfl]
    · show (if _ then _ else _) = _
      rw [if_neg (by omega), if_pos rfl]
    · show (if _ then _ else _) = _
      rw [if_pos rfl]
  · rw [Sort.getElem!_set_other d k j x e]
    obtain ⟨h0, h1, h2⟩ := h j hj
    refine ⟨?_, ?_, ?_⟩
    · show (if _ then _ else _) = _
      rw [if_neg (by omega), if_neg (by omega), if_neg (by omega)]; exact h0
    · show (if _ then _ else _) = _
      rw [if_neg (by omega), if_neg (by omega), if_neg (by omega)]; exact h1
    · show (if _ then _ else _) = _
      rw [if_neg (by omega), if_neg (by omega), if_neg (by omega)]; exact h2
theorem edF_cells {W : World} {g N : Nat} {f : Nat → Value} {d : Array EdT} (hM : Mrw W g 50 N f N) (hF : EdF f d) (hN : d.size * 3 ≤ N) {j : Nat} (hj : j < d.size) {x0 x1 x2 : Int} (hx : d[j]! = (x0, x1, x2)) : W.cell? ⟨g, j * 3, none⟩ = some (.int .i64 x0) ∧ W.cell? ⟨g, j * 3 + 1, none⟩ = some (.int .i64 x1) ∧ W.cell? ⟨g, j * 3 + 2, none⟩ = some (.int .i64 x2) := by
  obtain ⟨h0, h1, h2⟩ := hF j hj
  rw [hx] at h0 h1 h2
  exact ⟨(hM.at _ (by omega)).trans (congrArg some h0), (hM.at _ (by omega)).trans (congrArg some h1), (hM.at _ (by omega)).trans (congrArg some h2)⟩
theorem rd_low {W : World} {g N n : Nat} {f : Nat → Value} {L : List EdT} {dk : Array EdT} (hM : Mrw W g 50 N f N) (hN : n * 3 ≤ N) (hl : L.length ≤ n) (hL : ∀ j, j < L.length → L[j]? = some dk[j]!) (hF : ∀ j, j < L.length → f (j * 3) = .int .i64 dk[j]!.1 ∧ f (j * 3 + 1) = .int .i64 dk[j]!.2.1 ∧ f (j * 3 + 2) = .int .i64 dk[j]!.2.2) : RdE W (some ⟨g, 0, none⟩) L := fun j hj => by
  obtain ⟨h0, h1, h2⟩ := hF j hj
  have e : L[j] = dk[j]! := Option.some.inj ((List.getElem?_eq_getElem hj).symm.trans (hL j hj))
  rw [← e] at h0 h1 h2
  exact ⟨g, 0, rfl, by rw [Nat.zero_add, hM.at _ (by omega), h0], by rw [Nat.zero_add, hM.at _ (by omega), h1], by rw [Nat.zero_add, hM.at _ (by omega), h2]⟩
theorem all_kept {d : Array EdT} {n : Nat} (hn : d.size = n) (hk : ∀ j, j < n → Lib.keeps d j = true) : Lib.compactUpTo d n = d.toList := by
  rw [Lib.compactUpTo_all d n hk, ← hn]
  exact Lib.range_map_get d
theorem rd_all {W : World} {g N n : Nat} {f : Nat → Value} {d : Array EdT} (hn : d.size = n) (hM : Mrw W g 50 N f N) (hN : n * 3 ≤ N) (hF : EdF f d) (hk : ∀ j, j < n → Lib.keeps d j = true) : (Lib.compactUpTo d n).length = n ∧ RdE W (some ⟨g, 0, none⟩) (Lib.compactUpTo d n) := by
  rw [all_kept hn hk]
  refine ⟨by simpa using hn, rd_low (dk := d) hM hN (by simp; omega) (fun j hj => ?_) fun j hj => hF j (by simpa using hj)⟩
  have hj' : j < d.size := by simpa using hj
  rw [Array.getElem?_toList, Array.getElem?_eq_getElem hj', getElem!_pos d j hj']
/-- Cells set one behind the other. -/
theorem set_cells {t : TypeId} {g N : Nat} : ∀ (xs : List Value) (o : Nat) {W : World} {f : Nat → Value}, Mrw W g t N f N → ∃ f', Mrw (W.setCells g o xs) g t N f' N ∧ (∀ c, c < o → f' c = f c) ∧ Only W (W.setCells g o xs) (fun k => k = g)
  | [], _, _, f, h => ⟨f, h, fun _ _ => rfl, Only.ofBelow (Below.refl _ _)⟩
  | x :: xs, o, W, f, h => by
    obtain ⟨f', h1, h2, h3⟩ := set_cells xs (o + 1) (h.upd o x)
    refine ⟨f', h1, fun c hc => ?_, (only_set W g o x).trans h3⟩
    rw [h2 c (by omega)]
    exact if_neg (by omega)
theorem zeroE (n : Nat) : (Builtin.zeroCells #[Value.int .i64 0, .int .i64 0, .int .i64 0] n).toList = List.replicate (n * 3) (.int .i64 0) := by
  apply List.ext_getElem
  · simp [Builtin.zeroCells]
  · intro i h1 h2
    have h3 : i % 3 = 0 ∨ i % 3 = 1 ∨ i % 3 = 2 := by omega
    simp [Builtin.zeroCells]
    rcases h3 with q | q | q <;> simp [q]
theorem clear_run (W : World) (ty : TypeId) (g o n c : Nat) (hn : 0 < n) (hc : ∀ j, j < n * 3 → (W.cell? ⟨g, o + j, none⟩).isSome = true) (hf : ∀ j, j < n * 3 → W.frozen? ⟨g, o + j, none⟩ = false) :
    (Builtin.clear_ #[23] ty #[.slice (some ⟨g, o, none⟩) n c]).run Tryz.prog W = .ok (.tuple #[]) (W.setCells g o (List.replicate (n * 3) (.int .i64 0))) := by
  have hst := run_storeCells_cells (P := Tryz.prog) g o (List.replicate (n * 3) (.int .i64 0)) 0 W (by simpa using hc) (by simpa using hf) (by intro v hv'; rw [List.eq_of_mem_replicate hv']; rfl)
  simp only [Nat.add_zero] at hst
  obtain ⟨m, rfl⟩ : ∃ m, n = m + 1 := ⟨n - 1, by omega⟩
  have hz : ∀ w : World, (zeroValue 50).run Tryz.prog w = .ok (.agg #[.int .i64 0, .int .i64 0, .int .i64 0]) w := fun w => by kernel_rfl
  have hcl : (Value.agg #[.int .i64 0, .int .i64 0, .int .i64 0]).cells = #[.int .i64 0, .int .i64 0, .int .i64 0] := rfl
  simp [Builtin.clear_, run_underlying Tryz.underlying23, hz, hcl, zeroE, hst]
set_option maxRecDepth 100000 in
set_option maxHeartbeats 4000000 in
theorem compactA (w : World) (g cap n : Nat) (d : Array EdT) (hn : Hid (d.size = n)) (f : Nat → Value) (hM : Hid (Mrw w g 50 (cap * 3) f (cap * 3))) (hF : Hid (EdF f d)) (hcap : n ≤ cap) (hl : n ≤ 4194304) :
    Calls Tryz.prog 98 #[.slice (some ⟨g, 0, none⟩) n cap] w fun e w' => e = .returned (.slice (some ⟨g, 0, none⟩) (Lib.compactUpTo d n).length cap) ∧ RdE w' (some ⟨g, 0, none⟩) (Lib.compactUpTo d n) ∧ Only w w' (fun k => k = g) ∧ ∃ f', Mrw w' g 50 (cap * 3) f' (cap * 3) := by
  by_cases h2 : n < 2
  · have i1 : (n : Int) < 2 := by omega
    go_enter Tryz.func98, Tryz.ntmps98
    go_wp2
    go_ret
    obtain ⟨e1, e2⟩ := rd_all hn.out hM.out (by omega) hF.out fun j hj => Lib.keeps_lt_one d j (by omega)
    exact ⟨by rw [e1]; rfl, e2, Only.ofBelow (Below.refl _ _), _, hM.out⟩
  · have i1 : ¬ (n : Int) < 2 := by omega
    go_enter Tryz.func98, Tryz.ntmps98
    go_wp2_with fail
    go_loopw [3] (fun i wr => ∃ m : Nat, m + 1 ≤ n ∧ i = .int .i64 ((m + 1 : Nat) : Int) ∧ Hid (Mrw wr g 50 (cap * 3) f (cap * 3) ∧ Below w.heap.size w wr ∧ ∀ j, j < m + 1 → Lib.keeps d j = true)) (fun i _ => n - (intOf i).toNat)
    case atStart => exact ⟨0, by omega, rfl, hide ⟨hM.out, Below.refl _ _, fun j hj => Lib.keeps_lt_one d j (by omega)⟩⟩
    case round =>
      obtain ⟨m, hm, rfl, HK⟩ := hrel
      obtain ⟨wi, rfl⟩ : ∃ z, z = wr := ⟨_, rfl⟩
      by_cases hlt : m + 1 < n
      · have j0 : (m : Int) + 1 < (n : Int) := by omega
        have j1 : (m : Int) < (n : Int) := by omega
        have j2 : (0 : Int) ≤ (m : Int) := by omega
        have j3 : (0 : Int) ≤ (m : Int) + 1 := by omega
        obtain ⟨⟨x0, x1, x2⟩, hx⟩ : ∃ x, d[m + 1]! = x := ⟨_, rfl⟩
        obtain ⟨⟨y0, y1, y2⟩, hy⟩ : ∃ y, d[m]! = y := ⟨_, rfl⟩
        obtain ⟨p0, p1, p2⟩ := edF_cells HK.out.1 hF.out (by rw [hn.out]; omega) (by rw [hn.out]; omega) hx
        obtain ⟨q0, q1, q2⟩ := edF_cells HK.out.1 hF.out (by rw [hn.out]; omega) (show m < d.size by rw [hn.out]; omega) hy
        have HE : Hid (Lib.keeps d (m + 1) = !decide (x0 = y0 ∧ x1 = y1 ∧ x2 = y2)) := hide (by
          unfold Lib.keeps
          rw [Nat.add_sub_cancel, hx, hy]
          simp)
        clear hx hy
        go_upto_region 6 with fail
        go_cut [25] from 16 to 25 (fun b wx => b = .bool (!Lib.keeps d (m + 1)) ∧ Hid (Mrw wx g 50 (cap * 3) f (cap * 3) ∧ Below w.heap.size w wx))
        case first =>
          by_cases g0 : x0 = y0
          · by_cases g1 : x1 = y1
            · by_cases g2 : x2 = y2
              · subst g0 g1 g2
                refine wp_region_phase 9 #[true, true, true, true, true, true, true, true, true, false] (by kernel_rfl) (by kernel_rfl) ?_
                simp only [List.take_succ_cons, List.take_zero, List.drop_succ_cons, List.drop_zero]
                repeat (go_big_quiet_step (fail))
                refine wpQuiet_nil ?_
                intro wz hz
                obtain ⟨nq, rfl⟩ := hz
                go_wp2_with fail
                go_meet
                exact ⟨by rw [HE.out]; simp [], hide ⟨HK.out.1, below_drewN2 HK.out.2.1 nq⟩⟩
              · subst g0 g1
                refine wp_region_phase 9 #[true, true, true, true, true, true, true, true, true, false] (by kernel_rfl) (by kernel_rfl) ?_
                simp only [List.take_succ_cons, List.take_zero, List.drop_succ_cons, List.drop_zero]
                repeat (go_big_quiet_step (fail))
                refine wpQuiet_nil ?_
                intro wz hz
                obtain ⟨nq, rfl⟩ := hz
                go_wp2_with fail
                go_meet
                exact ⟨by rw [HE.out]; simp [g2], hide ⟨HK.out.1, below_drewN2 HK.out.2.1 nq⟩⟩
            · subst g0
              refine wp_region_phase 9 #[true, true, true, true, true, true, true, true, true, false] (by kernel_rfl) (by kernel_rfl) ?_
              simp only [List.take_succ_cons, List.take_zero, List.drop_succ_cons, List.drop_zero]
              repeat (go_big_quiet_step (fail))
              refine wpQuiet_nil ?_
              intro wz hz
              obtain ⟨nq, rfl⟩ := hz
              go_wp2_with fail
              go_meet
              exact ⟨by rw [HE.out]; simp [g1], hide ⟨HK.out.1, below_drewN2 HK.out.2.1 nq⟩⟩
          · skip
            refine wp_region_phase 9 #[true, true, true, true, true, true, true, true, true, false] (by kernel_rfl) (by kernel_rfl) ?_
            simp only [List.take_succ_cons, List.take_zero, List.drop_succ_cons, List.drop_zero]
            repeat (go_big_quiet_step (fail))
            refine wpQuiet_nil ?_
            intro wz hz
            obtain ⟨nq, rfl⟩ := hz
            go_wp2_with fail
            go_meet
            exact ⟨by rw [HE.out]; simp [g0], hide ⟨HK.out.1, below_drewN2 HK.out.2.1 nq⟩⟩
        case rest =>
          obtain ⟨rfl, HB⟩ := hcut
          rename World => wx
          clear p0 p1 p2 q0 q1 q2 HE
          by_cases hk : Lib.keeps d (m + 1) = true
          · rw [hk]
            have HKK := hide hk
            clear hk
            go_wp2_with fail
            exact ⟨⟨m + 1, by omega, by go_num, hide ⟨HB.out.1, HB.out.2, fun j hj => if e : j = m + 1 then by rw [e]; exact HKK.out else HK.out.2.2 j (by omega)⟩⟩, by simp [intOf]; omega⟩
          · have hk' : Lib.keeps d (m + 1) = false := by simpa using hk
            rw [hk']
            have HI := hide (Lib.CompInv.start HK.out.2.2 hk')
            clear hk hk' HK
            have c1 : m + 1 ≤ cap := by omega
            have c2 : m + 1 ≤ n := by omega
            go_upto_region 8 with fail
            go_wp2_with fail
            have hs := HI.out
            go_loopw [3, 5] (fun s3 s5 wr => ∃ (kk m2 : Nat) (dk : Array EdT) (f' : Nat → Value), s3 = .int .i64 (kk : Nat) ∧ s5 = .int .i64 ((m2 + 1 : Nat) : Int) ∧ m + 1 + (m2 + 1) ≤ n ∧ Hid (Mrw wr g 50 (cap * 3) f' (cap * 3) ∧ EdF f' dk ∧ Lib.CompInv d (m + 1 + (m2 + 1)) kk dk ∧ Only w wr (fun k => k = g))) (fun _ s5 _ => n - (intOf s5).toNat)
            case atStart => exact ⟨m + 1, 0, d, f, rfl, rfl, by omega, hide ⟨HB.out.1, hF.out, HI.out, Only.ofBelow HB.out.2⟩⟩
            case round =>
              obtain ⟨kk, m2, dk, f', rfl, rfl, hle, HJ⟩ := hrel
              obtain ⟨wj, rfl⟩ : ∃ z, z = wr := ⟨_, rfl⟩
              have hkk := HJ.out.2.2.1.lt
              by_cases hlt2 : m + 1 + (m2 + 1) < n
              · have l0 : (m2 : Int) + 1 < ((n - (m + 1) : Nat) : Int) := by omega
                have l1 : (m2 : Int) < ((n - (m + 1) : Nat) : Int) := by omega
                have l2 : (0 : Int) ≤ (m2 : Int) := by omega
                have l3 : (0 : Int) ≤ (m2 : Int) + 1 := by omega
                have hds := HJ.out.2.2.1.size
                obtain ⟨⟨x0, x1, x2⟩, hx⟩ : ∃ x, d[m + 1 + (m2 + 1)]! = x := ⟨_, rfl⟩
                obtain ⟨⟨y0, y1, y2⟩, hy⟩ : ∃ y, d[m + 1 + m2]! = y := ⟨_, rfl⟩
                have HC : Hid (∀ W, Mrw W g 50 (cap * 3) f' (cap * 3) → (W.cell? ⟨g, (m + 1) * 3 + (m2 + 1) * 3, none⟩ = some (.int .i64 x0) ∧ W.cell? ⟨g, (m + 1) * 3 + (m2 + 1) * 3 + 1, none⟩ = some (.int .i64 x1) ∧ W.cell? ⟨g, (m + 1) * 3 + (m2 + 1) * 3 + 2, none⟩ = some (.int .i64 x2)) ∧ (W.cell? ⟨g, (m + 1) * 3 + m2 * 3, none⟩ = some (.int .i64 y0) ∧ W.cell? ⟨g, (m + 1) * 3 + m2 * 3 + 1, none⟩ = some (.int .i64 y1) ∧ W.cell? ⟨g, (m + 1) * 3 + m2 * 3 + 2, none⟩ = some (.int .i64 y2))) := hide (fun W hW => by
                  have e1 := edF_cells hW HJ.out.2.1 (by rw [hds, hn.out]; omega) (show m + 1 + (m2 + 1) < dk.size by rw [hds, hn.out]; omega) ((HJ.out.2.2.1.high _ (by omega)).trans hx)
                  have e2 := edF_cells hW HJ.out.2.1 (by rw [hds, hn.out]; omega) (show m + 1 + m2 < dk.size by rw [hds, hn.out]; omega) ((HJ.out.2.2.1.high _ (by omega)).trans hy)
                  rw [show (m + 1 + (m2 + 1)) * 3 = (m + 1) * 3 + (m2 + 1) * 3 by omega] at e1
                  rw [show (m + 1 + m2) * 3 = (m + 1) * 3 + m2 * 3 by omega] at e2
                  exact ⟨e1, e2⟩)
                have HE : Hid (Lib.keeps d (m + 1 + (m2 + 1)) = !decide (x0 = y0 ∧ x1 = y1 ∧ x2 = y2)) := hide (by
                  unfold Lib.keeps
                  rw [show m + 1 + (m2 + 1) - 1 = m + 1 + m2 by omega, hx, hy]
                  simp)
                have HX := hide hx
                clear hx hy hs
                go_upto_region 11 with fail
                go_cut [44] from 35 to 44 (fun b wx => b = .bool (Lib.keeps d (m + 1 + (m2 + 1))) ∧ Hid (Mrw wx g 50 (cap * 3) f' (cap * 3) ∧ Only w wx (fun k => k = g)))
                case first =>
                  obtain ⟨⟨p0, p1, p2⟩, q0, q1, q2⟩ := HC.out wj HJ.out.1
                  by_cases g0 : x0 = y0
                  · by_cases g1 : x1 = y1
                    · by_cases g2 : x2 = y2
                      · subst g0 g1 g2
                        refine wp_region_phase 9 #[true, true, true, true, true, true, true, true, true, false] (by kernel_rfl) (by kernel_rfl) ?_
                        simp only [List.take_succ_cons, List.take_zero, List.drop_succ_cons, List.drop_zero]
                        repeat (go_big_quiet_step (fail))
                        refine wpQuiet_nil ?_
                        intro wz hz
                        obtain ⟨nq, rfl⟩ := hz
                        go_wp2_with fail
                        go_meet
                        exact ⟨by rw [HE.out]; simp [], hide ⟨HJ.out.1, HJ.out.2.2.2.trans (Only.ofBelow (below_drewN2 (Below.refl _ _) nq))⟩⟩
                      · subst g0 g1
                        refine wp_region_phase 9 #[true, true, true, true, true, true, true, true, true, false] (by kernel_rfl) (by kernel_rfl) ?_
                        simp only [List.take_succ_cons, List.take_zero, List.drop_succ_cons, List.drop_zero]
                        repeat (go_big_quiet_step (fail))
                        refine wpQuiet_nil ?_
                        intro wz hz
                        obtain ⟨nq, rfl⟩ := hz
                        go_wp2_with fail
                        go_meet
                        exact ⟨by rw [HE.out]; simp [g2], hide ⟨HJ.out.1, HJ.out.2.2.2.trans (Only.ofBelow (below_drewN2 (Below.refl _ _) nq))⟩⟩
                    · subst g0
                      refine wp_region_phase 9 #[true, true, true, true, true, true, true, true, true, false] (by kernel_rfl) (by kernel_rfl) ?_
                      simp only [List.take_succ_cons, List.take_zero, List.drop_succ_cons, List.drop_zero]
                      repeat (go_big_quiet_step (fail))
                      refine wpQuiet_nil ?_
                      intro wz hz
                      obtain ⟨nq, rfl⟩ := hz
                      go_wp2_with fail
                      go_meet
                      exact ⟨by rw [HE.out]; simp [g1], hide ⟨HJ.out.1, HJ.out.2.2.2.trans (Only.ofBelow (below_drewN2 (Below.refl _ _) nq))⟩⟩
                  · skip
                    refine wp_region_phase 9 #[true, true, true, true, true, true, true, true, true, false] (by kernel_rfl) (by kernel_rfl) ?_
                    simp only [List.take_succ_cons, List.take_zero, List.drop_succ_cons, List.drop_zero]
                    repeat (go_big_quiet_step (fail))
                    refine wpQuiet_nil ?_
                    intro wz hz
                    obtain ⟨nq, rfl⟩ := hz
                    go_wp2_with fail
                    go_meet
                    exact ⟨by rw [HE.out]; simp [g0], hide ⟨HJ.out.1, HJ.out.2.2.2.trans (Only.ofBelow (below_drewN2 (Below.refl _ _) nq))⟩⟩
                case rest =>
                  obtain ⟨rfl, HB2⟩ := hcut
                  rename World => wy
                  clear HE
                  by_cases hk : Lib.keeps d (m + 1 + (m2 + 1)) = true
                  · rw [hk]
                    have HKK := hide hk
                    clear hk
                    obtain ⟨⟨p0, p1, p2⟩, _⟩ := HC.out wy HB2.out.1
                    obtain ⟨u0, hu0⟩ := HB2.out.1.cell (kk * 3) (by omega)
                    obtain ⟨u1, hu1⟩ := HB2.out.1.cell (kk * 3 + 1) (by omega)
                    obtain ⟨u2, hu2⟩ := HB2.out.1.cell (kk * 3 + 2) (by omega)
                    have f0 := HB2.out.1.fz (kk * 3)
                    have f1 := HB2.out.1.fz (kk * 3 + 1)
                    have f2 := HB2.out.1.fz (kk * 3 + 2)
                    have k1 : (kk : Int) < (n : Int) := by omega
                    have k2 : (0 : Int) ≤ (kk : Int) := by omega
                    go_wp2_with fail
                    exact ⟨⟨kk + 1, m2 + 1, dk.setIfInBounds kk (x0, x1, x2), _, by go_num, by go_num, by omega, hide ⟨((HB2.out.1.upd (kk * 3) _).upd (kk * 3 + 1) _).upd (kk * 3 + 2) _, HJ.out.2.1.set kk (x0, x1, x2), by have := HJ.out.2.2.1.keep (by rw [hn.out]; omega) HKK.out; rwa [HX.out] at this, HB2.out.2.trans (only3 wy g _ _ _ _ _ _)⟩⟩, by simp [intOf]; omega⟩
                  · have hk' : Lib.keeps d (m + 1 + (m2 + 1)) = false := by simpa using hk
                    rw [hk']
                    have HKK := hide hk'
                    clear hk hk'
                    go_wp2_with fail
                    exact ⟨⟨kk, m2 + 1, dk, f', by go_num, by go_num, by omega, hide ⟨HB2.out.1, HJ.out.2.1, HJ.out.2.2.1.skip HKK.out, HB2.out.2⟩⟩, by simp [intOf]; omega⟩
              · have l0 : ¬ (m2 : Int) + 1 < ((n - (m + 1) : Nat) : Int) := by omega
                have hend : m + 1 + (m2 + 1) = n := by omega
                rw [hend] at HJ
                obtain ⟨f2, hM2, hF2, hO2⟩ := set_cells (List.replicate ((n - kk) * 3) (.int .i64 0)) (kk * 3) HJ.out.1
                have hcl := fun ty => clear_run wj ty g (kk * 3) (n - kk) (cap - kk) (by omega) (fun j hj => by obtain ⟨u, hu⟩ := HJ.out.1.cell (kk * 3 + j) (by omega); rw [hu]; rfl) (fun j _ => HJ.out.1.fz _)
                have HZ := hide (And.intro hM2 (And.intro hF2 hO2))
                have k1 : kk ≤ n := by omega
                have k2 : kk ≤ cap := by omega
                have k3 : (kk : Int) ≤ (n : Int) := by omega
                have k4 : (kk : Int) ≤ (cap : Int) := by omega
                clear hM2 hF2 hO2 hs
                go_wp2
                go_ret
                obtain ⟨hM2, hF2, hO2⟩ := HZ.out
                have I := HJ.out.2.2.1
                refine ⟨by rw [I.len]; rfl, rd_low (n := n) (dk := dk) hM2 (by omega) (by rw [I.len]; omega) (fun j hj => I.low j (by rw [I.len] at hj; exact hj)) (fun j hj => ?_), HJ.out.2.2.2.trans hO2, _, hM2⟩
                rw [I.len] at hj
                rw [hF2 _ (by omega), hF2 _ (by omega), hF2 _ (by omega)]
                exact HJ.out.2.1 j (by rw [I.size, hn.out]; omega)
      · have j0 : ¬ (m : Int) + 1 < (n : Int) := by omega
        obtain rfl : n = m + 1 := by omega
        go_wp2
        go_ret
        obtain ⟨e1, e2⟩ := rd_all hn.out HK.out.1 (by omega) hF.out HK.out.2.2
        exact ⟨by rw [e1]; rfl, e2, Only.ofBelow HK.out.2.1, _, HK.out.1⟩
theorem rdE_cells {W : World} {B b cap : Nat} {X : List EdT} (h : W.ownsRow B 50 3 (.slice (some ⟨b, 0, none⟩) X.length cap) X.length (X.flatMap encE)) (j : Nat) (hj : j < X.length) : W.cell? ⟨b, j * 3, none⟩ = some (.int .i64 X[j].1) ∧ W.cell? ⟨b, j * 3 + 1, none⟩ = some (.int .i64 X[j].2.1) ∧ W.cell? ⟨b, j * 3 + 2, none⟩ = some (.int .i64 X[j].2.2) := by
  have hn : ∀ r, r < 3 → W.cell? ⟨b, j * 3 + r, none⟩ = (encE X[j])[r]? := fun r hr => by
    have c := h.cellAt (j * 3 + r) (show j * 3 + r < X.length * 3 by omega)
    rw [c, flat_get encE 3 encE_len X j r hj hr]
  exact ⟨hn 0 (by omega), hn 1 (by omega), hn 2 (by omega)⟩
theorem rdE_only {W W' : World} {R : Nat → Prop} {ao : Option Addr} {L : List EdT} (h : RdE W ao L) (ho : Only W W' R) (hn : ∀ g o, ao = some ⟨g, o, none⟩ → ¬ R g) : RdE W' ao L := fun j hj => by
  obtain ⟨g, o, e, c0, c1, c2⟩ := h j hj
  have hb := World.block_lt_of_cell? W _ c0
  have k := ho.block g hb (hn g o e)
  exact ⟨g, o, e, (World.cell?_of_block (a := ⟨g, o + j * 3, none⟩) k).trans c0, (World.cell?_of_block (a := ⟨g, o + j * 3 + 1, none⟩) k).trans c1, (World.cell?_of_block (a := ⟨g, o + j * 3 + 2, none⟩) k).trans c2⟩
theorem row_block {W : World} {B n : Nat} {v : Value} {L : List EdT} (h : W.ownsRow B 50 3 v n (L.flatMap encE)) (hn : n = L.length) : (v = .slice none 0 0 ∧ L = []) ∨ ∃ g cap f, v = .slice (some ⟨g, 0, none⟩) n cap ∧ n ≤ cap ∧ B ≤ g ∧ Mrw W g 50 (cap * 3) f (cap * 3) ∧ EdF f L.toArray := by
  rcases h.2 with ⟨rfl, h0⟩ | ⟨g, cap, cur, rfl, hB, hb, hnc, hcm, hcs, htake⟩
  · exact .inl ⟨rfl, List.eq_nil_of_length_eq_zero (by omega)⟩
  · refine .inr ⟨g, cap, fun c => cur[c]?.getD default, rfl, hnc, hB, ⟨cur, hb, hcs, fun j hj => ?_⟩, fun j hj => ?_⟩
    · show cur[j]? = some (cur[j]?.getD default)
      rw [Array.getElem?_eq_getElem (by omega)]; rfl
    · have hj' : j < L.length := by simpa using hj
      subst hn
      have c := rdE_cells h j hj'
      have e : L.toArray[j]! = L[j] := by rw [getElem!_pos _ j (by simpa using hj')]; simp
      rw [e]
      have k : ∀ r, r < 3 → W.cell? ⟨g, j * 3 + r, none⟩ = some (cur[j * 3 + r]?.getD default) := fun r hr => by
        have : j * 3 + r < cur.size := by omega
        rw [cell_of hb (Array.getElem?_eq_getElem this), Array.getElem?_eq_getElem this]; rfl
      obtain ⟨c0, c1, c2⟩ := c
      have k0 := k 0 (by omega)
      have k1 := k 1 (by omega)
      have k2 := k 2 (by omega)
      rw [Nat.add_zero] at k0
      exact ⟨Option.some.inj (k0.symm.trans c0), Option.some.inj (k1.symm.trans c1), Option.some.inj (k2.symm.trans c2)⟩
open Go.Shelf Go.Sort
/-! ### Numbers in order, each once -/
theorem row_cut {w : World} {B g cap n : Nat} {e : TypeId} {sz : Nat} {xs : List Value} (h : w.ownsRow B e sz (.slice (some ⟨g, 0, none⟩) n cap) n xs) (m : Nat) (hm : m ≤ n) : w.ownsRow B e sz (.slice (some ⟨g, 0, none⟩) m cap) m (xs.take (m * sz)) := by
  have hle : m * sz ≤ n * sz := Nat.mul_le_mul_right _ hm
  refine ⟨by rw [List.length_take, h.1]; omega, ?_⟩
  rcases h.2 with ⟨hv, _⟩ | ⟨g', cap', cur, hv, hb, hg, h1, h2, h3, h4⟩
  · cases hv
  · cases hv
    exact .inr ⟨g, cap, cur, rfl, hb, hg, by omega, h2, h3, by rw [← h4, List.take_take, Nat.min_eq_left hle]⟩
/-- A list of numbers in order. -/
def sortI (L : List Int) : List Int := L.mergeSort fun x y => decide (x ≤ y)
/-- A list's numbers, rising, each once. -/
def riseL (L : List Int) : List Int := Lib.compact (sortI L)
theorem sortI_len (L : List Int) : (sortI L).length = L.length := List.length_mergeSort _
theorem compact_len {α : Type} [DecidableEq α] [Inhabited α] (zs : List α) : (Lib.compact zs).length ≤ zs.length := by
  unfold Lib.compact Lib.compactUpTo
  rw [List.length_map]
  exact Nat.le_trans (List.length_filter_le _ _) (by simp)
theorem ltI_is : (fun x y : Int => !(ltOf Lib.compareInt) y x) = fun x y => decide (x ≤ y) := by
  funext x y
  unfold ltOf
  rcases cmp_pos y x with ⟨h, e⟩ | ⟨h, e⟩ | ⟨h, e⟩ <;> rw [e] <;> simp <;> omega
theorem ltI_iff (x y : Int) : ltOf Lib.compareInt x y = true ↔ x < y := by
  unfold ltOf
  rcases cmp_pos x y with ⟨h, e⟩ | ⟨h, e⟩ | ⟨h, e⟩ <;> rw [e] <;> simp <;> omega
theorem ltI_not (x y : Int) : ltOf Lib.compareInt x y = false ↔ ¬ x < y := by rw [← ltI_iff, Bool.not_eq_true]
theorem swoI : SWO (ltOf Lib.compareInt) where
  irrefl x := by rw [ltI_not]; omega
  trans x y z h1 h2 := by rw [ltI_iff] at *; omega
  ntrans x y z h1 h2 := by rw [ltI_not] at *; omega
theorem row_partsI {w : World} {B g cap n : Nat} {L : List Int} (hn : n = L.length) (hv : w.ownsRow B 3 1 (.slice (some ⟨g, 0, none⟩) n cap) n (L.map (Value.int .i64))) : ∃ cur, B ≤ g ∧ w.heap[g]? = some (.cells cur 3 (0, 0)) ∧ L.length ≤ cap ∧ cap ≤ maxLen ∧ cur.size = cap * 1 ∧ cur.toList.take L.length = L.map (Value.int .i64) := by
  subst hn
  rcases hv.2 with ⟨hv, _⟩ | ⟨g', cap', cur, hv, hb, hg, h1, h2, h3, h4⟩
  · cases hv
  · cases hv
    exact ⟨cur, hb, hg, h1, h2, h3, by rw [← h4, Nat.mul_one]⟩
theorem sortI_any (W : World) (B g cap n : Nat) (L : List Int) (hn : n = L.length) (hv : W.ownsRow B 3 1 (.slice (some ⟨g, 0, none⟩) n cap) n (L.map (Value.int .i64))) (hl : n ≤ 4194304) :
    Calls Tryz.prog 95 #[.slice (some ⟨g, 0, none⟩) n cap, .func (.func 90) #[] #[]] W fun e w' => e = .returned (.tuple #[]) ∧ w'.ownsRow B 3 1 (.slice (some ⟨g, 0, none⟩) n cap) n ((sortI L).map (Value.int .i64)) ∧ W.grownBy w' (some g) := by
  obtain ⟨cur, hB, hb, h1, h2, h3, h4⟩ := row_partsI hn hv
  subst hn
  have hg : g < W.heap.size := (Array.getElem?_eq_some_iff.1 hb).1
  have eg : ∀ args w, (callFunc 90 args).run Tryz.prog w = .ok (.enter 90 args) w := enters_of Tryz.func90 (by kernel_rfl) rfl
  have H := Tryz.slices_SortFunc_total (Value.int .i64) (fun _ => rfl) Lib.compareInt swoI 90 #[] g 0 cap L.toArray W eg
    (fun m os dk _ x y => (cmpi_any x y _).mono fun _ _ ⟨he, hw⟩ => ⟨he, 0, #[], by rw [hw]; simp [grow, World.drewN]⟩) (holds_of_blockI hb h4) hg (by simp; omega) (fun x y a b => by rw [ltI_not] at a b; omega)
  have e1 : L.toArray.size = L.length := by simp
  rw [e1, ltI_is] at H
  refine Calls.mono H ?_
  rintro e w' ⟨rfl, k, os, rfl⟩
  exact ⟨rfl, ownsRow_sortedI (ts := sortI L) (ss := L) (sortI_len L) hB hb h1 h2 h3, grownBy_sortedI _⟩
theorem compactI_any (W : World) (B g cap n : Nat) (L : List Int) (hn : n = L.length) (hv : W.ownsRow B 3 1 (.slice (some ⟨g, 0, none⟩) n cap) n (L.map (Value.int .i64))) (hl : n ≤ 4194304) :
    Calls Tryz.prog 87 #[.slice (some ⟨g, 0, none⟩) n cap] W fun e w' => e = .returned (.slice (some ⟨g, 0, none⟩) (Lib.compact L).length cap) ∧ w'.ownsRow B 3 1 (.slice (some ⟨g, 0, none⟩) (Lib.compact L).length cap) (Lib.compact L).length ((Lib.compact L).map (Value.int .i64)) ∧ W.grownBy w' (some g) := by
  obtain ⟨cur, hB, hb, h1, h2, h3, h4⟩ := row_partsI hn hv
  subst hn
  refine (Tryz.slices_Compact_int g 0 cap L W (holds_of_blockI hb h4) (by omega) h1).mono ?_
  rintro e w' ⟨rfl, q, hw⟩
  have hc := compact_len L
  have hlen : (Lib.compact L ++ List.replicate (L.length - (Lib.compact L).length) 0).length = L.length := by
    rw [List.length_append, List.length_replicate]; omega
  have g0 : ∀ W : World, grow W #[] = W := fun W => by simp [grow]
  rw [← g0 (putRow _ _ _ _ _)] at hw
  have hrow := ownsRow_sortedI (n := q) (os := #[]) hlen hB hb h1 h2 h3
  rw [← hw] at hrow
  have hr := row_cut hrow _ hc
  rw [Nat.mul_one, List.map_append, List.take_left' (by simp)] at hr
  exact ⟨rfl, hr, by rw [hw]; exact grownBy_sortedI _⟩
set_option maxRecDepth 100000 in
set_option maxHeartbeats 1000000 in
theorem orderedI_any (w : World) (ao : Option Addr) (c : Nat) (L : List Int) (hA : Hid (RdN w ao L)) (hl : L.length ≤ 4194304) :
    Calls Tryz.prog 89 #[.slice ao L.length c, .func (.func 90) #[] #[]] w fun e w' => ∃ g' c', e = .returned (.slice (some ⟨g', 0, none⟩) (riseL L).length c') ∧ w'.ownsRow w.heap.size 3 1 (.slice (some ⟨g', 0, none⟩) (riseL L).length c') (riseL L).length ((riseL L).map (Value.int .i64)) ∧ Below w.heap.size w w' := by
  obtain ⟨i9, hi9, hz90, hz91, hz92⟩ := info_parts info3
  obtain ⟨m, hm⟩ : ∃ m, m = L.length := ⟨_, rfl⟩
  have HL := hide hm
  rw [← hm]
  rw [← hm] at hl
  clear hm
  go_enter Tryz.func89, Tryz.ntmps89
  go_wp2_with (at_make; refine wpList_make_full _ rfl _ _ 22 rfl w.heap.size 3 i9 (.int .i64 0) 1 Tryz.underlying22 hi9 hz90 hz91 _ _ _ _ m rfl rfl (by go_num) (by go_num) (by rw [hz92]; omega) (by unfold maxLen; omega) (Nat.le_refl _) ?_)
  intro w1 ho hg
  have D1 : Below w.heap.size w w1 := (Below.refl _ _).grown hg (Nat.le_refl _) (by intro k hk; cases hk)
  have hxy : ∃ cur : List Value, w1.heap[w.heap.size]? = some (.cells cur.toArray 3 (0, 0)) ∧ cur.length = m := by
    rcases ho.2 with ⟨hv, _⟩ | ⟨g', cap', cur, hv, hb, hg, h1, h2, h3, h4⟩
    · cases hv
    · cases hv
      exact ⟨cur.toList, by simpa using hg, by simpa using h3⟩
  obtain ⟨cur, hcur, hcl⟩ := hxy
  obtain ⟨X, hX⟩ : ∃ X, X = L.map (Value.int .i64) := ⟨_, rfl⟩
  have hXl : X.length = m := by rw [hX, List.length_map, HL.out]
  have HX := hide (And.intro hX hXl)
  have HC := hide (And.intro hcur (And.intro hcl D1))
  clear ho hg D1 hcur hcl hX hXl
  go_wp2_with (refine wpList_copy_splice rfl (.tmp 9) (.tmp 10) 22 22 rfl 3 Tryz.underlying22 (by rw [hi9]; simp [hz91]) _ _ _ _ _ _ rfl rfl w.heap.size 0 cur 3 HC.out.1 X (by rw [HX.out.2]; exact (Nat.min_self m).symm) ?_ (by rw [HX.out.2, HC.out.2.1]; omega) ?_ w.heap.size w HC.out.2.2 (Nat.le_refl _) ?_)
  · intro hp
    have h0 : 0 < L.length := by rw [← HL.out, ← HX.out.2]; exact hp
    obtain ⟨g, o, rfl, _⟩ := hA.out 0 h0
    refine ⟨_, rfl, fun j v hv => ?_⟩
    rw [HX.out.1, List.getElem?_map] at hv
    obtain ⟨x, hx, rfl⟩ := Option.map_eq_some_iff.1 hv
    obtain ⟨hj, rfl⟩ := List.getElem?_eq_some_iff.1 hx
    obtain ⟨g', o', e, c0⟩ := (hA.out.on HC.out.2.2) j hj
    cases e
    have ea : Addr.add ⟨g, o, none⟩ j = ⟨g, o + j, none⟩ := by
      unfold Addr.add
      by_cases q : j = 0
      · subst q; simp
      · simp [q]
    rw [ea]
    exact c0
  · intro v hv
    rw [HX.out.1] at hv
    obtain ⟨x, _, rfl⟩ := List.mem_map.1 hv
    rfl
  intro w2 HG2 d2
  have hr2 : w2.ownsRow w.heap.size 3 1 (.slice (some ⟨w.heap.size, 0, none⟩) m m) m (L.map (Value.int .i64)) := by
    have e : splice cur 0 X = L.map (Value.int .i64) := by
      unfold splice
      rw [List.take_zero, List.drop_eq_nil_of_le (by rw [HX.out.2, HC.out.2.1]; omega), List.nil_append, List.append_nil, HX.out.1]
    have hg := HG2.out
    rw [e] at hg
    exact ⟨by rw [List.length_map, ← HL.out]; omega, .inr ⟨_, m, _, rfl, Nat.le_refl _, hg, Nat.le_refl _, by unfold maxLen; omega, by simp [← HL.out], List.take_of_length_le (by simp [← HL.out])⟩⟩
  have HR := hide (And.intro hr2 d2)
  clear hr2 d2 HG2 HC
  go_wp2_with (go_at_call 95; refine (sortI_any _ w.heap.size w.heap.size m m L HL.out (by exact HR.out.1) hl).mono ?_; rintro e w3 ⟨rfl, hr3, hg3⟩)
  have HS := hide (And.intro hr3 (HR.out.2.grown hg3 HR.out.2.size (fun k hk => by cases hk; exact Nat.le_refl _)))
  clear hr3 hg3
  go_wp2_with (go_at_call 87; refine (compactI_any _ w.heap.size w.heap.size m m (sortI L) (by rw [sortI_len]; exact HL.out) (by exact HS.out.1) hl).mono ?_; rintro e w4 ⟨rfl, hr4, hg4⟩)
  go_ret
  exact ⟨_, _, rfl, hr4, HS.out.2.grown hg4 HS.out.2.size (fun k hk => by cases hk; exact Nat.le_refl _)⟩
/-! ### The queue in a search's box -/
/-- The cells of a search. -/
def sF (al it : Value) (f c : Nat) (ln : Value) : Nat → Value := fun k => match k with | 0 => al | 1 => it | 2 => .int .i64 f | 3 => .int .i64 c | _ => ln
/-- What waits in the queue of the search in block b: m places, the first one f. -/
structure RingAt (w : World) (b : Nat) (al ln : Value) (m f : Nat) (ao : Option Addr) (T : List Int) : Prop where
  box : Mrw w b 138 5 (sF al (.slice ao m m) f T.length ln) 5
  le : T.length ≤ m
  nil : m = 0 → ao = none ∧ f = 0
  some : 0 < m → f < m ∧ ∃ (g : Nat) (F : Nat → Int), ao = some ⟨g, 0, none⟩ ∧ Mrw w g 3 m (fun c => .int .i64 (F c)) m ∧ ∀ k, k < T.length → F ((f + k) % m) = T.getD k 0
theorem RingAt.drew {w : World} {b m f : Nat} {al ln : Value} {ao : Option Addr} {T : List Int} (h : RingAt w b al ln m f ao T) : RingAt w.drew b al ln m f ao T := ⟨h.1, h.2, h.3, h.4⟩
theorem RingAt.drewN {w : World} {b m f : Nat} {al ln : Value} {ao : Option Addr} {T : List Int} (h : RingAt w b al ln m f ao T) (q : Nat) : RingAt (w.drewN q) b al ln m f ao T := ⟨h.1, h.2, h.3, h.4⟩
/-! ### A state that is met -/
/-- Nothing below B is changed, and no block but of numbers and of searches. -/
structure SFr (B : Nat) (w w' : World) : Prop where
  os : w'.os = w.os
  tape : w'.tape = w.tape
  output : w'.output = w.output
  size : w.heap.size ≤ w'.heap.size
  block : ∀ k, k < w.heap.size → (k < B ∨ ∃ cs t fr, w.heap[k]? = some (.cells cs t fr) ∧ t ≠ 3 ∧ t ≠ 138) → w'.heap[k]? = w.heap[k]?
theorem SFr.refl (B : Nat) (w : World) : SFr B w w := ⟨rfl, rfl, rfl, Nat.le_refl _, fun _ _ _ => rfl⟩
theorem SFr.trans {B : Nat} {a b c : World} (h : SFr B a b) (k : SFr B b c) : SFr B a c :=
  ⟨k.os.trans h.os, k.tape.trans h.tape, k.output.trans h.output, Nat.le_trans h.size k.size, fun i hi hh => by
    have e := h.block i hi hh
    rw [← e]
    exact k.block i (Nat.lt_of_lt_of_le hi h.size) (by rw [e]; exact hh)⟩
theorem SFr.ofOnly {B : Nat} {w w' : World} {R : Nat → Prop} (h : Only w w' R) (hR : ∀ k, R k → B ≤ k ∧ ∃ cs t fr, w.heap[k]? = some (.cells cs t fr) ∧ (t = 3 ∨ t = 138)) : SFr B w w' :=
  ⟨h.os, h.tape, h.output, h.size, fun k hk hh => h.block k hk fun hr => by
    obtain ⟨h1, cs, t, fr, h2, h3⟩ := hR k hr
    rcases hh with hh | ⟨cs', t', fr', h4, h5, h6⟩
    · omega
    · rw [h2] at h4
      cases h4
      rcases h3 with h3 | h3
      · exact h5 h3
      · exact h6 h3⟩
theorem SFr.toBelow {B : Nat} {w w' : World} (h : SFr B w w') (hB : B ≤ w.heap.size) : Below B w w' := ⟨h.os, h.tape, h.output, h.size, fun k hk => h.block k (by omega) (.inl hk)⟩
theorem SFr.ofBelow {B : Nat} {w w' : World} (h : Below w.heap.size w w') : SFr B w w' := ⟨h.os, h.tape, h.output, h.size, fun k hk _ => h.block k hk⟩
theorem SFr.mrw {B : Nat} {w w' : World} (h : SFr B w w') {g t N k : Nat} {f : Nat → Value} (hM : Mrw w g t N f k) (h1 : t ≠ 3) (h2 : t ≠ 138) : Mrw w' g t N f k := by
  have hl := hM.lt
  obtain ⟨cur, e, r⟩ := hM
  exact ⟨cur, (h.block g hl (.inr ⟨_, _, _, e, h1, h2⟩)).trans e, r⟩
/-- A search: what waits, and the lengths that are known. -/
structure SrAt (B : Nat) (w : World) (b : Nat) (al : Value) (gl N m f : Nat) (ao : Option Addr) (T : List Int) (len : Nat → Int) : Prop where
  ring : RingAt w b al (.slice (some ⟨gl, 0, none⟩) N N) m f ao T
  row : Mrw w gl 3 N (fun c => .int .i64 (len c)) N
  ne : ao ≠ some ⟨gl, 0, none⟩
  lb : B ≤ b
  lg : B ≤ gl
  la : ∀ g, ao = some ⟨g, 0, none⟩ → B ≤ g
theorem SrAt.drewN {B : Nat} {w : World} {b : Nat} {al : Value} {gl N m f : Nat} {ao : Option Addr} {T : List Int} {len : Nat → Int} (h : SrAt B w b al gl N m f ao T len) (q : Nat) : SrAt B (w.drewN q) b al gl N m f ao T len := ⟨h.1.drewN q, h.2, h.3, h.4, h.5, h.6⟩
theorem ring_only {w w' : World} {b : Nat} {al ln : Value} {m f : Nat} {ao : Option Addr} {T : List Int} {R : Nat → Prop} (h : RingAt w b al ln m f ao T) (o : Only w w' R) (hb : ¬ R b) (ha : ∀ g, ao = some ⟨g, 0, none⟩ → ¬ R g) : RingAt w' b al ln m f ao T :=
  ⟨h.box.only o hb, h.le, h.nil, fun hm => by
    obtain ⟨h1, g, F, e, hM, hF⟩ := h.some hm
    exact ⟨h1, g, F, e, hM.only o (ha g e), hF⟩⟩
theorem mrw_typed {w : World} {g t N k : Nat} {f : Nat → Value} (h : Mrw w g t N f k) : ∃ cs fr, w.heap[g]? = some (.cells cs t fr) := by
  obtain ⟨cur, e, _⟩ := h
  exact ⟨cur, _, e⟩
theorem SrAt.fr {B : Nat} {w w' : World} {b : Nat} {al : Value} {gl N m f : Nat} {ao : Option Addr} {T : List Int} {len : Nat → Int} (h : SrAt B w b al gl N m f ao T len)
    (o : Only w w' (fun k => k = b ∨ k = gl ∨ ao = some ⟨k, 0, none⟩)) : SFr B w w' := by
  refine SFr.ofOnly o fun k hk => ?_
  rcases hk with rfl | rfl | e
  · obtain ⟨cs, fr, e⟩ := mrw_typed h.ring.box
    exact ⟨h.lb, cs, 138, fr, e, .inr rfl⟩
  · obtain ⟨cs, fr, e⟩ := mrw_typed h.row
    exact ⟨h.lg, cs, 3, fr, e, .inl rfl⟩
  · by_cases hm : 0 < m
    · obtain ⟨_, g, F, e', hM, _⟩ := h.ring.some hm
      rw [e] at e'
      cases e'
      obtain ⟨cs, fr, e2⟩ := mrw_typed hM
      exact ⟨h.la k e, cs, 3, fr, e2, .inl rfl⟩
    · obtain ⟨rfl, _⟩ := h.ring.nil (by omega)
      cases e
end Go.Proofs.YtchoopnjckcohaaGreat
namespace Go.Proofs.YtchoopnjckcohaaGreat
/-! ### Breadth first -/
/-- Some start leads to q by k steps. -/
def Wlk (S : Nat → Prop) (E : Nat → Nat → Prop) : Nat → Nat → Prop
  | 0, q => S q
  | k + 1, q => ∃ p, Wlk S E k p ∧ E p q
/-- What is known while states wait. -/
structure Bfs (N : Nat) (S : Nat → Prop) (E : Nat → Nat → Prop) (T : List Nat) (len : Nat → Int) : Prop where
  mem : ∀ q ∈ T, q < N ∧ 0 ≤ len q
  nd : T.Nodup
  ge : ∀ q, -1 ≤ len q
  sound : ∀ q, q < N → 0 ≤ len q → Wlk S E (len q).toNat q
  start : ∀ q, S q → len q = 0
  mono : T.Pairwise (fun x y => len x ≤ len y)
  near : ∀ x ∈ T, ∀ q, q < N → len q ≤ len x + 1
  closed : ∀ q r, q < N → E q r → 0 ≤ len q → q ∉ T → 0 ≤ len r ∧ len r ≤ len q + 1
def putL (len : Nat → Int) (r : Nat) (n : Int) : Nat → Int := fun c => if c = r then n else len c
theorem putL_same (len : Nat → Int) (r : Nat) (n : Int) : putL len r n r = n := by simp [putL]
theorem putL_ne (len : Nat → Int) {r q : Nat} (n : Int) (h : q ≠ r) : putL len r n q = len q := by simp [putL, h]
/-- A new state is met. -/
theorem Bfs.meet {N : Nat} {S : Nat → Prop} {E : Nat → Nat → Prop} {p r : Nat} {T : List Nat} {len : Nat → Int} (h : Bfs N S E (p :: T) len) (hE : E p r) (hr : r < N) (h1 : len r = -1) : Bfs N S E (p :: (T ++ [r])) (putL len r (len p + 1)) := by
  have hp := h.mem p (by simp)
  have hpr : p ≠ r := by intro e; rw [e] at hp; omega
  have hT : ∀ q ∈ p :: T, q ≠ r := fun q hq e => by have := (h.mem q hq).2; rw [e] at this; omega
  have e1 : putL len r (len p + 1) p = len p := putL_ne len _ hpr
  have hin : ∀ x, x ∈ p :: (T ++ [r]) ↔ x ∈ p :: T ∨ x = r := fun x => by simp [or_assoc]
  refine ⟨fun q hq => ?_, ?_, fun q => ?_, fun q hq h0 => ?_, fun q hs => ?_, ?_, fun x hx q hq => ?_, fun q s hq hqs h0 hn => ?_⟩
  · rcases (hin q).1 hq with hq | rfl
    · rw [putL_ne _ _ (hT q hq)]; exact h.mem q hq
    · rw [putL_same]; exact ⟨hr, by omega⟩
  · have := h.nd
    rw [← List.cons_append, List.nodup_append]
    refine ⟨this, by simp, fun a ha b hb => ?_⟩
    simp at hb
    subst hb
    exact hT a ha
  · by_cases e : q = r
    · subst e; rw [putL_same]; omega
    · rw [putL_ne _ _ e]; exact h.ge q
  · by_cases e : q = r
    · subst e
      rw [putL_same, show (len p + 1).toNat = (len p).toNat + 1 by omega]
      exact ⟨p, h.sound p hp.1 hp.2, hE⟩
    · rw [putL_ne _ _ e] at h0 ⊢; exact h.sound q hq h0
  · have := h.start q hs
    rw [putL_ne _ _ (fun e => by rw [e] at this; omega)]
    exact this
  · rw [← List.cons_append, List.pairwise_append]
    refine ⟨?_, by simp, fun a ha b hb => ?_⟩
    · refine h.mono.imp_of_mem fun {a b} ha hb hab => ?_
      rw [putL_ne _ _ (hT a ha), putL_ne _ _ (hT b hb)]
      exact hab
    · simp at hb
      subst hb
      rw [putL_same, putL_ne _ _ (hT a ha)]
      exact h.near p (by simp) a (h.mem a ha).1
  · have hpx : len p ≤ putL len r (len p + 1) x := by
      rcases (hin x).1 hx with hx | rfl
      · rw [putL_ne _ _ (hT x hx)]
        rcases List.mem_cons.1 hx with rfl | hx
        · omega
        · exact (List.pairwise_cons.1 h.mono).1 x hx
      · rw [putL_same]; omega
    by_cases e : q = r
    · subst e; rw [putL_same]; omega
    · rw [putL_ne _ _ e]
      have hpn := h.near p (by simp) q hq
      omega
  · have hqr : q ≠ r := fun e => hn ((hin q).2 (.inr e))
    rw [putL_ne _ _ hqr] at h0 ⊢
    have hc := h.closed q s hq hqs h0 (fun e => hn ((hin q).2 (.inl e)))
    have hsr : s ≠ r := by intro e; rw [e] at hc; omega
    rw [putL_ne _ _ hsr]
    exact hc
/-- Nothing waits any more: the lengths are those of the shortest ways. -/
theorem Bfs.done {N : Nat} {S : Nat → Prop} {E : Nat → Nat → Prop} {len : Nat → Int} (h : Bfs N S E [] len) (hS : ∀ q, S q → q < N) (hE : ∀ p q, E p q → q < N) : ∀ k q, Wlk S E k q → q < N ∧ 0 ≤ len q ∧ len q ≤ k
  | 0, q, hw => ⟨hS q hw, by rw [h.start q hw]; omega, by rw [h.start q hw]; omega⟩
  | k + 1, q, ⟨p, hw, hpq⟩ => by
    obtain ⟨h1, h2, h3⟩ := h.done hS hE k p hw
    obtain ⟨h4, h5⟩ := h.closed p q h1 hpq h2 (by simp)
    exact ⟨hE p q hpq, h4, by omega⟩
/-- The starts are met. -/
theorem Bfs.first {N : Nat} {S : Nat → Prop} {E : Nat → Nat → Prop} {T : List Nat} {len : Nat → Int} (hT : T.Nodup) (hS : ∀ q, S q ↔ q ∈ T) (hN : ∀ q, S q → q < N) (hl : ∀ q, len q = if q ∈ T then 0 else -1) : Bfs N S E T len := by
  have h0 : ∀ q, q ∈ T → len q = 0 := fun q hq => by rw [hl, if_pos hq]
  have h1 : ∀ q, q ∉ T → len q = -1 := fun q hq => by rw [hl, if_neg hq]
  have hle : ∀ q, len q = 0 ∨ len q = -1 := fun q => by
    by_cases e : q ∈ T
    · exact .inl (h0 q e)
    · exact .inr (h1 q e)
  refine ⟨fun q hq => ⟨hN q ((hS q).2 hq), by rw [h0 q hq]; omega⟩, hT, fun q => by rcases hle q with e | e <;> omega, fun q _ h => ?_, fun q hs => h0 q ((hS q).1 hs), ?_, fun x hx q _ => ?_, fun q r _ _ h hn => ?_⟩
  · by_cases e : q ∈ T
    · rw [h0 q e]; exact (hS q).2 e
    · rw [h1 q e] at h; omega
  · exact List.pairwise_of_forall_mem_list fun a ha b hb => by rw [h0 a ha, h0 b hb]; omega
  · rw [h0 x hx]; rcases hle q with e | e <;> omega
  · rw [h1 q hn] at h; omega
end Go.Proofs.YtchoopnjckcohaaGreat
namespace Go.Proofs.YtchoopnjckcohaaGreat
open Go.RowKit Go.Maps
attribute [local go_sem] Oper.semAt_some
/-! ### The search itself -/
/-- The edges by their near ends. -/
def GrAt (w : World) (H N : Nat) (row : Nat → List EdT) : Prop :=
  ∃ F, Mrw w H 23 N F N ∧ ∀ q, q < N → ∃ ao c, F q = .slice ao (row q).length c ∧ RdE w ao (row q) ∧ ∀ g o, ao = some ⟨g, o, none⟩ → ∃ cs fr, w.heap[g]? = some (.cells cs 50 fr)
theorem cell_same {w w' : World} {g : Nat} (h : w'.heap[g]? = w.heap[g]?) (o : Nat) : w'.cell? ⟨g, o, none⟩ = w.cell? ⟨g, o, none⟩ := by
  simp [World.cell?, h]
theorem GrAt.fr {B : Nat} {w w' : World} {H N : Nat} {row : Nat → List EdT} (h : GrAt w H N row) (d : SFr B w w') : GrAt w' H N row := by
  obtain ⟨F, hM, hF⟩ := h
  refine ⟨F, d.mrw hM (by decide) (by decide), fun q hq => ?_⟩
  obtain ⟨ao, c, e, hr, ht⟩ := hF q hq
  have hk : ∀ g o, ao = some ⟨g, o, none⟩ → w'.heap[g]? = w.heap[g]? := fun g o e => by
    obtain ⟨cs, fr, e2⟩ := ht g o e
    exact d.block g (Array.getElem?_eq_some_iff.1 e2).1 (.inr ⟨_, _, _, e2, by decide, by decide⟩)
  refine ⟨ao, c, e, fun j hj => ?_, fun g o e => ?_⟩
  · obtain ⟨g, o, e, r1, r2, r3⟩ := hr j hj
    have := hk g o e
    exact ⟨g, o, e, by rw [cell_same this]; exact r1, by rw [cell_same this]; exact r2, by rw [cell_same this]; exact r3⟩
  · rw [hk g o e]; exact ht g o e
theorem SrAt.below {B : Nat} {w w' : World} {b : Nat} {al : Value} {gl N m f : Nat} {ao : Option Addr} {T : List Int} {len : Nat → Int} (h : SrAt B w b al gl N m f ao T len) (d : Below w.heap.size w w') : SrAt B w' b al gl N m f ao T len :=
  ⟨ring_only h.ring (Only.ofBelow (R := fun _ => False) d) id (fun _ _ => id), h.row.only (Only.ofBelow (R := fun _ => False) d) id, h.ne, h.lb, h.lg, h.la⟩
open Go.Shelf Go.Sort
/-! ### Edges in order, each once -/
theorem info59 : (Tryz.prog.info? 50).map (fun i => (i.zero, i.size, i.bytes)) = some (some (.agg #[.int .i64 0, .int .i64 0, .int .i64 0]), 3, 24) := by kernel_rfl
theorem run_copyE (w : World) (ty : TypeId) (g m dCap : Nat) (ao : Option Addr) (sCap : Nat) (L : List EdT) (hL : m = L.length) (cur : Array Value) (hg : w.heap[g]? = some (.cells cur 50 (0, 0))) (hcs : cur.size = m * 3) (hr : RdE w ao L) :
    (Builtin.copy_ #[23, 23] ty #[.slice (some ⟨g, 0, none⟩) m dCap, .slice ao m sCap]).run Tryz.prog w = .ok (goInt m) (w.setRow g (L.flatMap encE).toArray) := by
  obtain ⟨i5, hi5, _, hz51, _⟩ := info_parts info59
  have hm : Nat.min m m = m := Nat.min_self m
  have hfl : (L.flatMap encE).length = m * 3 := by rw [encE_flat, hL]
  have hst := run_storeCells_at Tryz.prog g 0 50 (L.flatMap encE) 0 cur w hg (by rw [hfl]; omega) (encE_one L)
  rw [hfl, Nat.zero_add, Nat.zero_add, List.take_zero, List.nil_append, List.drop_eq_nil_of_le (by simp [hcs]), List.append_nil] at hst
  by_cases h0 : L = []
  · subst h0
    obtain rfl : m = 0 := hL
    have hl : ∀ (x : Addr), (loadCells x 0).run Tryz.prog w = .ok #[] w := fun x => by simpa using run_loadCells_list (P := Tryz.prog) w x [] (by simp)
    obtain rfl : cur = #[] := Array.eq_empty_of_size_eq_zero (by omega)
    rw [show w.setRow g (([] : List EdT).flatMap encE).toArray = w from setRow_self w g #[] 50 (0, 0) hg]
    cases ao <;> simp [Builtin.copy_, run_underlying Tryz.underlying23, Builtin.lenOf, Builtin.firstCells, sizeOf, typeInfo, hi5, storeCells, hl]
  · obtain ⟨a, o, rfl, _⟩ := hr 0 (List.length_pos_iff.2 h0)
    have hl := run_loadCells_list (P := Tryz.prog) w ⟨a, o, none⟩ (L.flatMap encE) (fun j v hv => by
      have ea : Addr.add ⟨a, o, none⟩ j = ⟨a, o + j, none⟩ := by
        unfold Addr.add
        by_cases q : j = 0
        · subst q; simp
        · simp [q]
      rw [ea]
      exact edges_at hr j v hv)
    rw [hfl] at hl
    simp [Builtin.copy_, run_underlying Tryz.underlying23, Builtin.lenOf, Builtin.firstCells, sizeOf, typeInfo, hi5, hz51, hl, hst]
theorem wpList_copyE {w : World} {ops : Array Oper} {rest : List Oper} {o : Oper} {a : Act} {Q : Exit → Act → World → Prop} (hgd : o.guard = none) (d s : Operand)
    (ho : o.op = .call { callee := .builtin .copy, args := #[d, s], argTypes := #[23, 23] }) (g m dCap : Nat) (ao : Option Addr) (sCap : Nat) (L : List EdT) (hd : a.eval d = .slice (some ⟨g, 0, none⟩) m dCap) (hs : a.eval s = .slice ao m sCap) (hL : m = L.length)
    (cur : Array Value) (hg : w.heap[g]? = some (.cells cur 50 (0, 0))) (hcs : cur.size = m * 3) (hr : RdE w ao L) (B : Nat) (w0 : World) (hb : Below B w0 w) (hBg : B ≤ g)
    (h : ∀ w', Hid (w'.heap[g]? = some (.cells (L.flatMap encE).toArray 50 (0, 0)) ∧ Below B w0 w') → wpList Tryz.prog ops Q rest (a.put o.dst (goInt m)) w') : wpList Tryz.prog ops Q (o :: rest) a w := by
  refine wpList_plain hgd fun K hK => ?_
  have hrun := run_copyE w o.type g m dCap ao sCap L hL cur hg hcs hr
  unfold Oper.wp
  simp [execOp, ho, resolve, invoke, builtin, hd, hs, hrun, Result.andThen]
  exact hK _ _ (h _ (hide ⟨setRow_heap w g _ _ 50 _ hg, below_setRow hb hBg _⟩))
/-- A list's edges in order, each once. -/
def riseE (L : List EdT) : List EdT := Lib.compact (sortE L)
theorem row_ofRd {w : World} {B g cap : Nat} {f : Nat → Value} {K : List EdT} (hM : Mrw w g 50 (cap * 3) f (cap * 3)) (hr : RdE w (some ⟨g, 0, none⟩) K) (hk : K.length ≤ cap) (hc : cap ≤ maxLen) (hB : B ≤ g) : w.ownsRow B 50 3 (.slice (some ⟨g, 0, none⟩) K.length cap) K.length (K.flatMap encE) := by
  obtain ⟨cur, hg, hz, _⟩ := hM
  refine ⟨encE_flat K, .inr ⟨g, cap, cur, rfl, hB, hg, hk, hc, hz, ?_⟩⟩
  have hfl := encE_flat K
  have hle : K.length * 3 ≤ cap * 3 := Nat.mul_le_mul_right _ hk
  apply List.ext_getElem?
  intro j
  by_cases hj : j < K.length * 3
  · rw [List.getElem?_take_of_lt hj, List.getElem?_eq_getElem (by omega : j < (K.flatMap encE).length)]
    have c := edges_at hr j _ (List.getElem?_eq_getElem (by omega : j < (K.flatMap encE).length))
    rw [Nat.zero_add] at c
    have hjc : j < cur.size := by omega
    have e := cell_of hg (Array.getElem?_eq_getElem hjc)
    rw [e] at c
    rw [Array.getElem?_toList, Array.getElem?_eq_getElem hjc, Option.some.inj c]
  · rw [List.getElem?_take_eq_none (by omega), List.getElem?_eq_none (by omega)]
theorem compactE_own (w : World) (B g cap n : Nat) (L : List EdT) (hn : n = L.length) (hv : w.ownsRow B 50 3 (.slice (some ⟨g, 0, none⟩) n cap) L.length (L.flatMap encE)) (hl : n ≤ 4194304) :
    Calls Tryz.prog 98 #[.slice (some ⟨g, 0, none⟩) n cap] w fun e w' => e = .returned (.slice (some ⟨g, 0, none⟩) (Lib.compact L).length cap) ∧ w'.ownsRow B 50 3 (.slice (some ⟨g, 0, none⟩) (Lib.compact L).length cap) (Lib.compact L).length ((Lib.compact L).flatMap encE) ∧ Only w w' (fun k => k = g) := by
  subst hn
  have hmax : cap ≤ maxLen ∧ B ≤ g := by
    rcases hv.2 with ⟨hv, _⟩ | ⟨g', cap', cur, hv, hb, hg, h1, h2, h3, h4⟩
    · cases hv
    · cases hv; exact ⟨h2, hb⟩
  rcases row_block hv rfl with ⟨hq, _⟩ | ⟨g', cap', f, hq, hc, _, hM, hF⟩
  · cases hq
  · cases hq
    refine (compactA w g cap L.length L.toArray (hide (by simp)) f (hide hM) (hide hF) hc hl).mono ?_
    rintro e w' ⟨rfl, hr, ho, f', hM'⟩
    have e0 : Lib.compactUpTo L.toArray L.length = Lib.compact L := by simp [Lib.compact]
    rw [e0] at hr ⊢
    exact ⟨rfl, row_ofRd hM' hr (Nat.le_trans (compact_len L) hc) hmax.1 hmax.2, ho⟩
set_option maxRecDepth 100000 in
set_option maxHeartbeats 1000000 in
theorem orderedE_any (w : World) (ao : Option Addr) (c : Nat) (L : List EdT) (hA : Hid (RdE w ao L)) (hl : L.length ≤ 4194304) :
    Calls Tryz.prog 91 #[.slice ao L.length c, .func (.func 92) #[] #[]] w fun e w' => ∃ g' c', e = .returned (.slice (some ⟨g', 0, none⟩) (riseE L).length c') ∧ w'.ownsRow w.heap.size 50 3 (.slice (some ⟨g', 0, none⟩) (riseE L).length c') (riseE L).length ((riseE L).flatMap encE) ∧ Below w.heap.size w w' := by
  obtain ⟨i5, hi5, hz50, hz51, hz52⟩ := info_parts info59
  obtain ⟨m, hm⟩ : ∃ m, m = L.length := ⟨_, rfl⟩
  have HL := hide hm
  rw [← hm]
  rw [← hm] at hl
  clear hm
  go_enter Tryz.func91, Tryz.ntmps91
  go_wp2_with (at_make; refine wpList_make_full _ rfl _ _ 23 rfl w.heap.size 50 i5 (.agg #[.int .i64 0, .int .i64 0, .int .i64 0]) 3 Tryz.underlying23 hi5 hz50 hz51 _ _ _ _ m rfl rfl (by go_num) (by go_num) (by rw [hz52]; omega) (by unfold maxLen; omega) (Nat.le_refl _) ?_)
  intro w1 ho hg
  have D1 : Below w.heap.size w w1 := (Below.refl _ _).grown hg (Nat.le_refl _) (by intro k hk; cases hk)
  have hxy : ∃ cur, w1.heap[w.heap.size]? = some (.cells cur 50 (0, 0)) ∧ cur.size = m * 3 := by
    rcases ho.2 with ⟨hv, _⟩ | ⟨g', cap', cur, hv, hb, hg, h1, h2, h3, h4⟩
    · cases hv
    · cases hv
      exact ⟨cur, hg, h3⟩
  obtain ⟨cur, hcur, hcl⟩ := hxy
  have HC := hide (And.intro hcur (And.intro hcl D1))
  clear ho hg D1 hcur hcl
  go_wp2_with (refine wpList_copyE rfl (.tmp 9) (.tmp 10) rfl w.heap.size m m ao c L rfl rfl HL.out cur HC.out.1 HC.out.2.1 (hA.out.on HC.out.2.2) w.heap.size w HC.out.2.2 (Nat.le_refl _) ?_)
  intro w2 HG2
  have hr2 : w2.ownsRow w.heap.size 50 3 (.slice (some ⟨w.heap.size, 0, none⟩) m m) L.length (L.flatMap encE) := by
    have hfl := encE_flat L
    rw [← HL.out] at hfl ⊢
    exact ⟨hfl, .inr ⟨_, m, _, rfl, Nat.le_refl _, HG2.out.1, Nat.le_refl _, by unfold maxLen; omega, by simpa using hfl, List.take_of_length_le (by simpa using Nat.le_of_eq hfl)⟩⟩
  have HR := hide (And.intro hr2 HG2.out.2)
  clear hr2 HG2 HC
  have hl2 : L.length ≤ 4194304 := by rw [← HL.out]; exact hl
  go_wp2_with (go_at_call 97; refine (sortE_any _ w.heap.size _ L (by exact HR.out.1) (by rw [← HL.out]; exact hl)).mono ?_; rintro e w3 ⟨rfl, hr3, hg3⟩)
  have HS := hide (And.intro hr3 (HR.out.2.trans (hg3.toBelow HR.out.2.size (fun k hk => by cases hk; exact Nat.le_refl _))))
  clear hr3 hg3
  refine (compactE_own w3 w.heap.size w.heap.size m m (sortE L) (by rw [sortE_len]; exact HL.out) (by rw [sortE_len]; exact HS.out.1) hl).mono ?_
  rintro e w4 ⟨rfl, hr4, ho4⟩
  have HT := hide (And.intro hr4 (HS.out.2.trans (ho4.toBelow HS.out.2.size (fun k hk => Nat.le_of_eq hk.symm))))
  clear hr4 ho4
  go_wp2_with fail
  go_ret
  exact ⟨_, _, rfl, HT.out⟩
set_option maxRecDepth 100000 in
theorem states_any (w : World) (ao : Option Addr) (c : Nat) (L : List Int) (hA : Hid (RdN w ao L)) (hl : L.length ≤ 4194304) :
    Calls Tryz.prog 84 #[.slice ao L.length c] w fun e w' => ∃ g' c', e = .returned (.slice (some ⟨g', 0, none⟩) (riseL L).length c') ∧ w'.ownsRow w.heap.size 3 1 (.slice (some ⟨g', 0, none⟩) (riseL L).length c') (riseL L).length ((riseL L).map (Value.int .i64)) ∧ Below w.heap.size w w' := by
  have T := orderedI_any w ao c L hA hl
  go_enter Tryz.func84, Tryz.ntmps84
  go_wp2_with (go_at_call 89; refine T.mono ?_; rintro e w1 ⟨g', c', rfl, hr, d⟩)
  go_ret
  exact ⟨_, _, rfl, hr, d⟩
set_option maxRecDepth 100000 in
theorem edges_any (w : World) (ao : Option Addr) (c : Nat) (L : List EdT) (hA : Hid (RdE w ao L)) (hl : L.length ≤ 4194304) :
    Calls Tryz.prog 85 #[.slice ao L.length c] w fun e w' => ∃ g' c', e = .returned (.slice (some ⟨g', 0, none⟩) (riseE L).length c') ∧ w'.ownsRow w.heap.size 50 3 (.slice (some ⟨g', 0, none⟩) (riseE L).length c') (riseE L).length ((riseE L).flatMap encE) ∧ Below w.heap.size w w' := by
  have T := orderedE_any w ao c L hA hl
  go_enter Tryz.func85, Tryz.ntmps85
  go_wp2_with (go_at_call 91; refine T.mono ?_; rintro e w1 ⟨g', c', rfl, hr, d⟩)
  go_ret
  exact ⟨_, _, rfl, hr, d⟩
/-! ### The edges by their near ends -/
theorem rdE_own {W : World} {B b cap : Nat} {X : List EdT} (h : W.ownsRow B 50 3 (.slice (some ⟨b, 0, none⟩) X.length cap) X.length (X.flatMap encE)) : RdE W (some ⟨b, 0, none⟩) X := fun j hj => by
  have := rdE_cells h j hj
  exact ⟨b, 0, rfl, by simpa using this⟩
theorem own_rdE {W : World} {B c : Nat} {b : Option Addr} {X : List EdT} (h : W.ownsRow B 50 3 (.slice b X.length c) X.length (X.flatMap encE)) : RdE W b X := by
  rcases h.2 with ⟨hv, hn⟩ | ⟨g, cap, cur, hv, _⟩
  · intro j hj; omega
  · cases hv
    exact rdE_own h
structure GrI (B : Nat) (w : World) (H N : Nat) (row : Nat → List EdT) (F : Nat → Value) : Prop where
  tab : Mrw w H 23 N F N
  own : ∀ q, q < N → w.ownsRow B 50 3 (F q) (row q).length ((row q).flatMap encE)
  apart : ∀ q q' g, q < N → q' < N → (F q).ownBlock = some g → (F q').ownBlock = some g → q = q'
theorem GrI.below {B : Nat} {w w' : World} {H N : Nat} {row : Nat → List EdT} {F : Nat → Value} (h : GrI B w H N row F) (d : Below w.heap.size w w') : GrI B w' H N row F :=
  ⟨h.tab.below d h.tab.lt, fun q hq => row_only (h.own q hq) (Only.ofBelow (R := fun _ => False) d) (fun _ _ => id), h.apart⟩
theorem GrI.at {B : Nat} {w : World} {H N : Nat} {row : Nat → List EdT} {F : Nat → Value} (h : GrI B w H N row F) : GrAt w H N row := by
  refine ⟨F, h.tab, fun q hq => ?_⟩
  have o := h.own q hq
  rcases o.2 with ⟨hv, h0⟩ | ⟨g, cap, cur, hv, hb, hg, _⟩
  · refine ⟨none, 0, by rw [hv, h0], fun j hj => by omega, fun g o e => by cases e⟩
  · rw [hv] at o
    exact ⟨_, cap, hv, own_rdE o, fun g' o' e => by cases e; exact ⟨_, _, hg⟩⟩
/-! ### The lengths of the shortest ways -/
def stepE (bk : Bool) (Ed : List EdT) (p r : Nat) : Prop := ∃ e ∈ Ed, ends bk e = ((p : Int), (r : Int))
/-- While the lengths are laid out. -/
structure LenA (w wr : World) (b gl N fn i : Nat) (bx : Obj) : Prop where
  row : Mrw wr gl 3 N (fun _ => .int .i64 (-1)) i
  box : Mrw wr b 138 5 (sF (.func (.func fn) #[] #[]) (.slice none 0 0) 0 0 (.slice (some ⟨gl, 0, none⟩) N N)) 5
  arg : wr.heap[w.heap.size]? = some bx
  low : Below w.heap.size w wr
  lg : w.heap.size < gl
  lb : gl < b
theorem LenA.put {w wr : World} {b gl N fn i : Nat} {bx : Obj} (h : LenA w wr b gl N fn i bx) (hi : i < N) : LenA w (wr.setCell ⟨gl, i, none⟩ (.int .i64 (-1))) b gl N fn (i + 1) bx :=
  have o := only_set wr gl i (.int .i64 (-1))
  ⟨h.row.put hi _ rfl, h.box.only o (fun e => by have := h.lb; omega), (o.block _ (Array.getElem?_eq_some_iff.1 h.arg).1 (fun e => by have := h.lg; omega)).trans h.arg, h.low.trans (o.toBelow h.low.size (fun k hk => by have := h.lg; omega)), h.lg, h.lb⟩
/-! ### An automaton in order -/
theorem own_on {w w' : World} {B C g cap n : Nat} {e : TypeId} {sz : Nat} {xs : List Value} (h : w.ownsRow B e sz (.slice (some ⟨g, 0, none⟩) n cap) n xs) (d : Below C w w') (hC : g < C) : w'.ownsRow B e sz (.slice (some ⟨g, 0, none⟩) n cap) n xs := by
  refine ⟨h.1, ?_⟩
  rcases h.2 with ⟨hv, _⟩ | ⟨g', cap', cur, hv, hb, hg, rest⟩
  · cases hv
  · cases hv
    exact .inr ⟨g, cap, cur, rfl, hb, (d.block _ hC).trans hg, rest⟩
theorem own_at {w : World} {B g cap n : Nat} {e : TypeId} {sz : Nat} {xs : List Value} (h : w.ownsRow B e sz (.slice (some ⟨g, 0, none⟩) n cap) n xs) : B ≤ g ∧ g < w.heap.size := by
  rcases h.2 with ⟨hv, _⟩ | ⟨g', cap', cur, hv, hb, hg, rest⟩
  · cases hv
  · cases hv
    exact ⟨hb, (Array.getElem?_eq_some_iff.1 hg).1⟩
theorem own_only {w w' : World} {B q g cap n : Nat} {e : TypeId} {sz : Nat} {xs : List Value} (h : w.ownsRow B e sz (.slice (some ⟨g, 0, none⟩) n cap) n xs) (ho : Only w w' (fun k => k = q)) (hq : g ≠ q) : w'.ownsRow B e sz (.slice (some ⟨g, 0, none⟩) n cap) n xs :=
  row_only h ho fun k hk => by cases hk; exact hq
theorem set5 (w : World) (b : Nat) (v0 v1 v2 v3 v4 u0 u1 u2 u3 u4 : Value) (t : TypeId) (h : w.heap[b]? = some (.cells #[v0, v1, v2, v3, v4] t (0, 0))) :
    (((((w.setCell ⟨b, 0, none⟩ u0).setCell ⟨b, 1, none⟩ u1).setCell ⟨b, 2, none⟩ u2).setCell ⟨b, 3, none⟩ u3).setCell ⟨b, 4, none⟩ u4).heap[b]? = some (.cells #[u0, u1, u2, u3, u4] t (0, 0)) :=
  heap_setCell_same _ _ 4 _ t _ (heap_setCell_same _ _ 3 _ t _ (heap_setCell_same _ _ 2 _ t _ (heap_setCell_same _ _ 1 _ t _ (heap_setCell_same _ _ 0 _ t _ h))))
theorem only5 (w : World) (b : Nat) (u0 u1 u2 u3 u4 : Value) : Only w (((((w.setCell ⟨b, 0, none⟩ u0).setCell ⟨b, 1, none⟩ u1).setCell ⟨b, 2, none⟩ u2).setCell ⟨b, 3, none⟩ u3).setCell ⟨b, 4, none⟩ u4) (fun k => k = b) :=
  ((((only_set w _ 0 _).trans (only_set _ _ 1 _)).trans (only_set _ _ 2 _)).trans (only_set _ _ 3 _)).trans (only_set _ _ 4 _)
/-- An automaton whose lists lie in rows of their own, in order, each entry once. -/
structure Own (B : Nat) (w : World) (g1 k1 g2 k2 g3 k3 : Nat) (S F : List Int) (E : List EdT) : Prop where
  s : w.ownsRow B 3 1 (.slice (some ⟨g1, 0, none⟩) S.length k1) S.length (S.map (Value.int .i64))
  f : w.ownsRow B 3 1 (.slice (some ⟨g2, 0, none⟩) F.length k2) F.length (F.map (Value.int .i64))
  e : w.ownsRow B 50 3 (.slice (some ⟨g3, 0, none⟩) E.length k3) E.length (E.flatMap encE)
  n12 : g1 ≠ g2
  n13 : g1 ≠ g3
  n23 : g2 ≠ g3
set_option maxRecDepth 100000 in
set_option maxHeartbeats 4000000 in
theorem inOrder_any (w : World) (n m : Int) (a1 a2 a3 : Option Addr) (c1 c2 c3 : Nat) (St Fi : List Int) (Ed : List EdT) (hA : Hid (RdA w a1 a2 a3 St Fi Ed)) (h1 : St.length ≤ 4194304) (h2 : Fi.length ≤ 4194304) (h3 : Ed.length ≤ 4194304) :
    Calls Tryz.prog 72 #[.agg #[.int .i64 n, .int .i64 m, .slice a1 St.length c1, .slice a2 Fi.length c2, .slice a3 Ed.length c3]] w fun e w' => ∃ g1 k1 g2 k2 g3 k3, e = .returned (.agg #[.int .i64 n, .int .i64 m, .slice (some ⟨g1, 0, none⟩) (riseL St).length k1, .slice (some ⟨g2, 0, none⟩) (riseL Fi).length k2, .slice (some ⟨g3, 0, none⟩) (riseE Ed).length k3]) ∧ Own w.heap.size w' g1 k1 g2 k2 g3 k3 (riseL St) (riseL Fi) (riseE Ed) ∧ Below w.heap.size w w' := by
  obtain ⟨W0, hW0⟩ : ∃ W0, (w.alloc (.cells #[.int .i64 n, .int .i64 m, .slice a1 St.length c1, .slice a2 Fi.length c2, .slice a3 Ed.length c3] 25)).alloc (.cells #[.int .i64 0, .int .i64 0, .slice none 0 0, .slice none 0 0, .slice none 0 0] 25) = W0 := ⟨_, rfl⟩
  have d0 : Below w.heap.size w W0 := by rw [← hW0]; exact ((Below.refl _ _).alloc (Nat.le_refl _) _).alloc (by simp) _
  have b0 : W0.heap[w.heap.size]? = some (.cells #[.int .i64 n, .int .i64 m, .slice a1 St.length c1, .slice a2 Fi.length c2, .slice a3 Ed.length c3] 25 (0, 0)) := by rw [← hW0]; exact (Below.heap_alloc _ _ _ (by simp)).trans (World.alloc_heap_new _ _)
  have b1 : W0.heap[w.heap.size + 1]? = some (.cells #[.int .i64 0, .int .i64 0, .slice none 0 0, .slice none 0 0, .slice none 0 0] 25 (0, 0)) := by
    rw [← hW0]
    have := World.alloc_heap_new (w.alloc (.cells #[.int .i64 n, .int .i64 m, .slice a1 St.length c1, .slice a2 Fi.length c2, .slice a3 Ed.length c3] 25)) (.cells #[.int .i64 0, .int .i64 0, .slice none 0 0, .slice none 0 0, .slice none 0 0] 25)
    simpa using this
  have z0 : W0.heap.size = w.heap.size + 2 := by rw [← hW0]; simp
  have HA := hide (hA.out.on d0)
  have HD := hide (And.intro d0 (And.intro b0 (And.intro b1 z0)))
  have CK := hide (fun (W2 : World) (d : Below W0.heap.size W0 W2) => show W2.cell? ⟨w.heap.size, 0, none⟩ = some (.int .i64 n) ∧ W2.cell? ⟨w.heap.size, 1, none⟩ = some (.int .i64 m) ∧ W2.cell? ⟨w.heap.size, 2, none⟩ = some (.slice a1 St.length c1) ∧ W2.cell? ⟨w.heap.size, 3, none⟩ = some (.slice a2 Fi.length c2) ∧ W2.cell? ⟨w.heap.size, 4, none⟩ = some (.slice a3 Ed.length c3) from by
    have e := blk_on HD.out.2.1 d
    exact ⟨cell_of e rfl, cell_of e rfl, cell_of e rfl, cell_of e rfl, cell_of e rfl⟩)
  have FK := hide (fun (W2 : World) (d : Below W0.heap.size W0 W2) => show W2.heap[w.heap.size + 1]? = some (.cells #[.int .i64 0, .int .i64 0, .slice none 0 0, .slice none 0 0, .slice none 0 0] 25 (0, 0)) from blk_on HD.out.2.2.1 d)
  have T1 := hide (fun (W2 : World) (d : Below W0.heap.size W0 W2) => states_any W2 a1 c1 St (hide (HA.out.s.on d)) h1)
  have T2 := hide (fun (W2 : World) (d : Below W0.heap.size W0 W2) => states_any W2 a2 c2 Fi (hide (HA.out.f.on d)) h2)
  have T3 := hide (fun (W2 : World) (d : Below W0.heap.size W0 W2) => edges_any W2 a3 c3 Ed (hide (HA.out.e.on d)) h3)
  generalize riseL St = S1 at T1 ⊢
  generalize riseL Fi = F1 at T2 ⊢
  generalize riseE Ed = E1 at T3 ⊢
  have S0 := CK.out W0 (Below.refl _ _)
  clear d0 b0 b1 z0
  go_enter Tryz.func72, Tryz.ntmps72
  go_upto_region 1 with fail
  go_region_held3 (fun W2 => W2.cell? ⟨w.heap.size, 0, none⟩ = some (.int .i64 n) ∧ W2.cell? ⟨w.heap.size, 1, none⟩ = some (.int .i64 m) ∧ W2.cell? ⟨w.heap.size, 2, none⟩ = some (.slice a1 St.length c1) ∧ W2.cell? ⟨w.heap.size, 3, none⟩ = some (.slice a2 Fi.length c2) ∧ W2.cell? ⟨w.heap.size, 4, none⟩ = some (.slice a3 Ed.length c3))
    (first | go_keep | assumption)
    ((first
      | (go_at_call_of 84 a1; refine (T1.out _ (by exact (Below.refl _ W0).drew)).mono ?_; rintro e wa ⟨g1, k1, rfl, hr1, da⟩; have da2 : Below W0.heap.size W0 wa := ⟨da.os, da.tape, da.output, da.size, da.block⟩; have S2 := CK.out wa da2; have H1 := hide (And.intro hr1 da2); clear hr1 da da2)
      | (go_at_call_of 84 a2; refine (T2.out wa H1.out.2).mono ?_; rintro e wb ⟨g2, k2, rfl, hr2, db⟩; have db2 : Below W0.heap.size W0 wb := H1.out.2.trans (db.mono H1.out.2.size); have S3 := CK.out wb db2; have H2 := hide (And.intro hr2 (And.intro db db2)); clear hr2 db db2)
      | (go_at_call_of 85 a3; refine (T3.out wb H2.out.2.2).mono ?_; rintro e wc ⟨g3, k3, rfl, hr3, dc⟩; have dc2 : Below W0.heap.size W0 wc := H2.out.2.2.trans (dc.mono H2.out.2.2.size); have S4 := CK.out wc dc2; have F3 := FK.out wc dc2; have o0 : wc.cell? ⟨w.heap.size + 1, 0, none⟩ = some (.int .i64 0) := cell_of F3 rfl; have f0 : wc.frozen? ⟨w.heap.size + 1, 0, none⟩ = false := fz_of F3; have o1 : wc.cell? ⟨w.heap.size + 1, 1, none⟩ = some (.int .i64 0) := cell_of F3 rfl; have f1 : wc.frozen? ⟨w.heap.size + 1, 1, none⟩ = false := fz_of F3; have o2 : wc.cell? ⟨w.heap.size + 1, 2, none⟩ = some (.slice none 0 0) := cell_of F3 rfl; have f2 : wc.frozen? ⟨w.heap.size + 1, 2, none⟩ = false := fz_of F3; have o3 : wc.cell? ⟨w.heap.size + 1, 3, none⟩ = some (.slice none 0 0) := cell_of F3 rfl; have f3 : wc.frozen? ⟨w.heap.size + 1, 3, none⟩ = false := fz_of F3; have o4 : wc.cell? ⟨w.heap.size + 1, 4, none⟩ = some (.slice none 0 0) := cell_of F3 rfl; have f4 : wc.frozen? ⟨w.heap.size + 1, 4, none⟩ = false := fz_of F3; have H3 := hide (And.intro hr3 (And.intro dc dc2)); clear hr3 dc dc2)))
  obtain ⟨W6, hW6⟩ : ∃ W6, (((((wc.setCell ⟨w.heap.size + 1, 0, none⟩ (.int .i64 n)).setCell ⟨w.heap.size + 1, 1, none⟩ (.int .i64 m)).setCell ⟨w.heap.size + 1, 2, none⟩ (.slice (some ⟨g1, 0, none⟩) S1.length k1)).setCell ⟨w.heap.size + 1, 3, none⟩ (.slice (some ⟨g2, 0, none⟩) F1.length k2)).setCell ⟨w.heap.size + 1, 4, none⟩ (.slice (some ⟨g3, 0, none⟩) E1.length k3)) = W6 := ⟨_, rfl⟩
  rw [hW6]
  have e6 : W6.heap[w.heap.size + 1]? = some (.cells #[.int .i64 n, .int .i64 m, .slice (some ⟨g1, 0, none⟩) S1.length k1, .slice (some ⟨g2, 0, none⟩) F1.length k2, .slice (some ⟨g3, 0, none⟩) E1.length k3] 25 (0, 0)) := by
    rw [← hW6]
    exact set5 _ _ _ _ _ _ _ _ _ _ _ _ 25 F3
  have O6 : Only wc W6 (fun k => k = w.heap.size + 1) := by
    rw [← hW6]
    exact only5 _ _ _ _ _ _ _
  have HZ := hide (And.intro e6 O6)
  clear o0 o1 o2 o3 o4 f0 f1 f2 f3 f4 F3 S2 S3 S4 hW6 e6 O6 T1 T2 T3
  go_wp2_with fail
  refine bodyPost_ret (results_cell_row (p := 2) (ty := 25) rfl _ _ (w.heap.size + 1) 25 _ (0, 0) _ rfl HZ.out.1 Tryz.underlying25 rfl (by kernel_rfl)) rfl ?_
  have O6 := HZ.out.2
  have z0 := HD.out.2.2.2
  have q1 := own_at H1.out.1
  have q2 := own_at H2.out.1
  have q3 := own_at H3.out.1
  have y1 := H1.out.2.size
  have y2 := H2.out.2.1.size
  have y3 := H3.out.2.1.size
  have zz : W0.drew.heap.size = W0.heap.size := rfl
  refine ⟨g1, k1, g2, k2, g3, k3, rfl, ⟨?_, ?_, ?_, by omega, by omega, by omega⟩, ?_⟩
  · exact own_only (own_on (own_on (ownsRow_base H1.out.1 (by omega)) H2.out.2.1 q1.2) H3.out.2.1 (by omega)) O6 (by omega)
  · exact own_only (own_on (ownsRow_base H2.out.1 (by omega)) H3.out.2.1 q2.2) O6 (by omega)
  · exact own_only (ownsRow_base H3.out.1 (by omega)) O6 (by omega)
  · exact (HD.out.1.trans (H3.out.2.2.mono (by omega))).trans (O6.toBelow (by omega) (fun k hk => by omega))
end Go.Proofs.YtchoopnjckcohaaGreat
