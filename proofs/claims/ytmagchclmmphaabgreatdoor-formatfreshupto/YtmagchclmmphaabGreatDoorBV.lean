import Derived.Test.YtmagchclmmphaabGreatDoorSP
import Derived.RangeFuncNested
import Derived.RangeFuncBound
import Derived.RangeFuncCalls
import Derived.RangeFuncLeaves
import Derived.RangeFuncBox
import Derived.Shelf.Abstract
import Derived.Shelf.RegionOpen
import Derived.WalkKit
import Derived.OwnWalkIn
import Derived.TacticsInMore
import Derived.LoopNIn
import Derived.LoopIn
namespace Go.Proofs.YtmagchclmmphaabGreatDoor
open Go.RowKit Go.Maps

/-- The rows of the table of bytes. -/
def loOf : Nat → Nat
  | 0 => 97 | 1 => 65 | 2 => 48 | 3 => 95 | _ => 39
def hiOf : Nat → Nat
  | 0 => 122 | 1 => 90 | 2 => 57 | 3 => 95 | _ => 39
def inRow (j c : Nat) : Bool := decide (loOf j ≤ c) && decide (c ≤ hiOf j)
def nameC (c : Nat) : Bool := inRow 0 c || inRow 1 c || inRow 2 c || inRow 3 c || inRow 4 c
def tabV : Nat → Nat
  | 0 => 97
  | 1 => 122
  | 2 => 65
  | 3 => 90
  | 4 => 48
  | 5 => 57
  | 6 => 95
  | 7 => 95
  | 8 => 39
  | _ => 39

/-- The table lies in block 0. -/
def BytesAt (w : World) : Prop := ∀ j, j < 10 → w.cell? ⟨0, j, none⟩ = some (.int .u8 (tabV j))
theorem BytesAt.below {w w' : World} {B : Nat} (h : BytesAt w) (hb : Below B w w') (h0 : 1 < B) : BytesAt w' := fun j hj => (hb.cell (p := ⟨0, j, none⟩) (Nat.lt_of_succ_lt h0)).trans (h j hj)

theorem idx0 (W : World) : (Instr.index 132 (.agg #[.int .u8 97, .int .u8 122, .int .u8 65, .int .u8 90, .int .u8 48, .int .u8 57, .int .u8 95, .int .u8 95, .int .u8 39, .int .u8 39]) (.int .i64 0)).run Tryz.prog W = .ok (.agg #[.int .u8 97, .int .u8 122]) W := by kernel_rfl
theorem idx1 (W : World) : (Instr.index 132 (.agg #[.int .u8 97, .int .u8 122, .int .u8 65, .int .u8 90, .int .u8 48, .int .u8 57, .int .u8 95, .int .u8 95, .int .u8 39, .int .u8 39]) (.int .i64 1)).run Tryz.prog W = .ok (.agg #[.int .u8 65, .int .u8 90]) W := by kernel_rfl
theorem idx2 (W : World) : (Instr.index 132 (.agg #[.int .u8 97, .int .u8 122, .int .u8 65, .int .u8 90, .int .u8 48, .int .u8 57, .int .u8 95, .int .u8 95, .int .u8 39, .int .u8 39]) (.int .i64 2)).run Tryz.prog W = .ok (.agg #[.int .u8 48, .int .u8 57]) W := by kernel_rfl
theorem idx3 (W : World) : (Instr.index 132 (.agg #[.int .u8 97, .int .u8 122, .int .u8 65, .int .u8 90, .int .u8 48, .int .u8 57, .int .u8 95, .int .u8 95, .int .u8 39, .int .u8 39]) (.int .i64 3)).run Tryz.prog W = .ok (.agg #[.int .u8 95, .int .u8 95]) W := by kernel_rfl
theorem idx4 (W : World) : (Instr.index 132 (.agg #[.int .u8 97, .int .u8 122, .int .u8 65, .int .u8 90, .int .u8 48, .int .u8 57, .int .u8 95, .int .u8 95, .int .u8 39, .int .u8 39]) (.int .i64 4)).run Tryz.prog W = .ok (.agg #[.int .u8 39, .int .u8 39]) W := by kernel_rfl


set_option maxRecDepth 100000 in
set_option maxHeartbeats 1000000 in
theorem mayHold_any (c : Nat) (w : World) (hT : BytesAt w) :
    Calls Tryz.prog 56 #[.int .u8 c] w fun e w' => e = .returned (.bool (nameC c)) ∧ Below w.heap.size w w' := by
  have t0 : w.cell? ⟨0, 0, none⟩ = some (.int .u8 97) := hT 0 (by decide)
  have t1 : w.cell? ⟨0, 1, none⟩ = some (.int .u8 122) := hT 1 (by decide)
  have t2 : w.cell? ⟨0, 2, none⟩ = some (.int .u8 65) := hT 2 (by decide)
  have t3 : w.cell? ⟨0, 3, none⟩ = some (.int .u8 90) := hT 3 (by decide)
  have t4 : w.cell? ⟨0, 4, none⟩ = some (.int .u8 48) := hT 4 (by decide)
  have t5 : w.cell? ⟨0, 5, none⟩ = some (.int .u8 57) := hT 5 (by decide)
  have t6 : w.cell? ⟨0, 6, none⟩ = some (.int .u8 95) := hT 6 (by decide)
  have t7 : w.cell? ⟨0, 7, none⟩ = some (.int .u8 95) := hT 7 (by decide)
  have t8 : w.cell? ⟨0, 8, none⟩ = some (.int .u8 39) := hT 8 (by decide)
  have t9 : w.cell? ⟨0, 9, none⟩ = some (.int .u8 39) := hT 9 (by decide)
  clear hT
  go_enter Tryz.func56, Tryz.ntmps56
  go_wp2
  go_loopw [6] (fun i wr => (i = .int .i64 0 ∨ (i = .int .i64 1 ∧ inRow 0 c = false) ∨ (i = .int .i64 2 ∧ inRow 0 c = false ∧ inRow 1 c = false) ∨ (i = .int .i64 3 ∧ inRow 0 c = false ∧ inRow 1 c = false ∧ inRow 2 c = false) ∨ (i = .int .i64 4 ∧ inRow 0 c = false ∧ inRow 1 c = false ∧ inRow 2 c = false ∧ inRow 3 c = false) ∨ (i = .int .i64 5 ∧ inRow 0 c = false ∧ inRow 1 c = false ∧ inRow 2 c = false ∧ inRow 3 c = false ∧ inRow 4 c = false)) ∧ Below w.heap.size w wr) (fun i _ => 5 - (intOf i).toNat)
  case atStart => exact ⟨.inl rfl, Below.refl _ _⟩
  case round =>
    obtain ⟨hrel, hb⟩ := hrel
    clear t0 t1 t2 t3 t4 t5 t6 t7 t8 t9
    rcases hrel with rfl | ⟨rfl, h0⟩ | ⟨rfl, h0, h1⟩ | ⟨rfl, h0, h1, h2⟩ | ⟨rfl, h0, h1, h2, h3⟩ | ⟨rfl, h0, h1, h2, h3, h4⟩
    · have hix := idx0
      by_cases hl : 97 ≤ c
      · by_cases hh : c ≤ 122
        · have e : nameC c = true := by simp [nameC, inRow, loOf, hiOf, hl, hh]
          have il : (97 : Int) ≤ (c : Int) := by omega
          have ih : (c : Int) ≤ 122 := by omega
          clear hl hh
          go_wp2
          go_ret
          exact ⟨by rw [e]; rfl, hb.alloc hb.size _⟩
        · have hk : inRow 0 c = false := by simp [inRow, loOf, hiOf, hl, hh]
          have il : (97 : Int) ≤ (c : Int) := by omega
          have ih : ¬ (c : Int) ≤ 122 := by omega
          clear hl hh
          go_wp2
          go_roundw
          case rel => exact ⟨.inr (.inl ⟨rfl, hk⟩), hb.alloc hb.size _⟩
          case measure => simp [intOf]
      · have hk : inRow 0 c = false := by simp [inRow, loOf, hiOf, hl]
        have il : ¬ (97 : Int) ≤ (c : Int) := by omega
        clear hl
        go_wp2
        go_roundw
        case rel => exact ⟨.inr (.inl ⟨rfl, hk⟩), hb.alloc hb.size _⟩
        case measure => simp [intOf]
    · have hix := idx1
      by_cases hl : 65 ≤ c
      · by_cases hh : c ≤ 90
        · have e : nameC c = true := by simp [nameC, inRow, loOf, hiOf, hl, hh]
          have il : (65 : Int) ≤ (c : Int) := by omega
          have ih : (c : Int) ≤ 90 := by omega
          clear hl hh
          go_wp2
          go_ret
          exact ⟨by rw [e]; rfl, hb.alloc hb.size _⟩
        · have hk : inRow 1 c = false := by simp [inRow, loOf, hiOf, hl, hh]
          have il : (65 : Int) ≤ (c : Int) := by omega
          have ih : ¬ (c : Int) ≤ 90 := by omega
          clear hl hh
          go_wp2
          go_roundw
          case rel => exact ⟨.inr (.inr (.inl ⟨rfl, h0, hk⟩)), hb.alloc hb.size _⟩
          case measure => simp [intOf]
      · have hk : inRow 1 c = false := by simp [inRow, loOf, hiOf, hl]
        have il : ¬ (65 : Int) ≤ (c : Int) := by omega
        clear hl
        go_wp2
        go_roundw
        case rel => exact ⟨.inr (.inr (.inl ⟨rfl, h0, hk⟩)), hb.alloc hb.size _⟩
        case measure => simp [intOf]
    · have hix := idx2
      by_cases hl : 48 ≤ c
      · by_cases hh : c ≤ 57
        · have e : nameC c = true := by simp [nameC, inRow, loOf, hiOf, hl, hh]
          have il : (48 : Int) ≤ (c : Int) := by omega
          have ih : (c : Int) ≤ 57 := by omega
          clear hl hh
          go_wp2
          go_ret
          exact ⟨by rw [e]; rfl, hb.alloc hb.size _⟩
        · have hk : inRow 2 c = false := by simp [inRow, loOf, hiOf, hl, hh]
          have il : (48 : Int) ≤ (c : Int) := by omega
          have ih : ¬ (c : Int) ≤ 57 := by omega
          clear hl hh
          go_wp2
          go_roundw
          case rel => exact ⟨.inr (.inr (.inr (.inl ⟨rfl, h0, h1, hk⟩))), hb.alloc hb.size _⟩
          case measure => simp [intOf]
      · have hk : inRow 2 c = false := by simp [inRow, loOf, hiOf, hl]
        have il : ¬ (48 : Int) ≤ (c : Int) := by omega
        clear hl
        go_wp2
        go_roundw
        case rel => exact ⟨.inr (.inr (.inr (.inl ⟨rfl, h0, h1, hk⟩))), hb.alloc hb.size _⟩
        case measure => simp [intOf]
    · have hix := idx3
      by_cases hl : 95 ≤ c
      · by_cases hh : c ≤ 95
        · have e : nameC c = true := by simp [nameC, inRow, loOf, hiOf, hl, hh]
          have il : (95 : Int) ≤ (c : Int) := by omega
          have ih : (c : Int) ≤ 95 := by omega
          clear hl hh
          go_wp2
          go_ret
          exact ⟨by rw [e]; rfl, hb.alloc hb.size _⟩
        · have hk : inRow 3 c = false := by simp [inRow, loOf, hiOf, hl, hh]
          have il : (95 : Int) ≤ (c : Int) := by omega
          have ih : ¬ (c : Int) ≤ 95 := by omega
          clear hl hh
          go_wp2
          go_roundw
          case rel => exact ⟨.inr (.inr (.inr (.inr (.inl ⟨rfl, h0, h1, h2, hk⟩)))), hb.alloc hb.size _⟩
          case measure => simp [intOf]
      · have hk : inRow 3 c = false := by simp [inRow, loOf, hiOf, hl]
        have il : ¬ (95 : Int) ≤ (c : Int) := by omega
        clear hl
        go_wp2
        go_roundw
        case rel => exact ⟨.inr (.inr (.inr (.inr (.inl ⟨rfl, h0, h1, h2, hk⟩)))), hb.alloc hb.size _⟩
        case measure => simp [intOf]
    · have hix := idx4
      by_cases hl : 39 ≤ c
      · by_cases hh : c ≤ 39
        · have e : nameC c = true := by simp [nameC, inRow, loOf, hiOf, hl, hh]
          have il : (39 : Int) ≤ (c : Int) := by omega
          have ih : (c : Int) ≤ 39 := by omega
          clear hl hh
          go_wp2
          go_ret
          exact ⟨by rw [e]; rfl, hb.alloc hb.size _⟩
        · have hk : inRow 4 c = false := by simp [inRow, loOf, hiOf, hl, hh]
          have il : (39 : Int) ≤ (c : Int) := by omega
          have ih : ¬ (c : Int) ≤ 39 := by omega
          clear hl hh
          go_wp2
          go_roundw
          case rel => exact ⟨.inr (.inr (.inr (.inr (.inr ⟨rfl, h0, h1, h2, h3, hk⟩)))), hb.alloc hb.size _⟩
          case measure => simp [intOf]
      · have hk : inRow 4 c = false := by simp [inRow, loOf, hiOf, hl]
        have il : ¬ (39 : Int) ≤ (c : Int) := by omega
        clear hl
        go_wp2
        go_roundw
        case rel => exact ⟨.inr (.inr (.inr (.inr (.inr ⟨rfl, h0, h1, h2, h3, hk⟩)))), hb.alloc hb.size _⟩
        case measure => simp [intOf]
    · have e : nameC c = false := by simp [nameC, h0, h1, h2, h3, h4]
      go_wp2
      go_ret
      exact ⟨by rw [e]; rfl, hb⟩

end Go.Proofs.YtmagchclmmphaabGreatDoor
namespace Go.Proofs.YtmagchclmmphaabGreatDoor
open Go.RowKit Go.Maps

theorem str_beq (a b : ByteArray) : (a.toList == b.toList) = decide (a = b) := by
  rw [Bool.eq_iff_iff, beq_iff_eq, decide_eq_true_iff, ByteArray.toList_eq, ByteArray.toList_eq]
  constructor
  · intro h
    cases a; cases b
    simp at h
    rw [h]
  · rintro rfl; rfl

/-- What a name is. -/
def vld (s : ByteArray) : Bool := decide (1 ≤ s.size) && decide (s.size ≤ 16) && s.data.toList.all fun c => nameC c.toNat

theorem idx_at (s : ByteArray) (k : Nat) (W : World) (h : k < s.size) : (Instr.index 9 (.string s) (.int .i64 (k : Int))).run Tryz.prog W = .ok (.int .u8 (s[k].toNat : Int)) W := by
  rw [run_index_string W 9 s .i64 _ Tryz.underlying9, dif_pos (by omega)]
  simp only [Int.toNat_natCast]

/-- The first k bytes are such as a name may hold. -/
def okTo (s : ByteArray) (k : Nat) : Prop := ∀ j, (h : j < s.size) → j < k → nameC s[j].toNat = true

theorem vld_full (s : ByteArray) (h1 : 1 ≤ s.size) (h2 : s.size ≤ 16) (h : okTo s s.size) : vld s = true := by
  unfold vld
  rw [decide_eq_true h1, decide_eq_true h2, Bool.true_and, Bool.true_and, List.all_eq_true]
  intro c hc
  obtain ⟨j, hj, rfl⟩ := List.getElem_of_mem hc
  have hj' : j < s.size := by simpa using hj
  have := h j hj' hj'
  simpa [ByteArray.getElem_eq_getElem_data] using this
theorem vld_not (s : ByteArray) (k : Nat) (hk : k < s.size) (h : nameC s[k].toNat = false) : vld s = false := by
  unfold vld
  have : (s.data.toList.all fun c => nameC c.toNat) = false := by
    rw [List.all_eq_false]
    exact ⟨s[k], by rw [ByteArray.getElem_eq_getElem_data]; simp, by simpa using h⟩
  rw [this, Bool.and_false]
theorem vld_len (s : ByteArray) (h : ¬ (1 ≤ s.size ∧ s.size ≤ 16)) : vld s = false := by
  unfold vld
  by_cases h1 : 1 ≤ s.size
  · rw [decide_eq_false (p := s.size ≤ 16) (by omega)]; simp
  · rw [decide_eq_false h1]; simp

set_option maxRecDepth 100000 in
set_option maxHeartbeats 1000000 in
theorem valid_any (s : ByteArray) (w : World) (hT : BytesAt w) (hw0 : 1 < w.heap.size) :
    Calls Tryz.prog 31 #[.string s] w fun e w' => e = .returned (.bool (vld s)) ∧ Below w.heap.size w w' := by
  by_cases h0 : s.size < 1
  · have e := vld_len s (by omega)
    have i0 : (s.size : Int) < 1 := by omega
    go_enter Tryz.func31, Tryz.ntmps31
    go_wp2
    go_ret
    exact ⟨by first | (rw [e]; rfl) | rfl, Below.refl _ _⟩
  · by_cases h1 : 16 < s.size
    · have e := vld_len s (by omega)
      have i0 : ¬ (s.size : Int) < 1 := by omega
      have i1 : (s.size : Int) > 16 := by omega
      go_enter Tryz.func31, Tryz.ntmps31
      go_wp2
      go_ret
      exact ⟨by first | (rw [e]; rfl) | rfl, Below.refl _ _⟩
    · have i0 : ¬ (s.size : Int) < 1 := by omega
      have i1 : ¬ (s.size : Int) > 16 := by omega
      have HT := hide hT
      clear hT
      go_enter Tryz.func31, Tryz.ntmps31
      go_wp2
      go_loopw [14] (fun i wr => ∃ k : Nat, k ≤ s.size ∧ i = .int .i64 k ∧ Hid (okTo s k) ∧ Below w.heap.size w wr) (fun i _ => s.size - (intOf i).toNat)
      case atStart => exact ⟨0, Nat.zero_le _, rfl, hide (fun j _ hj => absurd hj (Nat.not_lt_zero _)), Below.refl _ _⟩
      case round =>
        obtain ⟨k, hk, rfl, hok, hb⟩ := hrel
        by_cases hlt : k < s.size
        · have hix := fun W => idx_at s k W hlt
          have i2 : (k : Int) < (s.size : Int) := by omega
          by_cases hc : nameC s[k].toNat = true
          · go_wp2_with (go_at_call 56; refine (mayHold_any _ _ (HT.out.below hb hw0)).mono ?_; rintro e w' ⟨rfl, hb'⟩; rw [hc])
            go_roundw
            case rel => exact ⟨k + 1, by omega, by go_num, hide (fun j hj hjk => if e : j = k then by subst e; exact hc else hok.out j hj (by omega)), hb.trans (hb'.mono hb.size)⟩
            case measure => simp [intOf]; omega
          · have hc' : nameC s[k].toNat = false := by simpa using hc
            have e := vld_not s k hlt hc'
            clear hc
            go_wp2_with (go_at_call 56; refine (mayHold_any _ _ (HT.out.below hb hw0)).mono ?_; rintro e w' ⟨rfl, hb'⟩; rw [hc'])
            go_ret
            exact ⟨by first | (rw [e]; rfl) | rfl, hb.trans (hb'.mono hb.size)⟩
        · have i2 : ¬ (k : Int) < (s.size : Int) := by omega
          have hke : k = s.size := by omega
          have e := vld_full s (by omega) (by omega) (by rw [← hke]; exact hok.out)
          clear hke
          go_wp2
          go_ret
          exact ⟨by first | (rw [e]; rfl) | rfl, hb⟩

/-- A list of texts as it lies at an address. -/
def ReadsS (w : World) (ao : Option Addr) (l : List ByteArray) : Prop := ∀ k (hk : k < l.length), ∃ g o, ao = some ⟨g, o, none⟩ ∧ w.cell? ⟨g, o + k, none⟩ = some (.string l[k])
/-- A value that is a slice of these texts. -/
def StrS (w : World) (v : Value) (l : List ByteArray) : Prop := ∃ ao cap, v = .slice ao l.length cap ∧ ReadsS w ao l
theorem ReadsS.below {w w' : World} {ao : Option Addr} {l : List ByteArray} (h : ReadsS w ao l) (hb : Below w.heap.size w w') : ReadsS w' ao l := fun k hk => by
  obtain ⟨g, o, rfl, hc⟩ := h k hk
  exact ⟨g, o, rfl, (hb.cell (p := ⟨g, o + k, none⟩) (World.block_lt_of_cell? w _ hc)).trans hc⟩
theorem StrS.below {w w' : World} {v : Value} {l : List ByteArray} (h : StrS w v l) (hb : Below w.heap.size w w') : StrS w' v l := by
  obtain ⟨ao, cap, rfl, hr⟩ := h
  exact ⟨ao, cap, rfl, hr.below hb⟩

/-- A list that must not be too long. -/
def Sml (l : List ByteArray) : Prop := l.length ≤ 4194304 ∧ ∀ s ∈ l, s.size ≤ 1048576

end Go.Proofs.YtmagchclmmphaabGreatDoor
namespace Go.Proofs.YtmagchclmmphaabGreatDoor
open Go.RowKit

/-- A function that goes through the values of a list, one by one and in their order, as long as each round goes on. -/
def SeqP (n gf : Nat) (lb : Array Value) (E : List Value) (Kp : World → World → Prop) (w : World) : Prop :=
  ∀ (l : Nat) (J : Nat → World → Prop) (W : World), Below w.heap.size w W → (∀ k A A', J k A → Below A.heap.size A A' → J k A') →
    (∀ (k : Nat) (W1 : World) (hk : k < E.length), J k W1 → YieldAt Fence.wide (n - 1) Tryz.prog l #[E[k]] W1 fun e W' => e = .returned (.bool true) ∧ J (k + 1) W' ∧ Kp W1 W') →
    J 0 W → CallsIn Fence.wide n Tryz.prog gf (#[.func (.yield l) #[] #[]] ++ lb) W fun e W' => (∃ v, e = .returned v) ∧ J E.length W'

/-- How a round's body ends: it goes on; the loop's own two blocks are as they were. -/
def goesOn (L : Nat) (Kp : World → World → Prop) (I : Nat → World → Prop) (k : Nat) (W : World) : Exit → Act → World → Prop
  | .normal, _, W' => (W'.heap[L]? = W.heap[L]? ∧ W'.heap[L + 1]? = W.heap[L + 1]?) ∧ Kp W W' ∧ I k W'
  | _, _, _ => False

/-- The loop over such a function: its rounds come in the list's order. -/
theorem range_in_order {n : Nat} {g : Operand} {t : Tmp} {assign body : Code} {Q : Exit → Act → World → Prop} {a : Act} {w w0 : World} {gf : Nat} {lb : Array Value} {E : List Value} {Kp : World → World → Prop}
    (h1 : 1 ≤ n) (hg : a.eval g = .func (.func gf) #[] lb) (eg : ∀ args w, (callFunc gf args).run Tryz.prog w = .ok (.enter gf args) w) (hseq : SeqP (n - 1) gf lb E Kp w0)
    (hKt : ∀ {A B C : World}, Kp A B → Kp B C → Kp A C) (hKb : ∀ (W : World) (r r' : Loop), W.heap[w.heap.size + 1]? = some (.loop r) → Kp W (W.putObj (w.heap.size + 1) (.loop r'))) (hb0 : Below w0.heap.size w0 w)
    (I : Nat → World → Prop) (hI : ∀ k A A', I k A → Below A.heap.size A A' → I k A') (hIp : ∀ k (A : World) (r r' : Loop), I k A → A.heap[w.heap.size + 1]? = some (.loop r) → I k (A.putObj (w.heap.size + 1) (.loop r'))) (h0 : I 0 w) (a₁ : Value → Act)
    (hassign : ∀ (l : Nat) (x : Value) (W : World) (K : Act → World → Prop), K (a₁ x) W → assign.wpIn (Fence.wide.inRound l) (n - 1 - 1) Tryz.prog (Exit.then K (fun _ _ _ => False)) { tmps := (#[t].zip #[x]).foldl (fun t (p, v) => t.setIfInBounds p v) a.tmps, defers := [] } W)
    (hbody : ∀ (l k : Nat) (W : World) (hk : k < E.length), I k W → W.heap[w.heap.size]? = some (.deferred (some [])) → (∃ r, W.heap[w.heap.size + 1]? = some (.loop r)) → body.wpIn (Fence.wide.inRound l) (n - 1 - 1) Tryz.prog (goesOn w.heap.size Kp I (k + 1) W) (a₁ E[k]) W)
    (hdone : ∀ (D : Nat) (W : World), w.heap.size ≤ D → I E.length W → W.heap[D]? = some (.deferred (some [])) → Q .normal { a with defers := { target := .collected D, args := #[] } :: a.defers } W) :
    (Code.rangeFunc g #[t] assign body).wpIn Fence.wide n Tryz.prog Q a w := by
  refine wpIn_rangeFunc fun fn hfn => ?_
  obtain ⟨rec, hrec⟩ : ∃ rec : LoopState → Option Code → Loop, rec = fun st pe => { state := st, pending := pe, fn, tmps := a.tmps, params := #[t], assign, body, defers := w.heap.size } := ⟨_, rfl⟩
  obtain ⟨Wl, hWl⟩ : ∃ Wl, (w.alloc (.deferred (some []))).alloc (.loop (rec .ready none)) = Wl := ⟨_, rfl⟩
  have hLl : Wl.heap[w.heap.size + 1]? = some (.loop (rec .ready none)) := by
    rw [← hWl]; have := World.alloc_heap_new (w.alloc (.deferred (some []))) (.loop (rec .ready none)); rwa [World.size_alloc] at this
  have hDl : Wl.heap[w.heap.size]? = some (.deferred (some [])) := by
    rw [← hWl]; exact (Below.heap_alloc _ _ _ (by simp)).trans (World.alloc_heap_new w _)
  have hIl : I 0 Wl := by rw [← hWl]; exact hI _ _ _ (hI _ _ _ h0 ((Below.refl _ _).alloc (Nat.le_refl _) _)) ((Below.refl _ _).alloc (Nat.le_refl _) _)
  have hzl : Wl.heap.size = w.heap.size + 1 + 1 := by rw [← hWl]; simp
  have hbl : Below w0.heap.size w0 Wl := by
    rw [← hWl]; exact hb0.trans ((((Below.refl _ w).alloc (Nat.le_refl _) _).alloc (by simp) _).mono hb0.size)
  refine ⟨w.heap.size + 1, [{ target := .collected w.heap.size, args := #[] }], Wl, { target := .fn (.func gf) lb, args := #[.func (.yield (w.heap.size + 1)) #[] #[]] }, Wl, gf,
    #[.func (.yield (w.heap.size + 1)) #[] #[]] ++ lb, Wl, by rw [← hWl, hrec]; exact run_enterLoop_outer _ _ _ _ _, by simp only [resolve, hg]; simp [go_sem], fun f' hf' => trivial, by simp [invoke, go_sem, eg], fun _ => h1, ?_⟩
  refine (hseq (w.heap.size + 1) (fun k W => I k W ∧ W.heap[w.heap.size + 1]? = some (.loop (rec .ready none)) ∧ W.heap[w.heap.size]? = some (.deferred (some []))) Wl hbl ?_ ?_ ⟨hIl, hLl, hDl⟩).mono ?_
  · rintro k A A' ⟨hi, hl, hd⟩ hb
    exact ⟨hI _ _ _ hi hb, (hb.block _ (Array.getElem?_eq_some_iff.1 hl).1).trans hl, (hb.block _ (Array.getElem?_eq_some_iff.1 hd).1).trans hd⟩
  · rintro k W hk ⟨hi, hl, hd⟩
    have hlt : w.heap.size + 1 < W.heap.size := (Array.getElem?_eq_some_iff.1 hl).1
    have hy := run_yield (P := Tryz.prog) (args := #[E[k]]) hl (by rw [hrec]; rfl)
    rw [hrec] at hy
    refine ⟨fn, _, assign, body, hy, roundIn_of_wpIn hfn (hassign _ E[k] W _ ⟨_, run_beginRound hl (by rw [hrec]), ?_⟩)⟩
    obtain ⟨busy, hbusy⟩ : ∃ busy : Loop, busy = { rec .ready none with state := .busy } := ⟨_, rfl⟩
    have hl2 : (W.putObj (w.heap.size + 1) (.loop busy)).heap[w.heap.size + 1]? = some (.loop busy) := World.putObj_heap_same hlt
    have hd2 : (W.putObj (w.heap.size + 1) (.loop busy)).heap[w.heap.size]? = some (.deferred (some [])) := (World.putObj_heap_other (by omega)).trans hd
    have hkp : Kp W (W.putObj (w.heap.size + 1) (.loop busy)) := hKb _ _ _ hl
    rw [← hbusy]
    refine wpIn_mono (hbody _ k _ hk (hIp _ _ _ _ hi hl) hd2 ⟨_, hl2⟩) ?_
    rintro e a3 W3 hp
    cases e with
    | normal =>
      obtain ⟨hk3, hkp3, hi3⟩ := hp
      have hl3 := hk3.2.trans hl2
      have hr3 := run_endRound (P := Tryz.prog) none hl3
      rw [hbusy, hrec] at hr3
      refine ⟨_, _, hr3, rfl, ⟨hIp _ _ _ _ hi3 hl3, ?_, (World.putObj_heap_other (by omega)).trans (hk3.1.trans hd2)⟩, hKt (hKt hkp hkp3) (hKb _ _ _ hl3)⟩
      rw [hrec]
      exact World.putObj_heap_same (Array.getElem?_eq_some_iff.1 hl3).1
    | ret => exact hp.elim
    | exit id => exact hp.elim
    | goto t => exact hp.elim
    | panic ch => exact hp.elim
    | outgrown => exact hp.elim
  · rintro e W2 ⟨⟨v, rfl⟩, hi, hl, hd⟩
    exact ⟨none, _, by have := run_endLoop (P := Tryz.prog) hl (by rw [hrec]; simp); rw [hrec] at this; exact this, hdone _ _ (Nat.le_refl _) (hIp _ _ _ _ hi hl) ((World.putObj_heap_other (by omega)).trans hd)⟩
end Go.Proofs.YtmagchclmmphaabGreatDoor
