import Derived.Test.YtmagchclmmphaabGreatDoorCkP
namespace Go.Proofs.YtmagchclmmphaabGreatDoor
open Go.RowKit Go.Maps

/-- The rows of the table of bytes. -/
def loOf : Nat → Nat
  | 0 => 97 | 1 => 65 | 2 => 48 | 3 => 95 | _ => 39
def hiOf : Nat → Nat
  | 0 => 122 | 1 => 90 | 2 => 57 | 3 => 95 | _ => 39
def inRow (j c : Nat) : Bool := decide (loOf j ≤ c) && decide (c ≤ hiOf j)
def nameC (c : Nat) : Bool := inRow 0 c || inRow 1 c || inRow 2 c || inRow 3 c || inRow 4 c
def tabV : Nat → Nat
  | 0 => 97
  | 1 => 122
  | 2 => 65
  | 3 => 90
  | 4 => 48
  | 5 => 57
  | 6 => 95
  | 7 => 95
  | 8 => 39
  | _ => 39

/-- The table lies in block 0. -/
def BytesAt (w : World) : Prop := ∀ j, j < 10 → w.cell? ⟨0, j, none⟩ = some (.int .u8 (tabV j))
theorem BytesAt.below {w w' : World} {B : Nat} (h : BytesAt w) (hb : Below B w w') (h0 : 1 < B) : BytesAt w' := fun j hj => (hb.cell (p := ⟨0, j, none⟩) (Nat.lt_of_succ_lt h0)).trans (h j hj)

theorem idx0 (W : World) : (Instr.index 132 (.agg #[.int .u8 97, .int .u8 122, .int .u8 65, .int .u8 90, .int .u8 48, .int .u8 57, .int .u8 95, .int .u8 95, .int .u8 39, .int .u8 39]) (.int .i64 0)).run Tryz.prog W = .ok (.agg #[.int .u8 97, .int .u8 122]) W := by kernel_rfl
theorem idx1 (W : World) : (Instr.index 132 (.agg #[.int .u8 97, .int .u8 122, .int .u8 65, .int .u8 90, .int .u8 48, .int .u8 57, .int .u8 95, .int .u8 95, .int .u8 39, .int .u8 39]) (.int .i64 1)).run Tryz.prog W = .ok (.agg #[.int .u8 65, .int .u8 90]) W := by kernel_rfl
theorem idx2 (W : World) : (Instr.index 132 (.agg #[.int .u8 97, .int .u8 122, .int .u8 65, .int .u8 90, .int .u8 48, .int .u8 57, .int .u8 95, .int .u8 95, .int .u8 39, .int .u8 39]) (.int .i64 2)).run Tryz.prog W = .ok (.agg #[.int .u8 48, .int .u8 57]) W := by kernel_rfl
theorem idx3 (W : World) : (Instr.index 132 (.agg #[.int .u8 97, .int .u8 122, .int .u8 65, .int .u8 90, .int .u8 48, .int .u8 57, .int .u8 95, .int .u8 95, .int .u8 39, .int .u8 39]) (.int .i64 3)).run Tryz.prog W = .ok (.agg #[.int .u8 95, .int .u8 95]) W := by kernel_rfl
theorem idx4 (W : World) : (Instr.index 132 (.agg #[.int .u8 97, .int .u8 122, .int .u8 65, .int .u8 90, .int .u8 48, .int .u8 57, .int .u8 95, .int .u8 95, .int .u8 39, .int .u8 39]) (.int .i64 4)).run Tryz.prog W = .ok (.agg #[.int .u8 39, .int .u8 39]) W := by kernel_rfl


set_option maxRecDepth 100000 in
set_option maxHeartbeats 1000000 in
theorem mayHold_any (c : Nat) (w : World) (hT : BytesAt w) :
    Calls Tryz.prog 56 #[.int .u8 c] w fun e w' => e = .returned (.bool (nameC c)) ∧ Below w.heap.size w w' := by
  have t0 : w.cell? ⟨0, 0, none⟩ = some (.int .u8 97) := hT 0 (by decide)
  have t1 : w.cell? ⟨0, 1, none⟩ = some (.int .u8 122) := hT 1 (by decide)
  have t2 : w.cell? ⟨0, 2, none⟩ = some (.int .u8 65) := hT 2 (by decide)
  have t3 : w.cell? ⟨0, 3, none⟩ = some (.int .u8 90) := hT 3 (by decide)
  have t4 : w.cell? ⟨0, 4, none⟩ = some (.int .u8 48) := hT 4 (by decide)
  have t5 : w.cell? ⟨0, 5, none⟩ = some (.int .u8 57) := hT 5 (by decide)
  have t6 : w.cell? ⟨0, 6, none⟩ = some (.int .u8 95) := hT 6 (by decide)
  have t7 : w.cell? ⟨0, 7, none⟩ = some (.int .u8 95) := hT 7 (by decide)
  have t8 : w.cell? ⟨0, 8, none⟩ = some (.int .u8 39) := hT 8 (by decide)
  have t9 : w.cell? ⟨0, 9, none⟩ = some (.int .u8 39) := hT 9 (by decide)
  clear hT
  go_enter Tryz.func56, Tryz.ntmps56
  go_wp2
  go_loopw [6] (fun i wr => (i = .int .i64 0 ∨ (i = .int .i64 1 ∧ inRow 0 c = false) ∨ (i = .int .i64 2 ∧ inRow 0 c = false ∧ inRow 1 c = false) ∨ (i = .int .i64 3 ∧ inRow 0 c = false ∧ inRow 1 c = false ∧ inRow 2 c = false) ∨ (i = .int .i64 4 ∧ inRow 0 c = false ∧ inRow 1 c = false ∧ inRow 2 c = false ∧ inRow 3 c = false) ∨ (i = .int .i64 5 ∧ inRow 0 c = false ∧ inRow 1 c = false ∧ inRow 2 c = false ∧ inRow 3 c = false ∧ inRow 4 c = false)) ∧ Below w.heap.size w wr) (fun i _ => 5 - (intOf i).toNat)
  case atStart => exact ⟨.inl rfl, Below.refl _ _⟩
  case round =>
    obtain ⟨hrel, hb⟩ := hrel
    clear t0 t1 t2 t3 t4 t5 t6 t7 t8 t9
    rcases hrel with rfl | ⟨rfl, h0⟩ | ⟨rfl, h0, h1⟩ | ⟨rfl, h0, h1, h2⟩ | ⟨rfl, h0, h1, h2, h3⟩ | ⟨rfl, h0, h1, h2, h3, h4⟩
    · have hix := idx0
      by_cases hl : 97 ≤ c
      · by_cases hh : c ≤ 122
        · have e : nameC c = true := by simp [nameC, inRow, loOf, hiOf, hl, hh]
          have il : (97 : Int) ≤ (c : Int) := by omega
          have ih : (c : Int) ≤ 122 := by omega
          clear hl hh
          go_wp2
          go_ret
          exact ⟨by rw [e]; rfl, hb.alloc hb.size _⟩
        · have hk : inRow 0 c = false := by simp [inRow, loOf, hiOf, hl, hh]
          have il : (97 : Int) ≤ (c : Int) := by omega
          have ih : ¬ (c : Int) ≤ 122 := by omega
          clear hl hh
          go_wp2
          go_roundw
          case rel => exact ⟨.inr (.inl ⟨rfl, hk⟩), hb.alloc hb.size _⟩
          case measure => simp [intOf]
      · have hk : inRow 0 c = false := by simp [inRow, loOf, hiOf, hl]
        have il : ¬ (97 : Int) ≤ (c : Int) := by omega
        clear hl
        go_wp2
        go_roundw
        case rel => exact ⟨.inr (.inl ⟨rfl, hk⟩), hb.alloc hb.size _⟩
        case measure => simp [intOf]
    · have hix := idx1
      by_cases hl : 65 ≤ c
      · by_cases hh : c ≤ 90
        · have e : nameC c = true := by simp [nameC, inRow, loOf, hiOf, hl, hh]
          have il : (65 : Int) ≤ (c : Int) := by omega
          have ih : (c : Int) ≤ 90 := by omega
          clear hl hh
          go_wp2
          go_ret
          exact ⟨by rw [e]; rfl, hb.alloc hb.size _⟩
        · have hk : inRow 1 c = false := by simp [inRow, loOf, hiOf, hl, hh]
          have il : (65 : Int) ≤ (c : Int) := by omega
          have ih : ¬ (c : Int) ≤ 90 := by omega
          clear hl hh
          go_wp2
          go_roundw
          case rel => exact ⟨.inr (.inr (.inl ⟨rfl, h0, hk⟩)), hb.alloc hb.size _⟩
          case measure => simp [intOf]
      · have hk : inRow 1 c = false := by simp [inRow, loOf, hiOf, hl]
        have il : ¬ (65 : Int) ≤ (c : Int) := by omega
        clear hl
        go_wp2
        go_roundw
        case rel => exact ⟨.inr (.inr (.inl ⟨rfl, h0, hk⟩)), hb.alloc hb.size _⟩
        case measure => simp [intOf]
    · have hix := idx2
      by_cases hl : 48 ≤ c
      · by_cases hh : c ≤ 57
        · have e : nameC c = true := by simp [nameC, inRow, loOf, hiOf, hl, hh]
          have il : (48 : Int) ≤ (c : Int) := by omega
          have ih : (c : Int) ≤ 57 := by omega
          clear hl hh
          go_wp2
          go_ret
          exact ⟨by rw [e]; rfl, hb.alloc hb.size _⟩
        · have hk : inRow 2 c = false := by simp [inRow, loOf, hiOf, hl, hh]
          have il : (48 : Int) ≤ (c : Int) := by omega
          have ih : ¬ (c : Int) ≤ 57 := by omega
          clear hl hh
          go_wp2
          go_roundw
          case rel => exact ⟨.inr (.inr (.inr (.inl ⟨rfl, h0, h1, hk⟩))), hb.alloc hb.size _⟩
          case measure => simp [intOf]
      · have hk : inRow 2 c = false := by simp [inRow, loOf, hiOf, hl]
        have il : ¬ (48 : Int) ≤ (c : Int) := by omega
        clear hl
        go_wp2
        go_roundw
        case rel => exact ⟨.inr (.inr (.inr (.inl ⟨rfl, h0, h1, hk⟩))), hb.alloc hb.size _⟩
        case measure => simp [intOf]
    · have hix := idx3
      by_cases hl : 95 ≤ c
      · by_cases hh : c ≤ 95
        · have e : nameC c = true := by simp [nameC, inRow, loOf, hiOf, hl, hh]
          have il : (95 : Int) ≤ (c : Int) := by omega
          have ih : (c : Int) ≤ 95 := by omega
          clear hl hh
          go_wp2
          go_ret
          exact ⟨by rw [e]; rfl, hb.alloc hb.size _⟩
        · have hk : inRow 3 c = false := by simp [inRow, loOf, hiOf, hl, hh]
          have il : (95 : Int) ≤ (c : Int) := by omega
          have ih : ¬ (c : Int) ≤ 95 := by omega
          clear hl hh
          go_wp2
          go_roundw
          case rel => exact ⟨.inr (.inr (.inr (.inr (.inl ⟨rfl, h0, h1, h2, hk⟩)))), hb.alloc hb.size _⟩
          case measure => simp [intOf]
      · have hk : inRow 3 c = false := by simp [inRow, loOf, hiOf, hl]
        have il : ¬ (95 : Int) ≤ (c : Int) := by omega
        clear hl
        go_wp2
        go_roundw
        case rel => exact ⟨.inr (.inr (.inr (.inr (.inl ⟨rfl, h0, h1, h2, hk⟩)))), hb.alloc hb.size _⟩
        case measure => simp [intOf]
    · have hix := idx4
      by_cases hl : 39 ≤ c
      · by_cases hh : c ≤ 39
        · have e : nameC c = true := by simp [nameC, inRow, loOf, hiOf, hl, hh]
          have il : (39 : Int) ≤ (c : Int) := by omega
          have ih : (c : Int) ≤ 39 := by omega
          clear hl hh
          go_wp2
          go_ret
          exact ⟨by rw [e]; rfl, hb.alloc hb.size _⟩
        · have hk : inRow 4 c = false := by simp [inRow, loOf, hiOf, hl, hh]
          have il : (39 : Int) ≤ (c : Int) := by omega
          have ih : ¬ (c : Int) ≤ 39 := by omega
          clear hl hh
          go_wp2
          go_roundw
          case rel => exact ⟨.inr (.inr (.inr (.inr (.inr ⟨rfl, h0, h1, h2, h3, hk⟩)))), hb.alloc hb.size _⟩
          case measure => simp [intOf]
      · have hk : inRow 4 c = false := by simp [inRow, loOf, hiOf, hl]
        have il : ¬ (39 : Int) ≤ (c : Int) := by omega
        clear hl
        go_wp2
        go_roundw
        case rel => exact ⟨.inr (.inr (.inr (.inr (.inr ⟨rfl, h0, h1, h2, h3, hk⟩)))), hb.alloc hb.size _⟩
        case measure => simp [intOf]
    · have e : nameC c = false := by simp [nameC, h0, h1, h2, h3, h4]
      go_wp2
      go_ret
      exact ⟨by rw [e]; rfl, hb⟩

end Go.Proofs.YtmagchclmmphaabGreatDoor
