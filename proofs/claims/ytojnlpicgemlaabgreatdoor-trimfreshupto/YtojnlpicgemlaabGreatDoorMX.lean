import Derived.Test.YtojnlpicgemlaabGreatDoorFI
import Derived.Deep.RegionHeld3
namespace Go.Proofs.YtojnlpicgemlaabGreatDoor
open Go.RowKit

set_option maxRecDepth 100000 in
set_option maxHeartbeats 400000 in
theorem g_drew {w w' : World} {r : Option Nat} (h : w.grownBy w' r) : w.grownBy w'.drew r := ⟨h.os, h.tape, h.output, h.size, h.block⟩
theorem g_drewN {w w' : World} {r : Option Nat} (h : w.grownBy w' r) (q : Nat) : w.grownBy (w'.drewN q) r := ⟨h.os, h.tape, h.output, h.size, h.block⟩
theorem g_refl (w : World) (r : Option Nat) : w.grownBy w r := ⟨rfl, rfl, rfl, Nat.le_refl _, fun _ _ _ => rfl⟩
theorem g_set {w w' : World} {g : Nat} (h : w.grownBy w' (some g)) (k : Nat) (v : Value) : w.grownBy (w'.setCell ⟨g, k, none⟩ v) (some g) :=
  ⟨h.os, h.tape, h.output, by simp only [World.setCell, Array.size_modify]; exact h.size, fun i hi hne => by
    rw [Below.heap_setCell _ _ _ _ (fun e => hne (by rw [e]))]; exact h.block i hi hne⟩
theorem g_sets (g : Nat) : ∀ (vs : List Value) (o : Nat) (w w' : World), w.grownBy w' (some g) → w.grownBy (w'.setCells g o vs) (some g)
  | [], _, _, _, h => h
  | v :: r, o, w, _, h => g_sets g r (o + 1) w _ (g_set h o v)
theorem words_eq (n X Y : Nat) (hX : X < 2 ^ n) (hY : Y < 2 ^ n) (hw : ∀ i, i < nw n → wordAt X i = wordAt Y i) : X = Y := by
  apply Nat.eq_of_testBit_eq
  intro i
  by_cases hi : i / 64 < nw n
  · rw [← testBit_word X i, ← testBit_word Y i, hw _ hi]
  · have hn : n ≤ i := by unfold nw at hi; omega
    rw [Nat.testBit_lt_two_pow (Nat.lt_of_lt_of_le hX (Nat.pow_le_pow_right (by decide) hn)), Nat.testBit_lt_two_pow (Nat.lt_of_lt_of_le hY (Nat.pow_le_pow_right (by decide) hn))]
theorem alike_any (b1 b2 n n2 : Nat) (w : World) (p0 : w.cell? ⟨b1, 0, none⟩ = some (.int .i64 n)) (q0 : w.cell? ⟨b2, 0, none⟩ = some (.int .i64 n2)) :
    Calls Tryz.prog 56 #[.pointer (some ⟨b1, 0, none⟩), .pointer (some ⟨b2, 0, none⟩)] w fun e w' => e = .returned (.bool (decide (n = n2))) ∧ ∃ q, w' = w.drewN q := by
  go_enter Tryz.func56, Tryz.ntmps56
  go_wp2_with fail
  go_quiet (fail)
  go_wp2
  go_ret
  refine ⟨ret_bool ?_, _, rfl⟩
  rw [Bool.eq_iff_iff]
  simp only [beq_iff_eq, decide_eq_true_eq]
  omega
set_option maxRecDepth 100000 in
theorem alike_yes (b1 b2 n : Nat) (w : World) (p0 : w.cell? ⟨b1, 0, none⟩ = some (.int .i64 n)) (q0 : w.cell? ⟨b2, 0, none⟩ = some (.int .i64 n)) :
    Calls Tryz.prog 56 #[.pointer (some ⟨b1, 0, none⟩), .pointer (some ⟨b2, 0, none⟩)] w fun e w' => e = .returned (.bool true) ∧ ∃ q, w' = w.drewN q := by
  have := alike_any b1 b2 n n w p0 q0
  rwa [decide_eq_true rfl] at this
set_option maxRecDepth 100000 in
set_option maxHeartbeats 400000 in
theorem both_any (x y : Nat) (w : World) (hx : x < 18446744073709551616) (hy : y < 18446744073709551616) :
    Calls Tryz.prog 33 #[.int .u64 x, .int .u64 y] w fun e w' => e = .returned (.int .u64 ((x &&& y : Nat) : Int)) ∧ w' = w := by
  have h := bits_and_u64_nat x y hx hy
  go_enter Tryz.func33, Tryz.ntmps33
  go_wp2
  go_ret
  exact ⟨rfl, rfl⟩
/-- An operation on sets that goes bit by bit. -/
structure BitOp (F : Nat → Nat → Nat) : Prop where
  ex : ∃ φ : Bool → Bool → Bool, φ false false = false ∧ ∀ x y i, (F x y).testBit i = φ (x.testBit i) (y.testBit i)
theorem op_and : BitOp (· &&& ·) := ⟨⟨(· && ·), rfl, fun x y i => by simp⟩⟩
theorem lt_of_bits {x n : Nat} (h : ∀ i, n ≤ i → x.testBit i = false) : x < 2 ^ n := Nat.lt_pow_two_of_testBit x h
theorem BitOp.lt {F : Nat → Nat → Nat} (h : BitOp F) {x y n : Nat} (hx : x < 2 ^ n) (hy : y < 2 ^ n) : F x y < 2 ^ n := by
  obtain ⟨φ, h0, hb⟩ := h.ex
  apply lt_of_bits
  intro i hi
  rw [hb, Nat.testBit_lt_two_pow (Nat.lt_of_lt_of_le hx (Nat.pow_le_pow_right (by decide) hi)), Nat.testBit_lt_two_pow (Nat.lt_of_lt_of_le hy (Nat.pow_le_pow_right (by decide) hi)), h0]
theorem BitOp.word {F : Nat → Nat → Nat} (h : BitOp F) (X Y k : Nat) : wordAt (F X Y) k = F (wordAt X k) (wordAt Y k) := by
  obtain ⟨φ, h0, hb⟩ := h.ex
  apply Nat.eq_of_testBit_eq
  intro t
  rw [wordAt_testBit, hb, hb, wordAt_testBit, wordAt_testBit]
  by_cases ht : t < 64 <;> simp [ht, h0]
/-- Z in the words below k, X from there on. -/
def mixTo (Z X k : Nat) : Nat := 2 ^ (64 * k) * (X / 2 ^ (64 * k)) + Z % 2 ^ (64 * k)
theorem mixTo_testBit (Z X k i : Nat) : (mixTo Z X k).testBit i = if i < 64 * k then Z.testBit i else X.testBit i := by
  unfold mixTo
  rw [Nat.testBit_two_pow_mul_add _ (Nat.mod_lt _ (Nat.two_pow_pos _)), Nat.testBit_mod_two_pow, Nat.testBit_div_two_pow]
  by_cases h : i < 64 * k
  · simp [h]
  · rw [if_neg h, if_neg h]; congr 1; omega
theorem mixTo_word (Z X k j : Nat) : wordAt (mixTo Z X k) j = if j < k then wordAt Z j else wordAt X j := by
  apply Nat.eq_of_testBit_eq
  intro t
  by_cases hj : j < k
  · rw [if_pos hj, wordAt_testBit, wordAt_testBit, mixTo_testBit]
    by_cases ht : t < 64
    · rw [if_pos (by omega)]
    · simp [ht]
  · rw [if_neg hj, wordAt_testBit, wordAt_testBit, mixTo_testBit]
    by_cases ht : t < 64
    · rw [if_neg (by omega)]
    · simp [ht]
theorem mixTo_zero (Z X : Nat) : mixTo Z X 0 = X := by simp [mixTo, Nat.mod_one]
theorem mixTo_lt {Z X k n : Nat} (hZ : Z < 2 ^ n) (hX : X < 2 ^ n) : mixTo Z X k < 2 ^ n := by
  apply lt_of_bits
  intro i hi
  rw [mixTo_testBit, Nat.testBit_lt_two_pow (Nat.lt_of_lt_of_le hZ (Nat.pow_le_pow_right (by decide) hi)), Nat.testBit_lt_two_pow (Nat.lt_of_lt_of_le hX (Nat.pow_le_pow_right (by decide) hi))]
  simp
theorem mixTo_full {Z X n : Nat} (hZ : Z < 2 ^ n) (hX : X < 2 ^ n) : mixTo Z X (nw n) = Z := by
  apply words_eq n _ _ (mixTo_lt hZ hX) hZ
  intro i hi
  rw [mixTo_word, if_pos hi]
theorem IsSet.other {w w' : World} {b g cap n X r : Nat} (h : IsSet w b g cap n X) (hg : w.grownBy w' (some r)) (h1 : b ≠ r) (h2 : g ≠ r) : IsSet w' b g cap n X := by
  refine ⟨h.hn, h.hX, ?_, h.own.kept hg (.inr (by simp [Value.ownBlock]; exact h2))⟩
  rw [hg.block b h.blt (by simp; exact h1)]; exact h.blk
theorem keep3 {w : World} {b1 g1 b2 g2 k q : Nat} {u v1 v2 v3 : Value} (n1 : b1 ≠ g1) (n2 : b2 ≠ g1) (n3 : g2 ≠ g1)
    (h : w.cell? ⟨b1, 1, none⟩ = some v1 ∧ w.cell? ⟨b2, 1, none⟩ = some v2 ∧ w.cell? ⟨g2, k, none⟩ = some v3) :
    (w.setCell ⟨g1, q, none⟩ u).drew.cell? ⟨b1, 1, none⟩ = some v1 ∧ (w.setCell ⟨g1, q, none⟩ u).drew.cell? ⟨b2, 1, none⟩ = some v2 ∧ (w.setCell ⟨g1, q, none⟩ u).drew.cell? ⟨g2, k, none⟩ = some v3 :=
  ⟨(World.cell?_of_block (Below.heap_setCell w ⟨g1, q, none⟩ u b1 n1)).trans h.1, (World.cell?_of_block (Below.heap_setCell w ⟨g1, q, none⟩ u b2 n2)).trans h.2.1, (World.cell?_of_block (Below.heap_setCell w ⟨g1, q, none⟩ u g2 n3)).trans h.2.2⟩
set_option maxRecDepth 100000 in
set_option maxHeartbeats 1000000 in
theorem mix_and_g (b1 g1 c1 n X b2 g2 c2 Y : Nat) (w : World) (h1 : IsSet w b1 g1 c1 n X) (h2 : IsSet w b2 g2 c2 n Y) (n1 : b1 ≠ g1) (n2 : b2 ≠ g1) (n3 : g2 ≠ g1) :
    Calls Tryz.prog 32 #[.pointer (some ⟨b1, 0, none⟩), .pointer (some ⟨b2, 0, none⟩), .func (.func 33) #[] #[]] w fun e w' => e = .returned (.int .i64 0) ∧ IsSet w' b1 g1 c1 n (X &&& Y) ∧ w.grownBy w' (some g1) := by
  have hn := h1.hn
  have hnw := nw_le hn
  have HX := hide (And.intro h1.hX h2.hX)
  have HO := hide op_and
  go_enter Tryz.func32, Tryz.ntmps32
  go_wp2_with fail
  refine (alike_yes b1 b2 n _ h1.c0 h2.c0).mono ?_
  rintro e w1 ⟨rfl, q, rfl⟩
  have s1 := h1.below (below_drewN' (Below.refl _ _) q)
  have s2 := h2.below (below_drewN' (Below.refl _ _) q)
  have d1 : w.grownBy (w.drewN q) (some g1) := g_drewN (g_refl _ _) q
  have a1 := s1.c1
  clear h1 h2
  go_wp2
  go_loopw [18] (fun i wr => ∃ k : Nat, k ≤ nw n ∧ i = .int .i64 k ∧ IsSet wr b1 g1 c1 n (mixTo (X &&& Y) X k) ∧ IsSet wr b2 g2 c2 n Y ∧ w.grownBy wr (some g1)) (fun i _ => nw n - (intOf i).toNat)
  case atStart => exact ⟨0, Nat.zero_le _, rfl, by rw [mixTo_zero]; exact s1, s2, d1⟩
  case round =>
    obtain ⟨k, hk, rfl, t1, t2, dr⟩ := hrel
    clear s1 s2 d1 a1
    by_cases hlt : k < nw n
    · have x0 := t1.word k hlt
      rw [mixTo_word, if_neg (by omega)] at x0
      have y0 := t2.word k hlt
      have u1 := t1.c1
      have u2 := t2.c1
      have lx := wordAt_lt X k
      have ly := wordAt_lt Y k
      have hf : wr.frozen? ⟨g1, k, none⟩ = false := t1.own.frozenAt _
      have i0 : (0 : Int) ≤ (k : Int) := by omega
      have i1 : (k : Int) < (nw n : Int) := by omega
      have HT := hide (And.intro t1 (And.intro t2 dr))
      clear t1 t2 dr
      go_wp2_with fail
      go_region_held3 (fun w' => w'.cell? ⟨b1, 1, none⟩ = some (.slice (some ⟨g1, 0, none⟩) (nw n) c1) ∧ w'.cell? ⟨b2, 1, none⟩ = some (.slice (some ⟨g2, 0, none⟩) (nw n) c2) ∧ w'.cell? ⟨g2, k, none⟩ = some (.int .u64 (wordAt Y k)))
        (first | exact keep3 n1 n2 n3 ⟨u1, u2, y0⟩ | go_keep)
        ((go_at_call 33; refine (both_any (wordAt X k) (wordAt Y k) _ lx ly).mono ?_; rintro e w' ⟨rfl, rfl⟩))
      go_wp2
      go_roundw
      case rel =>
        have g := (HT.out.1.own.stored k (.int .u64 ((wordAt X k &&& wordAt Y k : Nat) : Int))).2
        refine ⟨k + 1, by omega, by go_num, ?_, ?_, ?_⟩
        · exact IsSet.drew (HT.out.1.store n1 hlt (mixTo_lt (HO.out.lt HX.out.1 HX.out.2) HX.out.1) (fun i _ hne => by rw [mixTo_word, mixTo_word]; by_cases h : i < k <;> by_cases h' : i < k + 1 <;> simp [h, h'] <;> omega) (by rw [mixTo_word, if_pos (by omega), HO.out.word]))
        · exact IsSet.drew (HT.out.2.1.other g n2 n3)
        · exact g_drew (g_set HT.out.2.2 _ _)
      case measure => simp [intOf]; omega
    · go_wp2
      go_ret
      have hke : k = nw n := by omega
      subst hke
      rw [mixTo_full (HO.out.lt HX.out.1 HX.out.2) HX.out.1] at t1
      exact ⟨rfl, t1, dr⟩
set_option maxRecDepth 100000 in
set_option maxHeartbeats 1000000 in
theorem cut_g (b1 g1 c1 n X b2 g2 c2 Y : Nat) (w : World) (h1 : IsSet w b1 g1 c1 n X) (h2 : IsSet w b2 g2 c2 n Y) (n1 : b1 ≠ g1) (n2 : b2 ≠ g1) (n3 : g2 ≠ g1) :
    Calls Tryz.prog 14 #[.pointer (some ⟨b1, 0, none⟩), .pointer (some ⟨b2, 0, none⟩)] w fun e w' => e = .returned (.int .i64 0) ∧ IsSet w' b1 g1 c1 n (X &&& Y) ∧ w.grownBy w' (some g1) := by
  go_enter Tryz.func14, Tryz.ntmps14
  go_wp2_with fail
  refine (mix_and_g b1 g1 c1 n X b2 g2 c2 Y _ h1 h2 n1 n2 n3).mono ?_
  rintro e w1 ⟨rfl, s, d⟩
  clear h1 h2
  go_wp2
  go_ret
  exact ⟨rfl, s, d⟩
end Go.Proofs.YtojnlpicgemlaabGreatDoor
namespace Go.Proofs.YtojnlpicgemlaabGreatDoor
open Go.RowKit

theorem wordAt_zero (k : Nat) : wordAt 0 k = 0 := by simp [wordAt]
end Go.Proofs.YtojnlpicgemlaabGreatDoor
