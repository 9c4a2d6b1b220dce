import Derived.Test.YtdgmokelmocejabDoorEql
namespace Go.Proofs.YtdgmokelmocejabDoor
open Go.RowKit

set_option maxHeartbeats 400000 in
theorem either_any (x y : Nat) (w : World) (hx : x < 18446744073709551616) (hy : y < 18446744073709551616) :
    Calls Tryd.prog 31 #[.int .u64 x, .int .u64 y] w fun e w' => e = .returned (.int .u64 ((x ||| y : Nat) : Int)) ∧ w' = w := by
  have h := bits_or_u64_nat x y hx hy
  go_enter Tryd.func31, Tryd.ntmps31
  go_wp2
  go_ret
  exact ⟨rfl, rfl⟩

set_option maxHeartbeats 400000 in
theorem both_any (x y : Nat) (w : World) (hx : x < 18446744073709551616) (hy : y < 18446744073709551616) :
    Calls Tryd.prog 32 #[.int .u64 x, .int .u64 y] w fun e w' => e = .returned (.int .u64 ((x &&& y : Nat) : Int)) ∧ w' = w := by
  have h := bits_and_u64_nat x y hx hy
  go_enter Tryd.func32, Tryd.ntmps32
  go_wp2
  go_ret
  exact ⟨rfl, rfl⟩

/-- What the first has and the second has not. -/
def minusN (x y : Nat) : Nat := x ^^^ (x &&& y)
theorem minusN_testBit (x y i : Nat) : (minusN x y).testBit i = (x.testBit i && !y.testBit i) := by
  unfold minusN
  rw [Nat.testBit_xor, Nat.testBit_and]
  cases x.testBit i <;> cases y.testBit i <;> rfl

theorem bits_andNot_nat (a b : Nat) (ha : a < 18446744073709551616) (hb : b < 18446744073709551616) : bits .andNot .u64 (a : Int) (b : Int) = ((minusN a b : Nat) : Int) := by
  have h1 : (BitVec.ofInt 64 (a : Int)).toNat = a := by
    rw [BitVec.ofInt_natCast, BitVec.toNat_ofNat]; exact Nat.mod_eq_of_lt ha
  have h2 : (BitVec.ofInt 64 (b : Int)).toNat = b := by
    rw [BitVec.ofInt_natCast, BitVec.toNat_ofNat]; exact Nat.mod_eq_of_lt hb
  have h3 : (BitVec.ofInt 64 (a : Int) &&& ~~~ BitVec.ofInt 64 (b : Int)).toNat = minusN a b := by
    apply Nat.eq_of_testBit_eq
    intro t
    rw [← BitVec.getLsbD, BitVec.getLsbD_and, BitVec.getLsbD_not, BitVec.getLsbD, BitVec.getLsbD, h1, h2, minusN_testBit]
    by_cases ht : t < 64
    · simp [ht]
    · have : a.testBit t = false := Nat.testBit_lt_two_pow (Nat.lt_of_lt_of_le ha (show 2 ^ 64 ≤ 2 ^ t from Nat.pow_le_pow_right (by decide) (by omega)))
      simp [this]
  show IntKind.u64.wrap ((BitVec.ofInt 64 (a : Int) &&& ~~~ BitVec.ofInt 64 (b : Int)).toNat : Int) = _
  rw [h3, IntKind.wrap_u64]
  have hlt : minusN a b < 2 ^ 64 := by
    unfold minusN
    exact Nat.xor_lt_two_pow ha (Nat.lt_of_le_of_lt Nat.and_le_left ha)
  omega

set_option maxHeartbeats 400000 in
theorem first_any (x y : Nat) (w : World) (hx : x < 18446744073709551616) (hy : y < 18446744073709551616) :
    Calls Tryd.prog 33 #[.int .u64 x, .int .u64 y] w fun e w' => e = .returned (.int .u64 ((minusN x y : Nat) : Int)) ∧ w' = w := by
  have h := bits_andNot_nat x y hx hy
  go_enter Tryd.func33, Tryd.ntmps33
  go_wp2
  go_ret
  exact ⟨rfl, rfl⟩

/-- An operation on sets that goes bit by bit. -/
structure BitOp (F : Nat → Nat → Nat) : Prop where
  ex : ∃ φ : Bool → Bool → Bool, φ false false = false ∧ ∀ x y i, (F x y).testBit i = φ (x.testBit i) (y.testBit i)

theorem op_or : BitOp (· ||| ·) := ⟨⟨(· || ·), rfl, fun x y i => by simp⟩⟩
theorem op_and : BitOp (· &&& ·) := ⟨⟨(· && ·), rfl, fun x y i => by simp⟩⟩
theorem op_minus : BitOp minusN := ⟨⟨fun a b => a && !b, rfl, minusN_testBit⟩⟩

theorem lt_of_bits {x n : Nat} (h : ∀ i, n ≤ i → x.testBit i = false) : x < 2 ^ n := Nat.lt_pow_two_of_testBit x h

theorem BitOp.lt {F : Nat → Nat → Nat} (h : BitOp F) {x y n : Nat} (hx : x < 2 ^ n) (hy : y < 2 ^ n) : F x y < 2 ^ n := by
  obtain ⟨φ, h0, hb⟩ := h.ex
  apply lt_of_bits
  intro i hi
  rw [hb, Nat.testBit_lt_two_pow (Nat.lt_of_lt_of_le hx (Nat.pow_le_pow_right (by decide) hi)), Nat.testBit_lt_two_pow (Nat.lt_of_lt_of_le hy (Nat.pow_le_pow_right (by decide) hi)), h0]

theorem BitOp.word {F : Nat → Nat → Nat} (h : BitOp F) (X Y k : Nat) : wordAt (F X Y) k = F (wordAt X k) (wordAt Y k) := by
  obtain ⟨φ, h0, hb⟩ := h.ex
  apply Nat.eq_of_testBit_eq
  intro t
  rw [wordAt_testBit, hb, hb, wordAt_testBit, wordAt_testBit]
  by_cases ht : t < 64 <;> simp [ht, h0]

/-- Z in the words below k, X from there on. -/
def mixTo (Z X k : Nat) : Nat := 2 ^ (64 * k) * (X / 2 ^ (64 * k)) + Z % 2 ^ (64 * k)
theorem mixTo_testBit (Z X k i : Nat) : (mixTo Z X k).testBit i = if i < 64 * k then Z.testBit i else X.testBit i := by
  unfold mixTo
  rw [Nat.testBit_two_pow_mul_add _ (Nat.mod_lt _ (Nat.two_pow_pos _)), Nat.testBit_mod_two_pow, Nat.testBit_div_two_pow]
  by_cases h : i < 64 * k
  · simp [h]
  · rw [if_neg h, if_neg h]; congr 1; omega
theorem mixTo_word (Z X k j : Nat) : wordAt (mixTo Z X k) j = if j < k then wordAt Z j else wordAt X j := by
  apply Nat.eq_of_testBit_eq
  intro t
  by_cases hj : j < k
  · rw [if_pos hj, wordAt_testBit, wordAt_testBit, mixTo_testBit]
    by_cases ht : t < 64
    · rw [if_pos (by omega)]
    · simp [ht]
  · rw [if_neg hj, wordAt_testBit, wordAt_testBit, mixTo_testBit]
    by_cases ht : t < 64
    · rw [if_neg (by omega)]
    · simp [ht]
theorem mixTo_zero (Z X : Nat) : mixTo Z X 0 = X := by simp [mixTo, Nat.mod_one]
theorem mixTo_lt {Z X k n : Nat} (hZ : Z < 2 ^ n) (hX : X < 2 ^ n) : mixTo Z X k < 2 ^ n := by
  apply lt_of_bits
  intro i hi
  rw [mixTo_testBit, Nat.testBit_lt_two_pow (Nat.lt_of_lt_of_le hZ (Nat.pow_le_pow_right (by decide) hi)), Nat.testBit_lt_two_pow (Nat.lt_of_lt_of_le hX (Nat.pow_le_pow_right (by decide) hi))]
  simp
theorem mixTo_full {Z X n : Nat} (hZ : Z < 2 ^ n) (hX : X < 2 ^ n) : mixTo Z X (nw n) = Z := by
  apply words_eq n _ _ (mixTo_lt hZ hX) hZ
  intro i hi
  rw [mixTo_word, if_pos hi]

theorem IsSet.other {w w' : World} {b g cap n X r : Nat} (h : IsSet w b g cap n X) (hg : w.grownBy w' (some r)) (h1 : b ≠ r) (h2 : g ≠ r) : IsSet w' b g cap n X := by
  refine ⟨h.hn, h.hX, ?_, h.own.kept hg (.inr (by simp [Value.ownBlock]; exact h2))⟩
  rw [hg.block b h.blt (by simp; exact h1)]; exact h.blk

theorem keep3 {w : World} {b1 g1 b2 g2 k q : Nat} {u v1 v2 v3 : Value} (n1 : b1 ≠ g1) (n2 : b2 ≠ g1) (n3 : g2 ≠ g1)
    (h : w.cell? ⟨b1, 1, none⟩ = some v1 ∧ w.cell? ⟨b2, 1, none⟩ = some v2 ∧ w.cell? ⟨g2, k, none⟩ = some v3) :
    (w.setCell ⟨g1, q, none⟩ u).drew.cell? ⟨b1, 1, none⟩ = some v1 ∧ (w.setCell ⟨g1, q, none⟩ u).drew.cell? ⟨b2, 1, none⟩ = some v2 ∧ (w.setCell ⟨g1, q, none⟩ u).drew.cell? ⟨g2, k, none⟩ = some v3 :=
  ⟨(World.cell?_of_block (Below.heap_setCell w ⟨g1, q, none⟩ u b1 n1)).trans h.1, (World.cell?_of_block (Below.heap_setCell w ⟨g1, q, none⟩ u b2 n2)).trans h.2.1, (World.cell?_of_block (Below.heap_setCell w ⟨g1, q, none⟩ u g2 n3)).trans h.2.2⟩

set_option maxRecDepth 100000 in
set_option maxHeartbeats 1000000 in
theorem mix_or (b1 g1 c1 n X b2 g2 c2 Y B : Nat) (w : World) (h1 : IsSet w b1 g1 c1 n X) (h2 : IsSet w b2 g2 c2 n Y) (n1 : b1 ≠ g1) (n2 : b2 ≠ g1) (n3 : g2 ≠ g1) (hB : B ≤ g1) :
    Calls Tryd.prog 30 #[.pointer (some ⟨b1, 0, none⟩), .pointer (some ⟨b2, 0, none⟩), .func (.func 31) #[] #[]] w fun e w' => e = .returned (.int .i64 0) ∧ IsSet w' b1 g1 c1 n (X ||| Y) ∧ Below B w w' := by
  have hn := h1.hn
  have hnw := nw_le hn
  have HX := hide (And.intro h1.hX h2.hX)
  have HO := hide op_or
  go_enter Tryd.func30, Tryd.ntmps30
  go_wp2_with fail
  refine (alike_yes b1 b2 n _ h1.c0 h2.c0).mono ?_
  rintro e w1 ⟨rfl, q, rfl⟩
  have s1 := h1.below (below_drewN' (Below.refl _ _) q)
  have s2 := h2.below (below_drewN' (Below.refl _ _) q)
  have d1 : Below B w (w.drewN q) := below_drewN' (Below.refl _ _) q
  have a1 := s1.c1
  clear h1 h2
  go_wp2
  go_loopw [18] (fun i wr => ∃ k : Nat, k ≤ nw n ∧ i = .int .i64 k ∧ IsSet wr b1 g1 c1 n (mixTo (X ||| Y) X k) ∧ IsSet wr b2 g2 c2 n Y ∧ Below B w wr) (fun i _ => nw n - (intOf i).toNat)
  case atStart => exact ⟨0, Nat.zero_le _, rfl, by rw [mixTo_zero]; exact s1, s2, d1⟩
  case round =>
    obtain ⟨k, hk, rfl, t1, t2, dr⟩ := hrel
    clear s1 s2 d1 a1
    by_cases hlt : k < nw n
    · have x0 := t1.word k hlt
      rw [mixTo_word, if_neg (by omega)] at x0
      have y0 := t2.word k hlt
      have u1 := t1.c1
      have u2 := t2.c1
      have lx := wordAt_lt X k
      have ly := wordAt_lt Y k
      have hf : wr.frozen? ⟨g1, k, none⟩ = false := t1.own.frozenAt _
      have i0 : (0 : Int) ≤ (k : Int) := by omega
      have i1 : (k : Int) < (nw n : Int) := by omega
      have HT := hide (And.intro t1 (And.intro t2 dr))
      clear t1 t2 dr
      go_wp2_with fail
      go_region_held3 (fun w' => w'.cell? ⟨b1, 1, none⟩ = some (.slice (some ⟨g1, 0, none⟩) (nw n) c1) ∧ w'.cell? ⟨b2, 1, none⟩ = some (.slice (some ⟨g2, 0, none⟩) (nw n) c2) ∧ w'.cell? ⟨g2, k, none⟩ = some (.int .u64 (wordAt Y k)))
        (first | exact keep3 n1 n2 n3 ⟨u1, u2, y0⟩ | go_keep)
        ((go_at_call 31; refine (either_any (wordAt X k) (wordAt Y k) _ lx ly).mono ?_; rintro e w' ⟨rfl, rfl⟩))
      go_wp2
      go_roundw
      case rel =>
        have g := (HT.out.1.own.stored k (.int .u64 ((wordAt X k ||| wordAt Y k : Nat) : Int))).2
        refine ⟨k + 1, by omega, by go_num, ?_, ?_, ?_⟩
        · exact IsSet.drew (HT.out.1.store n1 hlt (mixTo_lt (HO.out.lt HX.out.1 HX.out.2) HX.out.1) (fun i _ hne => by rw [mixTo_word, mixTo_word]; by_cases h : i < k <;> by_cases h' : i < k + 1 <;> simp [h, h'] <;> omega) (by rw [mixTo_word, if_pos (by omega), HO.out.word]))
        · exact IsSet.drew (HT.out.2.1.other g n2 n3)
        · exact (HT.out.2.2.setCell hB _).drew
      case measure => simp [intOf]; omega
    · go_wp2
      go_ret
      have hke : k = nw n := by omega
      subst hke
      rw [mixTo_full (HO.out.lt HX.out.1 HX.out.2) HX.out.1] at t1
      exact ⟨rfl, t1, dr⟩

set_option maxRecDepth 100000 in
set_option maxHeartbeats 1000000 in
theorem mix_and (b1 g1 c1 n X b2 g2 c2 Y B : Nat) (w : World) (h1 : IsSet w b1 g1 c1 n X) (h2 : IsSet w b2 g2 c2 n Y) (n1 : b1 ≠ g1) (n2 : b2 ≠ g1) (n3 : g2 ≠ g1) (hB : B ≤ g1) :
    Calls Tryd.prog 30 #[.pointer (some ⟨b1, 0, none⟩), .pointer (some ⟨b2, 0, none⟩), .func (.func 32) #[] #[]] w fun e w' => e = .returned (.int .i64 0) ∧ IsSet w' b1 g1 c1 n (X &&& Y) ∧ Below B w w' := by
  have hn := h1.hn
  have hnw := nw_le hn
  have HX := hide (And.intro h1.hX h2.hX)
  have HO := hide op_and
  go_enter Tryd.func30, Tryd.ntmps30
  go_wp2_with fail
  refine (alike_yes b1 b2 n _ h1.c0 h2.c0).mono ?_
  rintro e w1 ⟨rfl, q, rfl⟩
  have s1 := h1.below (below_drewN' (Below.refl _ _) q)
  have s2 := h2.below (below_drewN' (Below.refl _ _) q)
  have d1 : Below B w (w.drewN q) := below_drewN' (Below.refl _ _) q
  have a1 := s1.c1
  clear h1 h2
  go_wp2
  go_loopw [18] (fun i wr => ∃ k : Nat, k ≤ nw n ∧ i = .int .i64 k ∧ IsSet wr b1 g1 c1 n (mixTo (X &&& Y) X k) ∧ IsSet wr b2 g2 c2 n Y ∧ Below B w wr) (fun i _ => nw n - (intOf i).toNat)
  case atStart => exact ⟨0, Nat.zero_le _, rfl, by rw [mixTo_zero]; exact s1, s2, d1⟩
  case round =>
    obtain ⟨k, hk, rfl, t1, t2, dr⟩ := hrel
    clear s1 s2 d1 a1
    by_cases hlt : k < nw n
    · have x0 := t1.word k hlt
      rw [mixTo_word, if_neg (by omega)] at x0
      have y0 := t2.word k hlt
      have u1 := t1.c1
      have u2 := t2.c1
      have lx := wordAt_lt X k
      have ly := wordAt_lt Y k
      have hf : wr.frozen? ⟨g1, k, none⟩ = false := t1.own.frozenAt _
      have i0 : (0 : Int) ≤ (k : Int) := by omega
      have i1 : (k : Int) < (nw n : Int) := by omega
      have HT := hide (And.intro t1 (And.intro t2 dr))
      clear t1 t2 dr
      go_wp2_with fail
      go_region_held3 (fun w' => w'.cell? ⟨b1, 1, none⟩ = some (.slice (some ⟨g1, 0, none⟩) (nw n) c1) ∧ w'.cell? ⟨b2, 1, none⟩ = some (.slice (some ⟨g2, 0, none⟩) (nw n) c2) ∧ w'.cell? ⟨g2, k, none⟩ = some (.int .u64 (wordAt Y k)))
        (first | exact keep3 n1 n2 n3 ⟨u1, u2, y0⟩ | go_keep)
        ((go_at_call 32; refine (both_any (wordAt X k) (wordAt Y k) _ lx ly).mono ?_; rintro e w' ⟨rfl, rfl⟩))
      go_wp2
      go_roundw
      case rel =>
        have g := (HT.out.1.own.stored k (.int .u64 ((wordAt X k &&& wordAt Y k : Nat) : Int))).2
        refine ⟨k + 1, by omega, by go_num, ?_, ?_, ?_⟩
        · exact IsSet.drew (HT.out.1.store n1 hlt (mixTo_lt (HO.out.lt HX.out.1 HX.out.2) HX.out.1) (fun i _ hne => by rw [mixTo_word, mixTo_word]; by_cases h : i < k <;> by_cases h' : i < k + 1 <;> simp [h, h'] <;> omega) (by rw [mixTo_word, if_pos (by omega), HO.out.word]))
        · exact IsSet.drew (HT.out.2.1.other g n2 n3)
        · exact (HT.out.2.2.setCell hB _).drew
      case measure => simp [intOf]; omega
    · go_wp2
      go_ret
      have hke : k = nw n := by omega
      subst hke
      rw [mixTo_full (HO.out.lt HX.out.1 HX.out.2) HX.out.1] at t1
      exact ⟨rfl, t1, dr⟩

set_option maxRecDepth 100000 in
set_option maxHeartbeats 1000000 in
theorem mix_minus (b1 g1 c1 n X b2 g2 c2 Y B : Nat) (w : World) (h1 : IsSet w b1 g1 c1 n X) (h2 : IsSet w b2 g2 c2 n Y) (n1 : b1 ≠ g1) (n2 : b2 ≠ g1) (n3 : g2 ≠ g1) (hB : B ≤ g1) :
    Calls Tryd.prog 30 #[.pointer (some ⟨b1, 0, none⟩), .pointer (some ⟨b2, 0, none⟩), .func (.func 33) #[] #[]] w fun e w' => e = .returned (.int .i64 0) ∧ IsSet w' b1 g1 c1 n (minusN X Y) ∧ Below B w w' := by
  have hn := h1.hn
  have hnw := nw_le hn
  have HX := hide (And.intro h1.hX h2.hX)
  have HO := hide op_minus
  go_enter Tryd.func30, Tryd.ntmps30
  go_wp2_with fail
  refine (alike_yes b1 b2 n _ h1.c0 h2.c0).mono ?_
  rintro e w1 ⟨rfl, q, rfl⟩
  have s1 := h1.below (below_drewN' (Below.refl _ _) q)
  have s2 := h2.below (below_drewN' (Below.refl _ _) q)
  have d1 : Below B w (w.drewN q) := below_drewN' (Below.refl _ _) q
  have a1 := s1.c1
  clear h1 h2
  go_wp2
  go_loopw [18] (fun i wr => ∃ k : Nat, k ≤ nw n ∧ i = .int .i64 k ∧ IsSet wr b1 g1 c1 n (mixTo (minusN X Y) X k) ∧ IsSet wr b2 g2 c2 n Y ∧ Below B w wr) (fun i _ => nw n - (intOf i).toNat)
  case atStart => exact ⟨0, Nat.zero_le _, rfl, by rw [mixTo_zero]; exact s1, s2, d1⟩
  case round =>
    obtain ⟨k, hk, rfl, t1, t2, dr⟩ := hrel
    clear s1 s2 d1 a1
    by_cases hlt : k < nw n
    · have x0 := t1.word k hlt
      rw [mixTo_word, if_neg (by omega)] at x0
      have y0 := t2.word k hlt
      have u1 := t1.c1
      have u2 := t2.c1
      have lx := wordAt_lt X k
      have ly := wordAt_lt Y k
      have hf : wr.frozen? ⟨g1, k, none⟩ = false := t1.own.frozenAt _
      have i0 : (0 : Int) ≤ (k : Int) := by omega
      have i1 : (k : Int) < (nw n : Int) := by omega
      have HT := hide (And.intro t1 (And.intro t2 dr))
      clear t1 t2 dr
      go_wp2_with fail
      go_region_held3 (fun w' => w'.cell? ⟨b1, 1, none⟩ = some (.slice (some ⟨g1, 0, none⟩) (nw n) c1) ∧ w'.cell? ⟨b2, 1, none⟩ = some (.slice (some ⟨g2, 0, none⟩) (nw n) c2) ∧ w'.cell? ⟨g2, k, none⟩ = some (.int .u64 (wordAt Y k)))
        (first | exact keep3 n1 n2 n3 ⟨u1, u2, y0⟩ | go_keep)
        ((go_at_call 33; refine (first_any (wordAt X k) (wordAt Y k) _ lx ly).mono ?_; rintro e w' ⟨rfl, rfl⟩))
      go_wp2
      go_roundw
      case rel =>
        have g := (HT.out.1.own.stored k (.int .u64 ((minusN (wordAt X k) (wordAt Y k) : Nat) : Int))).2
        refine ⟨k + 1, by omega, by go_num, ?_, ?_, ?_⟩
        · exact IsSet.drew (HT.out.1.store n1 hlt (mixTo_lt (HO.out.lt HX.out.1 HX.out.2) HX.out.1) (fun i _ hne => by rw [mixTo_word, mixTo_word]; by_cases h : i < k <;> by_cases h' : i < k + 1 <;> simp [h, h'] <;> omega) (by rw [mixTo_word, if_pos (by omega), HO.out.word]))
        · exact IsSet.drew (HT.out.2.1.other g n2 n3)
        · exact (HT.out.2.2.setCell hB _).drew
      case measure => simp [intOf]; omega
    · go_wp2
      go_ret
      have hke : k = nw n := by omega
      subst hke
      rw [mixTo_full (HO.out.lt HX.out.1 HX.out.2) HX.out.1] at t1
      exact ⟨rfl, t1, dr⟩

end Go.Proofs.YtdgmokelmocejabDoor
