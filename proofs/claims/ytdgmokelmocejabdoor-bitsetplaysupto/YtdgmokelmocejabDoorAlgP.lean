import Derived.Test.YtdgmokelmocejabDoorNot
namespace Go.Proofs.YtdgmokelmocejabDoor
open Go.RowKit

theorem lalike_eq (b1 g1 c1 n X b2 g2 c2 Y : Nat) (w : World) (he : X = Y) (h1 : IsSet w b1 g1 c1 n X) (h2 : IsSet w b2 g2 c2 n Y) (hT : TabAt w) (hb : b1 ≠ b2) :
    Calls Tryd.prog 12 #[.pointer (some ⟨b1, 0, none⟩), .pointer (some ⟨b2, 0, none⟩)] w fun e w' => e = .returned (.bool true) ∧ Below w.heap.size w w' := by
  subst he
  exact lalike_yes b1 g1 c1 n X b2 g2 c2 w h1 h2 hT hb

theorem lalike_d (b1 g1 c1 n X b2 g2 c2 Y : Nat) (r : Bool) (w : World) (HR : Hid (decide (X = Y) = r)) (h1 : IsSet w b1 g1 c1 n X) (h2 : IsSet w b2 g2 c2 n Y) (hT : TabAt w) (hb : b1 ≠ b2) :
    Calls Tryd.prog 12 #[.pointer (some ⟨b1, 0, none⟩), .pointer (some ⟨b2, 0, none⟩)] w fun e w' => e = .returned (.bool r) ∧ Below w.heap.size w w' := by
  rw [← HR.out]
  by_cases h : X = Y
  · subst h
    have := lalike_yes b1 g1 c1 n X b2 g2 c2 w h1 h2 hT hb
    simpa using this
  · rw [decide_eq_false h]
    exact lalike_no b1 g1 c1 n X b2 g2 c2 n Y w h1 h2 hb (fun k => h k.2)

theorem count_L (b g cap n X L : Nat) (w : World) (HL : Hid (cnt n X = L)) (hs : IsSet w b g cap n X) :
    Calls Tryd.prog 16 #[.pointer (some ⟨b, 0, none⟩)] w fun e w' => e = .returned (.int .i64 L) ∧ Below w.heap.size w w' :=
  (count_any b g cap n X w hs).mono fun _ _ h => ⟨by rw [h.1, HL.out], by rw [h.2]; exact Below.refl _ _⟩

theorem subset_r (b1 g1 c1 n X b2 g2 c2 Y : Nat) (r : Bool) (w : World) (HR : Hid (decide (minusN X Y = 0) = r)) (h1 : IsSet w b1 g1 c1 n X) (h2 : IsSet w b2 g2 c2 n Y) :
    Calls Tryd.prog 46 #[.pointer (some ⟨b1, 0, none⟩), .pointer (some ⟨b2, 0, none⟩)] w fun e w' => e = .returned (.bool r) ∧ Below w.heap.size w w' := by
  have := subset_any b1 g1 c1 n X b2 g2 c2 Y w h1 h2
  rwa [HR.out] at this
theorem meets_r (b1 g1 c1 n X b2 g2 c2 Y : Nat) (r : Bool) (w : World) (HR : Hid ((!decide (X &&& Y = 0)) = r)) (h1 : IsSet w b1 g1 c1 n X) (h2 : IsSet w b2 g2 c2 n Y) :
    Calls Tryd.prog 49 #[.pointer (some ⟨b1, 0, none⟩), .pointer (some ⟨b2, 0, none⟩)] w fun e w' => e = .returned (.bool r) ∧ Below w.heap.size w w' := by
  have := meets_any b1 g1 c1 n X b2 g2 c2 Y w h1 h2
  rwa [HR.out] at this

theorem a_or_comm (X Y : Nat) : X ||| Y = Y ||| X := Nat.or_comm X Y
theorem a_and_comm (X Y : Nat) : X &&& Y = Y &&& X := Nat.and_comm X Y
theorem a_or_assoc (X Y Z : Nat) : X ||| Y ||| Z = X ||| (Y ||| Z) := Nat.or_assoc X Y Z
theorem a_and_assoc (X Y Z : Nat) : X &&& Y &&& Z = X &&& (Y &&& Z) := Nat.and_assoc X Y Z
theorem a_dist1 (X Y Z : Nat) : X &&& (Y ||| Z) = (X &&& Y) ||| (X &&& Z) := Nat.and_or_distrib_left X Y Z
theorem a_dist2 (X Y Z : Nat) : X ||| (Y &&& Z) = (X ||| Y) &&& (X ||| Z) := Nat.or_and_distrib_left X Y Z
theorem a_morgan1 (n X Y : Nat) (hX : X < 2 ^ n) (hY : Y < 2 ^ n) : notN n (X ||| Y) = notN n X &&& notN n Y := by
  apply Nat.eq_of_testBit_eq
  intro i
  rw [notN_testBit n _ i (op_or.lt hX hY), Nat.testBit_or, Nat.testBit_and, notN_testBit n X i hX, notN_testBit n Y i hY]
  cases decide (i < n) <;> cases X.testBit i <;> cases Y.testBit i <;> rfl
theorem a_morgan2 (n X Y : Nat) (hX : X < 2 ^ n) (hY : Y < 2 ^ n) : notN n (X &&& Y) = notN n X ||| notN n Y := by
  apply Nat.eq_of_testBit_eq
  intro i
  rw [notN_testBit n _ i (op_and.lt hX hY), Nat.testBit_or, Nat.testBit_and, notN_testBit n X i hX, notN_testBit n Y i hY]
  cases decide (i < n) <;> cases X.testBit i <;> cases Y.testBit i <;> rfl
theorem a_notnot (n X : Nat) (hX : X < 2 ^ n) : notN n (notN n X) = X := by
  apply Nat.eq_of_testBit_eq
  intro i
  rw [notN_testBit n _ i (notN_lt n X hX), notN_testBit n X i hX]
  by_cases h : i < n
  · simp [h]
  · rw [Nat.testBit_lt_two_pow (Nat.lt_of_lt_of_le hX (Nat.pow_le_pow_right (by decide) (by omega)))]; simp [h]
theorem a_minus (n X Y : Nat) (hX : X < 2 ^ n) (hY : Y < 2 ^ n) : minusN X Y = X &&& notN n Y := by
  apply Nat.eq_of_testBit_eq
  intro i
  rw [minusN_testBit, Nat.testBit_and, notN_testBit n Y i hY]
  by_cases h : i < n
  · simp [h]
  · rw [Nat.testBit_lt_two_pow (Nat.lt_of_lt_of_le hX (Nat.pow_le_pow_right (by decide) (by omega)))]; simp
theorem a_sub1 (X Y : Nat) : (X ||| Y = Y) ↔ minusN X Y = 0 := by
  constructor
  · intro h
    apply Nat.eq_of_testBit_eq
    intro i
    have := congrArg (fun z => Nat.testBit z i) h
    simp only [Nat.testBit_or] at this
    rw [minusN_testBit, Nat.zero_testBit]
    cases hx : X.testBit i <;> cases hy : Y.testBit i <;> simp [hx, hy] at this ⊢
  · intro h
    apply Nat.eq_of_testBit_eq
    intro i
    have := congrArg (fun z => Nat.testBit z i) h
    simp only [minusN_testBit, Nat.zero_testBit] at this
    rw [Nat.testBit_or]
    cases hx : X.testBit i <;> cases hy : Y.testBit i <;> simp [hx, hy] at this ⊢
theorem a_sub2 (X Y : Nat) : (X &&& Y = X) ↔ minusN X Y = 0 := by
  constructor
  · intro h
    apply Nat.eq_of_testBit_eq
    intro i
    have := congrArg (fun z => Nat.testBit z i) h
    simp only [Nat.testBit_and] at this
    rw [minusN_testBit, Nat.zero_testBit]
    cases hx : X.testBit i <;> cases hy : Y.testBit i <;> simp [hx, hy] at this ⊢
  · intro h
    apply Nat.eq_of_testBit_eq
    intro i
    have := congrArg (fun z => Nat.testBit z i) h
    simp only [minusN_testBit, Nat.zero_testBit] at this
    rw [Nat.testBit_and]
    cases hx : X.testBit i <;> cases hy : Y.testBit i <;> simp [hx, hy] at this ⊢

theorem filter_two {α : Type} (l : List α) (p q : α → Bool) : (l.filter fun i => p i || q i).length + (l.filter fun i => p i && q i).length = (l.filter p).length + (l.filter q).length := by
  induction l with
  | nil => rfl
  | cons a l ih =>
    simp only [List.filter_cons]
    cases p a <;> cases q a <;> simp <;> omega
theorem cnt_two (n X Y : Nat) : cnt n (X ||| Y) + cnt n (X &&& Y) = cnt n X + cnt n Y := by
  have := filter_two (List.range n) (fun i => X.testBit i) (fun i => Y.testBit i)
  unfold cnt elems
  simp only [Nat.testBit_or, Nat.testBit_and]
  exact this
theorem cnt_not (n X : Nat) (hX : X < 2 ^ n) : cnt n X + cnt n (notN n X) = n := by
  have h := cnt_two n X (notN n X)
  have e1 : cnt n (X ||| notN n X) = n := by
    unfold cnt elems
    have : (List.range n).filter (fun i => (X ||| notN n X).testBit i) = List.range n := by
      rw [List.filter_eq_self]
      intro i hi
      have := List.mem_range.1 hi
      rw [Nat.testBit_or, notN_testBit n X i hX]
      cases X.testBit i <;> simp [this]
    rw [this, List.length_range]
  have e2 : cnt n (X &&& notN n X) = 0 := by
    unfold cnt elems
    have : (List.range n).filter (fun i => (X &&& notN n X).testBit i) = [] := by
      rw [List.filter_eq_nil_iff]
      intro i _
      rw [Nat.testBit_and, notN_testBit n X i hX]
      cases X.testBit i <;> simp
    rw [this]; rfl
  omega
theorem cnt_pos (n X : Nat) (hX : X < 2 ^ n) : decide (0 < cnt n X) = !decide (X = 0) := by
  by_cases h : X = 0
  · subst h; simp [cnt, elems_zero]
  · have : 0 < cnt n X := by
      apply Nat.pos_of_ne_zero
      intro h0
      apply h
      apply Nat.eq_of_testBit_eq
      intro i
      rw [Nat.zero_testBit]
      cases hb : X.testBit i
      · rfl
      · have hm : i ∈ elems n X := mem_elems.2 ⟨testBit_lt hX hb, hb⟩
        have := List.length_pos_of_mem hm
        unfold cnt at h0
        omega
    simp [h, this]

end Go.Proofs.YtdgmokelmocejabDoor
