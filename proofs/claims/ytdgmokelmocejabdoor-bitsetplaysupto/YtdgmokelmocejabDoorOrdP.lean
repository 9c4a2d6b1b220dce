import Derived.Test.YtdgmokelmocejabDoorEql
namespace Go.Proofs.YtdgmokelmocejabDoor
open Go.RowKit

theorem parts_uniq {X Y c d : Nat} (h : Parts X Y c) (k : Parts X Y d) : c = d := by
  rcases Nat.lt_trichotomy c d with h1 | h1 | h1
  · exact absurd (k.2 c h1) h.1
  · exact h1
  · exact absurd (h.2 d h1) k.1
theorem parts_symm {X Y c : Nat} (h : Parts X Y c) : Parts Y X c := ⟨fun e => h.1 e.symm, fun i hi => (h.2 i hi).symm⟩

theorem cmp_range {n X Y : Nat} {r : Int} (h : CmpRel n X n Y r) : -1 ≤ r ∧ r ≤ 1 := by
  obtain ⟨h1, h2, h3⟩ := h.2.2 rfl
  rcases Nat.lt_trichotomy (cnt n X) (cnt n Y) with a | a | a
  · rw [h1 a]; omega
  · rcases h3 a with ⟨_, rfl⟩ | ⟨c, _, rfl⟩
    · omega
    · split <;> omega
  · rw [h2 a]; omega

theorem cmp_uniq {n X Y : Nat} {r s : Int} (h : CmpRel n X n Y r) (k : CmpRel n X n Y s) : r = s := by
  obtain ⟨h1, h2, h3⟩ := h.2.2 rfl
  obtain ⟨k1, k2, k3⟩ := k.2.2 rfl
  rcases Nat.lt_trichotomy (cnt n X) (cnt n Y) with a | a | a
  · rw [h1 a, k1 a]
  · rcases h3 a with ⟨e, rfl⟩ | ⟨c, hc, rfl⟩
    · rcases k3 a with ⟨_, rfl⟩ | ⟨d, hd, _⟩
      · rfl
      · subst e; exact absurd hd (parts_irrefl X d)
    · rcases k3 a with ⟨e, _⟩ | ⟨d, hd, rfl⟩
      · subst e; exact absurd hc (parts_irrefl X c)
      · rw [parts_uniq hc hd]
  · rw [h2 a, k2 a]

theorem cmp_zero {n X Y : Nat} {r : Int} (h : CmpRel n X n Y r) : r = 0 ↔ X = Y := by
  obtain ⟨h1, h2, h3⟩ := h.2.2 rfl
  constructor
  · intro h0
    rcases Nat.lt_trichotomy (cnt n X) (cnt n Y) with a | a | a
    · have := h1 a; omega
    · rcases h3 a with ⟨e, _⟩ | ⟨c, _, hr⟩
      · exact e
      · rw [h0] at hr; split at hr <;> omega
    · have := h2 a; omega
  · intro e
    subst e
    rcases h3 rfl with ⟨_, hr⟩ | ⟨c, hc, _⟩
    · exact hr
    · exact absurd hc (parts_irrefl X c)

theorem cmp_anti {n X Y : Nat} {r s : Int} (h : CmpRel n X n Y r) (k : CmpRel n Y n X s) : s = -r := by
  obtain ⟨h1, h2, h3⟩ := h.2.2 rfl
  obtain ⟨k1, k2, k3⟩ := k.2.2 rfl
  rcases Nat.lt_trichotomy (cnt n X) (cnt n Y) with a | a | a
  · rw [h1 a, k2 a]; rfl
  · rcases h3 a with ⟨e, rfl⟩ | ⟨c, hc, rfl⟩
    · rcases k3 a.symm with ⟨_, rfl⟩ | ⟨d, hd, _⟩
      · rfl
      · subst e; exact absurd hd (parts_irrefl X d)
    · rcases k3 a.symm with ⟨e, _⟩ | ⟨d, hd, rfl⟩
      · subst e; exact absurd hc (parts_irrefl Y c)
      · have hcd := parts_uniq hc (parts_symm hd)
        subst hcd
        have := hc.1
        cases hx : X.testBit c <;> cases hy : Y.testBit c <;> simp [hx, hy] at this ⊢
  · rw [h2 a, k1 a]

theorem cmp_trans {n X Y Z : Nat} {p q r : Int} (h : CmpRel n X n Y p) (k : CmpRel n Y n Z q) (l : CmpRel n X n Z r) (hp : p = -1) (hq : q = -1) : r = -1 := by
  obtain ⟨h1, h2, h3⟩ := h.2.2 rfl
  obtain ⟨k1, k2, k3⟩ := k.2.2 rfl
  obtain ⟨l1, l2, l3⟩ := l.2.2 rfl
  have a1 : cnt n X ≤ cnt n Y := by
    apply Nat.le_of_not_lt; intro a; have := h2 a; omega
  have a2 : cnt n Y ≤ cnt n Z := by
    apply Nat.le_of_not_lt; intro a; have := k2 a; omega
  by_cases a3 : cnt n X < cnt n Z
  · exact l1 a3
  · have b1 : cnt n X = cnt n Y := by omega
    have b2 : cnt n Y = cnt n Z := by omega
    rcases h3 b1 with ⟨_, e⟩ | ⟨c, hc, hr⟩
    · omega
    rcases k3 b2 with ⟨_, e⟩ | ⟨d, hd, hs⟩
    · omega
    have xc : X.testBit c = true := by
      cases hx : X.testBit c
      · rw [hx] at hr; simp at hr; omega
      · rfl
    have yd : Y.testBit d = true := by
      cases hx : Y.testBit d
      · rw [hx] at hs; simp at hs; omega
      · rfl
    have yc : Y.testBit c = false := by
      cases hy : Y.testBit c
      · rfl
      · exact absurd (xc.trans hy.symm) hc.1
    have zd : Z.testBit d = false := by
      cases hy : Z.testBit d
      · rfl
      · exact absurd (yd.trans hy.symm) hd.1
    have key : ∃ m, Parts X Z m ∧ X.testBit m = true := by
      rcases Nat.lt_trichotomy c d with o | o | o
      · refine ⟨c, ⟨?_, fun i hi => (hc.2 i hi).trans (hd.2 i (by omega))⟩, xc⟩
        rw [xc, ← hd.2 c o, yc]; decide
      · subst o; rw [yc] at yd; cases yd
      · have xd : X.testBit d = true := by rw [hc.2 d o]; exact yd
        refine ⟨d, ⟨?_, fun i hi => (hc.2 i (by omega)).trans (hd.2 i hi)⟩, xd⟩
        rw [xd, zd]; decide
    obtain ⟨m, hm, xm⟩ := key
    rcases l3 (b1.trans b2) with ⟨e, _⟩ | ⟨m', hm', hr'⟩
    · subst e; exact absurd hm (parts_irrefl X m)
    · rw [hr', ← parts_uniq hm hm', xm]; rfl

set_option maxHeartbeats 400000 in
theorem mixed_bad (b1 b2 n n2 : Nat) (fv : Value) (w : World) (p0 : w.cell? ⟨b1, 0, none⟩ = some (.int .i64 n)) (q0 : w.cell? ⟨b2, 0, none⟩ = some (.int .i64 n2)) (h : n ≠ n2) :
    Calls Tryd.prog 64 #[.pointer (some ⟨b1, 0, none⟩), .pointer (some ⟨b2, 0, none⟩), fv] w fun e w' => e = .returned (.tuple #[.pointer none, .int .i64 10]) ∧ ∃ q, w' = w.drewN q := by
  have H := hide h
  clear h
  go_enter Tryd.func64, Tryd.ntmps64
  go_wp2_with fail
  refine (alike_no b1 b2 n n2 _ p0 q0 H.out).mono ?_
  rintro e w1 ⟨rfl, q, rfl⟩
  go_wp2
  go_ret2
  exact ⟨rfl, _, rfl⟩

set_option maxHeartbeats 400000 in
theorem mix_bad (b1 b2 n n2 : Nat) (fv : Value) (w : World) (p0 : w.cell? ⟨b1, 0, none⟩ = some (.int .i64 n)) (q0 : w.cell? ⟨b2, 0, none⟩ = some (.int .i64 n2)) (h : n ≠ n2) :
    Calls Tryd.prog 30 #[.pointer (some ⟨b1, 0, none⟩), .pointer (some ⟨b2, 0, none⟩), fv] w fun e w' => e = .returned (.int .i64 10) ∧ ∃ q, w' = w.drewN q := by
  have H := hide h
  clear h
  go_enter Tryd.func30, Tryd.ntmps30
  go_wp2_with fail
  refine (alike_no b1 b2 n n2 _ p0 q0 H.out).mono ?_
  rintro e w1 ⟨rfl, q, rfl⟩
  go_wp2
  go_ret
  exact ⟨rfl, _, rfl⟩

set_option maxHeartbeats 400000 in
theorem union_bad (b1 b2 n n2 : Nat) (w : World) (p0 : w.cell? ⟨b1, 0, none⟩ = some (.int .i64 n)) (q0 : w.cell? ⟨b2, 0, none⟩ = some (.int .i64 n2)) (h : n ≠ n2) :
    Calls Tryd.prog 37 #[.pointer (some ⟨b1, 0, none⟩), .pointer (some ⟨b2, 0, none⟩)] w fun e w' => e = .returned (.tuple #[.pointer none, .int .i64 10]) ∧ Below w.heap.size w w' := by
  have H := hide h
  clear h
  go_enter Tryd.func37, Tryd.ntmps37
  go_wp2_with fail
  refine (mixed_bad b1 b2 n n2 _ _ p0 q0 H.out).mono ?_
  rintro e w1 ⟨rfl, q, rfl⟩
  go_wp2
  go_ret2
  exact ⟨rfl, below_drewN' (Below.refl _ _) _⟩

set_option maxHeartbeats 400000 in
theorem drop_bad (b1 b2 n n2 : Nat) (w : World) (p0 : w.cell? ⟨b1, 0, none⟩ = some (.int .i64 n)) (q0 : w.cell? ⟨b2, 0, none⟩ = some (.int .i64 n2)) (h : n ≠ n2) :
    Calls Tryd.prog 11 #[.pointer (some ⟨b1, 0, none⟩), .pointer (some ⟨b2, 0, none⟩)] w fun e w' => e = .returned (.int .i64 10) ∧ Below w.heap.size w w' := by
  have H := hide h
  clear h
  go_enter Tryd.func11, Tryd.ntmps11
  go_wp2_with fail
  refine (mix_bad b1 b2 n n2 _ _ p0 q0 H.out).mono ?_
  rintro e w1 ⟨rfl, q, rfl⟩
  go_wp2
  go_ret
  exact ⟨rfl, below_drewN' (Below.refl _ _) _⟩

set_option maxHeartbeats 400000 in
theorem subset_bad (b1 b2 n n2 : Nat) (w : World) (p0 : w.cell? ⟨b1, 0, none⟩ = some (.int .i64 n)) (q0 : w.cell? ⟨b2, 0, none⟩ = some (.int .i64 n2)) (h : n ≠ n2) :
    Calls Tryd.prog 46 #[.pointer (some ⟨b1, 0, none⟩), .pointer (some ⟨b2, 0, none⟩)] w fun e w' => e = .returned (.bool false) ∧ Below w.heap.size w w' := by
  have H := hide h
  clear h
  go_enter Tryd.func46, Tryd.ntmps46
  go_wp2_with fail
  refine (alike_no b1 b2 n n2 _ p0 q0 H.out).mono ?_
  rintro e w1 ⟨rfl, q, rfl⟩
  go_wp2
  go_ret
  exact ⟨rfl, below_drewN' (Below.refl _ _) _⟩

set_option maxHeartbeats 400000 in
theorem meets_bad (b1 b2 n n2 : Nat) (w : World) (p0 : w.cell? ⟨b1, 0, none⟩ = some (.int .i64 n)) (q0 : w.cell? ⟨b2, 0, none⟩ = some (.int .i64 n2)) (h : n ≠ n2) :
    Calls Tryd.prog 49 #[.pointer (some ⟨b1, 0, none⟩), .pointer (some ⟨b2, 0, none⟩)] w fun e w' => e = .returned (.bool false) ∧ Below w.heap.size w w' := by
  have H := hide h
  clear h
  go_enter Tryd.func49, Tryd.ntmps49
  go_wp2_with fail
  refine (alike_no b1 b2 n n2 _ p0 q0 H.out).mono ?_
  rintro e w1 ⟨rfl, q, rfl⟩
  go_wp2
  go_ret
  exact ⟨rfl, below_drewN' (Below.refl _ _) _⟩

theorem equal_bad (b1 g1 c1 n X b2 g2 c2 n2 Y : Nat) (w : World) (h1 : IsSet w b1 g1 c1 n X) (h2 : IsSet w b2 g2 c2 n2 Y) (hb : b1 ≠ b2) (h : n ≠ n2) :
    Calls Tryd.prog 34 #[.pointer (some ⟨b1, 0, none⟩), .pointer (some ⟨b2, 0, none⟩)] w fun e w' => e = .returned (.bool false) ∧ Below w.heap.size w w' :=
  (equal_no b1 g1 c1 n X b2 g2 c2 n2 Y w h1 h2 hb h).mono fun _ _ k => ⟨k.1, by obtain ⟨q, hq⟩ := k.2; rw [hq]; exact below_drewN' (Below.refl _ _) _⟩

theorem lalike_r (b1 g1 c1 n X b2 g2 c2 Y : Nat) (r : Bool) (w : World) (HR : Hid (decide (X = Y) = r)) (h1 : IsSet w b1 g1 c1 n X) (h2 : IsSet w b2 g2 c2 n Y) (hT : TabAt w) (hb : b1 ≠ b2) :
    Calls Tryd.prog 12 #[.pointer (some ⟨b1, 0, none⟩), .pointer (some ⟨b2, 0, none⟩)] w fun e w' => e = .returned (.bool r) ∧ Below w.heap.size w w' := by
  rw [← HR.out]
  by_cases h : X = Y
  · subst h
    have := lalike_yes b1 g1 c1 n X b2 g2 c2 w h1 h2 hT hb
    simpa using this
  · rw [decide_eq_false h]
    exact lalike_no b1 g1 c1 n X b2 g2 c2 n Y w h1 h2 hb (fun k => h k.2)

theorem compare_b (b1 g1 c1 n X b2 g2 c2 n2 Y : Nat) (w : World) (h1 : IsSet w b1 g1 c1 n X) (h2 : IsSet w b2 g2 c2 n2 Y) :
    Calls Tryd.prog 35 #[.pointer (some ⟨b1, 0, none⟩), .pointer (some ⟨b2, 0, none⟩)] w fun e w' => ∃ r, e = .returned (.int .i64 r) ∧ CmpRel n X n2 Y r ∧ Below w.heap.size w w' :=
  (compare_any b1 g1 c1 n X b2 g2 c2 n2 Y w h1 h2).mono fun _ _ ⟨r, h1, h2, q, hq⟩ => ⟨r, h1, h2, by rw [hq]; exact below_drewN' (Below.refl _ _) _⟩

end Go.Proofs.YtdgmokelmocejabDoor
