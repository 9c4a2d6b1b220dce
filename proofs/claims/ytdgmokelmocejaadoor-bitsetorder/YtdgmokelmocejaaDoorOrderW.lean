import Derived.Test.YtdgmokelmocejaaDoorEql
namespace Go.Proofs.YtdgmokelmocejaaDoor
open Go.RowKit

theorem parts_uniq {X Y c d : Nat} (h : Parts X Y c) (k : Parts X Y d) : c = d := by
  rcases Nat.lt_trichotomy c d with h1 | h1 | h1
  · exact absurd (k.2 c h1) h.1
  · exact h1
  · exact absurd (h.2 d h1) k.1
theorem parts_symm {X Y c : Nat} (h : Parts X Y c) : Parts Y X c := ⟨fun e => h.1 e.symm, fun i hi => (h.2 i hi).symm⟩

theorem cmp_range {n X Y : Nat} {r : Int} (h : CmpRel n X n Y r) : -1 ≤ r ∧ r ≤ 1 := by
  obtain ⟨h1, h2, h3⟩ := h.2.2 rfl
  rcases Nat.lt_trichotomy (cnt n X) (cnt n Y) with a | a | a
  · rw [h1 a]; omega
  · rcases h3 a with ⟨_, rfl⟩ | ⟨c, _, rfl⟩
    · omega
    · split <;> omega
  · rw [h2 a]; omega

theorem cmp_uniq {n X Y : Nat} {r s : Int} (h : CmpRel n X n Y r) (k : CmpRel n X n Y s) : r = s := by
  obtain ⟨h1, h2, h3⟩ := h.2.2 rfl
  obtain ⟨k1, k2, k3⟩ := k.2.2 rfl
  rcases Nat.lt_trichotomy (cnt n X) (cnt n Y) with a | a | a
  · rw [h1 a, k1 a]
  · rcases h3 a with ⟨e, rfl⟩ | ⟨c, hc, rfl⟩
    · rcases k3 a with ⟨_, rfl⟩ | ⟨d, hd, _⟩
      · rfl
      · subst e; exact absurd hd (parts_irrefl X d)
    · rcases k3 a with ⟨e, _⟩ | ⟨d, hd, rfl⟩
      · subst e; exact absurd hc (parts_irrefl X c)
      · rw [parts_uniq hc hd]
  · rw [h2 a, k2 a]

theorem cmp_zero {n X Y : Nat} {r : Int} (h : CmpRel n X n Y r) : r = 0 ↔ X = Y := by
  obtain ⟨h1, h2, h3⟩ := h.2.2 rfl
  constructor
  · intro h0
    rcases Nat.lt_trichotomy (cnt n X) (cnt n Y) with a | a | a
    · have := h1 a; omega
    · rcases h3 a with ⟨e, _⟩ | ⟨c, _, hr⟩
      · exact e
      · rw [h0] at hr; split at hr <;> omega
    · have := h2 a; omega
  · intro e
    subst e
    rcases h3 rfl with ⟨_, hr⟩ | ⟨c, hc, _⟩
    · exact hr
    · exact absurd hc (parts_irrefl X c)

theorem cmp_anti {n X Y : Nat} {r s : Int} (h : CmpRel n X n Y r) (k : CmpRel n Y n X s) : s = -r := by
  obtain ⟨h1, h2, h3⟩ := h.2.2 rfl
  obtain ⟨k1, k2, k3⟩ := k.2.2 rfl
  rcases Nat.lt_trichotomy (cnt n X) (cnt n Y) with a | a | a
  · rw [h1 a, k2 a]; rfl
  · rcases h3 a with ⟨e, rfl⟩ | ⟨c, hc, rfl⟩
    · rcases k3 a.symm with ⟨_, rfl⟩ | ⟨d, hd, _⟩
      · rfl
      · subst e; exact absurd hd (parts_irrefl X d)
    · rcases k3 a.symm with ⟨e, _⟩ | ⟨d, hd, rfl⟩
      · subst e; exact absurd hc (parts_irrefl Y c)
      · have hcd := parts_uniq hc (parts_symm hd)
        subst hcd
        have := hc.1
        cases hx : X.testBit c <;> cases hy : Y.testBit c <;> simp [hx, hy] at this ⊢
  · rw [h2 a, k1 a]

theorem cmp_trans {n X Y Z : Nat} {p q r : Int} (h : CmpRel n X n Y p) (k : CmpRel n Y n Z q) (l : CmpRel n X n Z r) (hp : p = -1) (hq : q = -1) : r = -1 := by
  obtain ⟨h1, h2, h3⟩ := h.2.2 rfl
  obtain ⟨k1, k2, k3⟩ := k.2.2 rfl
  obtain ⟨l1, l2, l3⟩ := l.2.2 rfl
  have a1 : cnt n X ≤ cnt n Y := by
    apply Nat.le_of_not_lt; intro a; have := h2 a; omega
  have a2 : cnt n Y ≤ cnt n Z := by
    apply Nat.le_of_not_lt; intro a; have := k2 a; omega
  by_cases a3 : cnt n X < cnt n Z
  · exact l1 a3
  · have b1 : cnt n X = cnt n Y := by omega
    have b2 : cnt n Y = cnt n Z := by omega
    rcases h3 b1 with ⟨_, e⟩ | ⟨c, hc, hr⟩
    · omega
    rcases k3 b2 with ⟨_, e⟩ | ⟨d, hd, hs⟩
    · omega
    have xc : X.testBit c = true := by
      cases hx : X.testBit c
      · rw [hx] at hr; simp at hr; omega
      · rfl
    have yd : Y.testBit d = true := by
      cases hx : Y.testBit d
      · rw [hx] at hs; simp at hs; omega
      · rfl
    have yc : Y.testBit c = false := by
      cases hy : Y.testBit c
      · rfl
      · exact absurd (xc.trans hy.symm) hc.1
    have zd : Z.testBit d = false := by
      cases hy : Z.testBit d
      · rfl
      · exact absurd (yd.trans hy.symm) hd.1
    have key : ∃ m, Parts X Z m ∧ X.testBit m = true := by
      rcases Nat.lt_trichotomy c d with o | o | o
      · refine ⟨c, ⟨?_, fun i hi => (hc.2 i hi).trans (hd.2 i (by omega))⟩, xc⟩
        rw [xc, ← hd.2 c o, yc]; decide
      · subst o; rw [yc] at yd; cases yd
      · have xd : X.testBit d = true := by rw [hc.2 d o]; exact yd
        refine ⟨d, ⟨?_, fun i hi => (hc.2 i (by omega)).trans (hd.2 i hi)⟩, xd⟩
        rw [xd, zd]; decide
    obtain ⟨m, hm, xm⟩ := key
    rcases l3 (b1.trans b2) with ⟨e, _⟩ | ⟨m', hm', hr'⟩
    · subst e; exact absurd hm (parts_irrefl X m)
    · rw [hr', ← parts_uniq hm hm', xm]; rfl

set_option maxHeartbeats 400000 in
theorem mixed_bad (b1 b2 n n2 : Nat) (fv : Value) (w : World) (p0 : w.cell? ⟨b1, 0, none⟩ = some (.int .i64 n)) (q0 : w.cell? ⟨b2, 0, none⟩ = some (.int .i64 n2)) (h : n ≠ n2) :
    Calls Tryd.prog 61 #[.pointer (some ⟨b1, 0, none⟩), .pointer (some ⟨b2, 0, none⟩), fv] w fun e w' => e = .returned (.tuple #[.pointer none, .int .i64 10]) ∧ ∃ q, w' = w.drewN q := by
  have H := hide h
  clear h
  go_enter Tryd.func61, Tryd.ntmps61
  go_wp2_with fail
  refine (alike_no b1 b2 n n2 _ p0 q0 H.out).mono ?_
  rintro e w1 ⟨rfl, q, rfl⟩
  go_wp2
  go_ret2
  exact ⟨rfl, _, rfl⟩

set_option maxHeartbeats 400000 in
theorem mix_bad (b1 b2 n n2 : Nat) (fv : Value) (w : World) (p0 : w.cell? ⟨b1, 0, none⟩ = some (.int .i64 n)) (q0 : w.cell? ⟨b2, 0, none⟩ = some (.int .i64 n2)) (h : n ≠ n2) :
    Calls Tryd.prog 56 #[.pointer (some ⟨b1, 0, none⟩), .pointer (some ⟨b2, 0, none⟩), fv] w fun e w' => e = .returned (.int .i64 10) ∧ ∃ q, w' = w.drewN q := by
  have H := hide h
  clear h
  go_enter Tryd.func56, Tryd.ntmps56
  go_wp2_with fail
  refine (alike_no b1 b2 n n2 _ p0 q0 H.out).mono ?_
  rintro e w1 ⟨rfl, q, rfl⟩
  go_wp2
  go_ret
  exact ⟨rfl, _, rfl⟩

set_option maxHeartbeats 400000 in
theorem union_bad (b1 b2 n n2 : Nat) (w : World) (p0 : w.cell? ⟨b1, 0, none⟩ = some (.int .i64 n)) (q0 : w.cell? ⟨b2, 0, none⟩ = some (.int .i64 n2)) (h : n ≠ n2) :
    Calls Tryd.prog 35 #[.pointer (some ⟨b1, 0, none⟩), .pointer (some ⟨b2, 0, none⟩)] w fun e w' => e = .returned (.tuple #[.pointer none, .int .i64 10]) ∧ Below w.heap.size w w' := by
  have H := hide h
  clear h
  go_enter Tryd.func35, Tryd.ntmps35
  go_wp2_with fail
  refine (mixed_bad b1 b2 n n2 _ _ p0 q0 H.out).mono ?_
  rintro e w1 ⟨rfl, q, rfl⟩
  go_wp2
  go_ret2
  exact ⟨rfl, below_drewN' (Below.refl _ _) _⟩

set_option maxHeartbeats 400000 in
theorem drop_bad (b1 b2 n n2 : Nat) (w : World) (p0 : w.cell? ⟨b1, 0, none⟩ = some (.int .i64 n)) (q0 : w.cell? ⟨b2, 0, none⟩ = some (.int .i64 n2)) (h : n ≠ n2) :
    Calls Tryd.prog 36 #[.pointer (some ⟨b1, 0, none⟩), .pointer (some ⟨b2, 0, none⟩)] w fun e w' => e = .returned (.int .i64 10) ∧ Below w.heap.size w w' := by
  have H := hide h
  clear h
  go_enter Tryd.func36, Tryd.ntmps36
  go_wp2_with fail
  refine (mix_bad b1 b2 n n2 _ _ p0 q0 H.out).mono ?_
  rintro e w1 ⟨rfl, q, rfl⟩
  go_wp2
  go_ret
  exact ⟨rfl, below_drewN' (Below.refl _ _) _⟩

set_option maxHeartbeats 400000 in
theorem subset_bad (b1 b2 n n2 : Nat) (w : World) (p0 : w.cell? ⟨b1, 0, none⟩ = some (.int .i64 n)) (q0 : w.cell? ⟨b2, 0, none⟩ = some (.int .i64 n2)) (h : n ≠ n2) :
    Calls Tryd.prog 37 #[.pointer (some ⟨b1, 0, none⟩), .pointer (some ⟨b2, 0, none⟩)] w fun e w' => e = .returned (.bool false) ∧ Below w.heap.size w w' := by
  have H := hide h
  clear h
  go_enter Tryd.func37, Tryd.ntmps37
  go_wp2_with fail
  refine (alike_no b1 b2 n n2 _ p0 q0 H.out).mono ?_
  rintro e w1 ⟨rfl, q, rfl⟩
  go_wp2
  go_ret
  exact ⟨rfl, below_drewN' (Below.refl _ _) _⟩

set_option maxHeartbeats 400000 in
theorem meets_bad (b1 b2 n n2 : Nat) (w : World) (p0 : w.cell? ⟨b1, 0, none⟩ = some (.int .i64 n)) (q0 : w.cell? ⟨b2, 0, none⟩ = some (.int .i64 n2)) (h : n ≠ n2) :
    Calls Tryd.prog 39 #[.pointer (some ⟨b1, 0, none⟩), .pointer (some ⟨b2, 0, none⟩)] w fun e w' => e = .returned (.bool false) ∧ Below w.heap.size w w' := by
  have H := hide h
  clear h
  go_enter Tryd.func39, Tryd.ntmps39
  go_wp2_with fail
  refine (alike_no b1 b2 n n2 _ p0 q0 H.out).mono ?_
  rintro e w1 ⟨rfl, q, rfl⟩
  go_wp2
  go_ret
  exact ⟨rfl, below_drewN' (Below.refl _ _) _⟩

theorem equal_bad (b1 g1 c1 n X b2 g2 c2 n2 Y : Nat) (w : World) (h1 : IsSet w b1 g1 c1 n X) (h2 : IsSet w b2 g2 c2 n2 Y) (hb : b1 ≠ b2) (h : n ≠ n2) :
    Calls Tryd.prog 38 #[.pointer (some ⟨b1, 0, none⟩), .pointer (some ⟨b2, 0, none⟩)] w fun e w' => e = .returned (.bool false) ∧ Below w.heap.size w w' :=
  (equal_no b1 g1 c1 n X b2 g2 c2 n2 Y w h1 h2 hb h).mono fun _ _ k => ⟨k.1, by obtain ⟨q, hq⟩ := k.2; rw [hq]; exact below_drewN' (Below.refl _ _) _⟩

theorem lalike_r (b1 g1 c1 n X b2 g2 c2 Y : Nat) (r : Bool) (w : World) (HR : Hid (decide (X = Y) = r)) (h1 : IsSet w b1 g1 c1 n X) (h2 : IsSet w b2 g2 c2 n Y) (hT : TabAt w) (hb : b1 ≠ b2) :
    Calls Tryd.prog 24 #[.pointer (some ⟨b1, 0, none⟩), .pointer (some ⟨b2, 0, none⟩)] w fun e w' => e = .returned (.bool r) ∧ Below w.heap.size w w' := by
  rw [← HR.out]
  by_cases h : X = Y
  · subst h
    have := lalike_yes b1 g1 c1 n X b2 g2 c2 w h1 h2 hT hb
    simpa using this
  · rw [decide_eq_false h]
    exact lalike_no b1 g1 c1 n X b2 g2 c2 n Y w h1 h2 hb (fun k => h k.2)

theorem compare_b (b1 g1 c1 n X b2 g2 c2 n2 Y : Nat) (w : World) (h1 : IsSet w b1 g1 c1 n X) (h2 : IsSet w b2 g2 c2 n2 Y) :
    Calls Tryd.prog 33 #[.pointer (some ⟨b1, 0, none⟩), .pointer (some ⟨b2, 0, none⟩)] w fun e w' => ∃ r, e = .returned (.int .i64 r) ∧ CmpRel n X n2 Y r ∧ Below w.heap.size w w' :=
  (compare_any b1 g1 c1 n X b2 g2 c2 n2 Y w h1 h2).mono fun _ _ ⟨r, h1, h2, q, hq⟩ => ⟨r, h1, h2, by rw [hq]; exact below_drewN' (Below.refl _ _) _⟩

theorem boundF_b (N : Int) (w : World) (h1 : -9223372036854775808 ≤ N) (h2 : N ≤ 9223372036854775807) :
    Calls Tryd.prog 12 #[.int .i64 N] w fun e w' => e = .returned (.int .i64 (boundN N)) ∧ Below w.heap.size w w' :=
  (boundF_any N w h1 h2).mono fun _ _ h => ⟨h.1, by rw [h.2]; exact Below.refl _ _⟩

set_option maxRecDepth 100000 in
set_option maxHeartbeats 4000000 in
theorem order_any (v : Value) (N more : Int) (A B C : List Int) (w : World) (h : ThreeV w v N A B C) (hT : TabAt w) (hw0 : 0 < w.heap.size) (hm1 : -9223372036854775808 ≤ more) (hm2 : more ≤ 9223372036854775807) :
    Calls Tryd.prog 7 #[v, .int .i64 more] w fun e w' => e = .returned (.bool true) ∧ Below w.heap.size w w' := by
  obtain ⟨n1, n2, ⟨a1, p1, a2, p2, a3, p3, rfl, r1, r2, r3⟩, la, lb, lc⟩ := h
  have hA : Below w.heap.size w (w.alloc (.cells #[.int .i64 N, .slice a1 A.length p1, .slice a2 B.length p2, .slice a3 C.length p3] 24)) := (Below.refl _ _).alloc (Nat.le_refl _) _
  have h3 : ThreeV (w.alloc (.cells #[.int .i64 N, .slice a1 A.length p1, .slice a2 B.length p2, .slice a3 C.length p3] 24)) (.agg #[.int .i64 N, .slice a1 A.length p1, .slice a2 B.length p2, .slice a3 C.length p3]) N A B C := ⟨n1, n2, ⟨a1, p1, a2, p2, a3, p3, rfl, r1.below hA, r2.below hA, r3.below hA⟩, la, lb, lc⟩
  have H3 := hide h3
  have hle := boundN_le N
  have HT := hide hT
  clear h3 r1 r2 r3 la lb lc hT
  go_enter Tryd.func7, Tryd.ntmps7
  go_wp2_with fail
  refine (sets_any _ N A B C _ H3.out).mono ?_
  rintro e w1 ⟨b1, g1, c1, b2, g2, c2, b3, g3, c3, rfl, s1, s2, s3, m1, m2, m3, m4, m5, m6, e1, e2, e3, l1, l2, l3, l4, d1⟩
  have D1 : Below w.heap.size w w1 := hA.trans (d1.mono (by simp))
  have T1 := hide (HT.out.below D1 hw0)
  generalize setI (boundN N) A = X at s1
  generalize setI (boundN N) B = Y at s2
  generalize setI (boundN N) C = Z at s3
  generalize boundN N = n at *
  have W1 : 0 < w1.heap.size := Nat.lt_of_lt_of_le hw0 D1.size
  have n12 : b1 ≠ b2 := by omega
  clear m1 m2 m3 m4 m5 m6 d1 hA H3 HT e1 e2 e3 l1 l2 l3 l4
  go_wp2_with fail
  refine (known_any _ T1.out W1).mono ?_
  rintro e w2 ⟨rfl, d2⟩
  have s1 := s1.below d2
  have s2 := s2.below d2
  have s3 := s3.below d2
  have T2 := hide (T1.out.below d2 W1)
  have D2 := D1.trans (d2.mono D1.size)
  have W2 : 0 < w2.heap.size := Nat.lt_of_lt_of_le hw0 D2.size
  clear T1 D1 W1
  clear d2
  go_wp2_with fail
  refine (compare_b b1 g1 c1 n X b2 g2 c2 n Y _ s1 s2).mono ?_
  rintro e w3 ⟨p, rfl, kp, d3⟩
  have s1 := s1.below d3
  have s2 := s2.below d3
  have s3 := s3.below d3
  have T3 := hide (T2.out.below d3 W2)
  have D3 := D2.trans (d3.mono D2.size)
  have W3 : 0 < w3.heap.size := Nat.lt_of_lt_of_le hw0 D3.size
  clear T2 D2 W2
  clear d3
  have Kp := hide kp
  clear kp
  go_wp2_with fail
  refine (compare_b b2 g2 c2 n Y b3 g3 c3 n Z _ s2 s3).mono ?_
  rintro e w4 ⟨q, rfl, kq, d4⟩
  have s1 := s1.below d4
  have s2 := s2.below d4
  have s3 := s3.below d4
  have T4 := hide (T3.out.below d4 W3)
  have D4 := D3.trans (d4.mono D3.size)
  have W4 : 0 < w4.heap.size := Nat.lt_of_lt_of_le hw0 D4.size
  clear T3 D3 W3
  clear d4
  have Kq := hide kq
  clear kq
  go_wp2_with fail
  refine (compare_b b1 g1 c1 n X b3 g3 c3 n Z _ s1 s3).mono ?_
  rintro e w5 ⟨r, rfl, kr, d5⟩
  have s1 := s1.below d5
  have s2 := s2.below d5
  have s3 := s3.below d5
  have T5 := hide (T4.out.below d5 W4)
  have D5 := D4.trans (d5.mono D4.size)
  have W5 : 0 < w5.heap.size := Nat.lt_of_lt_of_le hw0 D5.size
  clear T4 D4 W4
  clear d5
  have Kr := hide kr
  clear kr
  have rp := cmp_range Kp.out
  have rq := cmp_range Kq.out
  have rr := cmp_range Kr.out
  have hlt : p ≤ 0 → q ≤ 0 → r ≤ 0 ∧ (r = 0 → p = 0 ∧ q = 0) := fun hp hq => by
    by_cases h1 : p = 0
    · have e := (cmp_zero Kp.out).1 h1
      have := cmp_uniq Kr.out (e ▸ Kq.out)
      omega
    · by_cases h2 : q = 0
      · have e := (cmp_zero Kq.out).1 h2
        have := cmp_uniq Kr.out (e ▸ Kp.out)
        omega
      · have := cmp_trans Kp.out Kq.out Kr.out (by omega) (by omega)
        omega
  have hpz : p = 0 → q = r := fun h1 => by
    have e := (cmp_zero Kp.out).1 h1
    exact cmp_uniq (e ▸ Kq.out) Kr.out
  obtain ⟨z, hz⟩ : ∃ z, decide (X = Y) = z := ⟨_, rfl⟩
  have hzb : ((p : Int) == 0) = z := by
    rw [← hz, Bool.eq_iff_iff]
    simp only [beq_iff_eq, decide_eq_true_eq]
    exact cmp_zero Kp.out
  have HZ := hide hz
  have HL := hide hlt
  have HP := hide hpz
  clear hz hlt hpz
  go_wp2_with fail
  refine (compare_b b2 g2 c2 n Y b1 g1 c1 n X _ s2 s1).mono ?_
  rintro e w6 ⟨p2, rfl, kp2, d6⟩
  have s1 := s1.below d6
  have s2 := s2.below d6
  have s3 := s3.below d6
  have T6 := hide (T5.out.below d6 W5)
  have D6 := D5.trans (d6.mono D5.size)
  have W6 : 0 < w6.heap.size := Nat.lt_of_lt_of_le hw0 D6.size
  clear T5 D5 W5
  clear d6
  have ep2 := cmp_anti Kp.out kp2
  subst ep2
  clear kp2
  go_wp2_with fail
  refine (lalike_r b1 g1 c1 n X b2 g2 c2 Y z _ HZ s1 s2 T6.out n12).mono ?_
  rintro e w7 ⟨rfl, d7⟩
  have s1 := s1.below d7
  have T7 := hide (T6.out.below d7 W6)
  have D7 := D6.trans (d7.mono D6.size)
  have W7 : 0 < w7.heap.size := Nat.lt_of_lt_of_le hw0 D7.size
  clear T6 D6 W6
  clear d7
  cases z
  · have hp0 : ¬ p = 0 := by simpa using hzb
    have hlt := HL.out
    have hlt2 : p ≤ 0 → q ≤ 0 → r < 0 := fun h1 h2 => by have := hlt h1 h2; omega
    clear hlt HL HP HZ Kp Kq Kr
    by_cases hp : p ≤ 0
    · by_cases hq : q ≤ 0
      · have hr := hlt2 hp hq
        have hrb : ((r : Int) == 0) = false := by rw [beq_eq_false_iff_ne]; omega
        clear hlt2
        go_wp2_with fail
        refine (boundF_b more _ hm1 hm2).mono ?_
        rintro e w8 ⟨rfl, d8⟩
        have s1 := s1.below d8
        have T8 := hide (T7.out.below d8 W7)
        have D8 := D7.trans (d8.mono D7.size)
        have W8 : 0 < w8.heap.size := Nat.lt_of_lt_of_le hw0 D8.size
        clear T7 D7 W7
        clear d8
        have hle2 := boundN_le more
        generalize boundN more = m at *
        go_wp2_with fail
        refine (new_ok m _ hle2).mono ?_
        rintro e w9 ⟨b5, g5, c5, rfl, s5, m1, m2, e5, d9⟩
        have n51 : b5 ≠ b1 := by have := s1.blt; omega
        have s1 := s1.below d9
        have T9 := hide (T8.out.below d9 W8)
        have D9 := D8.trans (d9.mono D8.size)
        have W9 : 0 < w9.heap.size := Nat.lt_of_lt_of_le hw0 D9.size
        clear T8 D8 W8 d9 m1 m2 e5
        go_wp2_with fail
        refine (bound_b b5 m _ s5.c0).mono ?_
        rintro e w10 ⟨rfl, d10⟩
        have s1 := s1.below d10
        have s5 := s5.below d10
        have T10 := hide (T9.out.below d10 W9)
        have D10 := D9.trans (d10.mono D9.size)
        have W10 : 0 < w10.heap.size := Nat.lt_of_lt_of_le hw0 D10.size
        clear T9 D9 W9
        clear d10
        go_wp2_with fail
        refine (bound_b b1 n _ s1.c0).mono ?_
        rintro e w11 ⟨rfl, d11⟩
        have s1 := s1.below d11
        have s5 := s5.below d11
        have T11 := hide (T10.out.below d11 W10)
        have D11 := D10.trans (d11.mono D10.size)
        have W11 : 0 < w11.heap.size := Nat.lt_of_lt_of_le hw0 D11.size
        clear T10 D10 W10
        clear d11
        by_cases hmn : m = n
        · have hmb : ((m : Int) == (n : Int)) = true := by rw [beq_iff_eq]; omega
          clear hmn
          go_wp2
          go_ret
          exact ⟨rfl, D11⟩
        · have hmb : ((m : Int) == (n : Int)) = false := by rw [beq_eq_false_iff_ne]; omega
          have HM := hide hmn
          clear hmn
          go_wp2_with fail
          refine (bound_b b5 m _ s5.c0).mono ?_
          rintro e w12 ⟨rfl, d12⟩
          have s1 := s1.below d12
          have s5 := s5.below d12
          have T12 := hide (T11.out.below d12 W11)
          have D12 := D11.trans (d12.mono D11.size)
          have W12 : 0 < w12.heap.size := Nat.lt_of_lt_of_le hw0 D12.size
          clear T11 D11 W11
          clear d12
          go_wp2_with fail
          refine (bound_b b1 n _ s1.c0).mono ?_
          rintro e w13 ⟨rfl, d13⟩
          have s1 := s1.below d13
          have s5 := s5.below d13
          have T13 := hide (T12.out.below d13 W12)
          have D13 := D12.trans (d13.mono D12.size)
          have W13 : 0 < w13.heap.size := Nat.lt_of_lt_of_le hw0 D13.size
          clear T12 D12 W12
          clear d13
          go_wp2_with fail
          refine (union_bad b5 b1 m n _ s5.c0 s1.c0 HM.out).mono ?_
          rintro e w14 ⟨rfl, d14⟩
          have s1 := s1.below d14
          have s5 := s5.below d14
          have T14 := hide (T13.out.below d14 W13)
          have D14 := D13.trans (d14.mono D13.size)
          have W14 : 0 < w14.heap.size := Nat.lt_of_lt_of_le hw0 D14.size
          clear T13 D13 W13
          clear d14
          go_wp2_with fail
          refine (drop_bad b1 b5 n m _ s1.c0 s5.c0 (fun h => HM.out h.symm)).mono ?_
          rintro e w15 ⟨rfl, d15⟩
          have s1 := s1.below d15
          have s5 := s5.below d15
          have T15 := hide (T14.out.below d15 W14)
          have D15 := D14.trans (d15.mono D14.size)
          have W15 : 0 < w15.heap.size := Nat.lt_of_lt_of_le hw0 D15.size
          clear T14 D14 W14
          clear d15
          go_wp2_with fail
          refine (compare_b b5 g5 c5 m 0 b1 g1 c1 n X _ s5 s1).mono ?_
          rintro e w16 ⟨u, rfl, ku, d16⟩
          have s1 := s1.below d16
          have s5 := s5.below d16
          have T16 := hide (T15.out.below d16 W15)
          have D16 := D15.trans (d16.mono D15.size)
          have W16 : 0 < w16.heap.size := Nat.lt_of_lt_of_le hw0 D16.size
          clear T15 D15 W15
          clear d16
          have hub : ((u : Int) == -1) = decide (m < n) := by
            rw [Bool.eq_iff_iff]
            simp only [beq_iff_eq, decide_eq_true_eq]
            rcases Nat.lt_or_ge m n with hl | hl
            · exact ⟨fun _ => by omega, fun _ => ku.1 hl⟩
            · have := ku.2.1 (by have := HM.out; omega)
              exact ⟨fun h => by omega, fun h => by omega⟩
          clear ku
          go_wp2_with fail
          refine (subset_bad b5 b1 m n _ s5.c0 s1.c0 HM.out).mono ?_
          rintro e w17 ⟨rfl, d17⟩
          have s1 := s1.below d17
          have s5 := s5.below d17
          have T17 := hide (T16.out.below d17 W16)
          have D17 := D16.trans (d17.mono D16.size)
          have W17 : 0 < w17.heap.size := Nat.lt_of_lt_of_le hw0 D17.size
          clear T16 D16 W16
          clear d17
          go_wp2_with fail
          refine (equal_bad b5 g5 c5 m 0 b1 g1 c1 n X _ s5 s1 n51 HM.out).mono ?_
          rintro e w18 ⟨rfl, d18⟩
          have s1 := s1.below d18
          have s5 := s5.below d18
          have T18 := hide (T17.out.below d18 W17)
          have D18 := D17.trans (d18.mono D17.size)
          have W18 : 0 < w18.heap.size := Nat.lt_of_lt_of_le hw0 D18.size
          clear T17 D17 W17
          clear d18
          go_wp2_with fail
          refine (meets_bad b5 b1 m n _ s5.c0 s1.c0 HM.out).mono ?_
          rintro e w19 ⟨rfl, d19⟩
          have s1 := s1.below d19
          have s5 := s5.below d19
          have T19 := hide (T18.out.below d19 W18)
          have D19 := D18.trans (d19.mono D18.size)
          have W19 : 0 < w19.heap.size := Nat.lt_of_lt_of_le hw0 D19.size
          clear T18 D18 W18
          clear d19
          go_wp2
          go_ret
          exact ⟨rfl, D19⟩
      · clear hlt2
        go_wp2_with fail
        refine (boundF_b more _ hm1 hm2).mono ?_
        rintro e w8 ⟨rfl, d8⟩
        have s1 := s1.below d8
        have T8 := hide (T7.out.below d8 W7)
        have D8 := D7.trans (d8.mono D7.size)
        have W8 : 0 < w8.heap.size := Nat.lt_of_lt_of_le hw0 D8.size
        clear T7 D7 W7
        clear d8
        have hle2 := boundN_le more
        generalize boundN more = m at *
        go_wp2_with fail
        refine (new_ok m _ hle2).mono ?_
        rintro e w9 ⟨b5, g5, c5, rfl, s5, m1, m2, e5, d9⟩
        have n51 : b5 ≠ b1 := by have := s1.blt; omega
        have s1 := s1.below d9
        have T9 := hide (T8.out.below d9 W8)
        have D9 := D8.trans (d9.mono D8.size)
        have W9 : 0 < w9.heap.size := Nat.lt_of_lt_of_le hw0 D9.size
        clear T8 D8 W8 d9 m1 m2 e5
        go_wp2_with fail
        refine (bound_b b5 m _ s5.c0).mono ?_
        rintro e w10 ⟨rfl, d10⟩
        have s1 := s1.below d10
        have s5 := s5.below d10
        have T10 := hide (T9.out.below d10 W9)
        have D10 := D9.trans (d10.mono D9.size)
        have W10 : 0 < w10.heap.size := Nat.lt_of_lt_of_le hw0 D10.size
        clear T9 D9 W9
        clear d10
        go_wp2_with fail
        refine (bound_b b1 n _ s1.c0).mono ?_
        rintro e w11 ⟨rfl, d11⟩
        have s1 := s1.below d11
        have s5 := s5.below d11
        have T11 := hide (T10.out.below d11 W10)
        have D11 := D10.trans (d11.mono D10.size)
        have W11 : 0 < w11.heap.size := Nat.lt_of_lt_of_le hw0 D11.size
        clear T10 D10 W10
        clear d11
        by_cases hmn : m = n
        · have hmb : ((m : Int) == (n : Int)) = true := by rw [beq_iff_eq]; omega
          clear hmn
          go_wp2
          go_ret
          exact ⟨rfl, D11⟩
        · have hmb : ((m : Int) == (n : Int)) = false := by rw [beq_eq_false_iff_ne]; omega
          have HM := hide hmn
          clear hmn
          go_wp2_with fail
          refine (bound_b b5 m _ s5.c0).mono ?_
          rintro e w12 ⟨rfl, d12⟩
          have s1 := s1.below d12
          have s5 := s5.below d12
          have T12 := hide (T11.out.below d12 W11)
          have D12 := D11.trans (d12.mono D11.size)
          have W12 : 0 < w12.heap.size := Nat.lt_of_lt_of_le hw0 D12.size
          clear T11 D11 W11
          clear d12
          go_wp2_with fail
          refine (bound_b b1 n _ s1.c0).mono ?_
          rintro e w13 ⟨rfl, d13⟩
          have s1 := s1.below d13
          have s5 := s5.below d13
          have T13 := hide (T12.out.below d13 W12)
          have D13 := D12.trans (d13.mono D12.size)
          have W13 : 0 < w13.heap.size := Nat.lt_of_lt_of_le hw0 D13.size
          clear T12 D12 W12
          clear d13
          go_wp2_with fail
          refine (union_bad b5 b1 m n _ s5.c0 s1.c0 HM.out).mono ?_
          rintro e w14 ⟨rfl, d14⟩
          have s1 := s1.below d14
          have s5 := s5.below d14
          have T14 := hide (T13.out.below d14 W13)
          have D14 := D13.trans (d14.mono D13.size)
          have W14 : 0 < w14.heap.size := Nat.lt_of_lt_of_le hw0 D14.size
          clear T13 D13 W13
          clear d14
          go_wp2_with fail
          refine (drop_bad b1 b5 n m _ s1.c0 s5.c0 (fun h => HM.out h.symm)).mono ?_
          rintro e w15 ⟨rfl, d15⟩
          have s1 := s1.below d15
          have s5 := s5.below d15
          have T15 := hide (T14.out.below d15 W14)
          have D15 := D14.trans (d15.mono D14.size)
          have W15 : 0 < w15.heap.size := Nat.lt_of_lt_of_le hw0 D15.size
          clear T14 D14 W14
          clear d15
          go_wp2_with fail
          refine (compare_b b5 g5 c5 m 0 b1 g1 c1 n X _ s5 s1).mono ?_
          rintro e w16 ⟨u, rfl, ku, d16⟩
          have s1 := s1.below d16
          have s5 := s5.below d16
          have T16 := hide (T15.out.below d16 W15)
          have D16 := D15.trans (d16.mono D15.size)
          have W16 : 0 < w16.heap.size := Nat.lt_of_lt_of_le hw0 D16.size
          clear T15 D15 W15
          clear d16
          have hub : ((u : Int) == -1) = decide (m < n) := by
            rw [Bool.eq_iff_iff]
            simp only [beq_iff_eq, decide_eq_true_eq]
            rcases Nat.lt_or_ge m n with hl | hl
            · exact ⟨fun _ => by omega, fun _ => ku.1 hl⟩
            · have := ku.2.1 (by have := HM.out; omega)
              exact ⟨fun h => by omega, fun h => by omega⟩
          clear ku
          go_wp2_with fail
          refine (subset_bad b5 b1 m n _ s5.c0 s1.c0 HM.out).mono ?_
          rintro e w17 ⟨rfl, d17⟩
          have s1 := s1.below d17
          have s5 := s5.below d17
          have T17 := hide (T16.out.below d17 W16)
          have D17 := D16.trans (d17.mono D16.size)
          have W17 : 0 < w17.heap.size := Nat.lt_of_lt_of_le hw0 D17.size
          clear T16 D16 W16
          clear d17
          go_wp2_with fail
          refine (equal_bad b5 g5 c5 m 0 b1 g1 c1 n X _ s5 s1 n51 HM.out).mono ?_
          rintro e w18 ⟨rfl, d18⟩
          have s1 := s1.below d18
          have s5 := s5.below d18
          have T18 := hide (T17.out.below d18 W17)
          have D18 := D17.trans (d18.mono D17.size)
          have W18 : 0 < w18.heap.size := Nat.lt_of_lt_of_le hw0 D18.size
          clear T17 D17 W17
          clear d18
          go_wp2_with fail
          refine (meets_bad b5 b1 m n _ s5.c0 s1.c0 HM.out).mono ?_
          rintro e w19 ⟨rfl, d19⟩
          have s1 := s1.below d19
          have s5 := s5.below d19
          have T19 := hide (T18.out.below d19 W18)
          have D19 := D18.trans (d19.mono D18.size)
          have W19 : 0 < w19.heap.size := Nat.lt_of_lt_of_le hw0 D19.size
          clear T18 D18 W18
          clear d19
          go_wp2
          go_ret
          exact ⟨rfl, D19⟩
    · clear hlt2
      go_wp2_with fail
      refine (boundF_b more _ hm1 hm2).mono ?_
      rintro e w8 ⟨rfl, d8⟩
      have s1 := s1.below d8
      have T8 := hide (T7.out.below d8 W7)
      have D8 := D7.trans (d8.mono D7.size)
      have W8 : 0 < w8.heap.size := Nat.lt_of_lt_of_le hw0 D8.size
      clear T7 D7 W7
      clear d8
      have hle2 := boundN_le more
      generalize boundN more = m at *
      go_wp2_with fail
      refine (new_ok m _ hle2).mono ?_
      rintro e w9 ⟨b5, g5, c5, rfl, s5, m1, m2, e5, d9⟩
      have n51 : b5 ≠ b1 := by have := s1.blt; omega
      have s1 := s1.below d9
      have T9 := hide (T8.out.below d9 W8)
      have D9 := D8.trans (d9.mono D8.size)
      have W9 : 0 < w9.heap.size := Nat.lt_of_lt_of_le hw0 D9.size
      clear T8 D8 W8 d9 m1 m2 e5
      go_wp2_with fail
      refine (bound_b b5 m _ s5.c0).mono ?_
      rintro e w10 ⟨rfl, d10⟩
      have s1 := s1.below d10
      have s5 := s5.below d10
      have T10 := hide (T9.out.below d10 W9)
      have D10 := D9.trans (d10.mono D9.size)
      have W10 : 0 < w10.heap.size := Nat.lt_of_lt_of_le hw0 D10.size
      clear T9 D9 W9
      clear d10
      go_wp2_with fail
      refine (bound_b b1 n _ s1.c0).mono ?_
      rintro e w11 ⟨rfl, d11⟩
      have s1 := s1.below d11
      have s5 := s5.below d11
      have T11 := hide (T10.out.below d11 W10)
      have D11 := D10.trans (d11.mono D10.size)
      have W11 : 0 < w11.heap.size := Nat.lt_of_lt_of_le hw0 D11.size
      clear T10 D10 W10
      clear d11
      by_cases hmn : m = n
      · have hmb : ((m : Int) == (n : Int)) = true := by rw [beq_iff_eq]; omega
        clear hmn
        go_wp2
        go_ret
        exact ⟨rfl, D11⟩
      · have hmb : ((m : Int) == (n : Int)) = false := by rw [beq_eq_false_iff_ne]; omega
        have HM := hide hmn
        clear hmn
        go_wp2_with fail
        refine (bound_b b5 m _ s5.c0).mono ?_
        rintro e w12 ⟨rfl, d12⟩
        have s1 := s1.below d12
        have s5 := s5.below d12
        have T12 := hide (T11.out.below d12 W11)
        have D12 := D11.trans (d12.mono D11.size)
        have W12 : 0 < w12.heap.size := Nat.lt_of_lt_of_le hw0 D12.size
        clear T11 D11 W11
        clear d12
        go_wp2_with fail
        refine (bound_b b1 n _ s1.c0).mono ?_
        rintro e w13 ⟨rfl, d13⟩
        have s1 := s1.below d13
        have s5 := s5.below d13
        have T13 := hide (T12.out.below d13 W12)
        have D13 := D12.trans (d13.mono D12.size)
        have W13 : 0 < w13.heap.size := Nat.lt_of_lt_of_le hw0 D13.size
        clear T12 D12 W12
        clear d13
        go_wp2_with fail
        refine (union_bad b5 b1 m n _ s5.c0 s1.c0 HM.out).mono ?_
        rintro e w14 ⟨rfl, d14⟩
        have s1 := s1.below d14
        have s5 := s5.below d14
        have T14 := hide (T13.out.below d14 W13)
        have D14 := D13.trans (d14.mono D13.size)
        have W14 : 0 < w14.heap.size := Nat.lt_of_lt_of_le hw0 D14.size
        clear T13 D13 W13
        clear d14
        go_wp2_with fail
        refine (drop_bad b1 b5 n m _ s1.c0 s5.c0 (fun h => HM.out h.symm)).mono ?_
        rintro e w15 ⟨rfl, d15⟩
        have s1 := s1.below d15
        have s5 := s5.below d15
        have T15 := hide (T14.out.below d15 W14)
        have D15 := D14.trans (d15.mono D14.size)
        have W15 : 0 < w15.heap.size := Nat.lt_of_lt_of_le hw0 D15.size
        clear T14 D14 W14
        clear d15
        go_wp2_with fail
        refine (compare_b b5 g5 c5 m 0 b1 g1 c1 n X _ s5 s1).mono ?_
        rintro e w16 ⟨u, rfl, ku, d16⟩
        have s1 := s1.below d16
        have s5 := s5.below d16
        have T16 := hide (T15.out.below d16 W15)
        have D16 := D15.trans (d16.mono D15.size)
        have W16 : 0 < w16.heap.size := Nat.lt_of_lt_of_le hw0 D16.size
        clear T15 D15 W15
        clear d16
        have hub : ((u : Int) == -1) = decide (m < n) := by
          rw [Bool.eq_iff_iff]
          simp only [beq_iff_eq, decide_eq_true_eq]
          rcases Nat.lt_or_ge m n with hl | hl
          · exact ⟨fun _ => by omega, fun _ => ku.1 hl⟩
          · have := ku.2.1 (by have := HM.out; omega)
            exact ⟨fun h => by omega, fun h => by omega⟩
        clear ku
        go_wp2_with fail
        refine (subset_bad b5 b1 m n _ s5.c0 s1.c0 HM.out).mono ?_
        rintro e w17 ⟨rfl, d17⟩
        have s1 := s1.below d17
        have s5 := s5.below d17
        have T17 := hide (T16.out.below d17 W16)
        have D17 := D16.trans (d17.mono D16.size)
        have W17 : 0 < w17.heap.size := Nat.lt_of_lt_of_le hw0 D17.size
        clear T16 D16 W16
        clear d17
        go_wp2_with fail
        refine (equal_bad b5 g5 c5 m 0 b1 g1 c1 n X _ s5 s1 n51 HM.out).mono ?_
        rintro e w18 ⟨rfl, d18⟩
        have s1 := s1.below d18
        have s5 := s5.below d18
        have T18 := hide (T17.out.below d18 W17)
        have D18 := D17.trans (d18.mono D17.size)
        have W18 : 0 < w18.heap.size := Nat.lt_of_lt_of_le hw0 D18.size
        clear T17 D17 W17
        clear d18
        go_wp2_with fail
        refine (meets_bad b5 b1 m n _ s5.c0 s1.c0 HM.out).mono ?_
        rintro e w19 ⟨rfl, d19⟩
        have s1 := s1.below d19
        have s5 := s5.below d19
        have T19 := hide (T18.out.below d19 W18)
        have D19 := D18.trans (d19.mono D18.size)
        have W19 : 0 < w19.heap.size := Nat.lt_of_lt_of_le hw0 D19.size
        clear T18 D18 W18
        clear d19
        go_wp2
        go_ret
        exact ⟨rfl, D19⟩
  · have hp0 : p = 0 := by simpa using hzb
    have hqr := HP.out hp0
    subst hqr
    have HP0 := hide hp0
    subst hp0
    clear HL HP HZ Kp Kq Kr HP0
    by_cases hq : q ≤ 0
    · by_cases hq0 : q = 0
      · subst hq0
        go_wp2_with fail
        refine (boundF_b more _ hm1 hm2).mono ?_
        rintro e w8 ⟨rfl, d8⟩
        have s1 := s1.below d8
        have T8 := hide (T7.out.below d8 W7)
        have D8 := D7.trans (d8.mono D7.size)
        have W8 : 0 < w8.heap.size := Nat.lt_of_lt_of_le hw0 D8.size
        clear T7 D7 W7
        clear d8
        have hle2 := boundN_le more
        generalize boundN more = m at *
        go_wp2_with fail
        refine (new_ok m _ hle2).mono ?_
        rintro e w9 ⟨b5, g5, c5, rfl, s5, m1, m2, e5, d9⟩
        have n51 : b5 ≠ b1 := by have := s1.blt; omega
        have s1 := s1.below d9
        have T9 := hide (T8.out.below d9 W8)
        have D9 := D8.trans (d9.mono D8.size)
        have W9 : 0 < w9.heap.size := Nat.lt_of_lt_of_le hw0 D9.size
        clear T8 D8 W8 d9 m1 m2 e5
        go_wp2_with fail
        refine (bound_b b5 m _ s5.c0).mono ?_
        rintro e w10 ⟨rfl, d10⟩
        have s1 := s1.below d10
        have s5 := s5.below d10
        have T10 := hide (T9.out.below d10 W9)
        have D10 := D9.trans (d10.mono D9.size)
        have W10 : 0 < w10.heap.size := Nat.lt_of_lt_of_le hw0 D10.size
        clear T9 D9 W9
        clear d10
        go_wp2_with fail
        refine (bound_b b1 n _ s1.c0).mono ?_
        rintro e w11 ⟨rfl, d11⟩
        have s1 := s1.below d11
        have s5 := s5.below d11
        have T11 := hide (T10.out.below d11 W10)
        have D11 := D10.trans (d11.mono D10.size)
        have W11 : 0 < w11.heap.size := Nat.lt_of_lt_of_le hw0 D11.size
        clear T10 D10 W10
        clear d11
        by_cases hmn : m = n
        · have hmb : ((m : Int) == (n : Int)) = true := by rw [beq_iff_eq]; omega
          clear hmn
          go_wp2
          go_ret
          exact ⟨rfl, D11⟩
        · have hmb : ((m : Int) == (n : Int)) = false := by rw [beq_eq_false_iff_ne]; omega
          have HM := hide hmn
          clear hmn
          go_wp2_with fail
          refine (bound_b b5 m _ s5.c0).mono ?_
          rintro e w12 ⟨rfl, d12⟩
          have s1 := s1.below d12
          have s5 := s5.below d12
          have T12 := hide (T11.out.below d12 W11)
          have D12 := D11.trans (d12.mono D11.size)
          have W12 : 0 < w12.heap.size := Nat.lt_of_lt_of_le hw0 D12.size
          clear T11 D11 W11
          clear d12
          go_wp2_with fail
          refine (bound_b b1 n _ s1.c0).mono ?_
          rintro e w13 ⟨rfl, d13⟩
          have s1 := s1.below d13
          have s5 := s5.below d13
          have T13 := hide (T12.out.below d13 W12)
          have D13 := D12.trans (d13.mono D12.size)
          have W13 : 0 < w13.heap.size := Nat.lt_of_lt_of_le hw0 D13.size
          clear T12 D12 W12
          clear d13
          go_wp2_with fail
          refine (union_bad b5 b1 m n _ s5.c0 s1.c0 HM.out).mono ?_
          rintro e w14 ⟨rfl, d14⟩
          have s1 := s1.below d14
          have s5 := s5.below d14
          have T14 := hide (T13.out.below d14 W13)
          have D14 := D13.trans (d14.mono D13.size)
          have W14 : 0 < w14.heap.size := Nat.lt_of_lt_of_le hw0 D14.size
          clear T13 D13 W13
          clear d14
          go_wp2_with fail
          refine (drop_bad b1 b5 n m _ s1.c0 s5.c0 (fun h => HM.out h.symm)).mono ?_
          rintro e w15 ⟨rfl, d15⟩
          have s1 := s1.below d15
          have s5 := s5.below d15
          have T15 := hide (T14.out.below d15 W14)
          have D15 := D14.trans (d15.mono D14.size)
          have W15 : 0 < w15.heap.size := Nat.lt_of_lt_of_le hw0 D15.size
          clear T14 D14 W14
          clear d15
          go_wp2_with fail
          refine (compare_b b5 g5 c5 m 0 b1 g1 c1 n X _ s5 s1).mono ?_
          rintro e w16 ⟨u, rfl, ku, d16⟩
          have s1 := s1.below d16
          have s5 := s5.below d16
          have T16 := hide (T15.out.below d16 W15)
          have D16 := D15.trans (d16.mono D15.size)
          have W16 : 0 < w16.heap.size := Nat.lt_of_lt_of_le hw0 D16.size
          clear T15 D15 W15
          clear d16
          have hub : ((u : Int) == -1) = decide (m < n) := by
            rw [Bool.eq_iff_iff]
            simp only [beq_iff_eq, decide_eq_true_eq]
            rcases Nat.lt_or_ge m n with hl | hl
            · exact ⟨fun _ => by omega, fun _ => ku.1 hl⟩
            · have := ku.2.1 (by have := HM.out; omega)
              exact ⟨fun h => by omega, fun h => by omega⟩
          clear ku
          go_wp2_with fail
          refine (subset_bad b5 b1 m n _ s5.c0 s1.c0 HM.out).mono ?_
          rintro e w17 ⟨rfl, d17⟩
          have s1 := s1.below d17
          have s5 := s5.below d17
          have T17 := hide (T16.out.below d17 W16)
          have D17 := D16.trans (d17.mono D16.size)
          have W17 : 0 < w17.heap.size := Nat.lt_of_lt_of_le hw0 D17.size
          clear T16 D16 W16
          clear d17
          go_wp2_with fail
          refine (equal_bad b5 g5 c5 m 0 b1 g1 c1 n X _ s5 s1 n51 HM.out).mono ?_
          rintro e w18 ⟨rfl, d18⟩
          have s1 := s1.below d18
          have s5 := s5.below d18
          have T18 := hide (T17.out.below d18 W17)
          have D18 := D17.trans (d18.mono D17.size)
          have W18 : 0 < w18.heap.size := Nat.lt_of_lt_of_le hw0 D18.size
          clear T17 D17 W17
          clear d18
          go_wp2_with fail
          refine (meets_bad b5 b1 m n _ s5.c0 s1.c0 HM.out).mono ?_
          rintro e w19 ⟨rfl, d19⟩
          have s1 := s1.below d19
          have s5 := s5.below d19
          have T19 := hide (T18.out.below d19 W18)
          have D19 := D18.trans (d19.mono D18.size)
          have W19 : 0 < w19.heap.size := Nat.lt_of_lt_of_le hw0 D19.size
          clear T18 D18 W18
          clear d19
          go_wp2
          go_ret
          exact ⟨rfl, D19⟩
      · have hqb : ((q : Int) == 0) = false := by rw [beq_eq_false_iff_ne]; omega
        go_wp2_with fail
        refine (boundF_b more _ hm1 hm2).mono ?_
        rintro e w8 ⟨rfl, d8⟩
        have s1 := s1.below d8
        have T8 := hide (T7.out.below d8 W7)
        have D8 := D7.trans (d8.mono D7.size)
        have W8 : 0 < w8.heap.size := Nat.lt_of_lt_of_le hw0 D8.size
        clear T7 D7 W7
        clear d8
        have hle2 := boundN_le more
        generalize boundN more = m at *
        go_wp2_with fail
        refine (new_ok m _ hle2).mono ?_
        rintro e w9 ⟨b5, g5, c5, rfl, s5, m1, m2, e5, d9⟩
        have n51 : b5 ≠ b1 := by have := s1.blt; omega
        have s1 := s1.below d9
        have T9 := hide (T8.out.below d9 W8)
        have D9 := D8.trans (d9.mono D8.size)
        have W9 : 0 < w9.heap.size := Nat.lt_of_lt_of_le hw0 D9.size
        clear T8 D8 W8 d9 m1 m2 e5
        go_wp2_with fail
        refine (bound_b b5 m _ s5.c0).mono ?_
        rintro e w10 ⟨rfl, d10⟩
        have s1 := s1.below d10
        have s5 := s5.below d10
        have T10 := hide (T9.out.below d10 W9)
        have D10 := D9.trans (d10.mono D9.size)
        have W10 : 0 < w10.heap.size := Nat.lt_of_lt_of_le hw0 D10.size
        clear T9 D9 W9
        clear d10
        go_wp2_with fail
        refine (bound_b b1 n _ s1.c0).mono ?_
        rintro e w11 ⟨rfl, d11⟩
        have s1 := s1.below d11
        have s5 := s5.below d11
        have T11 := hide (T10.out.below d11 W10)
        have D11 := D10.trans (d11.mono D10.size)
        have W11 : 0 < w11.heap.size := Nat.lt_of_lt_of_le hw0 D11.size
        clear T10 D10 W10
        clear d11
        by_cases hmn : m = n
        · have hmb : ((m : Int) == (n : Int)) = true := by rw [beq_iff_eq]; omega
          clear hmn
          go_wp2
          go_ret
          exact ⟨rfl, D11⟩
        · have hmb : ((m : Int) == (n : Int)) = false := by rw [beq_eq_false_iff_ne]; omega
          have HM := hide hmn
          clear hmn
          go_wp2_with fail
          refine (bound_b b5 m _ s5.c0).mono ?_
          rintro e w12 ⟨rfl, d12⟩
          have s1 := s1.below d12
          have s5 := s5.below d12
          have T12 := hide (T11.out.below d12 W11)
          have D12 := D11.trans (d12.mono D11.size)
          have W12 : 0 < w12.heap.size := Nat.lt_of_lt_of_le hw0 D12.size
          clear T11 D11 W11
          clear d12
          go_wp2_with fail
          refine (bound_b b1 n _ s1.c0).mono ?_
          rintro e w13 ⟨rfl, d13⟩
          have s1 := s1.below d13
          have s5 := s5.below d13
          have T13 := hide (T12.out.below d13 W12)
          have D13 := D12.trans (d13.mono D12.size)
          have W13 : 0 < w13.heap.size := Nat.lt_of_lt_of_le hw0 D13.size
          clear T12 D12 W12
          clear d13
          go_wp2_with fail
          refine (union_bad b5 b1 m n _ s5.c0 s1.c0 HM.out).mono ?_
          rintro e w14 ⟨rfl, d14⟩
          have s1 := s1.below d14
          have s5 := s5.below d14
          have T14 := hide (T13.out.below d14 W13)
          have D14 := D13.trans (d14.mono D13.size)
          have W14 : 0 < w14.heap.size := Nat.lt_of_lt_of_le hw0 D14.size
          clear T13 D13 W13
          clear d14
          go_wp2_with fail
          refine (drop_bad b1 b5 n m _ s1.c0 s5.c0 (fun h => HM.out h.symm)).mono ?_
          rintro e w15 ⟨rfl, d15⟩
          have s1 := s1.below d15
          have s5 := s5.below d15
          have T15 := hide (T14.out.below d15 W14)
          have D15 := D14.trans (d15.mono D14.size)
          have W15 : 0 < w15.heap.size := Nat.lt_of_lt_of_le hw0 D15.size
          clear T14 D14 W14
          clear d15
          go_wp2_with fail
          refine (compare_b b5 g5 c5 m 0 b1 g1 c1 n X _ s5 s1).mono ?_
          rintro e w16 ⟨u, rfl, ku, d16⟩
          have s1 := s1.below d16
          have s5 := s5.below d16
          have T16 := hide (T15.out.below d16 W15)
          have D16 := D15.trans (d16.mono D15.size)
          have W16 : 0 < w16.heap.size := Nat.lt_of_lt_of_le hw0 D16.size
          clear T15 D15 W15
          clear d16
          have hub : ((u : Int) == -1) = decide (m < n) := by
            rw [Bool.eq_iff_iff]
            simp only [beq_iff_eq, decide_eq_true_eq]
            rcases Nat.lt_or_ge m n with hl | hl
            · exact ⟨fun _ => by omega, fun _ => ku.1 hl⟩
            · have := ku.2.1 (by have := HM.out; omega)
              exact ⟨fun h => by omega, fun h => by omega⟩
          clear ku
          go_wp2_with fail
          refine (subset_bad b5 b1 m n _ s5.c0 s1.c0 HM.out).mono ?_
          rintro e w17 ⟨rfl, d17⟩
          have s1 := s1.below d17
          have s5 := s5.below d17
          have T17 := hide (T16.out.below d17 W16)
          have D17 := D16.trans (d17.mono D16.size)
          have W17 : 0 < w17.heap.size := Nat.lt_of_lt_of_le hw0 D17.size
          clear T16 D16 W16
          clear d17
          go_wp2_with fail
          refine (equal_bad b5 g5 c5 m 0 b1 g1 c1 n X _ s5 s1 n51 HM.out).mono ?_
          rintro e w18 ⟨rfl, d18⟩
          have s1 := s1.below d18
          have s5 := s5.below d18
          have T18 := hide (T17.out.below d18 W17)
          have D18 := D17.trans (d18.mono D17.size)
          have W18 : 0 < w18.heap.size := Nat.lt_of_lt_of_le hw0 D18.size
          clear T17 D17 W17
          clear d18
          go_wp2_with fail
          refine (meets_bad b5 b1 m n _ s5.c0 s1.c0 HM.out).mono ?_
          rintro e w19 ⟨rfl, d19⟩
          have s1 := s1.below d19
          have s5 := s5.below d19
          have T19 := hide (T18.out.below d19 W18)
          have D19 := D18.trans (d19.mono D18.size)
          have W19 : 0 < w19.heap.size := Nat.lt_of_lt_of_le hw0 D19.size
          clear T18 D18 W18
          clear d19
          go_wp2
          go_ret
          exact ⟨rfl, D19⟩
    · go_wp2_with fail
      refine (boundF_b more _ hm1 hm2).mono ?_
      rintro e w8 ⟨rfl, d8⟩
      have s1 := s1.below d8
      have T8 := hide (T7.out.below d8 W7)
      have D8 := D7.trans (d8.mono D7.size)
      have W8 : 0 < w8.heap.size := Nat.lt_of_lt_of_le hw0 D8.size
      clear T7 D7 W7
      clear d8
      have hle2 := boundN_le more
      generalize boundN more = m at *
      go_wp2_with fail
      refine (new_ok m _ hle2).mono ?_
      rintro e w9 ⟨b5, g5, c5, rfl, s5, m1, m2, e5, d9⟩
      have n51 : b5 ≠ b1 := by have := s1.blt; omega
      have s1 := s1.below d9
      have T9 := hide (T8.out.below d9 W8)
      have D9 := D8.trans (d9.mono D8.size)
      have W9 : 0 < w9.heap.size := Nat.lt_of_lt_of_le hw0 D9.size
      clear T8 D8 W8 d9 m1 m2 e5
      go_wp2_with fail
      refine (bound_b b5 m _ s5.c0).mono ?_
      rintro e w10 ⟨rfl, d10⟩
      have s1 := s1.below d10
      have s5 := s5.below d10
      have T10 := hide (T9.out.below d10 W9)
      have D10 := D9.trans (d10.mono D9.size)
      have W10 : 0 < w10.heap.size := Nat.lt_of_lt_of_le hw0 D10.size
      clear T9 D9 W9
      clear d10
      go_wp2_with fail
      refine (bound_b b1 n _ s1.c0).mono ?_
      rintro e w11 ⟨rfl, d11⟩
      have s1 := s1.below d11
      have s5 := s5.below d11
      have T11 := hide (T10.out.below d11 W10)
      have D11 := D10.trans (d11.mono D10.size)
      have W11 : 0 < w11.heap.size := Nat.lt_of_lt_of_le hw0 D11.size
      clear T10 D10 W10
      clear d11
      by_cases hmn : m = n
      · have hmb : ((m : Int) == (n : Int)) = true := by rw [beq_iff_eq]; omega
        clear hmn
        go_wp2
        go_ret
        exact ⟨rfl, D11⟩
      · have hmb : ((m : Int) == (n : Int)) = false := by rw [beq_eq_false_iff_ne]; omega
        have HM := hide hmn
        clear hmn
        go_wp2_with fail
        refine (bound_b b5 m _ s5.c0).mono ?_
        rintro e w12 ⟨rfl, d12⟩
        have s1 := s1.below d12
        have s5 := s5.below d12
        have T12 := hide (T11.out.below d12 W11)
        have D12 := D11.trans (d12.mono D11.size)
        have W12 : 0 < w12.heap.size := Nat.lt_of_lt_of_le hw0 D12.size
        clear T11 D11 W11
        clear d12
        go_wp2_with fail
        refine (bound_b b1 n _ s1.c0).mono ?_
        rintro e w13 ⟨rfl, d13⟩
        have s1 := s1.below d13
        have s5 := s5.below d13
        have T13 := hide (T12.out.below d13 W12)
        have D13 := D12.trans (d13.mono D12.size)
        have W13 : 0 < w13.heap.size := Nat.lt_of_lt_of_le hw0 D13.size
        clear T12 D12 W12
        clear d13
        go_wp2_with fail
        refine (union_bad b5 b1 m n _ s5.c0 s1.c0 HM.out).mono ?_
        rintro e w14 ⟨rfl, d14⟩
        have s1 := s1.below d14
        have s5 := s5.below d14
        have T14 := hide (T13.out.below d14 W13)
        have D14 := D13.trans (d14.mono D13.size)
        have W14 : 0 < w14.heap.size := Nat.lt_of_lt_of_le hw0 D14.size
        clear T13 D13 W13
        clear d14
        go_wp2_with fail
        refine (drop_bad b1 b5 n m _ s1.c0 s5.c0 (fun h => HM.out h.symm)).mono ?_
        rintro e w15 ⟨rfl, d15⟩
        have s1 := s1.below d15
        have s5 := s5.below d15
        have T15 := hide (T14.out.below d15 W14)
        have D15 := D14.trans (d15.mono D14.size)
        have W15 : 0 < w15.heap.size := Nat.lt_of_lt_of_le hw0 D15.size
        clear T14 D14 W14
        clear d15
        go_wp2_with fail
        refine (compare_b b5 g5 c5 m 0 b1 g1 c1 n X _ s5 s1).mono ?_
        rintro e w16 ⟨u, rfl, ku, d16⟩
        have s1 := s1.below d16
        have s5 := s5.below d16
        have T16 := hide (T15.out.below d16 W15)
        have D16 := D15.trans (d16.mono D15.size)
        have W16 : 0 < w16.heap.size := Nat.lt_of_lt_of_le hw0 D16.size
        clear T15 D15 W15
        clear d16
        have hub : ((u : Int) == -1) = decide (m < n) := by
          rw [Bool.eq_iff_iff]
          simp only [beq_iff_eq, decide_eq_true_eq]
          rcases Nat.lt_or_ge m n with hl | hl
          · exact ⟨fun _ => by omega, fun _ => ku.1 hl⟩
          · have := ku.2.1 (by have := HM.out; omega)
            exact ⟨fun h => by omega, fun h => by omega⟩
        clear ku
        go_wp2_with fail
        refine (subset_bad b5 b1 m n _ s5.c0 s1.c0 HM.out).mono ?_
        rintro e w17 ⟨rfl, d17⟩
        have s1 := s1.below d17
        have s5 := s5.below d17
        have T17 := hide (T16.out.below d17 W16)
        have D17 := D16.trans (d17.mono D16.size)
        have W17 : 0 < w17.heap.size := Nat.lt_of_lt_of_le hw0 D17.size
        clear T16 D16 W16
        clear d17
        go_wp2_with fail
        refine (equal_bad b5 g5 c5 m 0 b1 g1 c1 n X _ s5 s1 n51 HM.out).mono ?_
        rintro e w18 ⟨rfl, d18⟩
        have s1 := s1.below d18
        have s5 := s5.below d18
        have T18 := hide (T17.out.below d18 W17)
        have D18 := D17.trans (d18.mono D17.size)
        have W18 : 0 < w18.heap.size := Nat.lt_of_lt_of_le hw0 D18.size
        clear T17 D17 W17
        clear d18
        go_wp2_with fail
        refine (meets_bad b5 b1 m n _ s5.c0 s1.c0 HM.out).mono ?_
        rintro e w19 ⟨rfl, d19⟩
        have s1 := s1.below d19
        have s5 := s5.below d19
        have T19 := hide (T18.out.below d19 W18)
        have D19 := D18.trans (d19.mono D18.size)
        have W19 : 0 < w19.heap.size := Nat.lt_of_lt_of_le hw0 D19.size
        clear T18 D18 W18
        clear d19
        go_wp2
        go_ret
        exact ⟨rfl, D19⟩
end Go.Proofs.YtdgmokelmocejaaDoor
