import Derived.Test.YtdgmokelmocejabDoorClrP
namespace Go.Proofs.YtdgmokelmocejabDoor
open Go.RowKit

set_option maxRecDepth 100000 in
set_option maxHeartbeats 1000000 in
theorem mix_and_g (b1 g1 c1 n X b2 g2 c2 Y : Nat) (w : World) (h1 : IsSet w b1 g1 c1 n X) (h2 : IsSet w b2 g2 c2 n Y) (n1 : b1 ≠ g1) (n2 : b2 ≠ g1) (n3 : g2 ≠ g1) :
    Calls Tryd.prog 30 #[.pointer (some ⟨b1, 0, none⟩), .pointer (some ⟨b2, 0, none⟩), .func (.func 32) #[] #[]] w fun e w' => e = .returned (.int .i64 0) ∧ IsSet w' b1 g1 c1 n (X &&& Y) ∧ w.grownBy w' (some g1) := by
  have hn := h1.hn
  have hnw := nw_le hn
  have HX := hide (And.intro h1.hX h2.hX)
  have HO := hide op_and
  go_enter Tryd.func30, Tryd.ntmps30
  go_wp2_with fail
  refine (alike_yes b1 b2 n _ h1.c0 h2.c0).mono ?_
  rintro e w1 ⟨rfl, q, rfl⟩
  have s1 := h1.below (below_drewN' (Below.refl _ _) q)
  have s2 := h2.below (below_drewN' (Below.refl _ _) q)
  have d1 : w.grownBy (w.drewN q) (some g1) := g_drewN (g_refl _ _) q
  have a1 := s1.c1
  clear h1 h2
  go_wp2
  go_loopw [18] (fun i wr => ∃ k : Nat, k ≤ nw n ∧ i = .int .i64 k ∧ IsSet wr b1 g1 c1 n (mixTo (X &&& Y) X k) ∧ IsSet wr b2 g2 c2 n Y ∧ w.grownBy wr (some g1)) (fun i _ => nw n - (intOf i).toNat)
  case atStart => exact ⟨0, Nat.zero_le _, rfl, by rw [mixTo_zero]; exact s1, s2, d1⟩
  case round =>
    obtain ⟨k, hk, rfl, t1, t2, dr⟩ := hrel
    clear s1 s2 d1 a1
    by_cases hlt : k < nw n
    · have x0 := t1.word k hlt
      rw [mixTo_word, if_neg (by omega)] at x0
      have y0 := t2.word k hlt
      have u1 := t1.c1
      have u2 := t2.c1
      have lx := wordAt_lt X k
      have ly := wordAt_lt Y k
      have hf : wr.frozen? ⟨g1, k, none⟩ = false := t1.own.frozenAt _
      have i0 : (0 : Int) ≤ (k : Int) := by omega
      have i1 : (k : Int) < (nw n : Int) := by omega
      have HT := hide (And.intro t1 (And.intro t2 dr))
      clear t1 t2 dr
      go_wp2_with fail
      go_region_held3 (fun w' => w'.cell? ⟨b1, 1, none⟩ = some (.slice (some ⟨g1, 0, none⟩) (nw n) c1) ∧ w'.cell? ⟨b2, 1, none⟩ = some (.slice (some ⟨g2, 0, none⟩) (nw n) c2) ∧ w'.cell? ⟨g2, k, none⟩ = some (.int .u64 (wordAt Y k)))
        (first | exact keep3 n1 n2 n3 ⟨u1, u2, y0⟩ | go_keep)
        ((go_at_call 32; refine (both_any (wordAt X k) (wordAt Y k) _ lx ly).mono ?_; rintro e w' ⟨rfl, rfl⟩))
      go_wp2
      go_roundw
      case rel =>
        have g := (HT.out.1.own.stored k (.int .u64 ((wordAt X k &&& wordAt Y k : Nat) : Int))).2
        refine ⟨k + 1, by omega, by go_num, ?_, ?_, ?_⟩
        · exact IsSet.drew (HT.out.1.store n1 hlt (mixTo_lt (HO.out.lt HX.out.1 HX.out.2) HX.out.1) (fun i _ hne => by rw [mixTo_word, mixTo_word]; by_cases h : i < k <;> by_cases h' : i < k + 1 <;> simp [h, h'] <;> omega) (by rw [mixTo_word, if_pos (by omega), HO.out.word]))
        · exact IsSet.drew (HT.out.2.1.other g n2 n3)
        · exact g_drew (g_set HT.out.2.2 _ _)
      case measure => simp [intOf]; omega
    · go_wp2
      go_ret
      have hke : k = nw n := by omega
      subst hke
      rw [mixTo_full (HO.out.lt HX.out.1 HX.out.2) HX.out.1] at t1
      exact ⟨rfl, t1, dr⟩


set_option maxRecDepth 100000 in
set_option maxHeartbeats 1000000 in
theorem cut_g (b1 g1 c1 n X b2 g2 c2 Y : Nat) (w : World) (h1 : IsSet w b1 g1 c1 n X) (h2 : IsSet w b2 g2 c2 n Y) (n1 : b1 ≠ g1) (n2 : b2 ≠ g1) (n3 : g2 ≠ g1) :
    Calls Tryd.prog 10 #[.pointer (some ⟨b1, 0, none⟩), .pointer (some ⟨b2, 0, none⟩)] w fun e w' => e = .returned (.int .i64 0) ∧ IsSet w' b1 g1 c1 n (X &&& Y) ∧ w.grownBy w' (some g1) := by
  go_enter Tryd.func10, Tryd.ntmps10
  go_wp2_with fail
  refine (mix_and_g b1 g1 c1 n X b2 g2 c2 Y _ h1 h2 n1 n2 n3).mono ?_
  rintro e w1 ⟨rfl, s, d⟩
  clear h1 h2
  go_wp2
  go_ret
  exact ⟨rfl, s, d⟩
set_option maxRecDepth 100000 in
set_option maxHeartbeats 1000000 in
theorem mix_minus_g (b1 g1 c1 n X b2 g2 c2 Y : Nat) (w : World) (h1 : IsSet w b1 g1 c1 n X) (h2 : IsSet w b2 g2 c2 n Y) (n1 : b1 ≠ g1) (n2 : b2 ≠ g1) (n3 : g2 ≠ g1) :
    Calls Tryd.prog 30 #[.pointer (some ⟨b1, 0, none⟩), .pointer (some ⟨b2, 0, none⟩), .func (.func 33) #[] #[]] w fun e w' => e = .returned (.int .i64 0) ∧ IsSet w' b1 g1 c1 n (minusN X Y) ∧ w.grownBy w' (some g1) := by
  have hn := h1.hn
  have hnw := nw_le hn
  have HX := hide (And.intro h1.hX h2.hX)
  have HO := hide op_minus
  go_enter Tryd.func30, Tryd.ntmps30
  go_wp2_with fail
  refine (alike_yes b1 b2 n _ h1.c0 h2.c0).mono ?_
  rintro e w1 ⟨rfl, q, rfl⟩
  have s1 := h1.below (below_drewN' (Below.refl _ _) q)
  have s2 := h2.below (below_drewN' (Below.refl _ _) q)
  have d1 : w.grownBy (w.drewN q) (some g1) := g_drewN (g_refl _ _) q
  have a1 := s1.c1
  clear h1 h2
  go_wp2
  go_loopw [18] (fun i wr => ∃ k : Nat, k ≤ nw n ∧ i = .int .i64 k ∧ IsSet wr b1 g1 c1 n (mixTo (minusN X Y) X k) ∧ IsSet wr b2 g2 c2 n Y ∧ w.grownBy wr (some g1)) (fun i _ => nw n - (intOf i).toNat)
  case atStart => exact ⟨0, Nat.zero_le _, rfl, by rw [mixTo_zero]; exact s1, s2, d1⟩
  case round =>
    obtain ⟨k, hk, rfl, t1, t2, dr⟩ := hrel
    clear s1 s2 d1 a1
    by_cases hlt : k < nw n
    · have x0 := t1.word k hlt
      rw [mixTo_word, if_neg (by omega)] at x0
      have y0 := t2.word k hlt
      have u1 := t1.c1
      have u2 := t2.c1
      have lx := wordAt_lt X k
      have ly := wordAt_lt Y k
      have hf : wr.frozen? ⟨g1, k, none⟩ = false := t1.own.frozenAt _
      have i0 : (0 : Int) ≤ (k : Int) := by omega
      have i1 : (k : Int) < (nw n : Int) := by omega
      have HT := hide (And.intro t1 (And.intro t2 dr))
      clear t1 t2 dr
      go_wp2_with fail
      go_region_held3 (fun w' => w'.cell? ⟨b1, 1, none⟩ = some (.slice (some ⟨g1, 0, none⟩) (nw n) c1) ∧ w'.cell? ⟨b2, 1, none⟩ = some (.slice (some ⟨g2, 0, none⟩) (nw n) c2) ∧ w'.cell? ⟨g2, k, none⟩ = some (.int .u64 (wordAt Y k)))
        (first | exact keep3 n1 n2 n3 ⟨u1, u2, y0⟩ | go_keep)
        ((go_at_call 33; refine (first_any (wordAt X k) (wordAt Y k) _ lx ly).mono ?_; rintro e w' ⟨rfl, rfl⟩))
      go_wp2
      go_roundw
      case rel =>
        have g := (HT.out.1.own.stored k (.int .u64 ((minusN (wordAt X k) (wordAt Y k) : Nat) : Int))).2
        refine ⟨k + 1, by omega, by go_num, ?_, ?_, ?_⟩
        · exact IsSet.drew (HT.out.1.store n1 hlt (mixTo_lt (HO.out.lt HX.out.1 HX.out.2) HX.out.1) (fun i _ hne => by rw [mixTo_word, mixTo_word]; by_cases h : i < k <;> by_cases h' : i < k + 1 <;> simp [h, h'] <;> omega) (by rw [mixTo_word, if_pos (by omega), HO.out.word]))
        · exact IsSet.drew (HT.out.2.1.other g n2 n3)
        · exact g_drew (g_set HT.out.2.2 _ _)
      case measure => simp [intOf]; omega
    · go_wp2
      go_ret
      have hke : k = nw n := by omega
      subst hke
      rw [mixTo_full (HO.out.lt HX.out.1 HX.out.2) HX.out.1] at t1
      exact ⟨rfl, t1, dr⟩


set_option maxRecDepth 100000 in
set_option maxHeartbeats 1000000 in
theorem drop_g (b1 g1 c1 n X b2 g2 c2 Y : Nat) (w : World) (h1 : IsSet w b1 g1 c1 n X) (h2 : IsSet w b2 g2 c2 n Y) (n1 : b1 ≠ g1) (n2 : b2 ≠ g1) (n3 : g2 ≠ g1) :
    Calls Tryd.prog 11 #[.pointer (some ⟨b1, 0, none⟩), .pointer (some ⟨b2, 0, none⟩)] w fun e w' => e = .returned (.int .i64 0) ∧ IsSet w' b1 g1 c1 n (minusN X Y) ∧ w.grownBy w' (some g1) := by
  go_enter Tryd.func11, Tryd.ntmps11
  go_wp2_with fail
  refine (mix_minus_g b1 g1 c1 n X b2 g2 c2 Y _ h1 h2 n1 n2 n3).mono ?_
  rintro e w1 ⟨rfl, s, d⟩
  clear h1 h2
  go_wp2
  go_ret
  exact ⟨rfl, s, d⟩

theorem either_self (x : Nat) (w : World) (hx : x < 18446744073709551616) :
    Calls Tryd.prog 31 #[.int .u64 x, .int .u64 x] w fun e w' => e = .returned (.int .u64 x) ∧ w' = w :=
  (either_any x x w hx hx).mono fun _ _ h => ⟨by rw [h.1, Nat.or_self], h.2⟩
theorem both_self (x : Nat) (w : World) (hx : x < 18446744073709551616) :
    Calls Tryd.prog 32 #[.int .u64 x, .int .u64 x] w fun e w' => e = .returned (.int .u64 x) ∧ w' = w :=
  (both_any x x w hx hx).mono fun _ _ h => ⟨by rw [h.1, Nat.and_self], h.2⟩
theorem minusN_self (x : Nat) : minusN x x = 0 := by unfold minusN; rw [Nat.and_self, Nat.xor_self]
theorem first_self (x : Nat) (w : World) (hx : x < 18446744073709551616) :
    Calls Tryd.prog 33 #[.int .u64 x, .int .u64 x] w fun e w' => e = .returned (.int .u64 0) ∧ w' = w :=
  (first_any x x w hx hx).mono fun _ _ h => ⟨by rw [h.1, minusN_self]; rfl, h.2⟩

theorem keepX {w : World} {b1 g1 k : Nat} {v1 u : Value} (n1 : b1 ≠ g1)
    (h : w.cell? ⟨b1, 1, none⟩ = some v1 ∧ w.cell? ⟨g1, k, none⟩ = some u) :
    (w.setCell ⟨g1, k, none⟩ u).drew.cell? ⟨b1, 1, none⟩ = some v1 ∧ (w.setCell ⟨g1, k, none⟩ u).drew.cell? ⟨g1, k, none⟩ = some u :=
  ⟨(World.cell?_of_block (Below.heap_setCell w ⟨g1, k, none⟩ u b1 n1)).trans h.1, World.cell?_setCell_same w _ _ h.2⟩

set_option maxRecDepth 100000 in
set_option maxHeartbeats 1000000 in
theorem mix_or_self (b1 g1 c1 n X : Nat) (w : World) (h1 : IsSet w b1 g1 c1 n X) (n1 : b1 ≠ g1) :
    Calls Tryd.prog 30 #[.pointer (some ⟨b1, 0, none⟩), .pointer (some ⟨b1, 0, none⟩), .func (.func 31) #[] #[]] w fun e w' => e = .returned (.int .i64 0) ∧ IsSet w' b1 g1 c1 n X ∧ w.grownBy w' (some g1) := by
  have hn := h1.hn
  have hnw := nw_le hn
  have HX := hide h1.hX
  go_enter Tryd.func30, Tryd.ntmps30
  go_wp2_with fail
  refine (alike_yes b1 b1 n _ h1.c0 h1.c0).mono ?_
  rintro e w1 ⟨rfl, q, rfl⟩
  have s1 := h1.below (below_drewN' (Below.refl _ _) q)
  have d1 : w.grownBy (w.drewN q) (some g1) := g_drewN (g_refl _ _) q
  have a1 := s1.c1
  clear h1
  go_wp2
  go_loopw [18] (fun i wr => ∃ k : Nat, k ≤ nw n ∧ i = .int .i64 k ∧ IsSet wr b1 g1 c1 n X ∧ w.grownBy wr (some g1)) (fun i _ => nw n - (intOf i).toNat)
  case atStart => exact ⟨0, Nat.zero_le _, rfl, s1, d1⟩
  case round =>
    obtain ⟨k, hk, rfl, t1, dr⟩ := hrel
    clear s1 d1 a1
    by_cases hlt : k < nw n
    · have x0 := t1.word k hlt
      have u1 := t1.c1
      have lx := wordAt_lt X k
      have hf : wr.frozen? ⟨g1, k, none⟩ = false := t1.own.frozenAt _
      have i0 : (0 : Int) ≤ (k : Int) := by omega
      have i1 : (k : Int) < (nw n : Int) := by omega
      have HT := hide (And.intro t1 dr)
      clear t1 dr
      obtain ⟨x, hx⟩ : ∃ x, x = wordAt X k := ⟨_, rfl⟩
      rw [← hx] at x0 lx
      have HXK := hide hx
      clear hx
      go_wp2_with fail
      go_region_held3 (fun w' => w'.cell? ⟨b1, 1, none⟩ = some (.slice (some ⟨g1, 0, none⟩) (nw n) c1) ∧ w'.cell? ⟨g1, k, none⟩ = some (.int .u64 x))
        (first | exact keepX n1 ⟨u1, x0⟩ | go_keep)
        ((go_at_call 31; refine (either_self x _ lx).mono ?_; rintro e w' ⟨rfl, rfl⟩))
      go_wp2
      go_roundw
      case rel =>
        refine ⟨k + 1, by omega, by go_num, ?_, ?_⟩
        · exact IsSet.drew (HT.out.1.store n1 hlt HX.out (fun i _ _ => rfl) (by rw [HXK.out]))
        · exact g_drew (g_set HT.out.2 _ _)
      case measure => simp [intOf]; omega
    · go_wp2
      go_ret
      exact ⟨rfl, t1, dr⟩

set_option maxRecDepth 100000 in
set_option maxHeartbeats 1000000 in
theorem mix_and_self (b1 g1 c1 n X : Nat) (w : World) (h1 : IsSet w b1 g1 c1 n X) (n1 : b1 ≠ g1) :
    Calls Tryd.prog 30 #[.pointer (some ⟨b1, 0, none⟩), .pointer (some ⟨b1, 0, none⟩), .func (.func 32) #[] #[]] w fun e w' => e = .returned (.int .i64 0) ∧ IsSet w' b1 g1 c1 n X ∧ w.grownBy w' (some g1) := by
  have hn := h1.hn
  have hnw := nw_le hn
  have HX := hide h1.hX
  go_enter Tryd.func30, Tryd.ntmps30
  go_wp2_with fail
  refine (alike_yes b1 b1 n _ h1.c0 h1.c0).mono ?_
  rintro e w1 ⟨rfl, q, rfl⟩
  have s1 := h1.below (below_drewN' (Below.refl _ _) q)
  have d1 : w.grownBy (w.drewN q) (some g1) := g_drewN (g_refl _ _) q
  have a1 := s1.c1
  clear h1
  go_wp2
  go_loopw [18] (fun i wr => ∃ k : Nat, k ≤ nw n ∧ i = .int .i64 k ∧ IsSet wr b1 g1 c1 n X ∧ w.grownBy wr (some g1)) (fun i _ => nw n - (intOf i).toNat)
  case atStart => exact ⟨0, Nat.zero_le _, rfl, s1, d1⟩
  case round =>
    obtain ⟨k, hk, rfl, t1, dr⟩ := hrel
    clear s1 d1 a1
    by_cases hlt : k < nw n
    · have x0 := t1.word k hlt
      have u1 := t1.c1
      have lx := wordAt_lt X k
      have hf : wr.frozen? ⟨g1, k, none⟩ = false := t1.own.frozenAt _
      have i0 : (0 : Int) ≤ (k : Int) := by omega
      have i1 : (k : Int) < (nw n : Int) := by omega
      have HT := hide (And.intro t1 dr)
      clear t1 dr
      obtain ⟨x, hx⟩ : ∃ x, x = wordAt X k := ⟨_, rfl⟩
      rw [← hx] at x0 lx
      have HXK := hide hx
      clear hx
      go_wp2_with fail
      go_region_held3 (fun w' => w'.cell? ⟨b1, 1, none⟩ = some (.slice (some ⟨g1, 0, none⟩) (nw n) c1) ∧ w'.cell? ⟨g1, k, none⟩ = some (.int .u64 x))
        (first | exact keepX n1 ⟨u1, x0⟩ | go_keep)
        ((go_at_call 32; refine (both_self x _ lx).mono ?_; rintro e w' ⟨rfl, rfl⟩))
      go_wp2
      go_roundw
      case rel =>
        refine ⟨k + 1, by omega, by go_num, ?_, ?_⟩
        · exact IsSet.drew (HT.out.1.store n1 hlt HX.out (fun i _ _ => rfl) (by rw [HXK.out]))
        · exact g_drew (g_set HT.out.2 _ _)
      case measure => simp [intOf]; omega
    · go_wp2
      go_ret
      exact ⟨rfl, t1, dr⟩

theorem join_self (b1 g1 c1 n X : Nat) (w : World) (h1 : IsSet w b1 g1 c1 n X) (n1 : b1 ≠ g1) :
    Calls Tryd.prog 9 #[.pointer (some ⟨b1, 0, none⟩), .pointer (some ⟨b1, 0, none⟩)] w fun e w' => e = .returned (.int .i64 0) ∧ IsSet w' b1 g1 c1 n X ∧ w.grownBy w' (some g1) := by
  go_enter Tryd.func9, Tryd.ntmps9
  go_wp2_with fail
  refine (mix_or_self b1 g1 c1 n X _ h1 n1).mono ?_
  rintro e w1 ⟨rfl, s, d⟩
  clear h1
  go_wp2
  go_ret
  exact ⟨rfl, s, d⟩

theorem cut_self (b1 g1 c1 n X : Nat) (w : World) (h1 : IsSet w b1 g1 c1 n X) (n1 : b1 ≠ g1) :
    Calls Tryd.prog 10 #[.pointer (some ⟨b1, 0, none⟩), .pointer (some ⟨b1, 0, none⟩)] w fun e w' => e = .returned (.int .i64 0) ∧ IsSet w' b1 g1 c1 n X ∧ w.grownBy w' (some g1) := by
  go_enter Tryd.func10, Tryd.ntmps10
  go_wp2_with fail
  refine (mix_and_self b1 g1 c1 n X _ h1 n1).mono ?_
  rintro e w1 ⟨rfl, s, d⟩
  clear h1
  go_wp2
  go_ret
  exact ⟨rfl, s, d⟩

end Go.Proofs.YtdgmokelmocejabDoor
