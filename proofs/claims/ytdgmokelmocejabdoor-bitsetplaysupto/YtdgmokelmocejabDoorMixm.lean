import Derived.Test.YtdgmokelmocejabDoorMixg
import Derived.Deep.RegionWith
namespace Go.Proofs.YtdgmokelmocejabDoor
open Go.RowKit

set_option maxRecDepth 100000 in
set_option maxHeartbeats 4000000 in
theorem mix_minus_self (b1 g1 c1 n X : Nat) (w : World) (h1 : IsSet w b1 g1 c1 n X) (n1 : b1 ≠ g1) :
    Calls Tryd.prog 30 #[.pointer (some ⟨b1, 0, none⟩), .pointer (some ⟨b1, 0, none⟩), .func (.func 33) #[] #[]] w fun e w' => e = .returned (.int .i64 0) ∧ IsSet w' b1 g1 c1 n 0 ∧ w.grownBy w' (some g1) := by
  have hn := h1.hn
  have hnw := nw_le hn
  have HX := hide h1.hX
  go_enter Tryd.func30, Tryd.ntmps30
  go_wp2_with fail
  refine (alike_yes b1 b1 n _ h1.c0 h1.c0).mono ?_
  rintro e w1 ⟨rfl, q, rfl⟩
  have s1 := h1.below (below_drewN' (Below.refl _ _) q)
  have d1 : w.grownBy (w.drewN q) (some g1) := g_drewN (g_refl _ _) q
  have a1 := s1.c1
  clear h1
  go_wp2
  go_loopw [18] (fun i wr => ∃ k : Nat, k ≤ nw n ∧ i = .int .i64 k ∧ IsSet wr b1 g1 c1 n (mixTo 0 X k) ∧ w.grownBy wr (some g1)) (fun i _ => nw n - (intOf i).toNat)
  case atStart => exact ⟨0, Nat.zero_le _, rfl, by rw [mixTo_zero]; exact s1, d1⟩
  case round =>
    obtain ⟨k, hk, rfl, t1, dr⟩ := hrel
    clear s1 d1 a1
    by_cases hlt : k < nw n
    · have x0 := t1.word k hlt
      rw [mixTo_word, if_neg (by omega)] at x0
      have u1 := t1.c1
      have lx := wordAt_lt X k
      have hf : wr.frozen? ⟨g1, k, none⟩ = false := t1.own.frozenAt _
      have i0 : (0 : Int) ≤ (k : Int) := by omega
      have i1 : (k : Int) < (nw n : Int) := by omega
      have HT := hide (And.intro t1 dr)
      clear t1 dr
      obtain ⟨x, hx⟩ : ∃ x, x = wordAt X k := ⟨_, rfl⟩
      rw [← hx] at x0 lx
      clear hx
      go_wp2_with fail
      go_region_with (go_at_call 33; refine (first_self x _ lx).mono ?_; rintro e w' ⟨rfl, rfl⟩)
      all_goals (go_wp2; go_roundw)
      all_goals first
        | (refine ⟨k + 1, by omega, by go_num, ?_, ?_⟩
           · exact IsSet.drew (HT.out.1.store n1 hlt (mixTo_lt (Nat.two_pow_pos _) HX.out) (fun i _ hne => by rw [mixTo_word, mixTo_word]; by_cases h : i < k <;> by_cases h' : i < k + 1 <;> simp [h, h'] <;> omega) (by rw [mixTo_word, if_pos (by omega), wordAt_zero]; rfl))
           · exact g_drew (g_set HT.out.2 _ _))
        | (simp [intOf]; omega)
    · go_wp2
      go_ret
      have hke : k = nw n := by omega
      subst hke
      rw [mixTo_full (Nat.two_pow_pos _) HX.out] at t1
      exact ⟨rfl, t1, dr⟩

theorem drop_self (b1 g1 c1 n X : Nat) (w : World) (h1 : IsSet w b1 g1 c1 n X) (n1 : b1 ≠ g1) :
    Calls Tryd.prog 11 #[.pointer (some ⟨b1, 0, none⟩), .pointer (some ⟨b1, 0, none⟩)] w fun e w' => e = .returned (.int .i64 0) ∧ IsSet w' b1 g1 c1 n 0 ∧ w.grownBy w' (some g1) := by
  go_enter Tryd.func11, Tryd.ntmps11
  go_wp2_with fail
  refine (mix_minus_self b1 g1 c1 n X _ h1 n1).mono ?_
  rintro e w1 ⟨rfl, s, d⟩
  clear h1
  go_wp2
  go_ret
  exact ⟨rfl, s, d⟩

end Go.Proofs.YtdgmokelmocejabDoor
