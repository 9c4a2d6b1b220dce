import Derived.Test.YtdgmokelmocejabDoorAlgP
import Derived.Lib.SliceRun
namespace Go.Proofs.YtdgmokelmocejabDoor
open Go.RowKit

theorem g_refl (w : World) (r : Option Nat) : w.grownBy w r := ⟨rfl, rfl, rfl, Nat.le_refl _, fun _ _ _ => rfl⟩
theorem g_drew {w w' : World} {r : Option Nat} (h : w.grownBy w' r) : w.grownBy w'.drew r := ⟨h.os, h.tape, h.output, h.size, h.block⟩
theorem g_drewN {w w' : World} {r : Option Nat} (h : w.grownBy w' r) (q : Nat) : w.grownBy (w'.drewN q) r := ⟨h.os, h.tape, h.output, h.size, h.block⟩
theorem g_set {w w' : World} {g : Nat} (h : w.grownBy w' (some g)) (k : Nat) (v : Value) : w.grownBy (w'.setCell ⟨g, k, none⟩ v) (some g) :=
  ⟨h.os, h.tape, h.output, by simp only [World.setCell, Array.size_modify]; exact h.size, fun i hi hne => by
    rw [Below.heap_setCell _ _ _ _ (fun e => hne (by rw [e]))]; exact h.block i hi hne⟩
theorem g_below {w w' : World} {r : Option Nat} (h : Below w.heap.size w w') : w.grownBy w' r := ⟨h.os, h.tape, h.output, h.size, fun k hk _ => h.block k hk⟩
theorem g_sets (g : Nat) : ∀ (vs : List Value) (o : Nat) (w w' : World), w.grownBy w' (some g) → w.grownBy (w'.setCells g o vs) (some g)
  | [], _, _, _, h => h
  | v :: r, o, w, _, h => g_sets g r (o + 1) w _ (g_set h o v)

theorem Raw.zeros {b g cap n : Nat} (hbg : b ≠ g) : ∀ (m o : Nat) (w : World) (f : Nat → Nat), Raw w b g cap n f → Raw (w.setCells g o (List.replicate m (.int .u64 0))) b g cap n (fun i => if o ≤ i ∧ i < o + m then 0 else f i)
  | 0, o, w, f, h => by
    have e : (fun i => if o ≤ i ∧ i < o + 0 then 0 else f i) = f := by funext i; rw [if_neg (by omega)]
    rw [e]; exact h
  | m + 1, o, w, f, h => by
    have h1 := Raw.store (f' := fun i => if i = o then 0 else f i) (j := o) (v := 0) h hbg (fun i _ hne => if_neg hne) (if_pos rfl)
    have h2 := Raw.zeros hbg m (o + 1) _ _ h1
    have e : (fun i => if o + 1 ≤ i ∧ i < o + 1 + m then 0 else if i = o then 0 else f i) = (fun i => if o ≤ i ∧ i < o + (m + 1) then 0 else f i) := by
      funext i
      by_cases h1 : i = o
      · subst h1; rw [if_neg (by omega), if_pos rfl, if_pos (by omega)]
      · by_cases h2 : o + 1 ≤ i ∧ i < o + 1 + m
        · rw [if_pos h2, if_pos (by omega)]
        · rw [if_neg h2, if_neg h1, if_neg (by omega)]
    rw [e] at h2
    exact h2

theorem zero67 (w : World) : (zeroValue 65).run Tryd.prog w = .ok (.int .u64 0) w := by
  have h : Tryd.t65.zero = some (.int .u64 0) := by kernel_rfl
  simp [zeroValue, h]

set_option maxRecDepth 100000 in
set_option maxHeartbeats 1000000 in
theorem clear_any (b g cap n X : Nat) (w : World) (hs : IsSet w b g cap n X) (hbg : b ≠ g) :
    Calls Tryd.prog 77 #[.pointer (some ⟨b, 0, none⟩)] w fun e w' => e = .returned (.tuple #[]) ∧ IsSet w' b g cap n 0 ∧ w.grownBy w' (some g) := by
  have h1 := hs.c1
  have hcl : ∀ ty, (Builtin.clear_ #[60] ty #[.slice (some ⟨g, 0, none⟩) (nw n) cap]).run Tryd.prog w = .ok (.tuple #[]) (w.setCells g 0 (List.replicate (nw n) (.int .u64 0))) := by
    intro ty
    by_cases hz : 0 < nw n
    · exact Lib.run_clear_slice w _ _ ty _ Tryd.underlying60 zero67 rfl rfl g 0 _ _ hz (fun j hj => by rw [Nat.zero_add, hs.word j hj]; rfl) (fun j hj => hs.own.frozenAt _)
    · have : nw n = 0 := by omega
      rw [this]
      simp [Builtin.clear_, run_underlying Tryd.underlying60, World.setCells]
  obtain ⟨W1, hW1⟩ : ∃ W1, W1 = w.setCells g 0 (List.replicate (nw n) (.int .u64 0)) := ⟨_, rfl⟩
  rw [← hW1] at hcl
  have HW := hide hW1
  have HS := hide hs
  clear hs hW1
  go_enter Tryd.func77, Tryd.ntmps77
  go_wp2
  go_end0
  refine ⟨rfl, ?_, ?_⟩
  · rw [HW.out]
    exact (Raw.zeros hbg (nw n) 0 w _ HS.out.raw).isSet HS.out.hn (Nat.two_pow_pos _) (fun i hi => by rw [if_pos (by omega), wordAt_zero])
  · rw [HW.out]
    exact g_sets g _ 0 w w (g_refl _ _)

set_option maxRecDepth 100000 in
set_option maxHeartbeats 1000000 in
theorem mix_or_g (b1 g1 c1 n X b2 g2 c2 Y : Nat) (w : World) (h1 : IsSet w b1 g1 c1 n X) (h2 : IsSet w b2 g2 c2 n Y) (n1 : b1 ≠ g1) (n2 : b2 ≠ g1) (n3 : g2 ≠ g1) :
    Calls Tryd.prog 30 #[.pointer (some ⟨b1, 0, none⟩), .pointer (some ⟨b2, 0, none⟩), .func (.func 31) #[] #[]] w fun e w' => e = .returned (.int .i64 0) ∧ IsSet w' b1 g1 c1 n (X ||| Y) ∧ w.grownBy w' (some g1) := by
  have hn := h1.hn
  have hnw := nw_le hn
  have HX := hide (And.intro h1.hX h2.hX)
  have HO := hide op_or
  go_enter Tryd.func30, Tryd.ntmps30
  go_wp2_with fail
  refine (alike_yes b1 b2 n _ h1.c0 h2.c0).mono ?_
  rintro e w1 ⟨rfl, q, rfl⟩
  have s1 := h1.below (below_drewN' (Below.refl _ _) q)
  have s2 := h2.below (below_drewN' (Below.refl _ _) q)
  have d1 : w.grownBy (w.drewN q) (some g1) := g_drewN (g_refl _ _) q
  have a1 := s1.c1
  clear h1 h2
  go_wp2
  go_loopw [18] (fun i wr => ∃ k : Nat, k ≤ nw n ∧ i = .int .i64 k ∧ IsSet wr b1 g1 c1 n (mixTo (X ||| Y) X k) ∧ IsSet wr b2 g2 c2 n Y ∧ w.grownBy wr (some g1)) (fun i _ => nw n - (intOf i).toNat)
  case atStart => exact ⟨0, Nat.zero_le _, rfl, by rw [mixTo_zero]; exact s1, s2, d1⟩
  case round =>
    obtain ⟨k, hk, rfl, t1, t2, dr⟩ := hrel
    clear s1 s2 d1 a1
    by_cases hlt : k < nw n
    · have x0 := t1.word k hlt
      rw [mixTo_word, if_neg (by omega)] at x0
      have y0 := t2.word k hlt
      have u1 := t1.c1
      have u2 := t2.c1
      have lx := wordAt_lt X k
      have ly := wordAt_lt Y k
      have hf : wr.frozen? ⟨g1, k, none⟩ = false := t1.own.frozenAt _
      have i0 : (0 : Int) ≤ (k : Int) := by omega
      have i1 : (k : Int) < (nw n : Int) := by omega
      have HT := hide (And.intro t1 (And.intro t2 dr))
      clear t1 t2 dr
      go_wp2_with fail
      go_region_held3 (fun w' => w'.cell? ⟨b1, 1, none⟩ = some (.slice (some ⟨g1, 0, none⟩) (nw n) c1) ∧ w'.cell? ⟨b2, 1, none⟩ = some (.slice (some ⟨g2, 0, none⟩) (nw n) c2) ∧ w'.cell? ⟨g2, k, none⟩ = some (.int .u64 (wordAt Y k)))
        (first | exact keep3 n1 n2 n3 ⟨u1, u2, y0⟩ | go_keep)
        ((go_at_call 31; refine (either_any (wordAt X k) (wordAt Y k) _ lx ly).mono ?_; rintro e w' ⟨rfl, rfl⟩))
      go_wp2
      go_roundw
      case rel =>
        have g := (HT.out.1.own.stored k (.int .u64 ((wordAt X k ||| wordAt Y k : Nat) : Int))).2
        refine ⟨k + 1, by omega, by go_num, ?_, ?_, ?_⟩
        · exact IsSet.drew (HT.out.1.store n1 hlt (mixTo_lt (HO.out.lt HX.out.1 HX.out.2) HX.out.1) (fun i _ hne => by rw [mixTo_word, mixTo_word]; by_cases h : i < k <;> by_cases h' : i < k + 1 <;> simp [h, h'] <;> omega) (by rw [mixTo_word, if_pos (by omega), HO.out.word]))
        · exact IsSet.drew (HT.out.2.1.other g n2 n3)
        · exact g_drew (g_set HT.out.2.2 _ _)
      case measure => simp [intOf]; omega
    · go_wp2
      go_ret
      have hke : k = nw n := by omega
      subst hke
      rw [mixTo_full (HO.out.lt HX.out.1 HX.out.2) HX.out.1] at t1
      exact ⟨rfl, t1, dr⟩


set_option maxRecDepth 100000 in
set_option maxHeartbeats 1000000 in
theorem join_g (b1 g1 c1 n X b2 g2 c2 Y : Nat) (w : World) (h1 : IsSet w b1 g1 c1 n X) (h2 : IsSet w b2 g2 c2 n Y) (n1 : b1 ≠ g1) (n2 : b2 ≠ g1) (n3 : g2 ≠ g1) :
    Calls Tryd.prog 9 #[.pointer (some ⟨b1, 0, none⟩), .pointer (some ⟨b2, 0, none⟩)] w fun e w' => e = .returned (.int .i64 0) ∧ IsSet w' b1 g1 c1 n (X ||| Y) ∧ w.grownBy w' (some g1) := by
  go_enter Tryd.func9, Tryd.ntmps9
  go_wp2_with fail
  refine (mix_or_g b1 g1 c1 n X b2 g2 c2 Y _ h1 h2 n1 n2 n3).mono ?_
  rintro e w1 ⟨rfl, s, d⟩
  clear h1 h2
  go_wp2
  go_ret
  exact ⟨rfl, s, d⟩
end Go.Proofs.YtdgmokelmocejabDoor
