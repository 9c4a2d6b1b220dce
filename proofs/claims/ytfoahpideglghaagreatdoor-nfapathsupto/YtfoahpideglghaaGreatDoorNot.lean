import Derived.Test.YtfoahpideglghaaGreatDoorMix
namespace Go.Proofs.YtfoahpideglghaaGreatDoor
open Go.RowKit

theorem wordAt_zero (k : Nat) : wordAt 0 k = 0 := by simp [wordAt]
set_option maxRecDepth 100000 in
set_option maxHeartbeats 1000000 in
theorem leaves_and (b1 g1 c1 n X b2 g2 c2 Y : Nat) (w : World) (h1 : IsSet w b1 g1 c1 n X) (h2 : IsSet w b2 g2 c2 n Y) :
    Calls Tryz.prog 83 #[.pointer (some ⟨b1, 0, none⟩), .pointer (some ⟨b2, 0, none⟩), .func (.func 84) #[] #[]] w fun e w' => e = .returned (.bool (!decide (X &&& Y = 0))) ∧ w' = w := by
  have hn := h1.hn
  have hnw := nw_le hn
  have p1 := h1.c1
  have q1 := h2.c1
  have W1 := hide h1.word
  have W2 := hide h2.word
  have HX := hide (And.intro h1.hX h2.hX)
  clear h1 h2
  go_enter Tryz.func83, Tryz.ntmps83
  go_wp2
  go_loop [14] (fun i => ∃ k : Nat, k ≤ nw n ∧ i = .int .i64 k ∧ ∀ j, j < k → wordAt (X &&& Y) j = 0) (fun i => nw n - (intOf i).toNat)
  case atStart => exact ⟨0, Nat.zero_le _, rfl, fun j hj => by omega⟩
  case round =>
    obtain ⟨k, hk, rfl, hj⟩ := hrel
    have HJ := hide hj
    clear hj
    by_cases hlt : k < nw n
    · have x1 := W1.out k hlt
      have x2 := W2.out k hlt
      have l1 := wordAt_lt X k
      have l2 := wordAt_lt Y k
      have hw := op_and.word X Y k
      by_cases hz : (wordAt X k &&& wordAt Y k) = 0
      · have hb : ((((wordAt X k &&& wordAt Y k) : Nat) : Int) != 0) = false := by rw [hz]; rfl
        have HZ := hide (hw.trans hz)
        clear hz hw
        go_wp2_with (go_at_call 84; refine (both_any (wordAt X k) (wordAt Y k) _ l1 l2).mono ?_; rintro e w' ⟨rfl, hw⟩; obtain rfl := hw.symm; clear hw)
        go_round
        case rel =>
          refine ⟨k + 1, by omega, by go_num, fun j hj => ?_⟩
          by_cases hjk : j = k
          · subst hjk; exact HZ.out
          · exact HJ.out j (by omega)
        case measure => simp [intOf]; omega
      · have hb : ((((wordAt X k &&& wordAt Y k) : Nat) : Int) != 0) = true := by rw [bne_iff_ne]; omega
        have HZ := hide (And.intro hw hz)
        clear hz hw
        go_wp2_with (go_at_call 84; refine (both_any (wordAt X k) (wordAt Y k) _ l1 l2).mono ?_; rintro e w' ⟨rfl, hw⟩; obtain rfl := hw.symm; clear hw)
        go_ret
        refine ⟨ret_bool ?_, rfl⟩
        rw [decide_eq_false (fun h0 => HZ.out.2 (by rw [← HZ.out.1, h0, wordAt_zero]))]
        rfl
    · go_wp2
      go_ret
      refine ⟨ret_bool ?_, rfl⟩
      rw [decide_eq_true (words_eq n _ 0 (op_and.lt HX.out.1 HX.out.2) (Nat.two_pow_pos n) (fun i hi => by rw [HJ.out i (by omega), wordAt_zero]))]
      rfl
set_option maxRecDepth 100000 in
set_option maxHeartbeats 400000 in
theorem meets_any (b1 g1 c1 n X b2 g2 c2 Y : Nat) (w : World) (h1 : IsSet w b1 g1 c1 n X) (h2 : IsSet w b2 g2 c2 n Y) :
    Calls Tryz.prog 52 #[.pointer (some ⟨b1, 0, none⟩), .pointer (some ⟨b2, 0, none⟩)] w fun e w' => e = .returned (.bool (!decide (X &&& Y = 0))) ∧ Below w.heap.size w w' := by
  go_enter Tryz.func52, Tryz.ntmps52
  go_wp2_with fail
  refine (alike_yes b1 b2 n _ h1.c0 h2.c0).mono ?_
  rintro e w1 ⟨rfl, q, rfl⟩
  have d1 : Below w.heap.size w (w.drewN q) := below_drewN' (Below.refl _ _) q
  have s1 := h1.below d1
  have s2 := h2.below d1
  clear h1 h2
  go_wp2_with fail
  refine (leaves_and b1 g1 c1 n X b2 g2 c2 Y _ s1 s2).mono ?_
  rintro e w2 ⟨rfl, rfl⟩
  clear s1 s2
  go_wp2
  go_ret
  exact ⟨by simp, d1⟩
end Go.Proofs.YtfoahpideglghaaGreatDoor
