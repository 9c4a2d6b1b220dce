import Derived.Test.YtdgmokelmocejabDoorCmp
import Derived.LaidEqlPtr
namespace Go.Proofs.YtdgmokelmocejabDoor
open Go.RowKit

set_option maxHeartbeats 400000 in
theorem alike_any (b1 b2 n n2 : Nat) (w : World) (p0 : w.cell? ⟨b1, 0, none⟩ = some (.int .i64 n)) (q0 : w.cell? ⟨b2, 0, none⟩ = some (.int .i64 n2)) :
    Calls Tryd.prog 59 #[.pointer (some ⟨b1, 0, none⟩), .pointer (some ⟨b2, 0, none⟩)] w fun e w' => e = .returned (.bool (decide (n = n2))) ∧ ∃ q, w' = w.drewN q := by
  go_enter Tryd.func59, Tryd.ntmps59
  go_wp2_with fail
  go_quiet (fail)
  go_wp2
  go_ret
  refine ⟨ret_bool ?_, _, rfl⟩
  rw [Bool.eq_iff_iff]
  simp only [beq_iff_eq, decide_eq_true_eq]
  omega

set_option maxHeartbeats 400000 in
theorem weq_any (g1 c1 g2 c2 n X Y : Nat) (w : World) (hn : n ≤ 8192) (r1 : ∀ k, k < nw n → w.cell? ⟨g1, k, none⟩ = some (.int .u64 (wordAt X k))) (r2 : ∀ k, k < nw n → w.cell? ⟨g2, k, none⟩ = some (.int .u64 (wordAt Y k))) (hX : X < 2 ^ n) (hY : Y < 2 ^ n) :
    Calls Tryd.prog 60 #[.slice (some ⟨g1, 0, none⟩) (nw n) c1, .slice (some ⟨g2, 0, none⟩) (nw n) c2] w fun e w' => e = .returned (.bool (decide (X = Y))) ∧ ∃ q, w' = w.drewN q := by
  have hnw := nw_le hn
  have HX := hide (And.intro hX hY)
  have W1 := hide r1
  have W2 := hide r2
  clear hX hY r1 r2
  obtain ⟨m, hm⟩ : ∃ m, nw n = m := ⟨_, rfl⟩
  rw [hm] at W1 W2 hnw
  rw [hm]
  have HM := hide hm
  clear hm
  go_enter Tryd.func60, Tryd.ntmps60
  go_wp2
  go_loopw [13] (fun i wr => ∃ k q : Nat, k ≤ m ∧ i = .int .i64 k ∧ wr = w.drewN q ∧ ∀ j, j < k → wordAt X j = wordAt Y j) (fun i _ => m - (intOf i).toNat)
  case atStart => exact ⟨0, 0, Nat.zero_le _, rfl, rfl, fun j hj => by omega⟩
  case round =>
    obtain ⟨k, q, hk, rfl, rfl, hj⟩ := hrel
    have HJ := hide hj
    clear hj
    by_cases hlt : k < m
    · have hc1 := W1.out k hlt
      have hc2 := W2.out k hlt
      have hk0 : (0 : Int) ≤ k := by omega
      have hk1 : (k : Int) < m := by omega
      obtain ⟨x, hx⟩ : ∃ x : Nat, wordAt X k = x := ⟨_, rfl⟩
      obtain ⟨y, hy⟩ : ∃ y : Nat, wordAt Y k = y := ⟨_, rfl⟩
      rw [hx] at hc1
      rw [hy] at hc2
      have HA := hide hx
      have HB := hide hy
      clear hx hy
      by_cases hab : x = y
      · have hb : ((x : Int) != (y : Int)) = false := by rw [hab]; simp
        have HAB := hide hab
        clear hab
        go_wp2_with fail
        go_quiet (fail)
        go_wp2
        go_roundw
        case rel =>
          refine ⟨k + 1, _, by omega, by go_num, rfl, fun j hj => ?_⟩
          by_cases hjk : j = k
          · subst hjk; rw [HA.out, HB.out, HAB.out]
          · exact HJ.out j (by omega)
        case measure => simp [intOf]; omega
      · have hb : ((x : Int) != (y : Int)) = true := by rw [bne_iff_ne]; omega
        go_wp2_with fail
        go_quiet (fail)
        go_wp2
        go_ret
        refine ⟨ret_bool ?_, _, drewN_drewN _ _ _⟩
        symm
        apply decide_eq_false
        intro e
        subst e
        exact hab (HA.out.symm.trans HB.out)
    · go_wp2
      go_ret
      refine ⟨ret_bool ?_, _, rfl⟩
      symm
      apply decide_eq_true
      exact words_eq n X Y HX.out.1 HX.out.2 (by rw [HM.out]; intro i hi; exact HJ.out i (by omega))

theorem alike_no (b1 b2 n n2 : Nat) (w : World) (p0 : w.cell? ⟨b1, 0, none⟩ = some (.int .i64 n)) (q0 : w.cell? ⟨b2, 0, none⟩ = some (.int .i64 n2)) (h : n ≠ n2) :
    Calls Tryd.prog 59 #[.pointer (some ⟨b1, 0, none⟩), .pointer (some ⟨b2, 0, none⟩)] w fun e w' => e = .returned (.bool false) ∧ ∃ q, w' = w.drewN q := by
  have := alike_any b1 b2 n n2 w p0 q0
  rwa [decide_eq_false h] at this
theorem alike_yes (b1 b2 n : Nat) (w : World) (p0 : w.cell? ⟨b1, 0, none⟩ = some (.int .i64 n)) (q0 : w.cell? ⟨b2, 0, none⟩ = some (.int .i64 n)) :
    Calls Tryd.prog 59 #[.pointer (some ⟨b1, 0, none⟩), .pointer (some ⟨b2, 0, none⟩)] w fun e w' => e = .returned (.bool true) ∧ ∃ q, w' = w.drewN q := by
  have := alike_any b1 b2 n n w p0 q0
  rwa [decide_eq_true rfl] at this

theorem info66 : (Tryd.prog.info? 62).map (fun i => i.size) = some 2 := by kernel_rfl

theorem ptr_ne {b1 b2 : Nat} {w : World} {r1 r2 : Array Value} (h1 : w.heap[b1]? = some (.cells r1 62 (0, 0))) (h2 : w.heap[b2]? = some (.cells r2 62 (0, 0))) (hb : b1 ≠ b2) :
    (binOp .eql 25 (.pointer (some ⟨b1, 0, none⟩)) (.pointer (some ⟨b2, 0, none⟩))).run Tryd.prog w = .ok (.bool false) w := by
  obtain ⟨j, hj, hs⟩ := Option.map_eq_some_iff.1 info66
  exact run_eql_ptr_other w Tryd.underlying25 hj (by omega) (fun h => hb (congrArg Addr.block h)) h1 h2

set_option maxHeartbeats 400000 in
theorem equal_no (b1 g1 c1 n X b2 g2 c2 n2 Y : Nat) (w : World) (h1 : IsSet w b1 g1 c1 n X) (h2 : IsSet w b2 g2 c2 n2 Y) (hb : b1 ≠ b2) (h : n ≠ n2) :
    Calls Tryd.prog 34 #[.pointer (some ⟨b1, 0, none⟩), .pointer (some ⟨b2, 0, none⟩)] w fun e w' => e = .returned (.bool false) ∧ ∃ q, w' = w.drewN q := by
  have hp : ∀ q, (binOp .eql 25 (.pointer (some ⟨b1, 0, none⟩)) (.pointer (some ⟨b2, 0, none⟩))).run Tryd.prog (w.drewN q) = .ok (.bool false) (w.drewN q) := fun q => ptr_ne (w := w.drewN q) h1.blk h2.blk hb
  have p0 := h1.c0
  have q0 := h2.c0
  have H := hide h
  clear h h1 h2
  go_enter Tryd.func34, Tryd.ntmps34
  go_wp2_with fail
  go_quiet ((go_at_call 59; exact Calls.quiet_of (alike_no b1 b2 n n2 _ p0 q0 H.out)))
  go_wp2
  go_ret
  exact ⟨rfl, _, rfl⟩

set_option maxHeartbeats 400000 in
theorem equal_same (b1 g1 c1 n X b2 g2 c2 Y : Nat) (w : World) (h1 : IsSet w b1 g1 c1 n X) (h2 : IsSet w b2 g2 c2 n Y) (hb : b1 ≠ b2) :
    Calls Tryd.prog 34 #[.pointer (some ⟨b1, 0, none⟩), .pointer (some ⟨b2, 0, none⟩)] w fun e w' => e = .returned (.bool (decide (X = Y))) ∧ ∃ q, w' = w.drewN q := by
  have hp : ∀ q, (binOp .eql 25 (.pointer (some ⟨b1, 0, none⟩)) (.pointer (some ⟨b2, 0, none⟩))).run Tryd.prog (w.drewN q) = .ok (.bool false) (w.drewN q) := fun q => ptr_ne (w := w.drewN q) h1.blk h2.blk hb
  have p0 := h1.c0
  have q0 := h2.c0
  have p1 := h1.c1
  have q1 := h2.c1
  have HW := hide (And.intro h1 h2)
  obtain ⟨r, hr⟩ : ∃ r, decide (X = Y) = r := ⟨_, rfl⟩
  have HE : ∀ q, Calls Tryd.prog 60 #[.slice (some ⟨g1, 0, none⟩) (nw n) c1, .slice (some ⟨g2, 0, none⟩) (nw n) c2] (w.drewN q) fun e w' => e = .returned (.bool r) ∧ ∃ q', w' = (w.drewN q).drewN q' := fun q => by
    rw [← hr]
    exact weq_any g1 c1 g2 c2 n X Y (w.drewN q) h1.hn h1.word h2.word h1.hX h2.hX
  have HEH := hide HE
  rw [hr]
  clear h1 h2 HE hr
  go_enter Tryd.func34, Tryd.ntmps34
  go_wp2_with fail
  go_quiet (first | (go_at_call 59; exact Calls.quiet_of (alike_yes b1 b2 n _ p0 q0)) | (go_at_call 60; exact Calls.quiet_of (HEH.out _)))
  go_wp2
  go_ret
  exact ⟨rfl, _, rfl⟩

theorem equal_any (b1 g1 c1 n X b2 g2 c2 n2 Y : Nat) (w : World) (h1 : IsSet w b1 g1 c1 n X) (h2 : IsSet w b2 g2 c2 n2 Y) (hb : b1 ≠ b2) :
    Calls Tryd.prog 34 #[.pointer (some ⟨b1, 0, none⟩), .pointer (some ⟨b2, 0, none⟩)] w fun e w' => e = .returned (.bool (decide (n = n2 ∧ X = Y))) ∧ ∃ q, w' = w.drewN q := by
  by_cases h : n = n2
  · subst h
    have := equal_same b1 g1 c1 n X b2 g2 c2 Y w h1 h2 hb
    simpa using this
  · rw [decide_eq_false (fun k => h k.1)]
    exact equal_no b1 g1 c1 n X b2 g2 c2 n2 Y w h1 h2 hb h

theorem parts_irrefl (X c : Nat) : ¬ Parts X X c := fun h => h.1 rfl

theorem compare_same (b1 g1 c1 n X b2 g2 c2 : Nat) (w : World) (h1 : IsSet w b1 g1 c1 n X) (h2 : IsSet w b2 g2 c2 n X) :
    Calls Tryd.prog 35 #[.pointer (some ⟨b1, 0, none⟩), .pointer (some ⟨b2, 0, none⟩)] w fun e w' => e = .returned (.int .i64 0) ∧ Below w.heap.size w w' := by
  refine (compare_any b1 g1 c1 n X b2 g2 c2 n X w h1 h2).mono ?_
  rintro e w' ⟨r, rfl, hr, q, rfl⟩
  refine ⟨ret_int ?_, below_drewN' (Below.refl _ _) _⟩
  rcases (hr.2.2 rfl).2.2 rfl with ⟨_, h⟩ | ⟨c, hc, _⟩
  · exact h
  · exact absurd hc (parts_irrefl X c)

set_option maxHeartbeats 1000000 in
theorem lalike_no (b1 g1 c1 n X b2 g2 c2 n2 Y : Nat) (w : World) (h1 : IsSet w b1 g1 c1 n X) (h2 : IsSet w b2 g2 c2 n2 Y) (hb : b1 ≠ b2) (h : ¬ (n = n2 ∧ X = Y)) :
    Calls Tryd.prog 12 #[.pointer (some ⟨b1, 0, none⟩), .pointer (some ⟨b2, 0, none⟩)] w fun e w' => e = .returned (.bool false) ∧ Below w.heap.size w w' := by
  have HE := equal_any b1 g1 c1 n X b2 g2 c2 n2 Y w h1 h2 hb
  rw [decide_eq_false h] at HE
  have HEH := hide HE
  clear HE h1 h2 h
  go_enter Tryd.func12, Tryd.ntmps12
  go_wp2_with fail
  refine HEH.out.mono ?_
  rintro e w1 ⟨rfl, q, rfl⟩
  go_wp2
  go_ret
  exact ⟨rfl, below_drewN' (Below.refl _ _) _⟩

set_option maxRecDepth 100000 in
set_option maxHeartbeats 1000000 in
theorem lalike_yes (b1 g1 c1 n X b2 g2 c2 : Nat) (w : World) (h1 : IsSet w b1 g1 c1 n X) (h2 : IsSet w b2 g2 c2 n X) (hT : TabAt w) (hb : b1 ≠ b2) :
    Calls Tryd.prog 12 #[.pointer (some ⟨b1, 0, none⟩), .pointer (some ⟨b2, 0, none⟩)] w fun e w' => e = .returned (.bool true) ∧ Below w.heap.size w w' := by
  have HE := equal_any b1 g1 c1 n X b2 g2 c2 n X w h1 h2 hb
  rw [decide_eq_true ⟨rfl, rfl⟩] at HE
  have HEH := hide HE
  have hn := h1.hn
  have hw0 : 0 < w.heap.size := Nat.lt_of_le_of_lt (Nat.zero_le _) h1.blt
  have hlen := cnt_le n X
  unfold cnt at hlen
  clear HE
  obtain ⟨K, hK⟩ : ∃ K : ByteArray, (⟨(keyPre n X ((n + 7) / 8)).toArray⟩ : ByteArray) = K := ⟨_, rfl⟩
  have HK := hide hK
  clear hK
  go_enter Tryd.func12, Tryd.ntmps12
  go_wp2_with fail
  refine HEH.out.mono ?_
  rintro e w1 ⟨rfl, q, rfl⟩
  have bl1 : Below w.heap.size w (w.drewN q) := below_drewN' (Below.refl _ _) _
  have s1 := h1.below bl1
  have s2 := h2.below bl1
  have t1 := hT.below bl1 hw0
  clear h1 h2 hT HEH
  go_wp2_with fail
  refine (compare_same b1 g1 c1 n X b2 g2 c2 _ s1 s2).mono ?_
  rintro e w2 ⟨rfl, d2⟩
  have s1 := s1.below d2
  have s2 := s2.below d2
  have t1 := t1.below d2 hw0
  have bl2 := bl1.trans (d2.mono bl1.size)
  clear bl1 d2
  go_wp2_with fail
  refine (key_b b1 g1 c1 n X K _ HK s1).mono ?_
  rintro e w3 ⟨rfl, d3⟩
  have s1 := s1.below d3
  have s2 := s2.below d3
  have t1 := t1.below d3 (Nat.lt_of_lt_of_le hw0 bl2.size)
  have bl3 := bl2.trans (d3.mono bl2.size)
  clear bl2 d3
  go_wp2_with fail
  refine (key_b b2 g2 c2 n X K _ HK s2).mono ?_
  rintro e w4 ⟨rfl, d4⟩
  have s1 := s1.below d4
  have s2 := s2.below d4
  have t1 := t1.below d4 (Nat.lt_of_lt_of_le hw0 bl3.size)
  have bl4 := bl3.trans (d4.mono bl3.size)
  clear bl3 d4
  go_wp2_with fail
  refine (bound_b b1 n _ s1.c0).mono ?_
  rintro e w5 ⟨rfl, d5⟩
  have s1 := s1.below d5
  have s2 := s2.below d5
  have t1 := t1.below d5 (Nat.lt_of_lt_of_le hw0 bl4.size)
  have bl5 := bl4.trans (d5.mono bl4.size)
  clear bl4 d5
  go_wp2_with fail
  refine (bound_b b2 n _ s2.c0).mono ?_
  rintro e w6 ⟨rfl, d6⟩
  have s1 := s1.below d6
  have s2 := s2.below d6
  have t1 := t1.below d6 (Nat.lt_of_lt_of_le hw0 bl5.size)
  have bl6 := bl5.trans (d6.mono bl5.size)
  clear bl5 d6
  go_wp2_with fail
  refine (count_b b1 g1 c1 n X _ s1).mono ?_
  rintro e w7 ⟨rfl, d7⟩
  have s1 := s1.below d7
  have s2 := s2.below d7
  have t1 := t1.below d7 (Nat.lt_of_lt_of_le hw0 bl6.size)
  have bl7 := bl6.trans (d7.mono bl6.size)
  clear bl6 d7
  go_wp2_with fail
  refine (count_b b2 g2 c2 n X _ s2).mono ?_
  rintro e w8 ⟨rfl, d8⟩
  have s1 := s1.below d8
  have s2 := s2.below d8
  have t1 := t1.below d8 (Nat.lt_of_lt_of_le hw0 bl7.size)
  have bl8 := bl7.trans (d8.mono bl7.size)
  clear bl7 d8
  go_wp2_with fail
  refine (list_any b1 g1 c1 n X _ s1 t1).mono ?_
  rintro e w9 ⟨gl, cl, rfl, ol, d9⟩
  have s2 := s2.below d9
  have t1 := t1.below d9 (Nat.lt_of_lt_of_le hw0 bl8.size)
  have bl9 := bl8.trans (d9.mono bl8.size)
  clear bl8 d9 s1
  go_wp2_with fail
  refine (list_any b2 g2 c2 n X _ s2 t1).mono ?_
  rintro e w10 ⟨gm, cm, rfl, om, d10⟩
  have ol := owns_below ol d10
  have bl10 := bl9.trans (d10.mono bl9.size)
  clear bl9 d10 s2 t1
  go_wp2_with fail
  refine (same_b (owns_reads2 ol) (owns_reads2 om) (by omega)).mono ?_
  rintro e w11 ⟨rfl, d11⟩
  have bl11 := bl10.trans (d11.mono bl10.size)
  clear bl10 d11 ol om
  go_wp2
  go_ret
  exact ⟨rfl, bl11⟩
end Go.Proofs.YtdgmokelmocejabDoor
