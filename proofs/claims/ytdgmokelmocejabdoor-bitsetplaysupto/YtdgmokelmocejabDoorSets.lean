import Derived.Test.YtdgmokelmocejabDoorFill2
namespace Go.Proofs.YtdgmokelmocejabDoor
open Go.RowKit

/-- 'bound' of the laws: brought within 0 to 8192. -/
def boundN (N : Int) : Nat := ((if N < 0 then -(N + 1) else N) % 8193).toNat
theorem boundN_le (N : Int) : boundN N ≤ 8192 := by unfold boundN; split <;> omega

set_option maxHeartbeats 400000 in
theorem boundF_any (N : Int) (w : World) (h1 : -9223372036854775808 ≤ N) (h2 : N ≤ 9223372036854775807) :
    Calls Tryd.prog 25 #[.int .i64 N] w fun e w' => e = .returned (.int .i64 (boundN N)) ∧ w' = w := by
  by_cases h : N < 0
  · go_enter Tryd.func25, Tryd.ntmps25
    go_wp2
    go_ret
    have e : (N + 1).tmod 8193 = -((-(N + 1)) % 8193) := by
      have := Int.neg_tmod (N + 1) 8193
      rw [Int.tmod_eq_emod_of_nonneg (by omega)] at this
      omega
    exact ⟨ret_int (by unfold boundN; rw [if_pos h, e]; omega), rfl⟩
  · go_enter Tryd.func25, Tryd.ntmps25
    go_wp2
    go_ret
    exact ⟨ret_int (by unfold boundN; rw [if_neg (by omega)]; omega), rfl⟩

/-- Three lists as the laws take them. -/
structure ThreeV (w : World) (v : Value) (N : Int) (A B C : List Int) : Prop where
  n1 : -9223372036854775808 ≤ N
  n2 : N ≤ 9223372036854775807
  ex : ∃ a1 c1 a2 c2 a3 c3, v = .agg #[.int .i64 N, .slice a1 A.length c1, .slice a2 B.length c2, .slice a3 C.length c3] ∧ ReadsI w a1 A ∧ ReadsI w a2 B ∧ ReadsI w a3 C
  la : A.length ≤ 9223372036854775807
  lb : B.length ≤ 9223372036854775807
  lc : C.length ≤ 9223372036854775807

/-- A set made of its own: where it lies. -/
structure Made (w0 w : World) (b g cap n X : Nat) : Prop where
  set : IsSet w b g cap n X
  hb : w0.heap.size ≤ b
  hg : w0.heap.size ≤ g
  ne : b ≠ g

set_option maxRecDepth 100000 in
set_option maxHeartbeats 1000000 in
theorem sets_any (v : Value) (N : Int) (A B C : List Int) (w : World) (h : ThreeV w v N A B C) :
    Calls Tryd.prog 5 #[v] w fun e w' => ∃ b1 g1 c1 b2 g2 c2 b3 g3 c3, e = .returned (.tuple #[.pointer (some ⟨b1, 0, none⟩), .pointer (some ⟨b2, 0, none⟩), .pointer (some ⟨b3, 0, none⟩), .bool true]) ∧
      IsSet w' b1 g1 c1 (boundN N) (setI (boundN N) A) ∧ IsSet w' b2 g2 c2 (boundN N) (setI (boundN N) B) ∧ IsSet w' b3 g3 c3 (boundN N) (setI (boundN N) C) ∧
      w.heap.size ≤ b1 ∧ w.heap.size ≤ g1 ∧ w.heap.size ≤ b2 ∧ w.heap.size ≤ g2 ∧ w.heap.size ≤ b3 ∧ w.heap.size ≤ g3 ∧
      b1 ≠ g1 ∧ b2 ≠ g2 ∧ b3 ≠ g3 ∧ b1 < b2 ∧ b1 < g2 ∧ g1 < b2 ∧ g1 < g2 ∧ Below w.heap.size w w' := by
  obtain ⟨n1, n2, ⟨a1, c1, a2, c2, a3, c3, rfl, r1, r2, r3⟩, la, lb, lc⟩ := h
  have hle := boundN_le N
  have hA : Below w.heap.size w (w.alloc (.cells #[.int .i64 N, .slice a1 A.length c1, .slice a2 B.length c2, .slice a3 C.length c3] 24)) := (Below.refl _ _).alloc (Nat.le_refl _) _
  have r1' := r1.below hA
  have r2' := r2.below hA
  have r3' := r3.below hA
  clear r1 r2 r3
  go_enter Tryd.func5, Tryd.ntmps5
  go_wp2_with fail
  refine (boundF_any N _ n1 n2).mono ?_
  rintro e w1 ⟨rfl, rfl⟩
  obtain ⟨n, hn⟩ : ∃ n, boundN N = n := ⟨_, rfl⟩
  rw [hn] at hle
  rw [hn]
  have HN := hide hn
  clear hn
  go_wp2_with fail
  refine (filled_any a1 c1 n A _ hle r1' la).mono ?_
  rintro e w1 ⟨b1, g1, p1, rfl, s1, hb1, hg1, ne1, bl1⟩
  have hsz1 : w.heap.size + 1 ≤ w1.heap.size := by have := bl1.size; simp at this; omega
  have hB1 : Below w.heap.size w w1 := hA.trans (bl1.mono (by simp))
  have bx1 : w1.heap[w.heap.size]? = some (.cells #[.int .i64 N, .slice a1 A.length c1, .slice a2 B.length c2, .slice a3 C.length c3] 24 (0, 0)) := by rw [bl1.block _ (by simp)]; exact heap_alloc_new _ _
  have q2 : w1.cell? ⟨w.heap.size, 2, none⟩ = some (.slice a2 B.length c2) := by rw [cell_of_row w1 _ 2 _ 24 (0, 0) bx1]; rfl
  have r2b := r2'.below bl1
  have r3b := r3'.below bl1
  simp only [World.size_alloc] at hb1 hg1
  have lb1 := s1.blt
  have lg1 := s1.glt
  clear r1' r2' r3' bl1 hA
  go_wp2_with fail
  refine (filled_any a2 c2 n B _ hle r2b lb).mono ?_
  rintro e w2 ⟨b2, g2, p2, rfl, s2, hb2, hg2, ne2, bl2⟩
  have s1b := s1.below bl2
  have hsz2 := bl2.size
  have hB2 : Below w.heap.size w w2 := hB1.trans (bl2.mono (by omega))
  have bx2 : w2.heap[w.heap.size]? = some (.cells #[.int .i64 N, .slice a1 A.length c1, .slice a2 B.length c2, .slice a3 C.length c3] 24 (0, 0)) := by rw [bl2.block _ (by omega)]; exact bx1
  have q3 : w2.cell? ⟨w.heap.size, 3, none⟩ = some (.slice a3 C.length c3) := by rw [cell_of_row w2 _ 3 _ 24 (0, 0) bx2]; rfl
  have r3c := r3b.below bl2
  clear s1 hB1 bx1 q2 r2b r3b bl2
  go_wp2_with fail
  refine (filled_any a3 c3 n C _ hle r3c lc).mono ?_
  rintro e w3 ⟨b3, g3, p3, rfl, s3, hb3, hg3, ne3, bl3⟩
  have s1c := s1b.below bl3
  have s2c := s2.below bl3
  have hB3 : Below w.heap.size w w3 := hB2.trans (bl3.mono (by omega))
  clear s1b s2 hB2 bx2 q3 r3c bl3
  go_wp2
  refine bodyPost_ret (v := .tuple #[.pointer (some ⟨b1, 0, none⟩), .pointer (some ⟨b2, 0, none⟩), .pointer (some ⟨b3, 0, none⟩), .bool true]) (by simp [results, Tryd.results5, go_sem]) rfl ?_
  rw [HN.out]
  exact ⟨b1, g1, p1, b2, g2, p2, b3, g3, p3, rfl, s1c, s2c, s3, by omega, by omega, by omega, by omega, by omega, by omega, ne1, ne2, ne3, by omega, by omega, by omega, by omega, hB3⟩

theorem known_sets : cnt 70 (setI 70 [69, 3]) = 2 ∧ hasB (setI 70 [69, 3]) 69 = true ∧ hasB (setI 70 [69, 3]) 4 = false ∧ nextL (elems 70 (setI 70 [69, 3])) 4 = 69 := by decide +kernel

set_option maxRecDepth 100000 in
set_option maxHeartbeats 1000000 in
theorem known_any (w : World) (hT : TabAt w) (hw0 : 0 < w.heap.size) :
    Calls Tryd.prog 6 #[] w fun e w' => e = .returned (.bool true) ∧ Below w.heap.size w w' := by
  have hA : Below w.heap.size w (w.alloc (.cells #[.int .i64 69, .int .i64 3] 3)) := (Below.refl _ _).alloc (Nat.le_refl _) _
  have hr : ReadsI (w.alloc (.cells #[.int .i64 69, .int .i64 3] 3)) (some ⟨w.heap.size, 0, none⟩) [69, 3] := by
    intro k hk
    refine ⟨_, _, rfl, ?_⟩
    rw [cell_of_row _ w.heap.size (0 + k) #[.int .i64 69, .int .i64 3] 3 (0, 0) (heap_alloc_new _ _)]
    simp at hk
    match k, hk with
    | 0, _ => rfl
    | 1, _ => rfl
  obtain ⟨k1, k2, k3, k4⟩ := known_sets
  have HK := hide (And.intro k1 (And.intro k2 (And.intro k3 k4)))
  clear k1 k2 k3 k4
  go_enter Tryd.func6, Tryd.ntmps6
  go_wp2_with fail
  refine (filled_any (some ⟨w.heap.size, 0, none⟩) 2 70 [69, 3] _ (by omega) hr (by decide)).mono ?_
  rintro e w1 ⟨b, g, cap, rfl, s1, hb1, hg1, ne1, bl1⟩
  have hB1 : Below w.heap.size w w1 := hA.trans (bl1.mono (by simp))
  have hT1 := hT.below hB1 hw0
  clear hA hr bl1 hT
  go_wp2_with fail
  refine (count_any b g cap 70 _ _ s1).mono ?_
  rintro e w2 ⟨rfl, rfl⟩
  rw [HK.out.1]
  go_wp2_with fail
  refine (has_any b g cap 70 _ 69 _ s1).mono ?_
  rintro e w2 ⟨rfl, q, rfl⟩
  rw [HK.out.2.1]
  have s2 := s1.below (below_drewN' (Below.refl _ _) q)
  have hT2 := hT1.drewN q
  go_wp2_with fail
  refine (has_any b g cap 70 _ 4 _ s2).mono ?_
  rintro e w3 ⟨rfl, q', rfl⟩
  rw [HK.out.2.2.1]
  have s3 := s2.below (below_drewN' (Below.refl _ _) q')
  have hT3 := hT2.drewN q'
  go_wp2_with fail
  rw [← drewN_drewN]
  refine (next_any b g cap 70 _ 4 _ s3 hT3).mono ?_
  rintro e w4 ⟨rfl, q'', rfl⟩
  rw [HK.out.2.2.2]
  go_wp2
  go_ret
  exact ⟨rfl, below_drewN' hB1 _⟩
end Go.Proofs.YtdgmokelmocejabDoor
