import Derived.Test.YtdgmokelmocejabDoorMix
import Derived.Lib.BufferMore
namespace Go.Proofs.YtdgmokelmocejabDoor
open Go.RowKit

theorem words_one (n X : Nat) : ∀ u ∈ wordVals n X, u.oneCell' = true := by
  intro u hu
  obtain ⟨k, _, rfl⟩ := List.mem_map.1 hu
  rfl

theorem new_cells {w : World} {g : Nat} {vs : List Value} (hg : g < w.heap.size) (h : ∀ (j : Nat) (u : Value), vs[j]? = some u → w.cell? ((⟨g, 0, none⟩ : Addr).add j) = some u) (o : Obj) :
    ∀ (j : Nat) (u : Value), vs[j]? = some u → (w.alloc o).cell? ((⟨g, 0, none⟩ : Addr).add j) = some u := fun j u hu => by
  have := h j u hu
  rw [Addr.add_lit] at this ⊢
  rw [World.cell?_of_block (w := w) (Below.heap_alloc w o g hg)]
  exact this

theorem keep2 {w w1 : World} {b : Nat} {v0 v1 : Value} (hb : b < w.heap.size) (h0 : w.cell? ⟨b, 0, none⟩ = some v0) (h1 : w.cell? ⟨b, 1, none⟩ = some v1) (d : Below w.drew.heap.size w.drew w1) :
    w1.cell? ⟨b, 0, none⟩ = some v0 ∧ w1.cell? ⟨b, 1, none⟩ = some v1 :=
  ⟨(d.cell (p := ⟨b, 0, none⟩) hb).trans h0, (d.cell (p := ⟨b, 1, none⟩) hb).trans h1⟩
theorem keep2a {w w1 : World} {b : Nat} {v0 v1 : Value} {o : Obj} (hb : b < w.heap.size) (h0 : w.cell? ⟨b, 0, none⟩ = some v0) (h1 : w.cell? ⟨b, 1, none⟩ = some v1) (d : Below w.drew.heap.size w.drew w1) :
    (w1.alloc o).cell? ⟨b, 0, none⟩ = some v0 ∧ (w1.alloc o).cell? ⟨b, 1, none⟩ = some v1 := by
  have hlt : b < w1.heap.size := Nat.lt_of_lt_of_le hb d.size
  obtain ⟨k0, k1⟩ := keep2 hb h0 h1 d
  exact ⟨(World.cell?_of_block (w := w1) (a := ⟨b, 0, none⟩) (Below.heap_alloc w1 o b hlt)).trans k0, (World.cell?_of_block (w := w1) (a := ⟨b, 1, none⟩) (Below.heap_alloc w1 o b hlt)).trans k1⟩

set_option maxRecDepth 100000 in
set_option maxHeartbeats 1000000 in
theorem clone_any (g cap n X : Nat) (w : World) (hn : n ≤ 8192) (hown : w.ownsRow 0 65 1 (.slice (some ⟨g, 0, none⟩) (nw n) cap) (nw n) (wordVals n X)) :
    Calls Tryd.prog 29 #[.slice (some ⟨g, 0, none⟩) (nw n) cap] w fun e w' => ∃ g' cap', e = .returned (.slice (some ⟨g', 0, none⟩) (nw n) cap') ∧ w'.ownsRow w.heap.size 65 1 (.slice (some ⟨g', 0, none⟩) (nw n) cap') (nw n) (wordVals n X) ∧ Below w.heap.size w w' := by
  obtain ⟨i0, hi, hz0, hz1, hz2⟩ := info_parts info67
  have hnw := nw_le hn
  have hglt := (hown.lt g rfl).2
  have hcells := hown.cells (g := g) rfl
  have heq : ∀ W : World, (binOp .eql 60 (.slice (some ⟨g, 0, none⟩) (nw n) cap) (.slice none 0 0)).run Tryd.prog W = .ok (.bool false) W := fun W => by
    have := Lib.run_eql_slice_nil (P := Tryd.prog) W 60 65 (some ⟨g, 0, none⟩) (nw n) cap 0 0 Tryd.underlying60
    simpa using this
  have hlen := wordVals_length n X
  have HL := hide hlen
  have HC := hide hcells
  clear hlen hcells
  go_enter Tryd.func29, Tryd.ntmps29
  go_wp2_with (at_builtin; refine wpList_append_own _ rfl _ _ _ rfl w.heap.size 65 i0 _ 1 8 Tryd.underlying60 hi hz0 hz1 hz2 rfl (by omega) (.slice (some ⟨w.heap.size, 0, none⟩) 0 0) 0 [] rfl (World.ownsRow_made w #[] 0 (Nat.le_refl _) (Nat.zero_le _) rfl) ⟨g, 0, none⟩ (nw n) cap (wordVals n X) rfl (by rw [HL.out, Nat.mul_one]) (new_cells hglt HC.out _) (words_one n X) (by unfold maxLen; omega) (by omega) (by simp) ?_)
  intro v' w1 ho hgr hnil
  have hv : ∃ g' cap', v' = .slice (some ⟨g', 0, none⟩) (nw n) cap' := by
    rcases ho.2 with ⟨hv, _⟩ | ⟨g', cap', cur, hv, _⟩
    · exact absurd hv hnil
    · exact ⟨g', cap', hv⟩
  obtain ⟨g', cap', rfl⟩ := hv
  have hb : Below w.heap.size w w1 := ((Below.refl _ _).alloc (Nat.le_refl _) _).grown hgr (by simp) (by intro k hk; simp [Value.ownBlock] at hk; omega)
  clear hgr hnil HC hown heq
  go_wp2
  go_ret
  exact ⟨g', cap', rfl, ho, hb⟩

set_option maxRecDepth 100000 in
set_option maxHeartbeats 1000000 in
theorem copy_any (b g cap n X : Nat) (w : World) (hs : IsSet w b g cap n X) :
    Calls Tryd.prog 8 #[.pointer (some ⟨b, 0, none⟩)] w fun e w' => ∃ b' g' cap', e = .returned (.pointer (some ⟨b', 0, none⟩)) ∧ IsSet w' b' g' cap' n X ∧ w.heap.size ≤ b' ∧ w.heap.size ≤ g' ∧ b' ≠ g' ∧ Below w.heap.size w w' := by
  have h0 := hs.c0
  have h1 := hs.c1
  have hn := hs.hn
  have hblt := hs.blt
  have HS := hide hs
  clear hs
  go_enter Tryd.func8, Tryd.ntmps8
  go_wp2_with fail
  go_region_held3 (fun w' => w'.cell? ⟨b, 0, none⟩ = some (.int .i64 n) ∧ w'.cell? ⟨b, 1, none⟩ = some (.slice (some ⟨g, 0, none⟩) (nw n) cap))
    (first | exact keep2 hblt h0 h1 hb1 | exact keep2a hblt h0 h1 hb1 | go_keep)
    ((go_at_call 29; refine (clone_any g cap n X _ hn (by exact HS.out.own)).mono ?_; rintro e w1 ⟨g', cap', rfl, ho, hb1⟩))
  go_wp2
  go_ret
  have hg := ho.lt g' rfl
  have hsz := hb1.size
  have hbw : Below w.heap.size w w1 := ⟨hb1.os, hb1.tape, hb1.output, hb1.size, hb1.block⟩
  have hg1 : w.heap.size ≤ g' := hg.1
  have hsz1 : w.heap.size ≤ w1.heap.size := hsz
  refine ⟨w1.heap.size, g', cap', rfl, ⟨hn, HS.out.hX, heap_alloc_new _ _, ownsRow_base (ho.alloc _) (Nat.zero_le _)⟩, hsz1, hg1, by omega, hbw.alloc hsz1 _⟩

set_option maxHeartbeats 1000000 in
theorem mixed_or (b1 g1 c1 n X b2 g2 c2 Y : Nat) (w : World) (h1 : IsSet w b1 g1 c1 n X) (h2 : IsSet w b2 g2 c2 n Y) :
    Calls Tryd.prog 64 #[.pointer (some ⟨b1, 0, none⟩), .pointer (some ⟨b2, 0, none⟩), .func (.func 31) #[] #[]] w fun e w' => ∃ b g c, e = .returned (.tuple #[.pointer (some ⟨b, 0, none⟩), .int .i64 0]) ∧ IsSet w' b g c n (X ||| Y) ∧ w.heap.size ≤ b ∧ w.heap.size ≤ g ∧ b ≠ g ∧ Below w.heap.size w w' := by
  go_enter Tryd.func64, Tryd.ntmps64
  go_wp2_with fail
  refine (alike_yes b1 b2 n _ h1.c0 h2.c0).mono ?_
  rintro e w1 ⟨rfl, q, rfl⟩
  have d1 : Below w.heap.size w (w.drewN q) := below_drewN' (Below.refl _ _) q
  have s1 := h1.below d1
  have s2 := h2.below d1
  clear h1 h2
  go_wp2_with fail
  refine (copy_any b1 g1 c1 n X _ s1).mono ?_
  rintro e w2 ⟨b, g, c, rfl, s3, m1, m2, m3, d2⟩
  have m1 : w.heap.size ≤ b := m1
  have m2 : w.heap.size ≤ g := m2
  have l1 : b2 < w.heap.size := s2.blt
  have l2 : g2 < w.heap.size := s2.glt
  have s2 := s2.below d2
  have d3 : Below w.heap.size w w2 := d1.trans (d2.mono (Nat.le_refl _))
  clear d1 d2 s1
  go_wp2_with fail
  refine (mix_or b g c n X b2 g2 c2 Y w.heap.size _ s3 s2 m3 (by omega) (by omega) m2).mono ?_
  rintro e w3 ⟨rfl, s4, d4⟩
  clear s3 s2
  go_wp2
  go_ret2
  exact ⟨b, g, c, rfl, s4, m1, m2, m3, d3.trans d4⟩

set_option maxHeartbeats 1000000 in
theorem union_any (b1 g1 c1 n X b2 g2 c2 Y : Nat) (w : World) (h1 : IsSet w b1 g1 c1 n X) (h2 : IsSet w b2 g2 c2 n Y) :
    Calls Tryd.prog 37 #[.pointer (some ⟨b1, 0, none⟩), .pointer (some ⟨b2, 0, none⟩)] w fun e w' => ∃ b g c, e = .returned (.tuple #[.pointer (some ⟨b, 0, none⟩), .int .i64 0]) ∧ IsSet w' b g c n (X ||| Y) ∧ w.heap.size ≤ b ∧ w.heap.size ≤ g ∧ b ≠ g ∧ Below w.heap.size w w' := by
  go_enter Tryd.func37, Tryd.ntmps37
  go_wp2_with fail
  refine (mixed_or b1 g1 c1 n X b2 g2 c2 Y _ h1 h2).mono ?_
  rintro e w1 ⟨b, g, c, rfl, s, m1, m2, m3, d⟩
  clear h1 h2
  go_wp2
  go_ret2
  exact ⟨b, g, c, rfl, s, m1, m2, m3, d⟩

set_option maxHeartbeats 1000000 in
theorem lunion_any (b1 g1 c1 n X b2 g2 c2 Y : Nat) (w : World) (h1 : IsSet w b1 g1 c1 n X) (h2 : IsSet w b2 g2 c2 n Y) :
    Calls Tryd.prog 13 #[.pointer (some ⟨b1, 0, none⟩), .pointer (some ⟨b2, 0, none⟩)] w fun e w' => ∃ b g c, e = .returned (.pointer (some ⟨b, 0, none⟩)) ∧ IsSet w' b g c n (X ||| Y) ∧ w.heap.size ≤ b ∧ w.heap.size ≤ g ∧ b ≠ g ∧ Below w.heap.size w w' := by
  go_enter Tryd.func13, Tryd.ntmps13
  go_wp2_with fail
  refine (union_any b1 g1 c1 n X b2 g2 c2 Y _ h1 h2).mono ?_
  rintro e w1 ⟨b, g, c, rfl, s, m1, m2, m3, d⟩
  clear h1 h2
  go_wp2
  go_ret
  exact ⟨b, g, c, rfl, s, m1, m2, m3, d⟩

set_option maxHeartbeats 1000000 in
theorem mixed_and (b1 g1 c1 n X b2 g2 c2 Y : Nat) (w : World) (h1 : IsSet w b1 g1 c1 n X) (h2 : IsSet w b2 g2 c2 n Y) :
    Calls Tryd.prog 64 #[.pointer (some ⟨b1, 0, none⟩), .pointer (some ⟨b2, 0, none⟩), .func (.func 32) #[] #[]] w fun e w' => ∃ b g c, e = .returned (.tuple #[.pointer (some ⟨b, 0, none⟩), .int .i64 0]) ∧ IsSet w' b g c n (X &&& Y) ∧ w.heap.size ≤ b ∧ w.heap.size ≤ g ∧ b ≠ g ∧ Below w.heap.size w w' := by
  go_enter Tryd.func64, Tryd.ntmps64
  go_wp2_with fail
  refine (alike_yes b1 b2 n _ h1.c0 h2.c0).mono ?_
  rintro e w1 ⟨rfl, q, rfl⟩
  have d1 : Below w.heap.size w (w.drewN q) := below_drewN' (Below.refl _ _) q
  have s1 := h1.below d1
  have s2 := h2.below d1
  clear h1 h2
  go_wp2_with fail
  refine (copy_any b1 g1 c1 n X _ s1).mono ?_
  rintro e w2 ⟨b, g, c, rfl, s3, m1, m2, m3, d2⟩
  have m1 : w.heap.size ≤ b := m1
  have m2 : w.heap.size ≤ g := m2
  have l1 : b2 < w.heap.size := s2.blt
  have l2 : g2 < w.heap.size := s2.glt
  have s2 := s2.below d2
  have d3 : Below w.heap.size w w2 := d1.trans (d2.mono (Nat.le_refl _))
  clear d1 d2 s1
  go_wp2_with fail
  refine (mix_and b g c n X b2 g2 c2 Y w.heap.size _ s3 s2 m3 (by omega) (by omega) m2).mono ?_
  rintro e w3 ⟨rfl, s4, d4⟩
  clear s3 s2
  go_wp2
  go_ret2
  exact ⟨b, g, c, rfl, s4, m1, m2, m3, d3.trans d4⟩

set_option maxHeartbeats 1000000 in
theorem meet_any (b1 g1 c1 n X b2 g2 c2 Y : Nat) (w : World) (h1 : IsSet w b1 g1 c1 n X) (h2 : IsSet w b2 g2 c2 n Y) :
    Calls Tryd.prog 38 #[.pointer (some ⟨b1, 0, none⟩), .pointer (some ⟨b2, 0, none⟩)] w fun e w' => ∃ b g c, e = .returned (.tuple #[.pointer (some ⟨b, 0, none⟩), .int .i64 0]) ∧ IsSet w' b g c n (X &&& Y) ∧ w.heap.size ≤ b ∧ w.heap.size ≤ g ∧ b ≠ g ∧ Below w.heap.size w w' := by
  go_enter Tryd.func38, Tryd.ntmps38
  go_wp2_with fail
  refine (mixed_and b1 g1 c1 n X b2 g2 c2 Y _ h1 h2).mono ?_
  rintro e w1 ⟨b, g, c, rfl, s, m1, m2, m3, d⟩
  clear h1 h2
  go_wp2
  go_ret2
  exact ⟨b, g, c, rfl, s, m1, m2, m3, d⟩

set_option maxHeartbeats 1000000 in
theorem lmeet_any (b1 g1 c1 n X b2 g2 c2 Y : Nat) (w : World) (h1 : IsSet w b1 g1 c1 n X) (h2 : IsSet w b2 g2 c2 n Y) :
    Calls Tryd.prog 14 #[.pointer (some ⟨b1, 0, none⟩), .pointer (some ⟨b2, 0, none⟩)] w fun e w' => ∃ b g c, e = .returned (.pointer (some ⟨b, 0, none⟩)) ∧ IsSet w' b g c n (X &&& Y) ∧ w.heap.size ≤ b ∧ w.heap.size ≤ g ∧ b ≠ g ∧ Below w.heap.size w w' := by
  go_enter Tryd.func14, Tryd.ntmps14
  go_wp2_with fail
  refine (meet_any b1 g1 c1 n X b2 g2 c2 Y _ h1 h2).mono ?_
  rintro e w1 ⟨b, g, c, rfl, s, m1, m2, m3, d⟩
  clear h1 h2
  go_wp2
  go_ret
  exact ⟨b, g, c, rfl, s, m1, m2, m3, d⟩

set_option maxHeartbeats 1000000 in
theorem mixed_minus (b1 g1 c1 n X b2 g2 c2 Y : Nat) (w : World) (h1 : IsSet w b1 g1 c1 n X) (h2 : IsSet w b2 g2 c2 n Y) :
    Calls Tryd.prog 64 #[.pointer (some ⟨b1, 0, none⟩), .pointer (some ⟨b2, 0, none⟩), .func (.func 33) #[] #[]] w fun e w' => ∃ b g c, e = .returned (.tuple #[.pointer (some ⟨b, 0, none⟩), .int .i64 0]) ∧ IsSet w' b g c n (minusN X Y) ∧ w.heap.size ≤ b ∧ w.heap.size ≤ g ∧ b ≠ g ∧ Below w.heap.size w w' := by
  go_enter Tryd.func64, Tryd.ntmps64
  go_wp2_with fail
  refine (alike_yes b1 b2 n _ h1.c0 h2.c0).mono ?_
  rintro e w1 ⟨rfl, q, rfl⟩
  have d1 : Below w.heap.size w (w.drewN q) := below_drewN' (Below.refl _ _) q
  have s1 := h1.below d1
  have s2 := h2.below d1
  clear h1 h2
  go_wp2_with fail
  refine (copy_any b1 g1 c1 n X _ s1).mono ?_
  rintro e w2 ⟨b, g, c, rfl, s3, m1, m2, m3, d2⟩
  have m1 : w.heap.size ≤ b := m1
  have m2 : w.heap.size ≤ g := m2
  have l1 : b2 < w.heap.size := s2.blt
  have l2 : g2 < w.heap.size := s2.glt
  have s2 := s2.below d2
  have d3 : Below w.heap.size w w2 := d1.trans (d2.mono (Nat.le_refl _))
  clear d1 d2 s1
  go_wp2_with fail
  refine (mix_minus b g c n X b2 g2 c2 Y w.heap.size _ s3 s2 m3 (by omega) (by omega) m2).mono ?_
  rintro e w3 ⟨rfl, s4, d4⟩
  clear s3 s2
  go_wp2
  go_ret2
  exact ⟨b, g, c, rfl, s4, m1, m2, m3, d3.trans d4⟩

set_option maxHeartbeats 1000000 in
theorem minus_any (b1 g1 c1 n X b2 g2 c2 Y : Nat) (w : World) (h1 : IsSet w b1 g1 c1 n X) (h2 : IsSet w b2 g2 c2 n Y) :
    Calls Tryd.prog 39 #[.pointer (some ⟨b1, 0, none⟩), .pointer (some ⟨b2, 0, none⟩)] w fun e w' => ∃ b g c, e = .returned (.tuple #[.pointer (some ⟨b, 0, none⟩), .int .i64 0]) ∧ IsSet w' b g c n (minusN X Y) ∧ w.heap.size ≤ b ∧ w.heap.size ≤ g ∧ b ≠ g ∧ Below w.heap.size w w' := by
  go_enter Tryd.func39, Tryd.ntmps39
  go_wp2_with fail
  refine (mixed_minus b1 g1 c1 n X b2 g2 c2 Y _ h1 h2).mono ?_
  rintro e w1 ⟨b, g, c, rfl, s, m1, m2, m3, d⟩
  clear h1 h2
  go_wp2
  go_ret2
  exact ⟨b, g, c, rfl, s, m1, m2, m3, d⟩

set_option maxHeartbeats 1000000 in
theorem lminus_any (b1 g1 c1 n X b2 g2 c2 Y : Nat) (w : World) (h1 : IsSet w b1 g1 c1 n X) (h2 : IsSet w b2 g2 c2 n Y) :
    Calls Tryd.prog 15 #[.pointer (some ⟨b1, 0, none⟩), .pointer (some ⟨b2, 0, none⟩)] w fun e w' => ∃ b g c, e = .returned (.pointer (some ⟨b, 0, none⟩)) ∧ IsSet w' b g c n (minusN X Y) ∧ w.heap.size ≤ b ∧ w.heap.size ≤ g ∧ b ≠ g ∧ Below w.heap.size w w' := by
  go_enter Tryd.func15, Tryd.ntmps15
  go_wp2_with fail
  refine (minus_any b1 g1 c1 n X b2 g2 c2 Y _ h1 h2).mono ?_
  rintro e w1 ⟨b, g, c, rfl, s, m1, m2, m3, d⟩
  clear h1 h2
  go_wp2
  go_ret
  exact ⟨b, g, c, rfl, s, m1, m2, m3, d⟩

end Go.Proofs.YtdgmokelmocejabDoor
