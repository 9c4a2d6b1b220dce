import Derived.Test.YtfoahpideglghaaGreatDoorFe
namespace Go.Proofs.YtfoahpideglghaaGreatDoor
open Go.RowKit Go.Maps
attribute [local go_sem] Oper.semAt_some

set_option maxRecDepth 100000 in
set_option maxHeartbeats 1000000 in
theorem from_any (w : World) (N p : Nat) (m y : Int) (a1 a2 : Option Addr) (l1 l2 c1 c2 g3 k3 gf : Nat) (Es : List EdT) (hE : Hid (RdE w (some ⟨g3, 0, none⟩) Es)) (hk : Es.length ≤ k3) (hM : Hid (Mrw w gf 3 (N + 1) (fun c => .int .i64 (lessC Es c : Nat)) (N + 1))) (hp : p < N) (hN : N ≤ 4096) (hS : Hid (SsE Es)) (hl : Es.length ≤ 4194304) :
    Calls Tryz.prog 92 #[.agg #[.int .i64 (N : Int), .int .i64 m, .slice a1 l1 c1, .slice a2 l2 c2, .slice (some ⟨g3, 0, none⟩) Es.length k3, .slice (some ⟨gf, 0, none⟩) (N + 1) (N + 1)], .int .i64 (p : Int), .int .i64 y] w fun e w' => ∃ o c, e = .returned (.slice (some ⟨g3, o, none⟩) (fromL Es p y).length c) ∧ Hid (RdE w (some ⟨g3, o, none⟩) (fromL Es p y)) ∧ Below w.heap.size w w' := by
  obtain ⟨W0, hW0⟩ : ∃ W0, w.alloc (.cells #[.int .i64 (N : Int), .int .i64 m, .slice a1 l1 c1, .slice a2 l2 c2, .slice (some ⟨g3, 0, none⟩) Es.length k3, .slice (some ⟨gf, 0, none⟩) (N + 1) (N + 1)] 80) = W0 := ⟨_, rfl⟩
  have HD : Hid (Below w.heap.size w W0) := hide (by rw [← hW0]; exact (Below.refl _ _).alloc (Nat.le_refl _) _)
  have b0 : W0.heap[w.heap.size]? = some (.cells #[.int .i64 (N : Int), .int .i64 m, .slice a1 l1 c1, .slice a2 l2 c2, .slice (some ⟨g3, 0, none⟩) Es.length k3, .slice (some ⟨gf, 0, none⟩) (N + 1) (N + 1)] 80 (0, 0)) := by rw [← hW0]; exact World.alloc_heap_new _ _
  have k4 : W0.cell? ⟨w.heap.size, 4, none⟩ = some (.slice (some ⟨g3, 0, none⟩) Es.length k3) := cell_of b0 rfl
  have k5 : W0.cell? ⟨w.heap.size, 5, none⟩ = some (.slice (some ⟨gf, 0, none⟩) (N + 1) (N + 1)) := cell_of b0 rfl
  have HM := hide (hM.out.below HD.out hM.out.lt)
  have HE := hide (hE.out.on HD.out)
  have r0 := HM.out.at p (by omega)
  have r1 := HM.out.at (p + 1) (by omega)
  have u0 := lessC_le Es p
  have u1 := lessC_le Es (p + 1)
  have u2 : lessC Es p ≤ lessC Es (p + 1) := by rw [lessC_succ]; omega
  have HL := hide (subL_len (Es := Es) (lo := lessC Es p) u1)
  have HR := hide (subL_rd hE.out (lessC Es p) (lessC Es (p + 1)))
  have HU0 : ∀ L, subL Es (lessC Es p) (lessC Es (p + 1)) = L → ∀ i j (hi : i < L.length) (hj : j < L.length), i ≤ j → L[i].2.1 ≤ L[j].2.1 := fun L hL => by subst hL; exact part_up hS.out (p := p)
  have HQ := hide (fun (k z : Nat) (L : List EdT) (hL : subL Es (lessC Es p) (lessC Es (p + 1)) = L) => from_eq (y := y) hS.out (k := k) (z := z) hL)
  obtain ⟨L, hL⟩ : ∃ L, subL Es (lessC Es p) (lessC Es (p + 1)) = L := ⟨_, rfl⟩
  have HU := hide (HU0 L hL)
  clear HU0
  simp only [hL] at HL HR HQ
  replace HQ := hide (fun (k z : Nat) => HQ.out k z L rfl)
  generalize fromL Es p y = F at HQ ⊢
  simp only [Nat.zero_add] at HR
  generalize lessC Es p = lo at *
  generalize lessC Es (p + 1) = hi at *
  have v0 : (0 : Int) ≤ (p : Int) := by omega
  have v1 : (p : Int) < (N : Int) + 1 := by omega
  have v2 : (p : Int) + 1 < (N : Int) + 1 := by omega
  have v3 : (lo : Int) ≤ (hi : Int) := by omega
  have v4 : (hi : Int) ≤ (k3 : Int) := by omega
  have v5 : (p : Int) ≤ 4096 := by omega
  clear b0 hM hE hL
  go_enter Tryz.func92, Tryz.ntmps92
  go_upto_region 1 with fail
  go_cut [7] from 7 to 26 (fun v W => ∃ o c, v = .slice (some ⟨g3, o, none⟩) L.length c ∧ L.length ≤ c ∧ Hid (RdE w (some ⟨g3, o, none⟩) L) ∧ Hid (Below W0.heap.size W0 W))
  case first =>
    refine wp_region_phase 14 #[true, true, true, true, true, true, true, true, true, true, true, true, true, true, false, false] (by kernel_rfl) (by kernel_rfl) ?_
    simp only [List.take_succ_cons, List.take_zero, List.drop_succ_cons, List.drop_zero]
    repeat (go_big_quiet_step (fail))
    refine wpQuiet_nil ?_
    intro wz hzz
    obtain ⟨nq, rfl⟩ := hzz
    go_wp2_with fail
    · rename k3 = lo => hkl
      subst hkl
      go_meet
      have hn : L = [] := List.eq_nil_of_length_eq_zero (by have := HL.out; omega)
      exact ⟨0, 0, by rw [HL.out], by rw [hn]; simp, hide (by rw [hn]; intro j hj; simp at hj), hide (below_drewN2 (Below.refl _ _) nq)⟩
    · go_meet
      exact ⟨lo * 3, k3 - lo, by rw [HL.out], by rw [HL.out]; omega, HR, hide (below_drewN2 (Below.refl _ _) nq)⟩
  case rest =>
    obtain ⟨o, c, rfl, hc, HR2, HB⟩ := hcut
    rename World => wx
    have TS := search_any wx (some ⟨g3, o, none⟩) L c y (hide (HR2.out.on (HD.out.trans (HB.out.mono HD.out.size)))) (by have := HL.out; omega) HU
    have hll : L.length ≤ 4194304 := by have := HL.out; omega
    clear k4 k5 r0 r1 HR HU HL
    go_wp2_with (go_at_call 114; refine TS.mono ?_; rintro e w2 ⟨k, rfl, hkl, hkk, d2⟩)
    have HK := hide hkk
    have HB2 := hide (HB.out.trans (d2.mono HB.out.size))
    clear hkk d2 TS
    go_loopw [11] (fun ev wr => ∃ z : Nat, k ≤ z ∧ z ≤ L.length ∧ ev = .int .i64 z ∧ Hid (∀ t (h : t < L.length), k ≤ t → t < z → L[t].2.1 = y) ∧ Hid (Below W0.heap.size W0 wr)) (fun ev _ => L.length - (intOf ev).toNat)
    case atStart => exact ⟨k, Nat.le_refl _, hkl, rfl, hide (fun t _ h1 h2 => absurd h1 (by omega)), HB2⟩
    case round =>
      obtain ⟨z, hkz, hzl, rfl, HZ, HW⟩ := hrel
      clear HB2
      have fin : Hid ((∀ h : z < L.length, L[z].2.1 ≠ y) → subL L k z = F) := hide (fun he => HQ.out k z HK.out hkz HZ.out he)
      by_cases hz : z < L.length
      · obtain ⟨g', o', he, q0, q1, q2⟩ := (HR2.out.on (HD.out.trans (HW.out.mono HD.out.size))) z hz
        cases he
        have i0 : (0 : Int) ≤ (z : Int) := by omega
        have i1 : (z : Int) < (L.length : Int) := by omega
        by_cases hy : L[z].2.1 = y
        · have hy2 : (L[z].2.1 == y) = true := by simpa using hy
          have HZ2 : Hid (∀ t (h : t < L.length), k ≤ t → t < z + 1 → L[t].2.1 = y) := hide (fun t ht h1 h2 => by
            rcases Nat.lt_or_ge t z with h3 | h3
            · exact HZ.out t ht h1 h3
            · obtain rfl : t = z := by omega
              exact hy)
          rw [hy] at q1
          clear hy hy2
          go_wp2
          exact ⟨⟨z + 1, by omega, by omega, by go_num, HZ2, HW⟩, by simp [intOf]; omega⟩
        · have hy2 : (L[z].2.1 == y) = false := by simpa using hy
          have FN := hide (fin.out (fun _ => hy))
          generalize L[z].2.1 = x1 at q1 hy hy2
          have k0 : (k : Int) ≤ (z : Int) := by omega
          have k1 : (z : Int) ≤ (c : Int) := by omega
          go_wp2
          refine bodyPost_ret (results_tmp rfl _ _ _) rfl ?_
          exact ⟨o + k * 3, c - k, by rw [← FN.out, subL_len hzl]; rfl, hide (by rw [← FN.out]; exact subL_rd HR2.out k z), HD.out.trans (HW.out.mono HD.out.size)⟩
      · have FN := hide (fin.out (fun q => absurd q hz))
        have i1 : ¬ (z : Int) < (L.length : Int) := by omega
        have k0 : (k : Int) ≤ (z : Int) := by omega
        have k1 : (z : Int) ≤ (c : Int) := by omega
        by_cases hck : c = k
        · have hn : F = [] := by rw [← FN.out]; exact List.eq_nil_of_length_eq_zero (by rw [subL_len hzl]; omega)
          have e0 : z - k = 0 := by omega
          go_wp2
          refine bodyPost_ret (results_tmp rfl _ _ _) rfl ?_
          subst hn
          simp only
          exact ⟨o, ⟨0, rfl⟩, hide (by intro j hj; simp at hj), HD.out.trans (HW.out.mono HD.out.size)⟩
        · go_wp2
          refine bodyPost_ret (results_tmp rfl _ _ _) rfl ?_
          exact ⟨o + k * 3, ⟨c - k, by rw [← FN.out, subL_len hzl]; rfl⟩, hide (by rw [← FN.out]; exact subL_rd HR2.out k z), HD.out.trans (HW.out.mono HD.out.size)⟩
end Go.Proofs.YtfoahpideglghaaGreatDoor
