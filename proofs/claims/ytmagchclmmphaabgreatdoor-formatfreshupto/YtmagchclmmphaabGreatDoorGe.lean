import Derived.Test.YtmagchclmmphaabGreatDoorGd
import Derived.Test.YtmagchclmmphaabGreatDoorAT
namespace Go.Proofs.YtmagchclmmphaabGreatDoor
open Go.RowKit Go.Maps
attribute [local go_sem] Oper.semAt_some

/-! ### grownAuto -/
def mkA : Nat → Nat → Value
  | 0, j => .string (mk3 97 j)
  | 1, j => .string (mk3 98 j)
  | 2, j => .int .i64 (-(j : Int) - 1)
  | 3, j => .int .i64 (-9000 - (j : Int) - 1)
  | _, j => if j % 3 = 0 then .int .i64 (-((j / 3 : Nat) : Int) - 1) else .int .i64 0
theorem mkA_s (k i : Nat) (hk : k < 2) : mkA (k + 0) i = .string (mk3 (97 + k) i) := by
  match k, hk with
  | 0, _ => rfl
  | 1, _ => rfl
theorem mkA_i (k i : Nat) (hk : k < 2) : mkA (k + 2) i = .int .i64 (-9000 * (k : Int) - (i : Int) - 1) := by
  match k, hk with
  | 0, _ => simp [mkA]
  | 1, _ => simp [mkA]
theorem mkA_4 (i : Nat) : mkA 4 (i * 3) = .int .i64 (-(i : Int) - 1) ∧ mkA 4 (i * 3 + 1) = .int .i64 0 ∧ mkA 4 (i * 3 + 2) = .int .i64 0 := by
  have e0 : i * 3 / 3 = i := by omega
  refine ⟨?_, ?_, ?_⟩
  · simp [mkA, e0]
  · simp [mkA, Nat.add_mod]
  · simp [mkA, Nat.add_mod]
def aA (n : Nat → Nat) (k : Nat) : Nat → Nat := fun r => if r < k ∨ (2 ≤ r ∧ r < 2 + k) then n r else 0
theorem aA_next (n : Nat → Nat) (k : Nat) (hk : k < 2) : upd (upd (aA n k) (k + 0) (n (k + 0))) (k + 2) (n (k + 2)) = aA n (k + 1) := by
  funext r
  unfold upd aA
  by_cases e : r = k + 2
  · rw [if_pos e, if_pos (by omega), e]
  · rw [if_neg e]
    by_cases e' : r = k + 0
    · rw [if_pos e', if_pos (by omega), e']
    · rw [if_neg e']
      by_cases h : r < k ∨ (2 ≤ r ∧ r < 2 + k)
      · rw [if_pos h, if_pos (by omega)]
      · rw [if_neg h, if_neg (by omega)]
theorem aA_zs (n : Nat → Nat) (k : Nat) (hk : k < 2) : upd (aA n k) (k + 0) 0 = aA n k := upd_self _ _ _ (by unfold aA; rw [if_neg (by omega)])
theorem aA_zi (n : Nat → Nat) (k : Nat) (_hk : k < 2) : upd (upd (aA n k) (k + 0) (n (k + 0))) (k + 2) 0 = upd (aA n k) (k + 0) (n (k + 0)) := upd_self _ _ _ (by unfold upd aA; rw [if_neg (by omega), if_neg (by omega)])
set_option maxRecDepth 100000 in
set_option maxHeartbeats 16000000 in
theorem grownA_any (w : World) (nn mm : Int) (a0 a1 a2 a3 a4 : Option Addr) (n0 n1 n2 n3 n4 c0 c1 c2 c3 c4 : Nat) (x0 x1 x2 x3 x4 : List Value)
    (hO : Hid (w.ownsRow 0 9 1 (.slice a0 n0 c0) n0 x0 ∧ w.ownsRow 0 9 1 (.slice a1 n1 c1) n1 x1 ∧ w.ownsRow 0 3 1 (.slice a2 n2 c2) n2 x2 ∧ w.ownsRow 0 3 1 (.slice a3 n3 c3) n3 x3 ∧ w.ownsRow 0 64 3 (.slice a4 n4 c4) n4 x4))
    (hne : Hid ((∀ b, (Value.slice a0 n0 c0).ownBlock = some b → (Value.slice a1 n1 c1).ownBlock ≠ some b) ∧ (∀ b, (Value.slice a2 n2 c2).ownBlock = some b → (Value.slice a3 n3 c3).ownBlock ≠ some b))) (h0 : n0 ≤ 1048576) (h1 : n1 ≤ 1048576) (h2 : n2 ≤ 1048576) (h3 : n3 ≤ 1048576) (h4 : n4 ≤ 1048576) :
    Calls Tryz.prog 28 #[.agg #[.int .i64 nn, .int .i64 mm, .slice a2 n2 c2, .slice a3 n3 c3, .slice a4 n4 c4], .slice a0 n0 c0, .slice a1 n1 c1] w fun e w' => e = .returned (.bool true) ∧ Only w w' (fun k => ∃ i, i < 5 ∧ ((g5 (Value.slice a0 n0 c0) (.slice a1 n1 c1) (.slice a2 n2 c2) (.slice a3 n3 c3) (.slice a4 n4 c4)) i).ownBlock = some k) := by
  obtain ⟨i9, hi9, hz90, hz91, hz92⟩ := info_parts info9
  obtain ⟨i3, hi3, hz30, hz31, hz32⟩ := info_parts info3
  obtain ⟨i6, hi6, hz60, hz61, hz62⟩ := info_parts infoE
  obtain ⟨W0, hW0⟩ : ∃ W0, w.alloc (.cells #[.int .i64 nn, .int .i64 mm, .slice a2 n2 c2, .slice a3 n3 c3, .slice a4 n4 c4] 25) = W0 := ⟨_, rfl⟩
  have d0 : Below w.heap.size w W0 := by rw [← hW0]; exact (Below.refl _ _).alloc (Nat.le_refl _) _
  have B0 : W0.heap[w.heap.size]? = some (.cells #[.int .i64 nn, .int .i64 mm, .slice a2 n2 c2, .slice a3 n3 c3, .slice a4 n4 c4] 25 (0, 0)) := by rw [← hW0]; exact World.alloc_heap_new _ _
  have z0 : W0.heap.size = w.heap.size + 1 := by rw [← hW0]; simp
  obtain ⟨W1, hW1⟩ : ∃ W1, W0.alloc (.cells #[.slice a0 n0 c0, .slice a1 n1 c1] 80) = W1 := ⟨_, rfl⟩
  have d1 : Below W0.heap.size W0 W1 := by rw [← hW1]; exact (Below.refl _ _).alloc (Nat.le_refl _) _
  have B1 : W1.heap[W0.heap.size]? = some (.cells #[.slice a0 n0 c0, .slice a1 n1 c1] 80 (0, 0)) := by rw [← hW1]; exact World.alloc_heap_new _ _
  have B1' := (d1.block _ (Array.getElem?_eq_some_iff.1 B0).1).trans B0
  have k2 : W1.cell? ⟨w.heap.size, 2, none⟩ = some (.slice a2 n2 c2) := cell_of B1' rfl
  have k3 : W1.cell? ⟨w.heap.size, 3, none⟩ = some (.slice a3 n3 c3) := cell_of B1' rfl
  have HD := hide (And.intro d0 (And.intro d1 (And.intro B1 B1')))
  clear d0 B0 d1 B1 B1' z0
  go_enter Tryz.func28, Tryz.ntmps28
  go_upto_region 2 with fail
  try rw [hW1]
  go_upto_region 3 with fail
  obtain ⟨W2, hW2⟩ : ∃ W2, W1.alloc (.cells #[.slice a2 n2 c2, .slice a3 n3 c3] 81) = W2 := ⟨_, rfl⟩
  rw [hW2]
  obtain ⟨gL, hgL⟩ : ∃ gL, W0.heap.size = gL := ⟨_, rfl⟩
  rw [hgL]
  obtain ⟨gM, hgM⟩ : ∃ gM, W1.heap.size = gM := ⟨_, rfl⟩
  rw [hgM]
  have HG : Hid (Gst w 5 (g5 (Value.slice a0 n0 c0) (.slice a1 n1 c1) (.slice a2 n2 c2) (.slice a3 n3 c3) (.slice a4 n4 c4)) [(w.heap.size, #[.int .i64 nn, .int .i64 mm, .slice a2 n2 c2, .slice a3 n3 c3, .slice a4 n4 c4], 25), (gL, #[.slice a0 n0 c0, .slice a1 n1 c1], 80), (gM, #[.slice a2 n2 c2, .slice a3 n3 c3], 81)] ∧ Gf w W2 5 (g5 (Value.slice a0 n0 c0) (.slice a1 n1 c1) (.slice a2 n2 c2) (.slice a3 n3 c3) (.slice a4 n4 c4)) [(w.heap.size, #[.int .i64 nn, .int .i64 mm, .slice a2 n2 c2, .slice a3 n3 c3, .slice a4 n4 c4], 25), (gL, #[.slice a0 n0 c0, .slice a1 n1 c1], 80), (gM, #[.slice a2 n2 c2, .slice a3 n3 c3], 81)] (g5 9 9 3 3 64) (g5 1 1 1 1 3) (g5 n0 n1 n2 n3 n4) mkA (g5 x0 x1 x2 x3 x4) (aA (g5 n0 n1 n2 n3 n4) 0)) := hide (by
    have d2 : Below W1.heap.size W1 W2 := by rw [← hW2]; exact (Below.refl _ _).alloc (Nat.le_refl _) _
    obtain ⟨d0, d1, B1, B1'⟩ := HD.out
    have d01 : Below w.heap.size w W1 := d0.trans (d1.mono d0.size)
    have d : Below w.heap.size w W2 := d01.trans (d2.mono d01.size)
    have t0 := hO.out.1
    have t1 := hO.out.2.1
    have t2 := hO.out.2.2.1
    have t3 := hO.out.2.2.2.1
    have t4 := hO.out.2.2.2.2
    refine ⟨⟨fun i hi k q => ?_, fun i j hi hj hij k q q' => ?_, fun q hq => ?_⟩, ⟨fun q hq => ?_, Only.ofBelow d, fun i hi => ?_⟩⟩
    · match i, hi, q with
      | 0, _, q => exact (t0.lt k q).2
      | 1, _, q => exact (t1.lt k q).2
      | 2, _, q => exact (t2.lt k q).2
      | 3, _, q => exact (t3.lt k q).2
      | 4, _, q => exact (t4.lt k q).2
    · match i, j, hi, hj, hij, q, q' with
      | 0, 0, _, _, h, _, _ => exact absurd rfl h
      | 0, 1, _, _, _, q, q' => exact hne.out.1 k q q'
      | 0, 2, _, _, _, q, q' => exact tag_ne2 t0 t2 (by decide) q q'
      | 0, 3, _, _, _, q, q' => exact tag_ne2 t0 t3 (by decide) q q'
      | 0, 4, _, _, _, q, q' => exact tag_ne2 t0 t4 (by decide) q q'
      | 1, 0, _, _, _, q, q' => exact hne.out.1 k q' q
      | 1, 1, _, _, h, _, _ => exact absurd rfl h
      | 1, 2, _, _, _, q, q' => exact tag_ne2 t1 t2 (by decide) q q'
      | 1, 3, _, _, _, q, q' => exact tag_ne2 t1 t3 (by decide) q q'
      | 1, 4, _, _, _, q, q' => exact tag_ne2 t1 t4 (by decide) q q'
      | 2, 0, _, _, _, q, q' => exact tag_ne2 t2 t0 (by decide) q q'
      | 2, 1, _, _, _, q, q' => exact tag_ne2 t2 t1 (by decide) q q'
      | 2, 2, _, _, h, _, _ => exact absurd rfl h
      | 2, 3, _, _, _, q, q' => exact hne.out.2 k q q'
      | 2, 4, _, _, _, q, q' => exact tag_ne2 t2 t4 (by decide) q q'
      | 3, 0, _, _, _, q, q' => exact tag_ne2 t3 t0 (by decide) q q'
      | 3, 1, _, _, _, q, q' => exact tag_ne2 t3 t1 (by decide) q q'
      | 3, 2, _, _, _, q, q' => exact hne.out.2 k q' q
      | 3, 3, _, _, h, _, _ => exact absurd rfl h
      | 3, 4, _, _, _, q, q' => exact tag_ne2 t3 t4 (by decide) q q'
      | 4, 0, _, _, _, q, q' => exact tag_ne2 t4 t0 (by decide) q q'
      | 4, 1, _, _, _, q, q' => exact tag_ne2 t4 t1 (by decide) q q'
      | 4, 2, _, _, _, q, q' => exact tag_ne2 t4 t2 (by decide) q q'
      | 4, 3, _, _, _, q, q' => exact tag_ne2 t4 t3 (by decide) q q'
      | 4, 4, _, _, h, _, _ => exact absurd rfl h
    · rcases List.mem_cons.1 hq with rfl | hq
      · exact Nat.le_refl _
      · rcases List.mem_cons.1 hq with rfl | hq
        · have := d0.size
          show w.heap.size ≤ gL
          omega
        · rw [List.mem_singleton.1 hq]
          have := d01.size
          show w.heap.size ≤ gM
          omega
    · rcases List.mem_cons.1 hq with rfl | hq
      · exact (d2.block _ (Array.getElem?_eq_some_iff.1 B1').1).trans B1'
      · rcases List.mem_cons.1 hq with rfl | hq
        · show W2.heap[gL]? = _
          rw [← hgL]
          exact (d2.block _ (Array.getElem?_eq_some_iff.1 B1).1).trans B1
        · rw [List.mem_singleton.1 hq, ← hW2, ← hgM]
          exact World.alloc_heap_new _ _
    · have e0 : aA (g5 n0 n1 n2 n3 n4) 0 i = 0 := by unfold aA; rw [if_neg (by omega)]
      rw [e0, gx_zero]
      match i, hi with
      | 0, _ => exact owns_below t0 d
      | 1, _ => exact owns_below t1 d
      | 2, _ => exact owns_below t2 d
      | 3, _ => exact owns_below t3 d
      | 4, _ => exact owns_below t4 d)
  clear hW2 hgL hgM HD k2 k3 hW0 hW1
  go_wp2
  go_loopw [9] (fun kv wr => ∃ k : Nat, k ≤ 2 ∧ kv = .int .i64 k ∧ Hid (Gf w wr 5 (g5 (Value.slice a0 n0 c0) (.slice a1 n1 c1) (.slice a2 n2 c2) (.slice a3 n3 c3) (.slice a4 n4 c4)) [(w.heap.size, #[.int .i64 nn, .int .i64 mm, .slice a2 n2 c2, .slice a3 n3 c3, .slice a4 n4 c4], 25), (gL, #[.slice a0 n0 c0, .slice a1 n1 c1], 80), (gM, #[.slice a2 n2 c2, .slice a3 n3 c3], 81)] (g5 9 9 3 3 64) (g5 1 1 1 1 3) (g5 n0 n1 n2 n3 n4) mkA (g5 x0 x1 x2 x3 x4) (aA (g5 n0 n1 n2 n3 n4) k))) (fun kv _ => 2 - (intOf kv).toNat)
  case atStart => exact ⟨0, Nat.zero_le _, rfl, hide HG.out.2⟩
  case round =>
    obtain ⟨k, hk, rfl, HX⟩ := hrel
    obtain ⟨wo, rfl⟩ : ∃ z, z = wr := ⟨_, rfl⟩
    by_cases hlt : k < 2
    · have i1 : (k : Int) < 2 := by omega
      have i0 : (0 : Int) ≤ (k : Int) := by omega
      obtain ⟨ao, m, cp, hm, hkv, hkn, hkc, hkz, hke, hkf⟩ : ∃ ao m cp, m ≤ 1048576 ∧ (g5 (Value.slice a0 n0 c0) (.slice a1 n1 c1) (.slice a2 n2 c2) (.slice a3 n3 c3) (.slice a4 n4 c4)) (k + 0) = .slice ao m cp ∧ (g5 n0 n1 n2 n3 n4) (k + 0) = m ∧ (#[Value.slice a0 n0 c0, .slice a1 n1 c1] : Array Value)[k]? = some (.slice ao m cp) ∧ (g5 1 1 1 1 3) (k + 0) = 1 ∧ (g5 9 9 3 3 64) (k + 0) = 9 ∧ (0 < m → ∃ g, ao = some ⟨g, 0, none⟩) := by
        match k, hlt with
        | 0, _ => exact ⟨a0, n0, c0, h0, rfl, rfl, rfl, rfl, rfl, fun hp => by obtain ⟨g, cp, e, _⟩ := hO.out.1.form hp; cases e; exact ⟨g, rfl⟩⟩
        | 1, _ => exact ⟨a1, n1, c1, h1, rfl, rfl, rfl, rfl, rfl, fun hp => by obtain ⟨g, cp, e, _⟩ := hO.out.2.1.form hp; cases e; exact ⟨g, rfl⟩⟩
      have HK := hide (And.intro hkv (And.intro hkn (And.intro hkc (And.intro hkz (And.intro hke hkf)))))
      clear hkv hkn hkc hkz hke hkf
      go_upto_region 6 with fail
      go_wp2
      go_loopw [10] (fun iv wr => ∃ i : Nat, i ≤ m ∧ iv = .int .i64 i ∧ Hid (Gf w wr 5 (g5 (Value.slice a0 n0 c0) (.slice a1 n1 c1) (.slice a2 n2 c2) (.slice a3 n3 c3) (.slice a4 n4 c4)) [(w.heap.size, #[.int .i64 nn, .int .i64 mm, .slice a2 n2 c2, .slice a3 n3 c3, .slice a4 n4 c4], 25), (gL, #[.slice a0 n0 c0, .slice a1 n1 c1], 80), (gM, #[.slice a2 n2 c2, .slice a3 n3 c3], 81)] (g5 9 9 3 3 64) (g5 1 1 1 1 3) (g5 n0 n1 n2 n3 n4) mkA (g5 x0 x1 x2 x3 x4) (upd (aA (g5 n0 n1 n2 n3 n4) k) (k + 0) i))) (fun iv _ => m - (intOf iv).toNat)
      case atStart => exact ⟨0, Nat.zero_le _, rfl, hide (by rw [aA_zs _ _ hlt]; exact HX.out)⟩
      case round =>
        obtain ⟨i, hi, rfl, HY⟩ := hrel
        have q0 : wr.cell? ⟨gL, k, none⟩ = some (.slice ao m cp) := cell_of (HY.out.b (gL, #[.slice a0 n0 c0, .slice a1 n1 c1], 80) (by simp)) HK.out.2.2.1
        have i2 : (0 : Int) ≤ (i : Int) := by omega
        by_cases hil : i < m
        · have i3 : (i : Int) < (m : Int) := by omega
          obtain ⟨g, rfl, hcs⟩ := HY.out.cell (k + 0) (by omega) HK.out.1 HK.out.2.1 HK.out.2.2.2.1 i (by omega)
          obtain ⟨⟨u, q1⟩, f1⟩ := hcs i (by omega)
          clear hcs
          obtain ⟨z1, z2, z3, z4⟩ := mk_nums i (by omega)
          go_upto_region 9 with fail
          have hcv := conv3d (wr.alloc (.cells #[.int .u8 (97 + (k : Int)), .int .u8 ((i : Int) / 256 % 256), .int .u8 ((i : Int) % 256)] 5)).drew wr.heap.size (97 + k) i (by omega) (97 + (k : Int)) (by omega) (World.alloc_heap_new wr _)
          have p0 := alloc_cell (o := .cells #[.int .u8 (97 + (k : Int)), .int .u8 ((i : Int) / 256 % 256), .int .u8 ((i : Int) % 256)] 5) q0
          obtain ⟨p1, p2⟩ := alloc_cell2 (o := .cells #[.int .u8 (97 + (k : Int)), .int .u8 ((i : Int) / 256 % 256), .int .u8 ((i : Int) % 256)] 5) q1 f1
          go_region
          go_wp2
          go_roundw
          case rel =>
            refine ⟨i + 1, by omega, by go_num, hide ?_⟩
            exact (Gf.puti HG.out.1 (k + 0) i (HY.out.below ((Below.refl _ _).alloc (Nat.le_refl _) _)) (by omega) HK.out.1 HK.out.2.1 _ (mkA_s k i hlt)).below (Below.refl _ _).drew
          case measure => simp [intOf]; omega
        · obtain rfl : m = i := by omega
          have i3 : ¬ (m : Int) < (m : Int) := by omega
          obtain ⟨wp, rfl⟩ : ∃ z, z = wr := ⟨_, rfl⟩
          have HX2 : Hid (Gf w wp 5 (g5 (Value.slice a0 n0 c0) (.slice a1 n1 c1) (.slice a2 n2 c2) (.slice a3 n3 c3) (.slice a4 n4 c4)) [(w.heap.size, #[.int .i64 nn, .int .i64 mm, .slice a2 n2 c2, .slice a3 n3 c3, .slice a4 n4 c4], 25), (gL, #[.slice a0 n0 c0, .slice a1 n1 c1], 80), (gM, #[.slice a2 n2 c2, .slice a3 n3 c3], 81)] (g5 9 9 3 3 64) (g5 1 1 1 1 3) (g5 n0 n1 n2 n3 n4) mkA (g5 x0 x1 x2 x3 x4) (upd (upd (aA (g5 n0 n1 n2 n3 n4) k) (k + 0) ((g5 n0 n1 n2 n3 n4) (k + 0))) (k + 2) 0)) := hide (by rw [aA_zi _ _ hlt, HK.out.2.1]; exact HY.out)
          clear HK HY HX
          go_wp2
          clear q0 i3
          obtain ⟨ao, m, cp, hm, hkv, hkn, hkc, hkz, hke, hkf⟩ : ∃ ao m cp, m ≤ 1048576 ∧ (g5 (Value.slice a0 n0 c0) (.slice a1 n1 c1) (.slice a2 n2 c2) (.slice a3 n3 c3) (.slice a4 n4 c4)) (k + 2) = .slice ao m cp ∧ (g5 n0 n1 n2 n3 n4) (k + 2) = m ∧ (#[Value.slice a2 n2 c2, .slice a3 n3 c3] : Array Value)[k]? = some (.slice ao m cp) ∧ (g5 1 1 1 1 3) (k + 2) = 1 ∧ (g5 9 9 3 3 64) (k + 2) = 3 ∧ (0 < m → ∃ g, ao = some ⟨g, 0, none⟩) := by
            match k, hlt with
            | 0, _ => exact ⟨a2, n2, c2, h2, rfl, rfl, rfl, rfl, rfl, fun hp => by obtain ⟨g, cp, e, _⟩ := hO.out.2.2.1.form hp; cases e; exact ⟨g, rfl⟩⟩
            | 1, _ => exact ⟨a3, n3, c3, h3, rfl, rfl, rfl, rfl, rfl, fun hp => by obtain ⟨g, cp, e, _⟩ := hO.out.2.2.2.1.form hp; cases e; exact ⟨g, rfl⟩⟩
          have HK := hide (And.intro hkv (And.intro hkn (And.intro hkc (And.intro hkz (And.intro hke hkf)))))
          clear hkv hkn hkc hkz hke hkf
          go_loopw [11] (fun iv wr => ∃ i : Nat, i ≤ m ∧ iv = .int .i64 i ∧ Hid (Gf w wr 5 (g5 (Value.slice a0 n0 c0) (.slice a1 n1 c1) (.slice a2 n2 c2) (.slice a3 n3 c3) (.slice a4 n4 c4)) [(w.heap.size, #[.int .i64 nn, .int .i64 mm, .slice a2 n2 c2, .slice a3 n3 c3, .slice a4 n4 c4], 25), (gL, #[.slice a0 n0 c0, .slice a1 n1 c1], 80), (gM, #[.slice a2 n2 c2, .slice a3 n3 c3], 81)] (g5 9 9 3 3 64) (g5 1 1 1 1 3) (g5 n0 n1 n2 n3 n4) mkA (g5 x0 x1 x2 x3 x4) (upd (upd (aA (g5 n0 n1 n2 n3 n4) k) (k + 0) ((g5 n0 n1 n2 n3 n4) (k + 0))) (k + 2) i))) (fun iv _ => m - (intOf iv).toNat)
          case atStart => exact ⟨0, Nat.zero_le _, rfl, HX2⟩
          case round =>
            obtain ⟨i, hi, rfl, HY⟩ := hrel
            have q0 : wr.cell? ⟨gM, k, none⟩ = some (.slice ao m cp) := cell_of (HY.out.b (gM, #[.slice a2 n2 c2, .slice a3 n3 c3], 81) (by simp)) HK.out.2.2.1
            have i2 : (0 : Int) ≤ (i : Int) := by omega
            by_cases hil : i < m
            · have i3 : (i : Int) < (m : Int) := by omega
              obtain ⟨g, rfl, hcs⟩ := HY.out.cell (k + 2) (by omega) HK.out.1 HK.out.2.1 HK.out.2.2.2.1 i (by omega)
              obtain ⟨⟨u, q1⟩, f1⟩ := hcs i (by omega)
              clear hcs
              go_wp2
              go_roundw
              case rel =>
                refine ⟨i + 1, by omega, by go_num, hide ?_⟩
                exact Gf.puti HG.out.1 (k + 2) i HY.out (by omega) HK.out.1 HK.out.2.1 _ (mkA_i k i hlt)
              case measure => simp [intOf]; omega
            · obtain rfl : m = i := by omega
              have i3 : ¬ (m : Int) < (m : Int) := by omega
              go_wp2
              go_roundw
              case rel => exact ⟨k + 1, by omega, by go_num, hide (by have q := HY.out; rw [← HK.out.2.1, aA_next _ _ hlt] at q; exact q)⟩
              case measure => simp [intOf]; omega
    · obtain rfl : k = 2 := by omega
      have i1 : ¬ ((2 : Nat) : Int) < 2 := by omega
      have HX2 : Hid (Gf w wo 5 (g5 (Value.slice a0 n0 c0) (.slice a1 n1 c1) (.slice a2 n2 c2) (.slice a3 n3 c3) (.slice a4 n4 c4)) [(w.heap.size, #[.int .i64 nn, .int .i64 mm, .slice a2 n2 c2, .slice a3 n3 c3, .slice a4 n4 c4], 25), (gL, #[.slice a0 n0 c0, .slice a1 n1 c1], 80), (gM, #[.slice a2 n2 c2, .slice a3 n3 c3], 81)] (g5 9 9 3 3 64) (g5 1 1 1 1 3) (g5 n0 n1 n2 n3 n4) mkA (g5 x0 x1 x2 x3 x4) (upd (aA (g5 n0 n1 n2 n3 n4) 2) 4 (0 * 3))) := hide (by rw [upd_self (aA (g5 n0 n1 n2 n3 n4) 2) 4 (0 * 3) rfl]; exact HX.out)
      clear HX
      go_wp2
      go_loopw [12] (fun iv wr => ∃ i : Nat, i ≤ n4 ∧ iv = .int .i64 i ∧ Hid (Gf w wr 5 (g5 (Value.slice a0 n0 c0) (.slice a1 n1 c1) (.slice a2 n2 c2) (.slice a3 n3 c3) (.slice a4 n4 c4)) [(w.heap.size, #[.int .i64 nn, .int .i64 mm, .slice a2 n2 c2, .slice a3 n3 c3, .slice a4 n4 c4], 25), (gL, #[.slice a0 n0 c0, .slice a1 n1 c1], 80), (gM, #[.slice a2 n2 c2, .slice a3 n3 c3], 81)] (g5 9 9 3 3 64) (g5 1 1 1 1 3) (g5 n0 n1 n2 n3 n4) mkA (g5 x0 x1 x2 x3 x4) (upd (aA (g5 n0 n1 n2 n3 n4) 2) 4 (i * 3)))) (fun iv _ => n4 - (intOf iv).toNat)
      case atStart => exact ⟨0, Nat.zero_le _, rfl, HX2⟩
      case round =>
        obtain ⟨i, hi, rfl, HY⟩ := hrel
        have q0 : wr.cell? ⟨w.heap.size, 4, none⟩ = some (.slice a4 n4 c4) := cell_of (HY.out.b (w.heap.size, #[.int .i64 nn, .int .i64 mm, .slice a2 n2 c2, .slice a3 n3 c3, .slice a4 n4 c4], 25) (by simp)) rfl
        have i2 : (0 : Int) ≤ (i : Int) := by omega
        by_cases hil : i < n4
        · have i3 : (i : Int) < (n4 : Int) := by omega
          obtain ⟨g, rfl, hcs⟩ := HY.out.cell 4 (by omega) (z := 3) rfl rfl rfl (i * 3) (by omega)
          obtain ⟨⟨u, q1⟩, f1⟩ := hcs (i * 3) (by omega)
          obtain ⟨⟨u', q2⟩, f2⟩ := hcs (i * 3 + 1) (by omega)
          obtain ⟨⟨u'', q3⟩, f3⟩ := hcs (i * 3 + 2) (by omega)
          clear hcs
          go_wp2
          go_roundw
          case rel =>
            refine ⟨i + 1, by omega, by go_num, hide ?_⟩
            rw [show (i + 1) * 3 = i * 3 + 1 + 1 + 1 by omega]
            exact Gf.puti HG.out.1 4 (i * 3 + 1 + 1) (Gf.puti HG.out.1 4 (i * 3 + 1) (Gf.puti HG.out.1 4 (i * 3) HY.out (by omega) rfl rfl _ (mkA_4 i).1) (by omega) rfl rfl _ (mkA_4 i).2.1) (by omega) rfl rfl _ (mkA_4 i).2.2
          case measure => simp [intOf]; omega
        · obtain rfl : n4 = i := by omega
          have i3 : ¬ (n4 : Int) < (n4 : Int) := by omega
          obtain ⟨wq, rfl⟩ : ∃ z, z = wr := ⟨_, rfl⟩
          have HF := hide (Gf.full (z := fun r => (g5 n0 n1 n2 n3 n4) r * (g5 1 1 1 1 3) r) HY.out (fun r hr => by
            match r, hr with
            | 0, _ => exact ⟨hO.out.1.1, Nat.le_of_eq (Nat.mul_one _)⟩
            | 1, _ => exact ⟨hO.out.2.1.1, Nat.le_of_eq (Nat.mul_one _)⟩
            | 2, _ => exact ⟨hO.out.2.2.1.1, Nat.le_of_eq (Nat.mul_one _)⟩
            | 3, _ => exact ⟨hO.out.2.2.2.1.1, Nat.le_of_eq (Nat.mul_one _)⟩
            | 4, _ => exact ⟨hO.out.2.2.2.2.1, Nat.le_refl _⟩))
          clear HY HX2
          go_wp2
          go_loopw [13, 14] (fun nv kv wr => ∃ k : Nat, k ≤ 2 ∧ nv = .int .i64 ((128 * k : Nat) : Int) ∧ kv = .int .i64 k ∧ Hid (Gg w wr 5 (g5 (Value.slice a0 n0 c0) (.slice a1 n1 c1) (.slice a2 n2 c2) (.slice a3 n3 c3) (.slice a4 n4 c4)) [(w.heap.size, #[.int .i64 nn, .int .i64 mm, .slice a2 n2 c2, .slice a3 n3 c3, .slice a4 n4 c4], 25), (gL, #[.slice a0 n0 c0, .slice a1 n1 c1], 80), (gM, #[.slice a2 n2 c2, .slice a3 n3 c3], 81)] (fun i => (List.range ((g5 n0 n1 n2 n3 n4) i * (g5 1 1 1 1 3) i)).map (mkA i)) ∧ ∀ r, r < 5 → (r = 4 ∨ (k ≤ r ∧ r < 2) ∨ k + 2 ≤ r) → wr.ownsRow 0 ((g5 9 9 3 3 64) r) ((g5 1 1 1 1 3) r) ((g5 (Value.slice a0 n0 c0) (.slice a1 n1 c1) (.slice a2 n2 c2) (.slice a3 n3 c3) (.slice a4 n4 c4)) r) ((g5 n0 n1 n2 n3 n4) r) ((List.range ((g5 n0 n1 n2 n3 n4) r * (g5 1 1 1 1 3) r)).map (mkA r)))) (fun _ kv _ => 2 - (intOf kv).toNat)
          case atStart => exact ⟨0, Nat.zero_le _, rfl, rfl, hide ⟨HF.out.1, fun r hr _ => HF.out.2 r hr⟩⟩
          case round =>
            obtain ⟨k, hk, rfl, rfl, HX⟩ := hrel
            obtain ⟨ws, rfl⟩ : ∃ z, z = wr := ⟨_, rfl⟩
            clear HF
            by_cases hlt : k < 2
            · have i1 : (k : Int) < 2 := by omega
              have i0 : (0 : Int) ≤ (k : Int) := by omega
              obtain ⟨ao, m, cp, hm, hkv, hkn, hkc, hkz, hke, hkf⟩ : ∃ ao m cp, m ≤ 1048576 ∧ (g5 (Value.slice a0 n0 c0) (.slice a1 n1 c1) (.slice a2 n2 c2) (.slice a3 n3 c3) (.slice a4 n4 c4)) (k + 0) = .slice ao m cp ∧ (g5 n0 n1 n2 n3 n4) (k + 0) = m ∧ (#[Value.slice a0 n0 c0, .slice a1 n1 c1] : Array Value)[k]? = some (.slice ao m cp) ∧ (g5 1 1 1 1 3) (k + 0) = 1 ∧ (g5 9 9 3 3 64) (k + 0) = 9 ∧ (0 < m → ∃ g, ao = some ⟨g, 0, none⟩) := by
                match k, hlt with
                | 0, _ => exact ⟨a0, n0, c0, h0, rfl, rfl, rfl, rfl, rfl, fun hp => by obtain ⟨g, cp, e, _⟩ := hO.out.1.form hp; cases e; exact ⟨g, rfl⟩⟩
                | 1, _ => exact ⟨a1, n1, c1, h1, rfl, rfl, rfl, rfl, rfl, fun hp => by obtain ⟨g, cp, e, _⟩ := hO.out.2.1.form hp; cases e; exact ⟨g, rfl⟩⟩
              have HK := hide (And.intro hkv (And.intro hkn (And.intro hkc (And.intro hkz (And.intro hke hkf)))))
              clear hkv hkn hkc hkz hke hkf
              obtain ⟨bo, p, cq, hp, HL⟩ : ∃ bo p cq, p ≤ 1048576 ∧ Hid ((g5 (Value.slice a0 n0 c0) (.slice a1 n1 c1) (.slice a2 n2 c2) (.slice a3 n3 c3) (.slice a4 n4 c4)) (k + 2) = .slice bo p cq ∧ (g5 n0 n1 n2 n3 n4) (k + 2) = p ∧ (#[Value.slice a2 n2 c2, .slice a3 n3 c3] : Array Value)[k]? = some (.slice bo p cq) ∧ (g5 1 1 1 1 3) (k + 2) = 1 ∧ (g5 9 9 3 3 64) (k + 2) = 3) := by
                match k, hlt with
                | 0, _ => exact ⟨a2, n2, c2, h2, hide ⟨rfl, rfl, rfl, rfl, rfl⟩⟩
                | 1, _ => exact ⟨a3, n3, c3, h3, hide ⟨rfl, rfl, rfl, rfl, rfl⟩⟩
              have q0 : ws.cell? ⟨gL, k, none⟩ = some (.slice ao m cp) := cell_of (HX.out.1.b (gL, #[.slice a0 n0 c0, .slice a1 n1 c1], 80) (by simp)) HK.out.2.2.1
              have q1 : ws.cell? ⟨gM, k, none⟩ = some (.slice bo p cq) := cell_of (HX.out.1.b (gM, #[.slice a2 n2 c2, .slice a3 n3 c3], 81) (by simp)) HL.out.2.2.1
              have HZ := hide (And.intro (Gx.zero' (w := w) (bx := [(w.heap.size, #[.int .i64 nn, .int .i64 mm, .slice a2 n2 c2, .slice a3 n3 c3, .slice a4 n4 c4], 25), (gL, #[.slice a0 n0 c0, .slice a1 n1 c1], 80), (gM, #[.slice a2 n2 c2, .slice a3 n3 c3], 81)]) (ys := [.string ⟨#[98, 101, 104, 105, 110, 100]⟩]) HK.out.1 (own_eq (HX.out.2 (k + 0) (by omega) (by omega)) HK.out.2.2.2.2.1 HK.out.2.2.2.1 HK.out.2.1)) (Gx.zero' (w := w) (bx := [(w.heap.size, #[.int .i64 nn, .int .i64 mm, .slice a2 n2 c2, .slice a3 n3 c3, .slice a4 n4 c4], 25), (gL, #[.slice a0 n0 c0, .slice a1 n1 c1], 80), (gM, #[.slice a2 n2 c2, .slice a3 n3 c3], 81)]) (ys := [.int .i64 7]) HL.out.1 (own_eq (HX.out.2 (k + 2) (by omega) (by omega)) HL.out.2.2.2.2 HL.out.2.2.2.1 HL.out.2.1)))
              go_wp2
              go_loopw [15, 16, 17] (fun mv uv jv wr => ∃ j av cv au cu, j ≤ 64 ∧ mv = .slice av (m + j) cv ∧ uv = .slice au (p + j) cu ∧ jv = .int .i64 (j : Nat) ∧ Hid (Gg w wr 5 (g5 (Value.slice a0 n0 c0) (.slice a1 n1 c1) (.slice a2 n2 c2) (.slice a3 n3 c3) (.slice a4 n4 c4)) [(w.heap.size, #[.int .i64 nn, .int .i64 mm, .slice a2 n2 c2, .slice a3 n3 c3, .slice a4 n4 c4], 25), (gL, #[.slice a0 n0 c0, .slice a1 n1 c1], 80), (gM, #[.slice a2 n2 c2, .slice a3 n3 c3], 81)] (fun i => (List.range ((g5 n0 n1 n2 n3 n4) i * (g5 1 1 1 1 3) i)).map (mkA i)) ∧ Gx w wr ((g5 (Value.slice a0 n0 c0) (.slice a1 n1 c1) (.slice a2 n2 c2) (.slice a3 n3 c3) (.slice a4 n4 c4)) (k + 0)) [(w.heap.size, #[.int .i64 nn, .int .i64 mm, .slice a2 n2 c2, .slice a3 n3 c3, .slice a4 n4 c4], 25), (gL, #[.slice a0 n0 c0, .slice a1 n1 c1], 80), (gM, #[.slice a2 n2 c2, .slice a3 n3 c3], 81)] 9 1 m ((List.range ((g5 n0 n1 n2 n3 n4) (k + 0) * (g5 1 1 1 1 3) (k + 0))).map (mkA (k + 0))) [.string ⟨#[98, 101, 104, 105, 110, 100]⟩] (.slice av (m + j) cv) j ∧ Gx w wr ((g5 (Value.slice a0 n0 c0) (.slice a1 n1 c1) (.slice a2 n2 c2) (.slice a3 n3 c3) (.slice a4 n4 c4)) (k + 2)) [(w.heap.size, #[.int .i64 nn, .int .i64 mm, .slice a2 n2 c2, .slice a3 n3 c3, .slice a4 n4 c4], 25), (gL, #[.slice a0 n0 c0, .slice a1 n1 c1], 80), (gM, #[.slice a2 n2 c2, .slice a3 n3 c3], 81)] 3 1 p ((List.range ((g5 n0 n1 n2 n3 n4) (k + 2) * (g5 1 1 1 1 3) (k + 2))).map (mkA (k + 2))) [.int .i64 7] (.slice au (p + j) cu) j ∧ ∀ r, r < 5 → (r = 4 ∨ (k + 1 ≤ r ∧ r < 2) ∨ k + 1 + 2 ≤ r) → wr.ownsRow 0 ((g5 9 9 3 3 64) r) ((g5 1 1 1 1 3) r) ((g5 (Value.slice a0 n0 c0) (.slice a1 n1 c1) (.slice a2 n2 c2) (.slice a3 n3 c3) (.slice a4 n4 c4)) r) ((g5 n0 n1 n2 n3 n4) r) ((List.range ((g5 n0 n1 n2 n3 n4) r * (g5 1 1 1 1 3) r)).map (mkA r)))) (fun _ _ jv _ => 64 - (intOf jv).toNat)
              case atStart => exact ⟨0, ao, cp, bo, cq, Nat.zero_le _, rfl, rfl, rfl, hide ⟨HX.out.1, HZ.out.1, HZ.out.2, fun r hr hc => HX.out.2 r hr (by omega)⟩⟩
              case round =>
                obtain ⟨j, av, cv, au, cu, hj, rfl, rfl, rfl, HY⟩ := hrel
                by_cases hjl : j < 64
                · have i2 : (j : Int) < 64 := by omega
                  have dA : Below wr.heap.size wr (wr.alloc (.cells #[.string ⟨#[98, 101, 104, 105, 110, 100]⟩] 9)) := (Below.refl _ _).alloc (Nat.le_refl _) _
                  have HA := hide (And.intro (HY.out.1.below dA) (And.intro (HY.out.2.1.below dA) (And.intro (HY.out.2.2.1.below dA) fun r hr hc => owns_below (HY.out.2.2.2 r hr hc) dA)))
                  clear dA
                  go_wp2_with (at_builtin; refine wpList_gx Tryz.underlying26 hi9 hz90 hz91 hz92 rfl (by omega) (by omega) HG.out.1 HA.out.1 (k + 0) (by omega) HA.out.2.1 rfl _ _ rfl rfl ⟨wr.heap.size, 0, none⟩ rfl rfl (cnewL wr [.string ⟨#[98, 101, 104, 105, 110, 100]⟩] 9) (fun u hu => by rw [List.mem_singleton.1 hu]; rfl) (by omega) ?_)
                  intro gv cw w9 H9
                  have dB : Below w9.heap.size w9 (w9.alloc (.cells #[.int .i64 7] 3)) := (Below.refl _ _).alloc (Nat.le_refl _) _
                  have HB := hide (And.intro (H9.out.2.1.below dB) (And.intro (H9.out.1.below dB) (And.intro ((HA.out.2.2.1.only H9.out.2.2.1 fun k q q' => tag_ne2 HA.out.2.2.1.o HA.out.2.1.o (by decide) q q').below dB) (fun r hr (hc : (r = 4 ∨ (k + 1 ≤ r ∧ r < 2) ∨ k + 1 + 2 ≤ r)) => owns_below (H9.out.2.2.2 r hr (by omega) _ _ _ _ _ (HA.out.2.2.2 r hr hc)) dB))))
                  clear dB
                  go_wp2_with (at_builtin; refine wpList_gx Tryz.underlying22 hi3 hz30 hz31 hz32 rfl (by omega) (by omega) HG.out.1 HB.out.1 (k + 2) (by omega) HB.out.2.2.1 rfl _ _ rfl rfl ⟨w9.heap.size, 0, none⟩ rfl rfl (cnewL w9 [.int .i64 7] 3) (fun u hu => by rw [List.mem_singleton.1 hu]; rfl) (by omega) ?_)
                  intro gu cx w8 H8
                  have HC := hide (And.intro H8.out.2.1 (And.intro (HB.out.2.1.only H8.out.2.2.1 fun k q q' => tag_ne2 HB.out.2.1.o HB.out.2.2.1.o (by decide) q q') (And.intro H8.out.1 (fun r hr (hc : (r = 4 ∨ (k + 1 ≤ r ∧ r < 2) ∨ k + 1 + 2 ≤ r)) => H8.out.2.2.2 r hr (by omega) _ _ _ _ _ (HB.out.2.2.2 r hr hc)))))
                  go_wp2
                  go_roundw
                  case rel =>
                    first
                      | exact ⟨j + 1, some ⟨gv, 0, none⟩, cw, some ⟨gu, 0, none⟩, cx, by omega, rfl, rfl, by go_num, HC⟩
                      | (repeat apply Exists.intro
                         refine ⟨?rel2, rfl⟩
                         exact ⟨j + 1, some ⟨gv, 0, none⟩, cw, some ⟨gu, 0, none⟩, cx, by omega, rfl, rfl, by go_num, HC⟩)
                  case measure => simp [intOf]; omega
                · obtain rfl : j = 64 := by omega
                  have i2 : ¬ ((64 : Nat) : Int) < 64 := by omega
                  have q5 : wr.cell? ⟨gL, k, none⟩ = some (.slice ao m cp) := cell_of (HY.out.1.b (gL, #[.slice a0 n0 c0, .slice a1 n1 c1], 80) (by simp)) HK.out.2.2.1
                  have q6 : wr.cell? ⟨gM, k, none⟩ = some (.slice bo p cq) := cell_of (HY.out.1.b (gM, #[.slice a2 n2 c2, .slice a3 n3 c3], 81) (by simp)) HL.out.2.2.1
                  go_upto_region 29 with fail
                  go_region
                  go_wp2
                  go_roundw
                  case rel => exact ⟨k + 1, by omega, by go_num, by go_num, hide ⟨HY.out.1.below (Below.refl _ _).drew, fun r hr hc => owns_below (HY.out.2.2.2 r hr (by omega)) (Below.refl _ _).drew⟩⟩
                  case measure => simp [intOf]; omega
            · obtain rfl : k = 2 := by omega
              have i1 : ¬ ((2 : Nat) : Int) < 2 := by omega
              have b4 : ws.cell? ⟨w.heap.size, 4, none⟩ = some (.slice a4 n4 c4) := cell_of (HX.out.1.b (w.heap.size, #[.int .i64 nn, .int .i64 mm, .slice a2 n2 c2, .slice a3 n3 c3, .slice a4 n4 c4], 25) (by simp)) rfl
              have HZ := hide (Gx.zero (w := w) (bx := [(w.heap.size, #[.int .i64 nn, .int .i64 mm, .slice a2 n2 c2, .slice a3 n3 c3, .slice a4 n4 c4], 25), (gL, #[.slice a0 n0 c0, .slice a1 n1 c1], 80), (gM, #[.slice a2 n2 c2, .slice a3 n3 c3], 81)]) (ys := [.int .i64 0, .int .i64 9, .int .i64 0]) (HX.out.2 4 (by omega) (by omega)))
              go_wp2
              go_loopw [18, 19] (fun ov jv wr => ∃ j a5 c5, j ≤ 64 ∧ ov = .slice a5 (n4 + j) c5 ∧ jv = .int .i64 (j : Nat) ∧ Hid (Gg w wr 5 (g5 (Value.slice a0 n0 c0) (.slice a1 n1 c1) (.slice a2 n2 c2) (.slice a3 n3 c3) (.slice a4 n4 c4)) [(w.heap.size, #[.int .i64 nn, .int .i64 mm, .slice a2 n2 c2, .slice a3 n3 c3, .slice a4 n4 c4], 25), (gL, #[.slice a0 n0 c0, .slice a1 n1 c1], 80), (gM, #[.slice a2 n2 c2, .slice a3 n3 c3], 81)] (fun i => (List.range ((g5 n0 n1 n2 n3 n4) i * (g5 1 1 1 1 3) i)).map (mkA i)) ∧ Gx w wr (.slice a4 n4 c4) [(w.heap.size, #[.int .i64 nn, .int .i64 mm, .slice a2 n2 c2, .slice a3 n3 c3, .slice a4 n4 c4], 25), (gL, #[.slice a0 n0 c0, .slice a1 n1 c1], 80), (gM, #[.slice a2 n2 c2, .slice a3 n3 c3], 81)] 64 3 n4 ((List.range (n4 * 3)).map (mkA 4)) [.int .i64 0, .int .i64 9, .int .i64 0] (.slice a5 (n4 + j) c5) j)) (fun _ jv _ => 64 - (intOf jv).toNat)
              case atStart => exact ⟨0, a4, c4, Nat.zero_le _, rfl, rfl, hide ⟨HX.out.1, HZ.out⟩⟩
              case round =>
                obtain ⟨j, a5, c5, hj, rfl, rfl, HY⟩ := hrel
                clear HZ HX
                by_cases hjl : j < 64
                · have i2 : (j : Int) < 64 := by omega
                  have dA : Below wr.heap.size wr (wr.alloc (.cells #[.int .i64 0, .int .i64 9, .int .i64 0] 64)) := (Below.refl _ _).alloc (Nat.le_refl _) _
                  have HA := hide (And.intro (HY.out.1.below dA) (HY.out.2.below dA))
                  clear dA
                  go_wp2_with (at_builtin; refine wpList_gx Tryz.underlying23 hi6 hz60 hz61 hz62 rfl (by omega) (by omega) HG.out.1 HA.out.1 4 (by omega) HA.out.2 rfl _ _ rfl rfl ⟨wr.heap.size, 0, none⟩ rfl rfl (cnewL wr [.int .i64 0, .int .i64 9, .int .i64 0] 64) (fun u hu => by rcases List.mem_cons.1 hu with rfl | hu; rfl; rcases List.mem_cons.1 hu with rfl | hu; rfl; rw [List.mem_singleton.1 hu]; rfl) (by omega) ?_)
                  intro gv cw w9 H9
                  have HC := hide (And.intro H9.out.2.1 H9.out.1)
                  go_wp2
                  go_roundw
                  case rel =>
                    first
                      | exact ⟨j + 1, some ⟨gv, 0, none⟩, cw, by omega, rfl, by go_num, HC⟩
                      | (repeat apply Exists.intro
                         refine ⟨?rel3, rfl⟩
                         exact ⟨j + 1, some ⟨gv, 0, none⟩, cw, by omega, rfl, by go_num, HC⟩)
                  case measure => simp [intOf]; omega
                · obtain rfl : j = 64 := by omega
                  have i2 : ¬ ((64 : Nat) : Int) < 64 := by omega
                  obtain ⟨wt, rfl⟩ : ∃ z, z = wr := ⟨_, rfl⟩
                  have HZ := hide HY.out.1
                  clear HY
                  go_wp2
                  go_loopw [20] (fun kv wr => ∃ k : Nat, k ≤ 2 ∧ kv = .int .i64 k ∧ Hid (Gg w wr 5 (g5 (Value.slice a0 n0 c0) (.slice a1 n1 c1) (.slice a2 n2 c2) (.slice a3 n3 c3) (.slice a4 n4 c4)) [(w.heap.size, #[.int .i64 nn, .int .i64 mm, .slice a2 n2 c2, .slice a3 n3 c3, .slice a4 n4 c4], 25), (gL, #[.slice a0 n0 c0, .slice a1 n1 c1], 80), (gM, #[.slice a2 n2 c2, .slice a3 n3 c3], 81)] (fun i => (List.range ((g5 n0 n1 n2 n3 n4) i * (g5 1 1 1 1 3) i)).map (mkA i)))) (fun kv _ => 2 - (intOf kv).toNat)
                  case atStart => exact ⟨0, Nat.zero_le _, rfl, HZ⟩
                  case round =>
                    obtain ⟨k, hk, rfl, HX⟩ := hrel
                    obtain ⟨wu, rfl⟩ : ∃ z, z = wr := ⟨_, rfl⟩
                    clear HZ
                    by_cases hlt : k < 2
                    · have i1 : (k : Int) < 2 := by omega
                      have i0 : (0 : Int) ≤ (k : Int) := by omega
                      obtain ⟨ao, m, cp, hm, hkv, hkn, hkc, hkz, hke, hkf⟩ : ∃ ao m cp, m ≤ 1048576 ∧ (g5 (Value.slice a0 n0 c0) (.slice a1 n1 c1) (.slice a2 n2 c2) (.slice a3 n3 c3) (.slice a4 n4 c4)) (k + 0) = .slice ao m cp ∧ (g5 n0 n1 n2 n3 n4) (k + 0) = m ∧ (#[Value.slice a0 n0 c0, .slice a1 n1 c1] : Array Value)[k]? = some (.slice ao m cp) ∧ (g5 1 1 1 1 3) (k + 0) = 1 ∧ (g5 9 9 3 3 64) (k + 0) = 9 ∧ (0 < m → ∃ g, ao = some ⟨g, 0, none⟩) := by
                        match k, hlt with
                        | 0, _ => exact ⟨a0, n0, c0, h0, rfl, rfl, rfl, rfl, rfl, fun hp => by obtain ⟨g, cp, e, _⟩ := hO.out.1.form hp; cases e; exact ⟨g, rfl⟩⟩
                        | 1, _ => exact ⟨a1, n1, c1, h1, rfl, rfl, rfl, rfl, rfl, fun hp => by obtain ⟨g, cp, e, _⟩ := hO.out.2.1.form hp; cases e; exact ⟨g, rfl⟩⟩
                      have HK := hide (And.intro hkv (And.intro hkn (And.intro hkc (And.intro hkz (And.intro hke hkf)))))
                      clear hkv hkn hkc hkz hke hkf
                      go_wp2
                      go_loopw [21] (fun iv wr => ∃ i : Nat, i ≤ m ∧ iv = .int .i64 i ∧ Hid (Gg w wr 5 (g5 (Value.slice a0 n0 c0) (.slice a1 n1 c1) (.slice a2 n2 c2) (.slice a3 n3 c3) (.slice a4 n4 c4)) [(w.heap.size, #[.int .i64 nn, .int .i64 mm, .slice a2 n2 c2, .slice a3 n3 c3, .slice a4 n4 c4], 25), (gL, #[.slice a0 n0 c0, .slice a1 n1 c1], 80), (gM, #[.slice a2 n2 c2, .slice a3 n3 c3], 81)] (fun i => (List.range ((g5 n0 n1 n2 n3 n4) i * (g5 1 1 1 1 3) i)).map (mkA i)))) (fun iv _ => m - (intOf iv).toNat)
                      case atStart => exact ⟨0, Nat.zero_le _, rfl, HX⟩
                      case round =>
                        obtain ⟨i, hi, rfl, HY⟩ := hrel
                        have q0 : wr.cell? ⟨gL, k, none⟩ = some (.slice ao m cp) := cell_of (HY.out.b (gL, #[.slice a0 n0 c0, .slice a1 n1 c1], 80) (by simp)) HK.out.2.2.1
                        have i2 : (0 : Int) ≤ (i : Int) := by omega
                        by_cases hil : i < m
                        · have i3 : (i : Int) < (m : Int) := by omega
                          obtain ⟨g, rfl⟩ := HK.out.2.2.2.2.2 (by omega)
                          have q1 : wr.cell? ⟨g, i, none⟩ = some (.string (mk3 (97 + k) i)) := by
                            have := HY.out.r (k + 0) (by omega) g (by rw [HK.out.1]; rfl) i (by simp only [List.length_map, List.length_range, HK.out.2.1, HK.out.2.2.2.1]; omega)
                            rw [this]
                            simp only [List.getElem_map, List.getElem_range, mkA_s k i hlt]
                          obtain ⟨z1, z2, z3, z4⟩ := mk_nums i (by omega)
                          go_upto_region 41 with fail
                          have hcv := conv3d (wr.alloc (.cells #[.int .u8 (97 + (k : Int)), .int .u8 ((i : Int) / 256 % 256), .int .u8 ((i : Int) % 256)] 5)).drew wr.heap.size (97 + k) i (by omega) (97 + (k : Int)) (by omega) (World.alloc_heap_new wr _)
                          have p0 := alloc_cell (o := .cells #[.int .u8 (97 + (k : Int)), .int .u8 ((i : Int) / 256 % 256), .int .u8 ((i : Int) % 256)] 5) q0
                          have p1 := alloc_cell (o := .cells #[.int .u8 (97 + (k : Int)), .int .u8 ((i : Int) / 256 % 256), .int .u8 ((i : Int) % 256)] 5) q1
                          go_region
                          go_wp2
                          go_roundw
                          case rel => exact ⟨i + 1, by omega, by go_num, hide (HY.out.below ((Below.refl _ _).alloc (Nat.le_refl _) _).drew)⟩
                          case measure => simp [intOf]; omega
                        · obtain rfl : m = i := by omega
                          have i3 : ¬ (m : Int) < (m : Int) := by omega
                          obtain ⟨wv, rfl⟩ : ∃ z, z = wr := ⟨_, rfl⟩
                          clear HX HK
                          go_wp2
                          clear q0 i3
                          obtain ⟨ao, m, cp, hm, hkv, hkn, hkc, hkz, hke, hkf⟩ : ∃ ao m cp, m ≤ 1048576 ∧ (g5 (Value.slice a0 n0 c0) (.slice a1 n1 c1) (.slice a2 n2 c2) (.slice a3 n3 c3) (.slice a4 n4 c4)) (k + 2) = .slice ao m cp ∧ (g5 n0 n1 n2 n3 n4) (k + 2) = m ∧ (#[Value.slice a2 n2 c2, .slice a3 n3 c3] : Array Value)[k]? = some (.slice ao m cp) ∧ (g5 1 1 1 1 3) (k + 2) = 1 ∧ (g5 9 9 3 3 64) (k + 2) = 3 ∧ (0 < m → ∃ g, ao = some ⟨g, 0, none⟩) := by
                            match k, hlt with
                            | 0, _ => exact ⟨a2, n2, c2, h2, rfl, rfl, rfl, rfl, rfl, fun hp => by obtain ⟨g, cp, e, _⟩ := hO.out.2.2.1.form hp; cases e; exact ⟨g, rfl⟩⟩
                            | 1, _ => exact ⟨a3, n3, c3, h3, rfl, rfl, rfl, rfl, rfl, fun hp => by obtain ⟨g, cp, e, _⟩ := hO.out.2.2.2.1.form hp; cases e; exact ⟨g, rfl⟩⟩
                          have HK := hide (And.intro hkv (And.intro hkn (And.intro hkc (And.intro hkz (And.intro hke hkf)))))
                          clear hkv hkn hkc hkz hke hkf
                          go_loopw [22] (fun iv wr => ∃ i : Nat, i ≤ m ∧ iv = .int .i64 i ∧ Hid (Gg w wr 5 (g5 (Value.slice a0 n0 c0) (.slice a1 n1 c1) (.slice a2 n2 c2) (.slice a3 n3 c3) (.slice a4 n4 c4)) [(w.heap.size, #[.int .i64 nn, .int .i64 mm, .slice a2 n2 c2, .slice a3 n3 c3, .slice a4 n4 c4], 25), (gL, #[.slice a0 n0 c0, .slice a1 n1 c1], 80), (gM, #[.slice a2 n2 c2, .slice a3 n3 c3], 81)] (fun i => (List.range ((g5 n0 n1 n2 n3 n4) i * (g5 1 1 1 1 3) i)).map (mkA i)))) (fun iv _ => m - (intOf iv).toNat)
                          case atStart => exact ⟨0, Nat.zero_le _, rfl, HY⟩
                          case round =>
                            clear HY
                            obtain ⟨i, hi, rfl, HY⟩ := hrel
                            have q0 : wr.cell? ⟨gM, k, none⟩ = some (.slice ao m cp) := cell_of (HY.out.b (gM, #[.slice a2 n2 c2, .slice a3 n3 c3], 81) (by simp)) HK.out.2.2.1
                            have i2 : (0 : Int) ≤ (i : Int) := by omega
                            by_cases hil : i < m
                            · have i3 : (i : Int) < (m : Int) := by omega
                              obtain ⟨g, rfl⟩ := HK.out.2.2.2.2.2 (by omega)
                              have q1 : wr.cell? ⟨g, i, none⟩ = some (.int .i64 (-9000 * (k : Int) - (i : Int) - 1)) := by
                                have := HY.out.r (k + 2) (by omega) g (by rw [HK.out.1]; rfl) i (by simp only [List.length_map, List.length_range, HK.out.2.1, HK.out.2.2.2.1]; omega)
                                rw [this]
                                simp only [List.getElem_map, List.getElem_range, mkA_i k i hlt]
                              go_wp2
                              go_roundw
                              case rel => exact ⟨i + 1, by omega, by go_num, HY⟩
                              case measure => simp [intOf]; omega
                            · obtain rfl : m = i := by omega
                              have i3 : ¬ (m : Int) < (m : Int) := by omega
                              go_wp2
                              go_roundw
                              case rel => exact ⟨k + 1, by omega, by go_num, HY⟩
                              case measure => simp [intOf]; omega
                    · obtain rfl : k = 2 := by omega
                      have i1 : ¬ ((2 : Nat) : Int) < 2 := by omega
                      go_wp2
                      go_loopw [23] (fun iv wr => ∃ i : Nat, i ≤ n4 ∧ iv = .int .i64 i ∧ Hid (Gg w wr 5 (g5 (Value.slice a0 n0 c0) (.slice a1 n1 c1) (.slice a2 n2 c2) (.slice a3 n3 c3) (.slice a4 n4 c4)) [(w.heap.size, #[.int .i64 nn, .int .i64 mm, .slice a2 n2 c2, .slice a3 n3 c3, .slice a4 n4 c4], 25), (gL, #[.slice a0 n0 c0, .slice a1 n1 c1], 80), (gM, #[.slice a2 n2 c2, .slice a3 n3 c3], 81)] (fun i => (List.range ((g5 n0 n1 n2 n3 n4) i * (g5 1 1 1 1 3) i)).map (mkA i)))) (fun iv _ => n4 - (intOf iv).toNat)
                      case atStart => exact ⟨0, Nat.zero_le _, rfl, HX⟩
                      case round =>
                        obtain ⟨i, hi, rfl, HY⟩ := hrel
                        have q0 : wr.cell? ⟨w.heap.size, 4, none⟩ = some (.slice a4 n4 c4) := cell_of (HY.out.b (w.heap.size, #[.int .i64 nn, .int .i64 mm, .slice a2 n2 c2, .slice a3 n3 c3, .slice a4 n4 c4], 25) (by simp)) rfl
                        have i2 : (0 : Int) ≤ (i : Int) := by omega
                        by_cases hil : i < n4
                        · have i3 : (i : Int) < (n4 : Int) := by omega
                          obtain ⟨g, cp, eg, _⟩ := hO.out.2.2.2.2.form (by omega)
                          cases eg
                          have q1 : wr.cell? ⟨g, i * 3, none⟩ = some (.int .i64 (-(i : Int) - 1)) := by
                            have := HY.out.r 4 (by omega) g rfl (i * 3) (by simp only [List.length_map, List.length_range, g5]; omega)
                            rw [this]
                            simp only [List.getElem_map, List.getElem_range, (mkA_4 i).1]
                          go_wp2
                          go_roundw
                          case rel => exact ⟨i + 1, by omega, by go_num, HY⟩
                          case measure => simp [intOf]; omega
                        · obtain rfl : n4 = i := by omega
                          have i3 : ¬ (n4 : Int) < (n4 : Int) := by omega
                          go_wp2
                          go_ret
                          exact ⟨rfl, HY.out.on⟩
end Go.Proofs.YtmagchclmmphaabGreatDoor
