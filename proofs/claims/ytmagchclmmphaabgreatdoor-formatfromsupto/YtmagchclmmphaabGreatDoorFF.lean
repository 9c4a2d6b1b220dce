import Derived.Test.YtmagchclmmphaabGreatDoorFS
import Derived.Test.YtmagchclmmphaabGreatDoorVL
import Derived.Test.YtmagchclmmphaabGreatDoorFE
import Derived.Test.YtmagchclmmphaabGreatDoorVN
namespace Go.Proofs.YtmagchclmmphaabGreatDoor
open Go.RowKit Go.Maps
attribute [local go_sem] Oper.semAt_some

/-! ### Both Froms, held against each other -/
set_option maxRecDepth 100000 in
set_option maxHeartbeats 2000000 in
/-- Texts turned round in their places. -/
theorem turned2_any (w : World) (H : Nat) (l : List ByteArray) (hM : Hid (Mrw w H 9 (l.length + 64) (padV l) (l.length + 64))) (hl : l.length ≤ 1048576) :
    Calls Tryz.prog 26 #[.slice (some ⟨H, 0, none⟩) l.length (l.length + 64)] w fun e w' => ∃ g, e = .returned (.slice (some ⟨g, 0, none⟩) l.length (l.length + 64)) ∧ Mrw w' g 9 (l.length + 64) (padV l.reverse) (l.length + 64) ∧ Mrw w' H 9 (l.length + 64) (padV l.reverse) (l.length + 64) ∧ w.heap.size ≤ g ∧ Only w w' (fun k => k = H) := by
  obtain ⟨n, hn⟩ : ∃ n, l.length = n := ⟨_, rfl⟩
  obtain ⟨M, hMn⟩ : ∃ M, n + 64 = M := ⟨_, rfl⟩
  have HL := hide (And.intro hn hMn)
  rw [hn, hMn] at hM
  rw [hn] at hl
  rw [hn, hMn]
  have hnM : n ≤ M := by omega
  clear hn hMn
  go_enter Tryz.func26, Tryz.ntmps26
  go_wp2_with fail
  go_loopw [3] (fun i wr => ∃ k : Nat, k ≤ n ∧ i = .int .i64 k ∧ Hid (Mrw wr H 9 M (fun c => padV l (swC 1 n k c)) M ∧ Only w wr (fun k => k = H))) (fun i _ => n - (intOf i).toNat)
  case atStart => exact ⟨0, Nat.zero_le _, rfl, hide ⟨hM.out.congr (fun c _ => by rw [swC_zero 1 n c (by omega)]), Only.ofBelow (Below.refl _ _)⟩⟩
  case round =>
    obtain ⟨i, hi, rfl, HN⟩ := hrel
    by_cases hlt : 2 * i + 1 < n
    · have i1 : 2 * (i : Int) + 1 < (n : Int) := by omega
      obtain ⟨k, hk⟩ : ∃ k, n - 1 - i = k := ⟨_, rfl⟩
      have e1 : (n : Int) - 1 - (i : Int) = (k : Int) := by omega
      have i0 : (0 : Int) ≤ (i : Int) := by omega
      have i2 : (i : Int) < (n : Int) := by omega
      have i3 : (0 : Int) ≤ (k : Int) := by omega
      have i4 : (k : Int) < (n : Int) := by omega
      have hnl := HL.out.1
      have q0 : wr.cell? ⟨H, i, none⟩ = some (.string (l[i]'(by omega))) := by
        rw [HN.out.1.at i (by omega)]
        have := swC_item (z := 1) (n := n) (i := i) (j := i) (r := 0) (by omega) (by omega) (by omega) (swI_at hlt).1
        simp only [Nat.mul_one, Nat.add_zero] at this
        simp only [this]
        simp [padV, show i < l.length by omega]
      have q1 : wr.cell? ⟨H, k, none⟩ = some (.string (l[k]'(by omega))) := by
        rw [HN.out.1.at k (by omega)]
        have := swC_item (z := 1) (n := n) (i := i) (j := k) (r := 0) (by omega) (by omega) (by omega) (by rw [← hk]; exact (swI_at hlt).2)
        simp only [Nat.mul_one, Nat.add_zero] at this
        simp only [this]
        simp [padV, show k < l.length by omega]
      have HA : Hid (padV l i = .string (l[i]'(by omega)) ∧ padV l k = .string (l[k]'(by omega))) := hide ⟨by simp [padV, show i < l.length by omega], by simp [padV, show k < l.length by omega]⟩
      obtain ⟨a, ha⟩ : ∃ a, l[i]'(by omega) = a := ⟨_, rfl⟩
      obtain ⟨b, hb⟩ : ∃ b, l[k]'(by omega) = b := ⟨_, rfl⟩
      rw [ha] at q0 HA
      rw [hb] at q1 HA
      have f0 := HN.out.1.fz i
      have f1 := HN.out.1.fz k
      have hik : i ≠ k := by omega
      have HK := hide hk
      clear ha hb hnl hk
      go_wp2_with fail
      go_wp2
      go_roundw
      case rel =>
        refine ⟨i + 1, by omega, by go_num, hide ⟨?_, only_setc (only_setc HN.out.2)⟩⟩
        refine ((HN.out.1.upd i (.string b)).upd k (.string a)).congr (fun c hc => ?_)
        rw [← sw1 (padV l) hlt hnM c hc, HK.out, HA.out.1, HA.out.2]
      case measure => simp [intOf]; omega
    · have i1 : ¬ 2 * (i : Int) + 1 < (n : Int) := by omega
      have HM2 : Hid (Mrw wr H 9 M (padV l.reverse) M) := hide (HN.out.1.congr (fun c _ => by
        have := padV_rev (l := l) (i := i) (by rw [HL.out.1]; exact hlt) (by rw [HL.out.1]; exact hi) c
        rw [HL.out.1] at this
        exact this))
      have T1 := texts_any (some ⟨H, 0, none⟩) M l.reverse wr (hide (padV_reads (by rw [List.length_reverse, HL.out.1, HL.out.2]; exact HM2.out))) (by rw [List.length_reverse, HL.out.1]; omega)
      rw [List.length_reverse, HL.out.1] at T1
      go_wp2_with fail
      refine T1.mono ?_
      rintro e w2 ⟨rfl, h2, d2⟩
      go_wp2_with fail
      go_ret
      rw [HL.out.2] at h2
      refine ⟨wr.heap.size, ?_, h2, HM2.out.below d2 HM2.out.lt, HN.out.2.size, HN.out.2.trans (Only.ofBelow d2)⟩
      rw [← HL.out.2]
      rfl

theorem frV_len (ti : ByteArray) (n m : Int) (St Fi : List Int) (Ed : List EdT) (S Y : List ByteArray) (h1 : St.length ≤ 1048576) (h2 : Fi.length ≤ 1048576) (h3 : Ed.length ≤ 1048576) (hs : S.length ≤ 1048576) (hy : Y.length ≤ 1048576) : (frV ti n m St Fi Ed S Y).O.length ≤ 4194304 ∧ (frV ti n m St Fi Ed S Y).S.length ≤ 4194304 ∧ (frV ti n m St Fi Ed S Y).F.length ≤ 4194304 ∧ (frV ti n m St Fi Ed S Y).R.length ≤ 4194304 := by
  have k : ∀ x, (noF x).O.length ≤ 4194304 ∧ (noF x).S.length ≤ 4194304 ∧ (noF x).F.length ≤ 4194304 ∧ (noF x).R.length ≤ 4194304 := fun x => by simp [noF]
  unfold frV
  split
  · exact k _
  · split
    · exact k _
    · split
      · exact k _
      · split
        · exact k _
        · have a := rise_le St
          have b := rise_le Fi
          have c := dE_len Ed
          refine ⟨?_, ?_, ?_, ?_⟩
          · show (opsF Y).length ≤ _
            rw [opsF_len]; omega
          · show S.length ≤ _
            omega
          · show (namesAt _ S).length ≤ _
            simp only [namesAt, tN, List.length_map]; omega
          · show (rulF S Y St Ed).length ≤ _
            simp only [rulF, List.length_append, List.length_map]; omega
set_option maxRecDepth 100000 in
set_option maxHeartbeats 4000000 in
theorem froms_eq (w : World) (ti : ByteArray) (n m : Int) (St Fi : List Int) (Ed : List EdT) (S Y : List ByteArray) (b1 b2 : Nat) (a3 asx ay e1 e2 e3 esx ey : Option Addr) (c1 c2 c3 cs cy k1 k2 k3 ks ky : Nat) (hT : Hid (BytesAt w ∧ 1 < w.heap.size))
    (hA : Hid (RdN w (some ⟨b1, 0, none⟩) St ∧ RdN w (some ⟨b2, 0, none⟩) Fi ∧ RdE w a3 Ed ∧ ReadsS w asx S ∧ ReadsS w ay Y)) (hB : Hid (RdN w e1 St ∧ RdN w e2 Fi ∧ RdE w e3 Ed ∧ ReadsS w esx S ∧ ReadsS w ey Y)) (hok : Hid (Sml S ∧ Sml Y)) (hks : Hid (S.length ≤ ks)) (hky : Hid (Y.length ≤ ky)) (h1 : St.length ≤ 1048576) (h2 : Fi.length ≤ 1048576) (h3 : Ed.length ≤ 1048576) (hs : S.length ≤ 1048576) (hy : Y.length ≤ 1048576) :
    Calls Tryz.prog 22 #[.agg #[.int .i64 n, .int .i64 m, .slice (some ⟨b1, 0, none⟩) St.length c1, .slice (some ⟨b2, 0, none⟩) Fi.length c2, .slice a3 Ed.length c3], .slice asx S.length cs, .slice ay Y.length cy, .agg #[.int .i64 n, .int .i64 m, .slice e1 St.length k1, .slice e2 Fi.length k2, .slice e3 Ed.length k3, .slice esx S.length ks, .slice ey Y.length ky, .string ti]] w fun e w' => e = .returned (.bool true) ∧ Below w.heap.size w w' := by
  obtain ⟨V, hV⟩ : ∃ V, frV ti n m St Fi Ed S Y = V := ⟨_, rfl⟩
  have HL := hide (frV_len ti n m St Fi Ed S Y h1 h2 h3 hs hy)
  rw [hV] at HL
  obtain ⟨W0, hW0⟩ : ∃ W0, (w.alloc (.cells #[.int .i64 n, .int .i64 m, .slice (some ⟨b1, 0, none⟩) St.length c1, .slice (some ⟨b2, 0, none⟩) Fi.length c2, .slice a3 Ed.length c3] 25)).alloc (.cells #[.int .i64 n, .int .i64 m, .slice e1 St.length k1, .slice e2 Fi.length k2, .slice e3 Ed.length k3, .slice esx S.length ks, .slice ey Y.length ky, .string ti] 28) = W0 := ⟨_, rfl⟩
  have d0 : Below w.heap.size w W0 := by rw [← hW0]; exact ((Below.refl _ _).alloc (Nat.le_refl _) _).alloc (by simp) _
  have B0 : W0.heap[w.heap.size]? = some (.cells #[.int .i64 n, .int .i64 m, .slice (some ⟨b1, 0, none⟩) St.length c1, .slice (some ⟨b2, 0, none⟩) Fi.length c2, .slice a3 Ed.length c3] 25 (0, 0)) := by rw [← hW0]; exact (Below.heap_alloc _ _ _ (by simp)).trans (World.alloc_heap_new _ _)
  have B1 : W0.heap[w.heap.size + 1]? = some (.cells #[.int .i64 n, .int .i64 m, .slice e1 St.length k1, .slice e2 Fi.length k2, .slice e3 Ed.length k3, .slice esx S.length ks, .slice ey Y.length ky, .string ti] 28 (0, 0)) := by rw [← hW0]; exact heap_alloc2_new w _ _
  have z0 : W0.heap.size = w.heap.size + 2 := by rw [← hW0]; simp
  have T7 := from_any W0 ti n m St Fi Ed b1 b2 a3 asx ay c1 c2 c3 cs cy S Y (hide ⟨hT.out.1.below d0 hT.out.2, Nat.lt_of_lt_of_le hT.out.2 d0.size⟩) (hide ⟨hA.out.1.on d0, hA.out.2.1.on d0, hA.out.2.2.1.on d0, hA.out.2.2.2.1.below d0, hA.out.2.2.2.2.below d0⟩) hok (by omega) (by omega) (by omega) (by omega) (by omega)
  rw [hV] at T7
  have HD := hide (And.intro d0 (And.intro B1 z0))
  have x0 : W0.cell? ⟨w.heap.size, 0, none⟩ = some (.int .i64 n) := cell_of B0 rfl
  have x1 : W0.cell? ⟨w.heap.size, 1, none⟩ = some (.int .i64 m) := cell_of B0 rfl
  have x2 : W0.cell? ⟨w.heap.size, 2, none⟩ = some (.slice (some ⟨b1, 0, none⟩) St.length c1) := cell_of B0 rfl
  have x3 : W0.cell? ⟨w.heap.size, 3, none⟩ = some (.slice (some ⟨b2, 0, none⟩) Fi.length c2) := cell_of B0 rfl
  have x4 : W0.cell? ⟨w.heap.size, 4, none⟩ = some (.slice a3 Ed.length c3) := cell_of B0 rfl
  have x7 : W0.cell? ⟨w.heap.size + 1, 7, none⟩ = some (.string ti) := cell_of B1 rfl
  clear d0 B0 B1 z0
  go_enter Tryz.func22, Tryz.ntmps22
  go_upto_region 2 with (go_at_call 7; refine T7.mono ?_; intro e w1 hA; obtain ⟨v1, v2, v3, v4, rfl, hA⟩ := hA; obtain ⟨p1, p2, p3, p4, q1, q2, q3, q4, rfl, rfl, rfl, rfl, hR⟩ := hA.reads; have d1 := hA.d; clear hA)
  obtain ⟨X1, hX1⟩ : ∃ X1, w1.alloc (.cells #[.string V.ti, .slice p1 V.O.length q1, .slice p2 V.S.length q2, .slice p3 V.F.length q3, .slice p4 V.R.length q4] 32) = X1 := ⟨_, rfl⟩
  rw [hX1]
  have dX1 : Below w1.heap.size w1 X1 := by rw [← hX1]; exact (Below.refl _ _).alloc (Nat.le_refl _) _
  have BX1 : X1.heap[w1.heap.size]? = some (.cells #[.string V.ti, .slice p1 V.O.length q1, .slice p2 V.S.length q2, .slice p3 V.F.length q3, .slice p4 V.R.length q4] 32 (0, 0)) := by rw [← hX1]; exact World.alloc_heap_new _ _
  have D1 : Below W0.heap.size W0 X1 := d1.trans (dX1.mono d1.size)
  have HR := hide (hR.on dX1)
  have B2 : X1.heap[w.heap.size + 1]? = some (.cells #[.int .i64 n, .int .i64 m, .slice e1 St.length k1, .slice e2 Fi.length k2, .slice e3 Ed.length k3, .slice esx S.length ks, .slice ey Y.length ky, .string ti] 28 (0, 0)) := (D1.block _ (by have := HD.out.2.2; omega)).trans HD.out.2.1
  have DW := hide (HD.out.1.trans (D1.mono HD.out.1.size))
  obtain ⟨h1', hh1⟩ : ∃ h, w1.heap.size = h := ⟨_, rfl⟩
  rw [hh1] at BX1
  rw [hh1]
  have HBX := hide BX1
  have T50 := rfrom_any X1 ti n m St Fi Ed e1 e2 e3 esx ey k1 k2 k3 ks ky S Y (hide ⟨hB.out.1.on DW.out, hB.out.2.1.on DW.out, hB.out.2.2.1.on DW.out, hB.out.2.2.2.1.below DW.out, hB.out.2.2.2.2.below DW.out⟩) hks hky (by omega) (by omega) (by omega) (by omega) (by omega)
  rw [hV] at T50
  have y0 : X1.cell? ⟨w.heap.size + 1, 0, none⟩ = some (.int .i64 n) := cell_of B2 rfl
  have y1 : X1.cell? ⟨w.heap.size + 1, 1, none⟩ = some (.int .i64 m) := cell_of B2 rfl
  have y2 : X1.cell? ⟨w.heap.size + 1, 2, none⟩ = some (.slice e1 St.length k1) := cell_of B2 rfl
  have y3 : X1.cell? ⟨w.heap.size + 1, 3, none⟩ = some (.slice e2 Fi.length k2) := cell_of B2 rfl
  have y4 : X1.cell? ⟨w.heap.size + 1, 4, none⟩ = some (.slice e3 Ed.length k3) := cell_of B2 rfl
  have y5 : X1.cell? ⟨w.heap.size + 1, 5, none⟩ = some (.slice esx S.length ks) := cell_of B2 rfl
  have y6 : X1.cell? ⟨w.heap.size + 1, 6, none⟩ = some (.slice ey Y.length ky) := cell_of B2 rfl
  have y7 : X1.cell? ⟨w.heap.size + 1, 7, none⟩ = some (.string ti) := cell_of B2 rfl
  clear T7 x0 x1 x2 x3 x4 x7 d1 dX1 BX1 D1 hX1 B2 hR hh1
  go_upto_region 3 with (go_at_call 50; refine T50.mono ?_; intro e w2 hA; obtain ⟨v1, v2, v3, v4, rfl, hA⟩ := hA; obtain ⟨r1, r2, r3, r4, t1, t2, t3, t4, rfl, rfl, rfl, rfl, hR⟩ := hA.reads; have d2 := hA.d; clear hA)
  obtain ⟨X2, hX2⟩ : ∃ X2, w2.alloc (.cells #[.string V.ti, .slice r1 V.O.length t1, .slice r2 V.S.length t2, .slice r3 V.F.length t3, .slice r4 V.R.length t4] 32) = X2 := ⟨_, rfl⟩
  rw [hX2]
  have dX2 : Below w2.heap.size w2 X2 := by rw [← hX2]; exact (Below.refl _ _).alloc (Nat.le_refl _) _
  have BX2 : X2.heap[w2.heap.size]? = some (.cells #[.string V.ti, .slice r1 V.O.length t1, .slice r2 V.S.length t2, .slice r3 V.F.length t3, .slice r4 V.R.length t4] 32 (0, 0)) := by rw [← hX2]; exact World.alloc_heap_new _ _
  have D2 : Below X1.heap.size X1 X2 := d2.trans (dX2.mono d2.size)
  have HR2 := hR.on dX2
  have HR1 := HR.out.on D2
  have BX := (D2.block _ (Array.getElem?_eq_some_iff.1 HBX.out).1).trans HBX.out
  have HDW := hide (DW.out.trans (D2.mono DW.out.size))
  have T10 := same_eq X2 V.ti (V.O.map opOI) V.S V.F V.R p1 p2 p3 p4 r1 r2 r3 r4 q1 q2 q3 q4 t1 t2 t3 t4 (hide ⟨HR1.o, HR2.o⟩) (hide ⟨HR1.s, HR2.s⟩) (hide ⟨HR1.f, HR2.f⟩) (hide ⟨HR1.r, HR2.r⟩) (by rw [List.length_map]; exact HL.out.1) HL.out.2.1 HL.out.2.2.1 HL.out.2.2.2
  rw [List.length_map] at T10
  have u0 : X2.cell? ⟨h1', 0, none⟩ = some (.string V.ti) := cell_of BX rfl
  have u1 : X2.cell? ⟨h1', 1, none⟩ = some (.slice p1 V.O.length q1) := cell_of BX rfl
  have u2 : X2.cell? ⟨h1', 2, none⟩ = some (.slice p2 V.S.length q2) := cell_of BX rfl
  have u3 : X2.cell? ⟨h1', 3, none⟩ = some (.slice p3 V.F.length q3) := cell_of BX rfl
  have u4 : X2.cell? ⟨h1', 4, none⟩ = some (.slice p4 V.R.length q4) := cell_of BX rfl
  have s0 : X2.cell? ⟨w2.heap.size, 0, none⟩ = some (.string V.ti) := cell_of BX2 rfl
  have s1 : X2.cell? ⟨w2.heap.size, 1, none⟩ = some (.slice r1 V.O.length t1) := cell_of BX2 rfl
  have s2 : X2.cell? ⟨w2.heap.size, 2, none⟩ = some (.slice r2 V.S.length t2) := cell_of BX2 rfl
  have s3 : X2.cell? ⟨w2.heap.size, 3, none⟩ = some (.slice r3 V.F.length t3) := cell_of BX2 rfl
  have s4 : X2.cell? ⟨w2.heap.size, 4, none⟩ = some (.slice r4 V.R.length t4) := cell_of BX2 rfl
  clear T50 y0 y1 y2 y3 y4 y5 y6 y7 d2 dX2 BX2 BX D2 hX2 hR HR1 HR2
  go_wp2_with (go_at_call 10; refine T10.mono ?_; rintro e w3 ⟨rfl, d3⟩)
  go_ret
  exact ⟨rfl, HDW.out.trans (d3.mono HDW.out.size)⟩
end Go.Proofs.YtmagchclmmphaabGreatDoor
namespace Go.Proofs.YtmagchclmmphaabGreatDoor
open Go.RowKit Go.Maps
attribute [local go_sem] Oper.semAt_some

/-! ### FormatFroms -/
/-- What the law holds all the while. -/
structure Fz (w W : World) (gA Hs Hl b1 b2 b3 : Nat) (cA : Array Value) (St Fi : List Int) (Ed : List EdT) (S Y : List ByteArray) : Prop where
  dw : Below w.heap.size w W
  ba : W.heap[gA]? = some (.cells cA 25 (0, 0))
  tw : TwA W b1 b2 b3 St Fi Ed
  s : Mrw W Hs 9 (S.length + 64) (padV S) (S.length + 64)
  l : Mrw W Hl 9 (Y.length + 64) (padV Y) (Y.length + 64)
  hb : w.heap.size ≤ b1 ∧ w.heap.size ≤ b2 ∧ w.heap.size ≤ b3 ∧ w.heap.size ≤ Hs ∧ w.heap.size ≤ Hl ∧ Hs ≠ Hl
section
variable {w W : World} {gA Hs Hl b1 b2 b3 : Nat} {cA : Array Value} {St Fi : List Int} {Ed : List EdT} {S Y : List ByteArray}
theorem Fz.below (h : Fz w W gA Hs Hl b1 b2 b3 cA St Fi Ed S Y) {W' : World} (d : Below W.heap.size W W') : Fz w W' gA Hs Hl b1 b2 b3 cA St Fi Ed S Y :=
  ⟨h.dw.trans (d.mono h.dw.size), (d.block _ (Array.getElem?_eq_some_iff.1 h.ba).1).trans h.ba, h.tw.on d, h.s.below d h.s.lt, h.l.below d h.l.lt, h.hb⟩
theorem Fz.reads (h : Fz w W gA Hs Hl b1 b2 b3 cA St Fi Ed S Y) : RdN W (some ⟨b1, 0, none⟩) St ∧ RdN W (some ⟨b2, 0, none⟩) Fi ∧ RdE W (some ⟨b3, 0, none⟩) Ed ∧ ReadsS W (some ⟨Hs, 0, none⟩) S ∧ ReadsS W (some ⟨Hl, 0, none⟩) Y :=
  ⟨padN_reads h.tw.s, padN_reads h.tw.f, edPad_reads h.tw.e, padV_reads h.s, padV_reads h.l⟩
theorem mrw_ne {H g : Nat} {u t : TypeId} {N : Nat} {f : Nat → Value} {k : Nat} {c : Array Value} (h : Mrw W H t N f k) (hb : W.heap[g]? = some (.cells c u (0, 0))) (hne : t ≠ u) : H ≠ g := by
  rintro rfl
  obtain ⟨cur, h1, _⟩ := h
  rw [h1] at hb
  cases hb
  exact hne rfl
/-- Behind the automaton's lists being written over. -/
theorem Fz.over (h : Fz w W gA Hs Hl b1 b2 b3 cA St Fi Ed S Y) {W' : World} {St' Fi' : List Int} {Ed' : List EdT} (ht : TwA W' b1 b2 b3 St' Fi' Ed') (o : Only W W' (fun k => k = b1 ∨ k = b2 ∨ k = b3)) : Fz w W' gA Hs Hl b1 b2 b3 cA St' Fi' Ed' S Y := by
  have hb := h.hb
  refine ⟨h.dw.trans (o.toBelow h.dw.size fun k z => by omega), (o.block _ (Array.getElem?_eq_some_iff.1 h.ba).1 ?_).trans h.ba, ht, h.s.only o ?_, h.l.only o ?_, hb⟩
  · have k1 := mrw_ne h.tw.s h.ba (by decide)
    have k2 := mrw_ne h.tw.f h.ba (by decide)
    have k3 := mrw_ne h.tw.e h.ba (by decide)
    omega
  · have k1 := h.s.ne h.tw.s (by decide)
    have k2 := h.s.ne h.tw.f (by decide)
    have k3 := h.s.ne h.tw.e (by decide)
    omega
  · have k1 := h.l.ne h.tw.s (by decide)
    have k2 := h.l.ne h.tw.f (by decide)
    have k3 := h.l.ne h.tw.e (by decide)
    omega
/-- A box apart that is written. -/
theorem Fz.box (h : Fz w W gA Hs Hl b1 b2 b3 cA St Fi Ed S Y) {W' : World} {g : Nat} {c : Array Value} (hg : W.heap[g]? = some (.cells c 28 (0, 0))) (hgw : w.heap.size ≤ g) (o : Only W W' (fun k => k = g)) : Fz w W' gA Hs Hl b1 b2 b3 cA St Fi Ed S Y := by
  have n1 := mrw_ne h.tw.s hg (by decide)
  have n2 := mrw_ne h.tw.f hg (by decide)
  have n3 := mrw_ne h.tw.e hg (by decide)
  have n4 := mrw_ne h.s hg (by decide)
  have n5 := mrw_ne h.l hg (by decide)
  refine ⟨h.dw.trans (o.toBelow h.dw.size fun k z => by omega), (o.block _ (Array.getElem?_eq_some_iff.1 h.ba).1 ?_).trans h.ba, ⟨h.tw.s.only o n1, h.tw.f.only o n2, h.tw.e.only o n3, h.tw.ne⟩, h.s.only o n4, h.l.only o n5, h.hb⟩
  rintro rfl
  rw [h.ba] at hg
  cases hg
/-- The states' names turned. -/
theorem Fz.turnS (h : Fz w W gA Hs Hl b1 b2 b3 cA St Fi Ed S Y) {W' : World} (hs : Mrw W' Hs 9 (S.length + 64) (padV S.reverse) (S.length + 64)) (o : Only W W' (fun k => k = Hs)) : Fz w W' gA Hs Hl b1 b2 b3 cA St Fi Ed S.reverse Y := by
  have hb := h.hb
  refine ⟨h.dw.trans (o.toBelow h.dw.size fun k z => by omega), (o.block _ (Array.getElem?_eq_some_iff.1 h.ba).1 (Ne.symm (mrw_ne h.s h.ba (by decide)))).trans h.ba, ⟨h.tw.s.only o (h.tw.s.ne h.s (by decide)), h.tw.f.only o (h.tw.f.ne h.s (by decide)), h.tw.e.only o (h.tw.e.ne h.s (by decide)), h.tw.ne⟩, by rw [List.length_reverse]; exact hs, h.l.only o (by omega), hb⟩
theorem Fz.turnL (h : Fz w W gA Hs Hl b1 b2 b3 cA St Fi Ed S Y) {W' : World} (hs : Mrw W' Hl 9 (Y.length + 64) (padV Y.reverse) (Y.length + 64)) (o : Only W W' (fun k => k = Hl)) : Fz w W' gA Hs Hl b1 b2 b3 cA St Fi Ed S Y.reverse := by
  have hb := h.hb
  refine ⟨h.dw.trans (o.toBelow h.dw.size fun k z => by omega), (o.block _ (Array.getElem?_eq_some_iff.1 h.ba).1 (Ne.symm (mrw_ne h.l h.ba (by decide)))).trans h.ba, ⟨h.tw.s.only o (h.tw.s.ne h.l (by decide)), h.tw.f.only o (h.tw.f.ne h.l (by decide)), h.tw.e.only o (h.tw.e.ne h.l (by decide)), h.tw.ne⟩, h.s.only o (by omega), by rw [List.length_reverse]; exact hs, hb⟩
end
theorem sml_rev {S : List ByteArray} (h : Sml S) : Sml S.reverse := ⟨by rw [List.length_reverse]; exact h.1, fun s hs => h.2 s (List.mem_reverse.1 hs)⟩
theorem set1 (W : World) (g i : Nat) (u : Value) {c : Array Value} {t : TypeId} (h : W.heap[g]? = some (.cells c t (0, 0))) : (W.setCell ⟨g, i, none⟩ u).heap[g]? = some (.cells (c.set! i u) t (0, 0)) := heap_setCell_same _ _ i _ t _ h
set_option maxRecDepth 100000 in
set_option maxHeartbeats 8000000 in
theorem ffroms_any (w : World) (ti : ByteArray) (n m : Int) (St Fi : List Int) (Ed : List EdT) (S Y : List ByteArray) (a1 a2 a3 asx ay : Option Addr) (c1 c2 c3 cs cy : Nat) (hT : Hid (RowsAt w ∧ BytesAt w ∧ 1 < w.heap.size))
    (hA : Hid (RdN w a1 St ∧ RdN w a2 Fi ∧ RdE w a3 Ed ∧ ReadsS w asx S ∧ ReadsS w ay Y)) (hok : Hid (Sml S ∧ Sml Y)) (hcs : Hid (S.length ≤ cs)) (hcy : Hid (Y.length ≤ cy)) (h1 : St.length ≤ 1048576) (h2 : Fi.length ≤ 1048576) (h3 : Ed.length ≤ 1048576) (hs : S.length ≤ 1048576) (hy : Y.length ≤ 1048576) :
    Calls Tryz.prog 5 #[.agg #[.int .i64 n, .int .i64 m, .slice a1 St.length c1, .slice a2 Fi.length c2, .slice a3 Ed.length c3, .slice asx S.length cs, .slice ay Y.length cy, .string ti]] w fun e w' => e = .returned (.bool true) ∧ Below w.heap.size w w' := by
  have KT : Hid (∀ W, Below w.heap.size w W → RowsAt W ∧ BytesAt W ∧ 1 < W.heap.size) := hide (fun W d => ⟨hT.out.1.below d hT.out.2.2, hT.out.2.1.below d hT.out.2.2, Nat.lt_of_lt_of_le hT.out.2.2 d.size⟩)
  have KA : Hid (∀ W, Below w.heap.size w W → RdN W a1 St ∧ RdN W a2 Fi ∧ RdE W a3 Ed ∧ ReadsS W asx S ∧ ReadsS W ay Y) := hide (fun W dd => ⟨hA.out.1.on dd, hA.out.2.1.on dd, hA.out.2.2.1.on dd, hA.out.2.2.2.1.below dd, hA.out.2.2.2.2.below dd⟩)
  obtain ⟨W0, hW0⟩ : ∃ W0, w.alloc (.cells #[.int .i64 n, .int .i64 m, .slice a1 St.length c1, .slice a2 Fi.length c2, .slice a3 Ed.length c3, .slice asx S.length cs, .slice ay Y.length cy, .string ti] 28) = W0 := ⟨_, rfl⟩
  have d0 : Below w.heap.size w W0 := by rw [← hW0]; exact (Below.refl _ _).alloc (Nat.le_refl _) _
  have B0 : W0.heap[w.heap.size]? = some (.cells #[.int .i64 n, .int .i64 m, .slice a1 St.length c1, .slice a2 Fi.length c2, .slice a3 Ed.length c3, .slice asx S.length cs, .slice ay Y.length cy, .string ti] 28 (0, 0)) := by rw [← hW0]; exact World.alloc_heap_new _ _
  have T8 := twinA_any W0 n m St Fi Ed a1 a2 a3 c1 c2 c3 (hide ⟨(KA.out W0 d0).1, (KA.out W0 d0).2.1, (KA.out W0 d0).2.2.1⟩) (by omega) (by omega) (by omega)
  have HD := hide (And.intro d0 B0)
  have x0 : W0.cell? ⟨w.heap.size, 0, none⟩ = some (.int .i64 n) := cell_of B0 rfl
  have x1 : W0.cell? ⟨w.heap.size, 1, none⟩ = some (.int .i64 m) := cell_of B0 rfl
  have x2 : W0.cell? ⟨w.heap.size, 2, none⟩ = some (.slice a1 St.length c1) := cell_of B0 rfl
  have x3 : W0.cell? ⟨w.heap.size, 3, none⟩ = some (.slice a2 Fi.length c2) := cell_of B0 rfl
  have x4 : W0.cell? ⟨w.heap.size, 4, none⟩ = some (.slice a3 Ed.length c3) := cell_of B0 rfl
  clear d0 B0
  go_enter Tryz.func5, Tryz.ntmps5
  go_upto_region 2 with (go_at_call 8; refine T8.mono ?_; rintro e w1 ⟨b1, b2, b3, rfl, tw1, hb1, d1⟩)
  obtain ⟨X1, hX1⟩ : ∃ X1, w1.alloc (.cells #[.int .i64 n, .int .i64 m, .slice (some ⟨b1, 0, none⟩) St.length (St.length + 64), .slice (some ⟨b2, 0, none⟩) Fi.length (Fi.length + 64), .slice (some ⟨b3, 0, none⟩) Ed.length (Ed.length + 64)] 25) = X1 := ⟨_, rfl⟩
  rw [hX1]
  have dX : Below w1.heap.size w1 X1 := by rw [← hX1]; exact (Below.refl _ _).alloc (Nat.le_refl _) _
  have bA1 : X1.heap[w1.heap.size]? = some (.cells #[.int .i64 n, .int .i64 m, .slice (some ⟨b1, 0, none⟩) St.length (St.length + 64), .slice (some ⟨b2, 0, none⟩) Fi.length (Fi.length + 64), .slice (some ⟨b3, 0, none⟩) Ed.length (Ed.length + 64)] 25 (0, 0)) := by rw [← hX1]; exact World.alloc_heap_new _ _
  have DX1 : Below W0.heap.size W0 X1 := d1.trans (dX.mono d1.size)
  have H1 := hide (And.intro (HD.out.1.trans (DX1.mono HD.out.1.size)) (And.intro ((DX1.block _ (Array.getElem?_eq_some_iff.1 HD.out.2).1).trans HD.out.2) (And.intro bA1 (And.intro (tw1.on dX) (And.intro hb1 (And.intro HD.out.1.size (show w1.heap.size < X1.heap.size by rw [← hX1]; simp)))))))
  obtain ⟨gA, hgA⟩ : ∃ g, w1.heap.size = g := ⟨_, rfl⟩
  rw [hgA] at H1
  rw [hgA]
  clear tw1 hb1 d1 dX bA1 DX1 hX1 T8 hgA x0 x1 x2 x3 x4
  have T9 := texts_any asx cs S X1 (hide (KA.out X1 H1.out.1).2.2.2.1) (by omega)
  have x5 : X1.cell? ⟨w.heap.size, 5, none⟩ = some (.slice asx S.length cs) := cell_of H1.out.2.1 rfl
  go_upto_region 3 with (go_at_call 9; refine T9.mono ?_; rintro e w2 ⟨rfl, ms, d2⟩)
  have H2 := hide (And.intro (H1.out.1.trans (d2.mono H1.out.1.size)) (And.intro ((d2.block _ (Array.getElem?_eq_some_iff.1 H1.out.2.1).1).trans H1.out.2.1) (And.intro d2 ms)))
  have x6 : w2.cell? ⟨w.heap.size, 6, none⟩ = some (.slice ay Y.length cy) := cell_of H2.out.2.1 rfl
  have T9b := texts_any ay cy Y w2 (hide (KA.out w2 H2.out.1).2.2.2.2) (by omega)
  clear T9 x5 d2 ms
  go_upto_region 4 with (go_at_call 9; refine T9b.mono ?_; rintro e w3 ⟨rfl, ml, d3⟩)
  obtain ⟨Hs, hHs⟩ : ∃ g, X1.heap.size = g := ⟨_, rfl⟩
  obtain ⟨Hl, hHl⟩ : ∃ g, w2.heap.size = g := ⟨_, rfl⟩
  have F3 : Hid (Fz w w3 gA Hs Hl b1 b2 b3 #[.int .i64 n, .int .i64 m, .slice (some ⟨b1, 0, none⟩) St.length (St.length + 64), .slice (some ⟨b2, 0, none⟩) Fi.length (Fi.length + 64), .slice (some ⟨b3, 0, none⟩) Ed.length (Ed.length + 64)] St Fi Ed S Y ∧ w3.heap[w.heap.size]? = some (.cells #[.int .i64 n, .int .i64 m, .slice a1 St.length c1, .slice a2 Fi.length c2, .slice a3 Ed.length c3, .slice asx S.length cs, .slice ay Y.length cy, .string ti] 28 (0, 0))) := hide (by
    obtain ⟨q1, q2, q3, q4, q5, q6, q7⟩ := H1.out
    obtain ⟨r1, r2, r3, r4⟩ := H2.out
    have d13 : Below X1.heap.size X1 w3 := r3.trans (d3.mono r3.size)
    have s1 := q1.size
    have s2 := r3.size
    have s3 := r4.lt
    refine ⟨⟨r1.trans (d3.mono r1.size), (d13.block _ (Array.getElem?_eq_some_iff.1 q3).1).trans q3, q4.on d13, ?_, ?_, by omega⟩, (d3.block _ (Array.getElem?_eq_some_iff.1 r2).1).trans r2⟩
    · rw [← hHs]; exact r4.below d3 r4.lt
    · rw [← hHl]; exact ml)
  rw [hHs, hHl]
  clear H1 H2 ml d3 hHs hHl T9b x6
  have T22 := froms_eq w3 ti n m St Fi Ed S Y b1 b2 (some ⟨b3, 0, none⟩) (some ⟨Hs, 0, none⟩) (some ⟨Hl, 0, none⟩) a1 a2 a3 asx ay (St.length + 64) (Fi.length + 64) (Ed.length + 64) (S.length + 64) (Y.length + 64) c1 c2 c3 cs cy (hide (KT.out w3 F3.out.1.dw).2) (hide F3.out.1.reads) (hide (KA.out w3 F3.out.1.dw)) hok hcs hcy h1 h2 h3 hs hy
  have y0 : w3.cell? ⟨gA, 0, none⟩ = some (.int .i64 n) := cell_of F3.out.1.ba rfl
  have y1 : w3.cell? ⟨gA, 1, none⟩ = some (.int .i64 m) := cell_of F3.out.1.ba rfl
  have y2 : w3.cell? ⟨gA, 2, none⟩ = some (.slice (some ⟨b1, 0, none⟩) St.length (St.length + 64)) := cell_of F3.out.1.ba rfl
  have y3 : w3.cell? ⟨gA, 3, none⟩ = some (.slice (some ⟨b2, 0, none⟩) Fi.length (Fi.length + 64)) := cell_of F3.out.1.ba rfl
  have y4 : w3.cell? ⟨gA, 4, none⟩ = some (.slice (some ⟨b3, 0, none⟩) Ed.length (Ed.length + 64)) := cell_of F3.out.1.ba rfl
  have x0 : w3.cell? ⟨w.heap.size, 0, none⟩ = some (.int .i64 n) := cell_of F3.out.2 rfl
  have x1 : w3.cell? ⟨w.heap.size, 1, none⟩ = some (.int .i64 m) := cell_of F3.out.2 rfl
  have x2 : w3.cell? ⟨w.heap.size, 2, none⟩ = some (.slice a1 St.length c1) := cell_of F3.out.2 rfl
  have x3 : w3.cell? ⟨w.heap.size, 3, none⟩ = some (.slice a2 Fi.length c2) := cell_of F3.out.2 rfl
  have x4 : w3.cell? ⟨w.heap.size, 4, none⟩ = some (.slice a3 Ed.length c3) := cell_of F3.out.2 rfl
  have x5 : w3.cell? ⟨w.heap.size, 5, none⟩ = some (.slice asx S.length cs) := cell_of F3.out.2 rfl
  have x6 : w3.cell? ⟨w.heap.size, 6, none⟩ = some (.slice ay Y.length cy) := cell_of F3.out.2 rfl
  have x7 : w3.cell? ⟨w.heap.size, 7, none⟩ = some (.string ti) := cell_of F3.out.2 rfl
  have bl := (Array.getElem?_eq_some_iff.1 F3.out.2).1
  go_upto_region 6 with (first
    | (go_at_call 22; refine T22.mono ?_; rintro e w4 ⟨rfl, d4⟩; have F4 := hide (And.intro (F3.out.1.below d4) ((d4.block _ bl).trans F3.out.2)); have y40 : w4.cell? ⟨gA, 0, none⟩ = some (.int .i64 n) := cell_of F4.out.1.ba rfl; have y41 : w4.cell? ⟨gA, 1, none⟩ = some (.int .i64 m) := cell_of F4.out.1.ba rfl; have y42 : w4.cell? ⟨gA, 2, none⟩ = some (.slice (some ⟨b1, 0, none⟩) St.length (St.length + 64)) := cell_of F4.out.1.ba rfl; have y43 : w4.cell? ⟨gA, 3, none⟩ = some (.slice (some ⟨b2, 0, none⟩) Fi.length (Fi.length + 64)) := cell_of F4.out.1.ba rfl; have y44 : w4.cell? ⟨gA, 4, none⟩ = some (.slice (some ⟨b3, 0, none⟩) Ed.length (Ed.length + 64)) := cell_of F4.out.1.ba rfl; have x40 : w4.cell? ⟨w.heap.size, 0, none⟩ = some (.int .i64 n) := cell_of F4.out.2 rfl; have x41 : w4.cell? ⟨w.heap.size, 1, none⟩ = some (.int .i64 m) := cell_of F4.out.2 rfl; have x42 : w4.cell? ⟨w.heap.size, 2, none⟩ = some (.slice a1 St.length c1) := cell_of F4.out.2 rfl; have x43 : w4.cell? ⟨w.heap.size, 3, none⟩ = some (.slice a2 Fi.length c2) := cell_of F4.out.2 rfl; have x44 : w4.cell? ⟨w.heap.size, 4, none⟩ = some (.slice a3 Ed.length c3) := cell_of F4.out.2 rfl)
    | (go_at_call 23; refine (autoLeft_any w4 n m St Fi Ed b1 b2 b3 a1 a2 a3 c1 c2 c3 (hide F4.out.1.tw) (hide ⟨(KA.out w4 F4.out.1.dw).1, (KA.out w4 F4.out.1.dw).2.1, (KA.out w4 F4.out.1.dw).2.2.1⟩) (by omega) (by omega) (by omega)).mono ?_; rintro e w5 ⟨rfl, d5⟩; have F5 := hide (And.intro (F4.out.1.below d5) ((d5.block _ (Array.getElem?_eq_some_iff.1 F4.out.2).1).trans F4.out.2)); have x55 : w5.cell? ⟨w.heap.size, 5, none⟩ = some (.slice asx S.length cs) := cell_of F5.out.2 rfl)
    | (go_at_call_of 24 asx; refine (textsLeft_any w5 Hs asx cs S (hide F5.out.1.s) (hide (KA.out w5 F5.out.1.dw).2.2.2.1) (by omega)).mono ?_; rintro e w6 ⟨rfl, d6⟩; have F6 := hide (And.intro (F5.out.1.below d6) ((d6.block _ (Array.getElem?_eq_some_iff.1 F5.out.2).1).trans F5.out.2)); have x66 : w6.cell? ⟨w.heap.size, 6, none⟩ = some (.slice ay Y.length cy) := cell_of F6.out.2 rfl)
    | (go_at_call_of 24 ay; refine (textsLeft_any w6 Hl ay cy Y (hide F6.out.1.l) (hide (KA.out w6 F6.out.1.dw).2.2.2.2) (by omega)).mono ?_; rintro e w7 ⟨rfl, d7⟩; have F7 := hide (And.intro (F6.out.1.below d7) ((d7.block _ (Array.getElem?_eq_some_iff.1 F6.out.2).1).trans F6.out.2)); have x75 : w7.cell? ⟨w.heap.size, 5, none⟩ = some (.slice asx S.length cs) := cell_of F7.out.2 rfl; have x76 : w7.cell? ⟨w.heap.size, 6, none⟩ = some (.slice ay Y.length cy) := cell_of F7.out.2 rfl; have x77 : w7.cell? ⟨w.heap.size, 7, none⟩ = some (.string ti) := cell_of F7.out.2 rfl))
  clear T22 y0 y1 y2 y3 y4 x0 x1 x2 x3 x4 x5 x6 x7 y40 y41 y42 y43 y44 x40 x41 x42 x43 x44 x55 x66 d4 d5 d6 d7 F3 F4 F5 F6 bl
  go_upto_region 7 with fail
  obtain ⟨X7, hX7⟩ : ∃ X7, w7.alloc (.cells #[.int .i64 0, .int .i64 0, .slice none 0 0, .slice none 0 0, .slice none 0 0, .slice asx S.length cs, .slice ay Y.length cy, .string ti] 28) = X7 := ⟨_, rfl⟩
  rw [hX7]
  have H7 : Hid (Fz w X7 gA Hs Hl b1 b2 b3 #[.int .i64 n, .int .i64 m, .slice (some ⟨b1, 0, none⟩) St.length (St.length + 64), .slice (some ⟨b2, 0, none⟩) Fi.length (Fi.length + 64), .slice (some ⟨b3, 0, none⟩) Ed.length (Ed.length + 64)] St Fi Ed S Y ∧ X7.heap[w7.heap.size]? = some (.cells #[.int .i64 0, .int .i64 0, .slice none 0 0, .slice none 0 0, .slice none 0 0, .slice asx S.length cs, .slice ay Y.length cy, .string ti] 28 (0, 0)) ∧ w.heap.size ≤ w7.heap.size) := hide (by
    have dX : Below w7.heap.size w7 X7 := by rw [← hX7]; exact (Below.refl _ _).alloc (Nat.le_refl _) _
    exact ⟨F7.out.1.below dX, by rw [← hX7]; exact World.alloc_heap_new _ _, F7.out.1.dw.size⟩)
  obtain ⟨gy, hgy⟩ : ∃ g, w7.heap.size = g := ⟨_, rfl⟩
  rw [hgy] at H7
  rw [hgy]
  clear hX7 hgy F7 x75 x76 x77
  have T25 := overA_any X7 n m St Fi Ed b1 b2 b3 (hide H7.out.1.tw) (by omega) (by omega) (by omega)
  have y70 : X7.cell? ⟨gA, 0, none⟩ = some (.int .i64 n) := cell_of H7.out.1.ba rfl
  have y71 : X7.cell? ⟨gA, 1, none⟩ = some (.int .i64 m) := cell_of H7.out.1.ba rfl
  have y72 : X7.cell? ⟨gA, 2, none⟩ = some (.slice (some ⟨b1, 0, none⟩) St.length (St.length + 64)) := cell_of H7.out.1.ba rfl
  have y73 : X7.cell? ⟨gA, 3, none⟩ = some (.slice (some ⟨b2, 0, none⟩) Fi.length (Fi.length + 64)) := cell_of H7.out.1.ba rfl
  have y74 : X7.cell? ⟨gA, 4, none⟩ = some (.slice (some ⟨b3, 0, none⟩) Ed.length (Ed.length + 64)) := cell_of H7.out.1.ba rfl
  go_upto_region 8 with (go_at_call 25; refine T25.mono ?_; rintro e w8 ⟨g1, g2, g3, rfl, t1, t2, o8⟩; have bY8 : w8.heap[gy]? = some (.cells #[.int .i64 0, .int .i64 0, .slice none 0 0, .slice none 0 0, .slice none 0 0, .slice asx S.length cs, .slice ay Y.length cy, .string ti] 28 (0, 0)) := (o8.block _ (Array.getElem?_eq_some_iff.1 H7.out.2.1).1 (by have k1 := mrw_ne H7.out.1.tw.s H7.out.2.1 (by decide); have k2 := mrw_ne H7.out.1.tw.f H7.out.2.1 (by decide); have k3 := mrw_ne H7.out.1.tw.e H7.out.2.1 (by decide); omega)).trans H7.out.2.1; have z80 : w8.cell? ⟨gy, 0, none⟩ = some (.int .i64 0) := cell_of bY8 rfl; have z81 : w8.cell? ⟨gy, 1, none⟩ = some (.int .i64 0) := cell_of bY8 rfl; have z82 : w8.cell? ⟨gy, 2, none⟩ = some (.slice none 0 0) := cell_of bY8 rfl; have z83 : w8.cell? ⟨gy, 3, none⟩ = some (.slice none 0 0) := cell_of bY8 rfl; have z84 : w8.cell? ⟨gy, 4, none⟩ = some (.slice none 0 0) := cell_of bY8 rfl; have f80 : w8.frozen? ⟨gy, 0, none⟩ = false := fz_of bY8; have f81 : w8.frozen? ⟨gy, 1, none⟩ = false := fz_of bY8; have f82 : w8.frozen? ⟨gy, 2, none⟩ = false := fz_of bY8; have f83 : w8.frozen? ⟨gy, 3, none⟩ = false := fz_of bY8; have f84 : w8.frozen? ⟨gy, 4, none⟩ = false := fz_of bY8; have H8 := hide (And.intro (H7.out.1.over t1 o8) (And.intro t2 bY8)); clear t1 t2 o8 bY8)
  obtain ⟨X8, hX8⟩ : ∃ X8, ((((w8.setCell ⟨gy, 0, none⟩ (.int .i64 n)).setCell ⟨gy, 1, none⟩ (.int .i64 m)).setCell ⟨gy, 2, none⟩ (.slice (some ⟨g1, 0, none⟩) St.length (St.length + 64))).setCell ⟨gy, 3, none⟩ (.slice (some ⟨g2, 0, none⟩) Fi.length (Fi.length + 64))).setCell ⟨gy, 4, none⟩ (.slice (some ⟨g3, 0, none⟩) Ed.length (Ed.length + 64)) = X8 := ⟨_, rfl⟩
  rw [hX8]
  have H9 : Hid (Fz w X8 gA Hs Hl b1 b2 b3 #[.int .i64 n, .int .i64 m, .slice (some ⟨b1, 0, none⟩) St.length (St.length + 64), .slice (some ⟨b2, 0, none⟩) Fi.length (Fi.length + 64), .slice (some ⟨b3, 0, none⟩) Ed.length (Ed.length + 64)] (St.map (ovN n)) (Fi.map (ovN n)) (Ed.map flE) S Y ∧ TwA X8 g1 g2 g3 (St.map (ovN n)) (Fi.map (ovN n)) (Ed.map flE) ∧ X8.heap[gy]? = some (.cells #[.int .i64 n, .int .i64 m, .slice (some ⟨g1, 0, none⟩) St.length (St.length + 64), .slice (some ⟨g2, 0, none⟩) Fi.length (Fi.length + 64), .slice (some ⟨g3, 0, none⟩) Ed.length (Ed.length + 64), .slice asx S.length cs, .slice ay Y.length cy, .string ti] 28 (0, 0))) := hide (by
    obtain ⟨q1, q2, q3⟩ := H8.out
    have o5 : Only w8 X8 (fun k => k = gy) := by rw [← hX8]; exact ((((only_set w8 _ 0 _).trans (only_set _ _ 1 _)).trans (only_set _ _ 2 _)).trans (only_set _ _ 3 _)).trans (only_set _ _ 4 _)
    refine ⟨q1.box q3 H7.out.2.2 o5, ⟨q2.s.only o5 (mrw_ne q2.s q3 (by decide)), q2.f.only o5 (mrw_ne q2.f q3 (by decide)), q2.e.only o5 (mrw_ne q2.e q3 (by decide)), q2.ne⟩, ?_⟩
    rw [← hX8]
    exact heap_setCell_same _ _ 4 _ 28 _ (heap_setCell_same _ _ 3 _ 28 _ (heap_setCell_same _ _ 2 _ 28 _ (heap_setCell_same _ _ 1 _ 28 _ (heap_setCell_same _ _ 0 _ 28 _ q3)))))
  have hgy := H7.out.2.2
  clear hX8 H8 T25 y70 y71 y72 y73 y74 z80 z81 z82 z83 z84 f80 f81 f82 f83 f84 H7
  have T22 := froms_eq X8 ti n m (St.map (ovN n)) (Fi.map (ovN n)) (Ed.map flE) S Y b1 b2 (some ⟨b3, 0, none⟩) (some ⟨Hs, 0, none⟩) (some ⟨Hl, 0, none⟩) (some ⟨g1, 0, none⟩) (some ⟨g2, 0, none⟩) (some ⟨g3, 0, none⟩) asx ay (St.length + 64) (Fi.length + 64) (Ed.length + 64) (S.length + 64) (Y.length + 64) (St.length + 64) (Fi.length + 64) (Ed.length + 64) cs cy (hide (KT.out X8 H9.out.1.dw).2) (hide H9.out.1.reads) (hide ⟨padN_reads H9.out.2.1.s, padN_reads H9.out.2.1.f, edPad_reads H9.out.2.1.e, (KA.out X8 H9.out.1.dw).2.2.2.1, (KA.out X8 H9.out.1.dw).2.2.2.2⟩) hok hcs hcy (by rw [List.length_map]; exact h1) (by rw [List.length_map]; exact h2) (by rw [List.length_map]; exact h3) hs hy
  simp only [List.length_map] at T22
  have y0 : X8.cell? ⟨gA, 0, none⟩ = some (.int .i64 n) := cell_of H9.out.1.ba rfl
  have y1 : X8.cell? ⟨gA, 1, none⟩ = some (.int .i64 m) := cell_of H9.out.1.ba rfl
  have y2 : X8.cell? ⟨gA, 2, none⟩ = some (.slice (some ⟨b1, 0, none⟩) St.length (St.length + 64)) := cell_of H9.out.1.ba rfl
  have y3 : X8.cell? ⟨gA, 3, none⟩ = some (.slice (some ⟨b2, 0, none⟩) Fi.length (Fi.length + 64)) := cell_of H9.out.1.ba rfl
  have y4 : X8.cell? ⟨gA, 4, none⟩ = some (.slice (some ⟨b3, 0, none⟩) Ed.length (Ed.length + 64)) := cell_of H9.out.1.ba rfl
  have z0 : X8.cell? ⟨gy, 0, none⟩ = some (.int .i64 n) := cell_of H9.out.2.2 rfl
  have z1 : X8.cell? ⟨gy, 1, none⟩ = some (.int .i64 m) := cell_of H9.out.2.2 rfl
  have z2 : X8.cell? ⟨gy, 2, none⟩ = some (.slice (some ⟨g1, 0, none⟩) St.length (St.length + 64)) := cell_of H9.out.2.2 rfl
  have z3 : X8.cell? ⟨gy, 3, none⟩ = some (.slice (some ⟨g2, 0, none⟩) Fi.length (Fi.length + 64)) := cell_of H9.out.2.2 rfl
  have z4 : X8.cell? ⟨gy, 4, none⟩ = some (.slice (some ⟨g3, 0, none⟩) Ed.length (Ed.length + 64)) := cell_of H9.out.2.2 rfl
  have z5 : X8.cell? ⟨gy, 5, none⟩ = some (.slice asx S.length cs) := cell_of H9.out.2.2 rfl
  have z6 : X8.cell? ⟨gy, 6, none⟩ = some (.slice ay Y.length cy) := cell_of H9.out.2.2 rfl
  have z7 : X8.cell? ⟨gy, 7, none⟩ = some (.string ti) := cell_of H9.out.2.2 rfl
  go_upto_region 10 with (go_at_call 22; refine T22.mono ?_; rintro e w9 ⟨rfl, d9⟩)
  have HA : Hid (Fz w w9 gA Hs Hl b1 b2 b3 #[.int .i64 n, .int .i64 m, .slice (some ⟨b1, 0, none⟩) St.length (St.length + 64), .slice (some ⟨b2, 0, none⟩) Fi.length (Fi.length + 64), .slice (some ⟨b3, 0, none⟩) Ed.length (Ed.length + 64)] (St.map (ovN n)) (Fi.map (ovN n)) (Ed.map flE) S Y ∧ TwA w9 g1 g2 g3 (St.map (ovN n)) (Fi.map (ovN n)) (Ed.map flE) ∧ w9.heap[gy]? = some (.cells #[.int .i64 n, .int .i64 m, .slice (some ⟨g1, 0, none⟩) St.length (St.length + 64), .slice (some ⟨g2, 0, none⟩) Fi.length (Fi.length + 64), .slice (some ⟨g3, 0, none⟩) Ed.length (Ed.length + 64), .slice asx S.length cs, .slice ay Y.length cy, .string ti] 28 (0, 0))) := hide ⟨H9.out.1.below d9, H9.out.2.1.on d9, (d9.block _ (Array.getElem?_eq_some_iff.1 H9.out.2.2).1).trans H9.out.2.2⟩
  clear T22 H9 d9 y0 y1 y2 y3 y4 z0 z1 z2 z3 z4 z5 z6 z7
  have T26 := turned2_any w9 Hs S (hide HA.out.1.s) hs
  go_upto_region 11 with (go_at_call 26; refine T26.mono ?_; rintro e wA ⟨j1, rfl, mj, mS, hj, oA⟩; have bYA : wA.heap[gy]? = some (.cells #[.int .i64 n, .int .i64 m, .slice (some ⟨g1, 0, none⟩) St.length (St.length + 64), .slice (some ⟨g2, 0, none⟩) Fi.length (Fi.length + 64), .slice (some ⟨g3, 0, none⟩) Ed.length (Ed.length + 64), .slice asx S.length cs, .slice ay Y.length cy, .string ti] 28 (0, 0)) := (oA.block _ (Array.getElem?_eq_some_iff.1 HA.out.2.2).1 (Ne.symm (mrw_ne HA.out.1.s HA.out.2.2 (by decide)))).trans HA.out.2.2; have k5 : wA.cell? ⟨gy, 5, none⟩ = some (.slice asx S.length cs) := cell_of bYA rfl; have f5 : wA.frozen? ⟨gy, 5, none⟩ = false := fz_of bYA; have HAA := hide (And.intro mj (And.intro mS (And.intro hj (And.intro oA bYA)))); clear mj mS hj oA bYA)
  obtain ⟨XA, hXA⟩ : ∃ XA, wA.setCell ⟨gy, 5, none⟩ (.slice (some ⟨j1, 0, none⟩) S.length (S.length + 64)) = XA := ⟨_, rfl⟩
  rw [hXA]
  have HB : Hid (Fz w XA gA Hs Hl b1 b2 b3 #[.int .i64 n, .int .i64 m, .slice (some ⟨b1, 0, none⟩) St.length (St.length + 64), .slice (some ⟨b2, 0, none⟩) Fi.length (Fi.length + 64), .slice (some ⟨b3, 0, none⟩) Ed.length (Ed.length + 64)] (St.map (ovN n)) (Fi.map (ovN n)) (Ed.map flE) S.reverse Y ∧ TwA XA g1 g2 g3 (St.map (ovN n)) (Fi.map (ovN n)) (Ed.map flE) ∧ XA.heap[gy]? = some (.cells #[.int .i64 n, .int .i64 m, .slice (some ⟨g1, 0, none⟩) St.length (St.length + 64), .slice (some ⟨g2, 0, none⟩) Fi.length (Fi.length + 64), .slice (some ⟨g3, 0, none⟩) Ed.length (Ed.length + 64), .slice (some ⟨j1, 0, none⟩) S.length (S.length + 64), .slice ay Y.length cy, .string ti] 28 (0, 0)) ∧ Mrw XA j1 9 (S.length + 64) (padV S.reverse) (S.length + 64) ∧ j1 ≠ Hl) := hide (by
    obtain ⟨mj, mS, hj, oA, bYA⟩ := HAA.out
    obtain ⟨q1, q2, q3⟩ := HA.out
    have o5 : Only wA XA (fun k => k = gy) := by rw [← hXA]; exact only_set wA _ 5 _
    have q1' := q1.turnS mS oA
    have e1 := q2.s.only oA (q2.s.ne q1.s (by decide))
    have e2 := q2.f.only oA (q2.f.ne q1.s (by decide))
    have e3 := q2.e.only oA (q2.e.ne q1.s (by decide))
    have e4 := q1.l.lt
    refine ⟨q1'.box bYA hgy o5, ⟨e1.only o5 (mrw_ne e1 bYA (by decide)), e2.only o5 (mrw_ne e2 bYA (by decide)), e3.only o5 (mrw_ne e3 bYA (by decide)), q2.ne⟩, ?_, mj.only o5 (mrw_ne mj bYA (by decide)), by omega⟩
    rw [← hXA]
    exact heap_setCell_same _ _ 5 _ 28 _ bYA)
  clear hXA HAA HA T26 k5 f5
  have T27 := turned2_any XA Hl Y (hide HB.out.1.l) hy
  go_upto_region 12 with (go_at_call 26; refine T27.mono ?_; rintro e wB ⟨j2, rfl, mj, mL, hj, oB⟩; have bYB : wB.heap[gy]? = some (.cells #[.int .i64 n, .int .i64 m, .slice (some ⟨g1, 0, none⟩) St.length (St.length + 64), .slice (some ⟨g2, 0, none⟩) Fi.length (Fi.length + 64), .slice (some ⟨g3, 0, none⟩) Ed.length (Ed.length + 64), .slice (some ⟨j1, 0, none⟩) S.length (S.length + 64), .slice ay Y.length cy, .string ti] 28 (0, 0)) := (oB.block _ (Array.getElem?_eq_some_iff.1 HB.out.2.2.1).1 (Ne.symm (mrw_ne HB.out.1.l HB.out.2.2.1 (by decide)))).trans HB.out.2.2.1; have k6 : wB.cell? ⟨gy, 6, none⟩ = some (.slice ay Y.length cy) := cell_of bYB rfl; have f6 : wB.frozen? ⟨gy, 6, none⟩ = false := fz_of bYB; have HBB := hide (And.intro mj (And.intro mL (And.intro hj (And.intro oB bYB)))); clear mj mL hj oB bYB)
  obtain ⟨XB, hXB⟩ : ∃ XB, wB.setCell ⟨gy, 6, none⟩ (.slice (some ⟨j2, 0, none⟩) Y.length (Y.length + 64)) = XB := ⟨_, rfl⟩
  rw [hXB]
  have HC : Hid (Fz w XB gA Hs Hl b1 b2 b3 #[.int .i64 n, .int .i64 m, .slice (some ⟨b1, 0, none⟩) St.length (St.length + 64), .slice (some ⟨b2, 0, none⟩) Fi.length (Fi.length + 64), .slice (some ⟨b3, 0, none⟩) Ed.length (Ed.length + 64)] (St.map (ovN n)) (Fi.map (ovN n)) (Ed.map flE) S.reverse Y.reverse ∧ TwA XB g1 g2 g3 (St.map (ovN n)) (Fi.map (ovN n)) (Ed.map flE) ∧ XB.heap[gy]? = some (.cells #[.int .i64 n, .int .i64 m, .slice (some ⟨g1, 0, none⟩) St.length (St.length + 64), .slice (some ⟨g2, 0, none⟩) Fi.length (Fi.length + 64), .slice (some ⟨g3, 0, none⟩) Ed.length (Ed.length + 64), .slice (some ⟨j1, 0, none⟩) S.length (S.length + 64), .slice (some ⟨j2, 0, none⟩) Y.length (Y.length + 64), .string ti] 28 (0, 0)) ∧ Mrw XB j1 9 (S.length + 64) (padV S.reverse) (S.length + 64) ∧ Mrw XB j2 9 (Y.length + 64) (padV Y.reverse) (Y.length + 64)) := hide (by
    obtain ⟨mj, mL, hj, oB, bYB⟩ := HBB.out
    obtain ⟨q1, q2, q3, q4, q5⟩ := HB.out
    have o5 : Only wB XB (fun k => k = gy) := by rw [← hXB]; exact only_set wB _ 6 _
    have q1' := q1.turnL mL oB
    have e1 := q2.s.only oB (q2.s.ne q1.l (by decide))
    have e2 := q2.f.only oB (q2.f.ne q1.l (by decide))
    have e3 := q2.e.only oB (q2.e.ne q1.l (by decide))
    have e4 := q4.only oB q5
    refine ⟨q1'.box bYB hgy o5, ⟨e1.only o5 (mrw_ne e1 bYB (by decide)), e2.only o5 (mrw_ne e2 bYB (by decide)), e3.only o5 (mrw_ne e3 bYB (by decide)), q2.ne⟩, ?_, e4.only o5 (mrw_ne e4 bYB (by decide)), mj.only o5 (mrw_ne mj bYB (by decide))⟩
    rw [← hXB]
    exact heap_setCell_same _ _ 6 _ 28 _ bYB)
  clear hXB HBB HB T27 k6 f6
  have T22 := froms_eq XB ti n m (St.map (ovN n)) (Fi.map (ovN n)) (Ed.map flE) S.reverse Y.reverse b1 b2 (some ⟨b3, 0, none⟩) (some ⟨Hs, 0, none⟩) (some ⟨Hl, 0, none⟩) (some ⟨g1, 0, none⟩) (some ⟨g2, 0, none⟩) (some ⟨g3, 0, none⟩) (some ⟨j1, 0, none⟩) (some ⟨j2, 0, none⟩) (St.length + 64) (Fi.length + 64) (Ed.length + 64) (S.length + 64) (Y.length + 64) (St.length + 64) (Fi.length + 64) (Ed.length + 64) (S.length + 64) (Y.length + 64) (hide (KT.out XB HC.out.1.dw).2) (hide HC.out.1.reads) (hide ⟨padN_reads HC.out.2.1.s, padN_reads HC.out.2.1.f, edPad_reads HC.out.2.1.e, padV_reads (by rw [List.length_reverse]; exact HC.out.2.2.2.1), padV_reads (by rw [List.length_reverse]; exact HC.out.2.2.2.2)⟩) (hide ⟨sml_rev hok.out.1, sml_rev hok.out.2⟩) (hide (by rw [List.length_reverse]; omega)) (hide (by rw [List.length_reverse]; omega)) (by rw [List.length_map]; exact h1) (by rw [List.length_map]; exact h2) (by rw [List.length_map]; exact h3) (by rw [List.length_reverse]; exact hs) (by rw [List.length_reverse]; exact hy)
  simp only [List.length_map, List.length_reverse] at T22
  have y0 : XB.cell? ⟨gA, 0, none⟩ = some (.int .i64 n) := cell_of HC.out.1.ba rfl
  have y1 : XB.cell? ⟨gA, 1, none⟩ = some (.int .i64 m) := cell_of HC.out.1.ba rfl
  have y2 : XB.cell? ⟨gA, 2, none⟩ = some (.slice (some ⟨b1, 0, none⟩) St.length (St.length + 64)) := cell_of HC.out.1.ba rfl
  have y3 : XB.cell? ⟨gA, 3, none⟩ = some (.slice (some ⟨b2, 0, none⟩) Fi.length (Fi.length + 64)) := cell_of HC.out.1.ba rfl
  have y4 : XB.cell? ⟨gA, 4, none⟩ = some (.slice (some ⟨b3, 0, none⟩) Ed.length (Ed.length + 64)) := cell_of HC.out.1.ba rfl
  have z0 : XB.cell? ⟨gy, 0, none⟩ = some (.int .i64 n) := cell_of HC.out.2.2.1 rfl
  have z1 : XB.cell? ⟨gy, 1, none⟩ = some (.int .i64 m) := cell_of HC.out.2.2.1 rfl
  have z2 : XB.cell? ⟨gy, 2, none⟩ = some (.slice (some ⟨g1, 0, none⟩) St.length (St.length + 64)) := cell_of HC.out.2.2.1 rfl
  have z3 : XB.cell? ⟨gy, 3, none⟩ = some (.slice (some ⟨g2, 0, none⟩) Fi.length (Fi.length + 64)) := cell_of HC.out.2.2.1 rfl
  have z4 : XB.cell? ⟨gy, 4, none⟩ = some (.slice (some ⟨g3, 0, none⟩) Ed.length (Ed.length + 64)) := cell_of HC.out.2.2.1 rfl
  have z5 : XB.cell? ⟨gy, 5, none⟩ = some (.slice (some ⟨j1, 0, none⟩) S.length (S.length + 64)) := cell_of HC.out.2.2.1 rfl
  have z6 : XB.cell? ⟨gy, 6, none⟩ = some (.slice (some ⟨j2, 0, none⟩) Y.length (Y.length + 64)) := cell_of HC.out.2.2.1 rfl
  have z7 : XB.cell? ⟨gy, 7, none⟩ = some (.string ti) := cell_of HC.out.2.2.1 rfl
  go_wp2_with (first
    | (go_at_call 22; refine T22.mono ?_; rintro e wC ⟨rfl, dC⟩; have DC := hide (HC.out.1.dw.trans (dC.mono HC.out.1.dw.size)); have T11 := least_any wC (hide (KT.out wC DC.out)))
    | (go_at_call 11; refine T11.mono ?_; rintro e wD ⟨rfl, dD⟩))
  go_ret
  exact ⟨rfl, DC.out.trans (dD.mono DC.out.size)⟩
end Go.Proofs.YtmagchclmmphaabGreatDoor
