import Derived.Test.YtfoahpideglghaaGreatDoorNc
namespace Go.Proofs.YtfoahpideglghaaGreatDoor
open Go.RowKit
attribute [local go_sem] Oper.semAt_some

set_option maxRecDepth 100000 in
set_option maxHeartbeats 8000000 in
theorem image_ok (w : World) (N : Nat) (m : Int) (a1 a2 a3 aq : Option Addr) (c1 c2 c3 cq : Nat) (St Fi : List Int) (Ed : List EdT) (Q : List Int) (sym : Int) (hT : Hid (TabAt w ∧ 0 < w.heap.size)) (hA : Hid (RdA w a1 a2 a3 St Fi Ed)) (hQ : Hid (RdN w aq Q)) (h1 : St.length ≤ 4194304) (h2 : Fi.length ≤ 4194304) (h3 : Ed.length ≤ 4194304) (hq : Q.length ≤ 4194304) (em : mayA N m St Fi Ed = true) (e4 : Q.all (inB N) = true) (e5 : inB m sym = true) :
    Calls Tryz.prog 57 #[.agg #[.int .i64 (N : Nat), .int .i64 m, .slice a1 St.length c1, .slice a2 Fi.length c2, .slice a3 Ed.length c3], .slice aq Q.length cq, .int .i64 sym, .func (.func 58) #[] #[]] w fun e w' => ∃ gl capl, e = .returned (.tuple #[.slice (some ⟨gl, 0, none⟩) (elems N (imgF false (setI N Q) sym Ed)).length capl, .int .i64 0]) ∧ w'.ownsRow w.heap.size 3 1 (.slice (some ⟨gl, 0, none⟩) (elems N (imgF false (setI N Q) sym Ed)).length capl) (elems N (imgF false (setI N Q) sym Ed)).length (intV (elems N (imgF false (setI N Q) sym Ed))) ∧ Below w.heap.size w w' := by
  have hN : N ≤ 4096 := by have := (may_parts em).1; omega
  obtain ⟨X, hX⟩ : ∃ X, setI N Q = X := ⟨_, rfl⟩
  rw [hX]
  have HX := hide hX
  clear hX
  obtain ⟨W0, hW0⟩ : ∃ W0, w.alloc (.cells #[.int .i64 (N : Nat), .int .i64 m, .slice a1 St.length c1, .slice a2 Fi.length c2, .slice a3 Ed.length c3] 25) = W0 := ⟨_, rfl⟩
  have d0 : Below w.heap.size w W0 := by rw [← hW0]; exact (Below.refl _ _).alloc (Nat.le_refl _) _
  have B0 : W0.heap[w.heap.size]? = some (.cells #[.int .i64 (N : Nat), .int .i64 m, .slice a1 St.length c1, .slice a2 Fi.length c2, .slice a3 Ed.length c3] 25 (0, 0)) := by rw [← hW0]; exact World.alloc_heap_new _ _
  have T1 := valid_any W0 N m a1 a2 a3 c1 c2 c3 St Fi Ed (hide (hA.out.on d0)) h1 h2 h3
  rw [em] at T1
  have T1 : Calls Tryz.prog 22 #[.agg #[.int .i64 (N : Nat), .int .i64 m, .slice a1 St.length c1, .slice a2 Fi.length c2, .slice a3 Ed.length c3]] W0 fun e w' => e = .returned (.int .i64 0) ∧ Below W0.heap.size W0 w' := T1
  have k0 : W0.cell? ⟨w.heap.size, 0, none⟩ = some (.int .i64 (N : Nat)) := cell_of B0 rfl
  have k1 : W0.cell? ⟨w.heap.size, 1, none⟩ = some (.int .i64 m) := cell_of B0 rfl
  have k2 : W0.cell? ⟨w.heap.size, 2, none⟩ = some (.slice a1 St.length c1) := cell_of B0 rfl
  have k3 : W0.cell? ⟨w.heap.size, 3, none⟩ = some (.slice a2 Fi.length c2) := cell_of B0 rfl
  have k4 : W0.cell? ⟨w.heap.size, 4, none⟩ = some (.slice a3 Ed.length c3) := cell_of B0 rfl
  have HD := hide (And.intro d0 (And.intro B0 (show w.heap.size < W0.heap.size by rw [← hW0]; simp)))
  have HQ := hide (hQ.out.on d0)
  have HA := hide (hA.out.on d0)
  have HE := hide (may_parts em).2.2.2.2.2
  have HT := hide (And.intro (hT.out.1.below d0 hT.out.2) hT.out.2)
  have E4 := hide e4
  clear d0 B0 hA hQ em
  have SK : Hid (∀ W, Below W0.heap.size W0 W → (fun W => W.cell? ⟨w.heap.size, 0, none⟩ = some (.int .i64 (N : Nat)) ∧ W.cell? ⟨w.heap.size, 1, none⟩ = some (.int .i64 m) ∧ W.cell? ⟨w.heap.size, 2, none⟩ = some (.slice a1 St.length c1) ∧ W.cell? ⟨w.heap.size, 3, none⟩ = some (.slice a2 Fi.length c2) ∧ W.cell? ⟨w.heap.size, 4, none⟩ = some (.slice a3 Ed.length c3) ∧ Hid (Below W0.heap.size W0 W)) W) := hide (fun W d => by
    have e := blk_on HD.out.2.1 d
    exact ⟨cell_of e rfl, cell_of e rfl, cell_of e rfl, cell_of e rfl, cell_of e rfl, hide d⟩)
  have SD : Hid (∀ W, (fun W => W.cell? ⟨w.heap.size, 0, none⟩ = some (.int .i64 (N : Nat)) ∧ W.cell? ⟨w.heap.size, 1, none⟩ = some (.int .i64 m) ∧ W.cell? ⟨w.heap.size, 2, none⟩ = some (.slice a1 St.length c1) ∧ W.cell? ⟨w.heap.size, 3, none⟩ = some (.slice a2 Fi.length c2) ∧ W.cell? ⟨w.heap.size, 4, none⟩ = some (.slice a3 Ed.length c3) ∧ Hid (Below W0.heap.size W0 W)) W → Below W0.heap.size W0 W) := hide (fun W h => h.2.2.2.2.2.out)
  have T54 : Hid (∀ W, Below W0.heap.size W0 W → Calls Tryz.prog 54 #[.agg #[.int .i64 (N : Nat), .int .i64 m, .slice a1 St.length c1, .slice a2 Fi.length c2, .slice a3 Ed.length c3], .slice aq Q.length cq] W fun e w' => ∃ b g cap, e = .returned (.pointer (some ⟨b, 0, none⟩)) ∧ Hid (IsSet w' b g cap N (setI N Q) ∧ W0.heap.size ≤ b ∧ W0.heap.size ≤ g ∧ b ≠ g ∧ b < w'.heap.size ∧ g < w'.heap.size) ∧ Below W0.heap.size W0 w') := hide (fun W d => (setOf_any W N m a1 a2 a3 aq St.length Fi.length Ed.length c1 c2 c3 cq Q (hide (HQ.out.on d)) hq hN E4).mono fun e w' ⟨b, g, cap, he, hs, hb, hg, hbg, dd⟩ => ⟨b, g, cap, he, hide ⟨hs, Nat.le_trans d.size hb, Nat.le_trans d.size hg, hbg, hs.blt, hs.glt⟩, d.trans (dd.mono d.size)⟩)
  have T54n : Hid (∀ W, Below W0.heap.size W0 W → Calls Tryz.prog 54 #[.agg #[.int .i64 (N : Nat), .int .i64 m, .slice a1 St.length c1, .slice a2 Fi.length c2, .slice a3 Ed.length c3], .slice none 0 0] W fun e w' => ∃ b g cap, e = .returned (.pointer (some ⟨b, 0, none⟩)) ∧ Hid (IsSet w' b g cap N 0 ∧ W.heap.size ≤ b ∧ W.heap.size ≤ g ∧ b ≠ g ∧ Below W.heap.size W w') ∧ Below W0.heap.size W0 w') := hide (fun W d => (setOf_any W N m a1 a2 a3 none St.length Fi.length Ed.length c1 c2 c3 0 [] (hide (fun j h => absurd h (Nat.not_lt_zero j))) (Nat.zero_le _) hN (hide rfl)).mono fun e w' ⟨b, g, cap, he, hs, hb, hg, hbg, dd⟩ => ⟨b, g, cap, he, hide ⟨hs, hb, hg, hbg, dd⟩, d.trans (dd.mono d.size)⟩)
  go_enter Tryz.func57, Tryz.ntmps57
  go_upto_region 4 with (go_at_call 22; refine T1.mono ?_; rintro e w1 ⟨rfl, d1⟩)
  have H1 := hide d1
  obtain ⟨y0, y1, y2, y3, y4, _⟩ := SK.out w1 d1
  have T2 := allWithin_any aq cq Q N w1 (hide (HQ.out.on d1)) hq
  rw [e4] at T2
  clear T1 d1 k0 k1 k2 k3 k4
  go_upto_region 6 with (first
    | (go_at_call 64; refine T2.mono ?_; rintro e w2 ⟨rfl, hw⟩; obtain rfl := hw.symm)
    | (go_at_call 63; refine (within_any _ _ _).mono ?_; rintro e w2 ⟨rfl, hw⟩; obtain rfl := hw.symm))
  clear T2 y0 y1 y2 y3 y4 e4
  go_cut [11, 12] from 11 to 38 (fun pv qv W => ∃ b1 g1 k1 b2 g2 k2, pv = .pointer (some ⟨b1, 0, none⟩) ∧ qv = .pointer (some ⟨b2, 0, none⟩) ∧ Hid (IsSet W b1 g1 k1 N X ∧ IsSet W b2 g2 k2 N 0 ∧ W0.heap.size ≤ b1 ∧ W0.heap.size ≤ g1 ∧ (b1 < b2 ∧ b1 < g2 ∧ g1 < b2 ∧ g1 < g2) ∧ b2 ≠ g2 ∧ Below W0.heap.size W0 W))
  case first =>
    have S0 := SK.out w1.drew H1.out.drew
    go_region_held3 (fun W => W.cell? ⟨w.heap.size, 0, none⟩ = some (.int .i64 (N : Nat)) ∧ W.cell? ⟨w.heap.size, 1, none⟩ = some (.int .i64 m) ∧ W.cell? ⟨w.heap.size, 2, none⟩ = some (.slice a1 St.length c1) ∧ W.cell? ⟨w.heap.size, 3, none⟩ = some (.slice a2 Fi.length c2) ∧ W.cell? ⟨w.heap.size, 4, none⟩ = some (.slice a3 Ed.length c3) ∧ Hid (Below W0.heap.size W0 W))
      (with_reducible assumption)
      ((first
        | (go_at_call_of 54 aq; refine (T54.out _ (SD.out _ (by with_reducible assumption))).mono ?_; rintro e wa ⟨b1, g1, k1, rfl, hs1, Da⟩; have Sa := SK.out wa Da)
        | (go_at_call 54; refine (T54n.out wa Da).mono ?_; rintro e wb ⟨b2, g2, k2, rfl, hs2, Db⟩; have Sb := SK.out wb Db)))
    all_goals (
      go_wp2_with fail
      go_meet
      refine ⟨b1, g1, k1, b2, g2, k2, rfl, rfl, hide ?_⟩
      obtain ⟨h1, h2, h3, _, h5, h6⟩ := hs1.out
      obtain ⟨i1, i2, i3, i4, i5⟩ := hs2.out
      rw [HX.out] at h1
      exact ⟨h1.below i5, i1, h2, h3, ⟨by omega, by omega, by omega, by omega⟩, i4, Db⟩)
  case rest =>
    obtain ⟨b1, g1, k1, b2, g2, k2, rfl, rfl, HS⟩ := hcut
    rename World => wx
    have y4 : wx.cell? ⟨w.heap.size, 4, none⟩ = some (.slice a3 Ed.length c3) := cell_of (blk_on HD.out.2.1 HS.out.2.2.2.2.2.2) rfl
    clear T54 T54n SD
    go_wp2
    clear y4
    go_loopw [42] (fun iv wr => ∃ i : Nat, i ≤ Ed.length ∧ iv = .int .i64 i ∧ Hid (IsSet wr b1 g1 k1 N X ∧ IsSet wr b2 g2 k2 N (imgF false X sym (Ed.take i)) ∧ Below W0.heap.size W0 wr)) (fun iv _ => Ed.length - (intOf iv).toNat)
    case atStart => exact ⟨0, Nat.zero_le _, rfl, hide ⟨HS.out.1, HS.out.2.1, HS.out.2.2.2.2.2.2⟩⟩
    case round =>
      obtain ⟨i, hi, rfl, HY⟩ := hrel
      by_cases hil : i < Ed.length
      · have i0 : (0 : Int) ≤ (i : Int) := by omega
        have i1 : (i : Int) < (Ed.length : Int) := by omega
        obtain ⟨g, o, rfl, q1, q2, q3⟩ := (HA.out.e.on HY.out.2.2) i hil
        have HTk := hide (show Ed.take (i + 1) = Ed.take i ++ [Ed[i]] by rw [List.take_add_one, List.getElem?_eq_getElem hil]; rfl)
        have HN := hide (HE.out Ed[i] (List.getElem_mem hil))
        obtain ⟨x, hx⟩ : ∃ x, Ed[i] = x := ⟨_, rfl⟩
        rw [hx] at q1 q2 q3 HTk HN
        clear hx
        obtain ⟨x1, x2, x3⟩ := x
        obtain ⟨j1, hj1⟩ := Int.eq_ofNat_of_zero_le HN.out.1.1
        obtain ⟨j3, hj3⟩ := Int.eq_ofNat_of_zero_le HN.out.2.2.1
        have hj1 : x1 = (j1 : Int) := hj1
        have hj3 : x3 = (j3 : Int) := hj3
        subst hj1 hj3
        have hl1 : j1 < N := by have := HN.out.1.2; simp only at this; omega
        have hl3 : j3 < N := by have := HN.out.2.2.2; simp only at this; omega
        obtain ⟨W1, hW1⟩ : ∃ W1, wr.alloc (.cells #[.int .i64 (j1 : Int), .int .i64 x2, .int .i64 (j3 : Int)] 59) = W1 := ⟨_, rfl⟩
        have HW : Hid (W1.heap[wr.heap.size]? = some (.cells #[.int .i64 (j1 : Int), .int .i64 x2, .int .i64 (j3 : Int)] 59 (0, 0)) ∧ Below wr.heap.size wr W1) := hide (by rw [← hW1]; exact ⟨World.alloc_heap_new _ _, (Below.refl _ _).alloc (Nat.le_refl _) _⟩)
        obtain ⟨h, hh⟩ : ∃ h, wr.heap.size = h := ⟨_, rfl⟩
        have HH := hide hh
        have y0 : W1.cell? ⟨wr.heap.size, 0, none⟩ = some (.int .i64 (j1 : Int)) := cell_of HW.out.1 rfl
        have y1 : W1.cell? ⟨wr.heap.size, 1, none⟩ = some (.int .i64 x2) := cell_of HW.out.1 rfl
        have y2 : W1.cell? ⟨wr.heap.size, 2, none⟩ = some (.int .i64 (j3 : Int)) := cell_of HW.out.1 rfl
        clear hh
        have TE := post1_any W1 (j1 : Int) x2 (j3 : Int)
        go_upto_region 11 with (go_at_call 58; refine TE.mono ?_; rintro e w2 ⟨rfl, d2⟩)
        have H2 : Hid (IsSet w2 b1 g1 k1 N X ∧ IsSet w2 b2 g2 k2 N (imgF false X sym (Ed.take i)) ∧ Below W0.heap.size W0 w2 ∧ w2.heap[wr.heap.size]? = some (.cells #[.int .i64 (j1 : Int), .int .i64 x2, .int .i64 (j3 : Int)] 59 (0, 0))) := hide (by
          have d := HW.out.2.trans (d2.mono HW.out.2.size)
          exact ⟨HY.out.1.below d, HY.out.2.1.below d, HY.out.2.2.trans (d.mono HY.out.2.2.size), blk_on HW.out.1 d2⟩)
        have z1 : w2.cell? ⟨wr.heap.size, 1, none⟩ = some (.int .i64 x2) := cell_of H2.out.2.2.2 rfl
        clear TE d2 y0 y1 y2 q1 q2 q3 hW1
        by_cases hs : x2 = sym
        · have T95 := has_any b1 g1 k1 N X (j1 : Int) w2 H2.out.1
          cases hb : hasB X (j1 : Int)
          · rw [hb] at T95
            go_wp2_with (go_at_call 95; refine T95.mono ?_; rintro e w3 ⟨rfl, q, rfl⟩)
            go_roundw
            case rel => exact ⟨i + 1, by omega, by go_num, hide ⟨H2.out.1.below (below_drewN' (Below.refl _ _) q), by rw [HTk.out, imgF_snoc, if_neg (by rintro ⟨_, z⟩; exact absurd (hb.symm.trans z) (by simp))]; exact H2.out.2.1.below (below_drewN' (Below.refl _ _) q), below_drewN' H2.out.2.2.1 q⟩⟩
            case measure => simp [intOf]; omega
          · rw [hb] at T95
            go_wp2_with (first
              | (go_at_call 95; refine T95.mono ?_; rintro e w3 ⟨rfl, q, hw3⟩; have H3 : Hid (IsSet w3 b1 g1 k1 N X ∧ IsSet w3 b2 g2 k2 N (imgF false X sym (Ed.take i)) ∧ Below W0.heap.size W0 w3) := hide (by rw [hw3]; exact ⟨H2.out.1.below (below_drewN' (Below.refl _ _) q), H2.out.2.1.below (below_drewN' (Below.refl _ _) q), below_drewN' H2.out.2.2.1 q⟩); clear hw3; have T96 := add_in b2 g2 k2 N _ j3 g2 w3 H3.out.2.1 HS.out.2.2.2.2.2.1 hl3 (Nat.le_refl _))
              | (go_at_call 96; refine T96.mono ?_; rintro e w4 ⟨rfl, hs4, d4⟩; have H4 := hide (And.intro hs4 d4); clear hs4 d4))
            go_roundw
            case rel =>
              have hap := HS.out.2.2.2.2.1
              have hg1 := HS.out.2.2.2.1
              refine ⟨i + 1, by omega, by go_num, hide ⟨H3.out.1.belowB H4.out.2 hap.2.1 hap.2.2.2, ?_, H3.out.2.2.trans (H4.out.2.mono (by omega))⟩⟩
              rw [HTk.out, imgF_snoc, if_pos ⟨hs, hb⟩]
              exact H4.out.1
            case measure => simp [intOf]; omega
        · have hs' : (x2 == sym) = false := by simpa using hs
          go_wp2
          go_roundw
          case rel => exact ⟨i + 1, by omega, by go_num, hide ⟨H2.out.1, by rw [HTk.out, imgF_snoc, if_neg (fun z => hs z.1)]; exact H2.out.2.1, H2.out.2.2.1⟩⟩
          case measure => simp [intOf]; omega
      · obtain rfl : Ed.length = i := by omega
        have i1 : ¬ (Ed.length : Int) < (Ed.length : Int) := by omega
        have HZ := HY.out
        rw [List.take_length] at HZ
        have TL := list_any b2 g2 k2 N _ wr HZ.2.1 (HT.out.1.below HZ.2.2 (Nat.lt_of_le_of_lt (Nat.zero_le _) HD.out.2.2))
        have HZ := hide HZ
        go_wp2_with (go_at_call 61; refine TL.mono ?_; rintro e wl ⟨gl, capl, rfl, hown, dl⟩; have HO := hide (And.intro hown dl); clear hown dl)
        go_ret2
        have z1 := HD.out.1.size
        have z2 := HZ.out.2.2.size
        refine ⟨gl, capl, rfl, ?_, HD.out.1.trans ((HZ.out.2.2.trans (HO.out.2.mono z2)).mono z1)⟩
        exact ownsRow_base HO.out.1 (by omega)
set_option maxRecDepth 100000 in
set_option maxHeartbeats 8000000 in
theorem image_okB (w : World) (N : Nat) (m : Int) (a1 a2 a3 aq : Option Addr) (c1 c2 c3 cq : Nat) (St Fi : List Int) (Ed : List EdT) (Q : List Int) (sym : Int) (hT : Hid (TabAt w ∧ 0 < w.heap.size)) (hA : Hid (RdA w a1 a2 a3 St Fi Ed)) (hQ : Hid (RdN w aq Q)) (h1 : St.length ≤ 4194304) (h2 : Fi.length ≤ 4194304) (h3 : Ed.length ≤ 4194304) (hq : Q.length ≤ 4194304) (em : mayA N m St Fi Ed = true) (e4 : Q.all (inB N) = true) (e5 : inB m sym = true) :
    Calls Tryz.prog 57 #[.agg #[.int .i64 (N : Nat), .int .i64 m, .slice a1 St.length c1, .slice a2 Fi.length c2, .slice a3 Ed.length c3], .slice aq Q.length cq, .int .i64 sym, .func (.func 59) #[] #[]] w fun e w' => ∃ gl capl, e = .returned (.tuple #[.slice (some ⟨gl, 0, none⟩) (elems N (imgF true (setI N Q) sym Ed)).length capl, .int .i64 0]) ∧ w'.ownsRow w.heap.size 3 1 (.slice (some ⟨gl, 0, none⟩) (elems N (imgF true (setI N Q) sym Ed)).length capl) (elems N (imgF true (setI N Q) sym Ed)).length (intV (elems N (imgF true (setI N Q) sym Ed))) ∧ Below w.heap.size w w' := by
  have hN : N ≤ 4096 := by have := (may_parts em).1; omega
  obtain ⟨X, hX⟩ : ∃ X, setI N Q = X := ⟨_, rfl⟩
  rw [hX]
  have HX := hide hX
  clear hX
  obtain ⟨W0, hW0⟩ : ∃ W0, w.alloc (.cells #[.int .i64 (N : Nat), .int .i64 m, .slice a1 St.length c1, .slice a2 Fi.length c2, .slice a3 Ed.length c3] 25) = W0 := ⟨_, rfl⟩
  have d0 : Below w.heap.size w W0 := by rw [← hW0]; exact (Below.refl _ _).alloc (Nat.le_refl _) _
  have B0 : W0.heap[w.heap.size]? = some (.cells #[.int .i64 (N : Nat), .int .i64 m, .slice a1 St.length c1, .slice a2 Fi.length c2, .slice a3 Ed.length c3] 25 (0, 0)) := by rw [← hW0]; exact World.alloc_heap_new _ _
  have T1 := valid_any W0 N m a1 a2 a3 c1 c2 c3 St Fi Ed (hide (hA.out.on d0)) h1 h2 h3
  rw [em] at T1
  have T1 : Calls Tryz.prog 22 #[.agg #[.int .i64 (N : Nat), .int .i64 m, .slice a1 St.length c1, .slice a2 Fi.length c2, .slice a3 Ed.length c3]] W0 fun e w' => e = .returned (.int .i64 0) ∧ Below W0.heap.size W0 w' := T1
  have k0 : W0.cell? ⟨w.heap.size, 0, none⟩ = some (.int .i64 (N : Nat)) := cell_of B0 rfl
  have k1 : W0.cell? ⟨w.heap.size, 1, none⟩ = some (.int .i64 m) := cell_of B0 rfl
  have k2 : W0.cell? ⟨w.heap.size, 2, none⟩ = some (.slice a1 St.length c1) := cell_of B0 rfl
  have k3 : W0.cell? ⟨w.heap.size, 3, none⟩ = some (.slice a2 Fi.length c2) := cell_of B0 rfl
  have k4 : W0.cell? ⟨w.heap.size, 4, none⟩ = some (.slice a3 Ed.length c3) := cell_of B0 rfl
  have HD := hide (And.intro d0 (And.intro B0 (show w.heap.size < W0.heap.size by rw [← hW0]; simp)))
  have HQ := hide (hQ.out.on d0)
  have HA := hide (hA.out.on d0)
  have HE := hide (may_parts em).2.2.2.2.2
  have HT := hide (And.intro (hT.out.1.below d0 hT.out.2) hT.out.2)
  have E4 := hide e4
  clear d0 B0 hA hQ em
  have SK : Hid (∀ W, Below W0.heap.size W0 W → (fun W => W.cell? ⟨w.heap.size, 0, none⟩ = some (.int .i64 (N : Nat)) ∧ W.cell? ⟨w.heap.size, 1, none⟩ = some (.int .i64 m) ∧ W.cell? ⟨w.heap.size, 2, none⟩ = some (.slice a1 St.length c1) ∧ W.cell? ⟨w.heap.size, 3, none⟩ = some (.slice a2 Fi.length c2) ∧ W.cell? ⟨w.heap.size, 4, none⟩ = some (.slice a3 Ed.length c3) ∧ Hid (Below W0.heap.size W0 W)) W) := hide (fun W d => by
    have e := blk_on HD.out.2.1 d
    exact ⟨cell_of e rfl, cell_of e rfl, cell_of e rfl, cell_of e rfl, cell_of e rfl, hide d⟩)
  have SD : Hid (∀ W, (fun W => W.cell? ⟨w.heap.size, 0, none⟩ = some (.int .i64 (N : Nat)) ∧ W.cell? ⟨w.heap.size, 1, none⟩ = some (.int .i64 m) ∧ W.cell? ⟨w.heap.size, 2, none⟩ = some (.slice a1 St.length c1) ∧ W.cell? ⟨w.heap.size, 3, none⟩ = some (.slice a2 Fi.length c2) ∧ W.cell? ⟨w.heap.size, 4, none⟩ = some (.slice a3 Ed.length c3) ∧ Hid (Below W0.heap.size W0 W)) W → Below W0.heap.size W0 W) := hide (fun W h => h.2.2.2.2.2.out)
  have T54 : Hid (∀ W, Below W0.heap.size W0 W → Calls Tryz.prog 54 #[.agg #[.int .i64 (N : Nat), .int .i64 m, .slice a1 St.length c1, .slice a2 Fi.length c2, .slice a3 Ed.length c3], .slice aq Q.length cq] W fun e w' => ∃ b g cap, e = .returned (.pointer (some ⟨b, 0, none⟩)) ∧ Hid (IsSet w' b g cap N (setI N Q) ∧ W0.heap.size ≤ b ∧ W0.heap.size ≤ g ∧ b ≠ g ∧ b < w'.heap.size ∧ g < w'.heap.size) ∧ Below W0.heap.size W0 w') := hide (fun W d => (setOf_any W N m a1 a2 a3 aq St.length Fi.length Ed.length c1 c2 c3 cq Q (hide (HQ.out.on d)) hq hN E4).mono fun e w' ⟨b, g, cap, he, hs, hb, hg, hbg, dd⟩ => ⟨b, g, cap, he, hide ⟨hs, Nat.le_trans d.size hb, Nat.le_trans d.size hg, hbg, hs.blt, hs.glt⟩, d.trans (dd.mono d.size)⟩)
  have T54n : Hid (∀ W, Below W0.heap.size W0 W → Calls Tryz.prog 54 #[.agg #[.int .i64 (N : Nat), .int .i64 m, .slice a1 St.length c1, .slice a2 Fi.length c2, .slice a3 Ed.length c3], .slice none 0 0] W fun e w' => ∃ b g cap, e = .returned (.pointer (some ⟨b, 0, none⟩)) ∧ Hid (IsSet w' b g cap N 0 ∧ W.heap.size ≤ b ∧ W.heap.size ≤ g ∧ b ≠ g ∧ Below W.heap.size W w') ∧ Below W0.heap.size W0 w') := hide (fun W d => (setOf_any W N m a1 a2 a3 none St.length Fi.length Ed.length c1 c2 c3 0 [] (hide (fun j h => absurd h (Nat.not_lt_zero j))) (Nat.zero_le _) hN (hide rfl)).mono fun e w' ⟨b, g, cap, he, hs, hb, hg, hbg, dd⟩ => ⟨b, g, cap, he, hide ⟨hs, hb, hg, hbg, dd⟩, d.trans (dd.mono d.size)⟩)
  go_enter Tryz.func57, Tryz.ntmps57
  go_upto_region 4 with (go_at_call 22; refine T1.mono ?_; rintro e w1 ⟨rfl, d1⟩)
  have H1 := hide d1
  obtain ⟨y0, y1, y2, y3, y4, _⟩ := SK.out w1 d1
  have T2 := allWithin_any aq cq Q N w1 (hide (HQ.out.on d1)) hq
  rw [e4] at T2
  clear T1 d1 k0 k1 k2 k3 k4
  go_upto_region 6 with (first
    | (go_at_call 64; refine T2.mono ?_; rintro e w2 ⟨rfl, hw⟩; obtain rfl := hw.symm)
    | (go_at_call 63; refine (within_any _ _ _).mono ?_; rintro e w2 ⟨rfl, hw⟩; obtain rfl := hw.symm))
  clear T2 y0 y1 y2 y3 y4 e4
  go_cut [11, 12] from 11 to 38 (fun pv qv W => ∃ b1 g1 k1 b2 g2 k2, pv = .pointer (some ⟨b1, 0, none⟩) ∧ qv = .pointer (some ⟨b2, 0, none⟩) ∧ Hid (IsSet W b1 g1 k1 N X ∧ IsSet W b2 g2 k2 N 0 ∧ W0.heap.size ≤ b1 ∧ W0.heap.size ≤ g1 ∧ (b1 < b2 ∧ b1 < g2 ∧ g1 < b2 ∧ g1 < g2) ∧ b2 ≠ g2 ∧ Below W0.heap.size W0 W))
  case first =>
    have S0 := SK.out w1.drew H1.out.drew
    go_region_held3 (fun W => W.cell? ⟨w.heap.size, 0, none⟩ = some (.int .i64 (N : Nat)) ∧ W.cell? ⟨w.heap.size, 1, none⟩ = some (.int .i64 m) ∧ W.cell? ⟨w.heap.size, 2, none⟩ = some (.slice a1 St.length c1) ∧ W.cell? ⟨w.heap.size, 3, none⟩ = some (.slice a2 Fi.length c2) ∧ W.cell? ⟨w.heap.size, 4, none⟩ = some (.slice a3 Ed.length c3) ∧ Hid (Below W0.heap.size W0 W))
      (with_reducible assumption)
      ((first
        | (go_at_call_of 54 aq; refine (T54.out _ (SD.out _ (by with_reducible assumption))).mono ?_; rintro e wa ⟨b1, g1, k1, rfl, hs1, Da⟩; have Sa := SK.out wa Da)
        | (go_at_call 54; refine (T54n.out wa Da).mono ?_; rintro e wb ⟨b2, g2, k2, rfl, hs2, Db⟩; have Sb := SK.out wb Db)))
    all_goals (
      go_wp2_with fail
      go_meet
      refine ⟨b1, g1, k1, b2, g2, k2, rfl, rfl, hide ?_⟩
      obtain ⟨h1, h2, h3, _, h5, h6⟩ := hs1.out
      obtain ⟨i1, i2, i3, i4, i5⟩ := hs2.out
      rw [HX.out] at h1
      exact ⟨h1.below i5, i1, h2, h3, ⟨by omega, by omega, by omega, by omega⟩, i4, Db⟩)
  case rest =>
    obtain ⟨b1, g1, k1, b2, g2, k2, rfl, rfl, HS⟩ := hcut
    rename World => wx
    have y4 : wx.cell? ⟨w.heap.size, 4, none⟩ = some (.slice a3 Ed.length c3) := cell_of (blk_on HD.out.2.1 HS.out.2.2.2.2.2.2) rfl
    clear T54 T54n SD
    go_wp2
    clear y4
    go_loopw [42] (fun iv wr => ∃ i : Nat, i ≤ Ed.length ∧ iv = .int .i64 i ∧ Hid (IsSet wr b1 g1 k1 N X ∧ IsSet wr b2 g2 k2 N (imgF true X sym (Ed.take i)) ∧ Below W0.heap.size W0 wr)) (fun iv _ => Ed.length - (intOf iv).toNat)
    case atStart => exact ⟨0, Nat.zero_le _, rfl, hide ⟨HS.out.1, HS.out.2.1, HS.out.2.2.2.2.2.2⟩⟩
    case round =>
      obtain ⟨i, hi, rfl, HY⟩ := hrel
      by_cases hil : i < Ed.length
      · have i0 : (0 : Int) ≤ (i : Int) := by omega
        have i1 : (i : Int) < (Ed.length : Int) := by omega
        obtain ⟨g, o, rfl, q1, q2, q3⟩ := (HA.out.e.on HY.out.2.2) i hil
        have HTk := hide (show Ed.take (i + 1) = Ed.take i ++ [Ed[i]] by rw [List.take_add_one, List.getElem?_eq_getElem hil]; rfl)
        have HN := hide (HE.out Ed[i] (List.getElem_mem hil))
        obtain ⟨x, hx⟩ : ∃ x, Ed[i] = x := ⟨_, rfl⟩
        rw [hx] at q1 q2 q3 HTk HN
        clear hx
        obtain ⟨x1, x2, x3⟩ := x
        obtain ⟨j1, hj1⟩ := Int.eq_ofNat_of_zero_le HN.out.1.1
        obtain ⟨j3, hj3⟩ := Int.eq_ofNat_of_zero_le HN.out.2.2.1
        have hj1 : x1 = (j1 : Int) := hj1
        have hj3 : x3 = (j3 : Int) := hj3
        subst hj1 hj3
        have hl1 : j1 < N := by have := HN.out.1.2; simp only at this; omega
        have hl3 : j3 < N := by have := HN.out.2.2.2; simp only at this; omega
        obtain ⟨W1, hW1⟩ : ∃ W1, wr.alloc (.cells #[.int .i64 (j1 : Int), .int .i64 x2, .int .i64 (j3 : Int)] 59) = W1 := ⟨_, rfl⟩
        have HW : Hid (W1.heap[wr.heap.size]? = some (.cells #[.int .i64 (j1 : Int), .int .i64 x2, .int .i64 (j3 : Int)] 59 (0, 0)) ∧ Below wr.heap.size wr W1) := hide (by rw [← hW1]; exact ⟨World.alloc_heap_new _ _, (Below.refl _ _).alloc (Nat.le_refl _) _⟩)
        obtain ⟨h, hh⟩ : ∃ h, wr.heap.size = h := ⟨_, rfl⟩
        have HH := hide hh
        have y0 : W1.cell? ⟨wr.heap.size, 0, none⟩ = some (.int .i64 (j1 : Int)) := cell_of HW.out.1 rfl
        have y1 : W1.cell? ⟨wr.heap.size, 1, none⟩ = some (.int .i64 x2) := cell_of HW.out.1 rfl
        have y2 : W1.cell? ⟨wr.heap.size, 2, none⟩ = some (.int .i64 (j3 : Int)) := cell_of HW.out.1 rfl
        clear hh
        have TE := pre1_any W1 (j1 : Int) x2 (j3 : Int)
        go_upto_region 11 with (go_at_call 59; refine TE.mono ?_; rintro e w2 ⟨rfl, d2⟩)
        have H2 : Hid (IsSet w2 b1 g1 k1 N X ∧ IsSet w2 b2 g2 k2 N (imgF true X sym (Ed.take i)) ∧ Below W0.heap.size W0 w2 ∧ w2.heap[wr.heap.size]? = some (.cells #[.int .i64 (j1 : Int), .int .i64 x2, .int .i64 (j3 : Int)] 59 (0, 0))) := hide (by
          have d := HW.out.2.trans (d2.mono HW.out.2.size)
          exact ⟨HY.out.1.below d, HY.out.2.1.below d, HY.out.2.2.trans (d.mono HY.out.2.2.size), blk_on HW.out.1 d2⟩)
        have z1 : w2.cell? ⟨wr.heap.size, 1, none⟩ = some (.int .i64 x2) := cell_of H2.out.2.2.2 rfl
        clear TE d2 y0 y1 y2 q1 q2 q3 hW1
        by_cases hs : x2 = sym
        · have T95 := has_any b1 g1 k1 N X (j3 : Int) w2 H2.out.1
          cases hb : hasB X (j3 : Int)
          · rw [hb] at T95
            go_wp2_with (go_at_call 95; refine T95.mono ?_; rintro e w3 ⟨rfl, q, rfl⟩)
            go_roundw
            case rel => exact ⟨i + 1, by omega, by go_num, hide ⟨H2.out.1.below (below_drewN' (Below.refl _ _) q), by rw [HTk.out, imgF_snoc, if_neg (by rintro ⟨_, z⟩; exact absurd (hb.symm.trans z) (by simp))]; exact H2.out.2.1.below (below_drewN' (Below.refl _ _) q), below_drewN' H2.out.2.2.1 q⟩⟩
            case measure => simp [intOf]; omega
          · rw [hb] at T95
            go_wp2_with (first
              | (go_at_call 95; refine T95.mono ?_; rintro e w3 ⟨rfl, q, hw3⟩; have H3 : Hid (IsSet w3 b1 g1 k1 N X ∧ IsSet w3 b2 g2 k2 N (imgF true X sym (Ed.take i)) ∧ Below W0.heap.size W0 w3) := hide (by rw [hw3]; exact ⟨H2.out.1.below (below_drewN' (Below.refl _ _) q), H2.out.2.1.below (below_drewN' (Below.refl _ _) q), below_drewN' H2.out.2.2.1 q⟩); clear hw3; have T96 := add_in b2 g2 k2 N _ j1 g2 w3 H3.out.2.1 HS.out.2.2.2.2.2.1 hl1 (Nat.le_refl _))
              | (go_at_call 96; refine T96.mono ?_; rintro e w4 ⟨rfl, hs4, d4⟩; have H4 := hide (And.intro hs4 d4); clear hs4 d4))
            go_roundw
            case rel =>
              have hap := HS.out.2.2.2.2.1
              have hg1 := HS.out.2.2.2.1
              refine ⟨i + 1, by omega, by go_num, hide ⟨H3.out.1.belowB H4.out.2 hap.2.1 hap.2.2.2, ?_, H3.out.2.2.trans (H4.out.2.mono (by omega))⟩⟩
              rw [HTk.out, imgF_snoc, if_pos ⟨hs, hb⟩]
              exact H4.out.1
            case measure => simp [intOf]; omega
        · have hs' : (x2 == sym) = false := by simpa using hs
          go_wp2
          go_roundw
          case rel => exact ⟨i + 1, by omega, by go_num, hide ⟨H2.out.1, by rw [HTk.out, imgF_snoc, if_neg (fun z => hs z.1)]; exact H2.out.2.1, H2.out.2.2.1⟩⟩
          case measure => simp [intOf]; omega
      · obtain rfl : Ed.length = i := by omega
        have i1 : ¬ (Ed.length : Int) < (Ed.length : Int) := by omega
        have HZ := HY.out
        rw [List.take_length] at HZ
        have TL := list_any b2 g2 k2 N _ wr HZ.2.1 (HT.out.1.below HZ.2.2 (Nat.lt_of_le_of_lt (Nat.zero_le _) HD.out.2.2))
        have HZ := hide HZ
        go_wp2_with (go_at_call 61; refine TL.mono ?_; rintro e wl ⟨gl, capl, rfl, hown, dl⟩; have HO := hide (And.intro hown dl); clear hown dl)
        go_ret2
        have z1 := HD.out.1.size
        have z2 := HZ.out.2.2.size
        refine ⟨gl, capl, rfl, ?_, HD.out.1.trans ((HZ.out.2.2.trans (HO.out.2.mono z2)).mono z1)⟩
        exact ownsRow_base HO.out.1 (by omega)
end Go.Proofs.YtfoahpideglghaaGreatDoor
namespace Go.Proofs.YtfoahpideglghaaGreatDoor
open Go.RowKit
attribute [local go_sem] Oper.semAt_some

/-! ### Post and Pre -/
set_option maxRecDepth 100000 in
set_option maxHeartbeats 1000000 in
theorem post_bad (w : World) (n m : Int) (a1 a2 a3 aq : Option Addr) (c1 c2 c3 cq : Nat) (St Fi : List Int) (Ed : List EdT) (Q : List Int) (sym : Int) (hA : Hid (RdA w a1 a2 a3 St Fi Ed)) (hQ : Hid (RdN w aq Q)) (h1 : St.length ≤ 4194304) (h2 : Fi.length ≤ 4194304) (h3 : Ed.length ≤ 4194304) (hq : Q.length ≤ 4194304) (hbad : Hid (imgErr n m St Fi Ed Q sym ≠ 0)) :
    Calls Tryz.prog 15 #[.agg #[.int .i64 n, .int .i64 m, .slice a1 St.length c1, .slice a2 Fi.length c2, .slice a3 Ed.length c3], .slice aq Q.length cq, .int .i64 sym] w fun e w' => e = .returned (.tuple #[.slice none 0 0, .int .i64 (imgErr n m St Fi Ed Q sym)]) ∧ Below w.heap.size w w' := by
  obtain ⟨W0, hW0⟩ : ∃ W0, w.alloc (.cells #[.int .i64 n, .int .i64 m, .slice a1 St.length c1, .slice a2 Fi.length c2, .slice a3 Ed.length c3] 25) = W0 := ⟨_, rfl⟩
  have d0 : Below w.heap.size w W0 := by rw [← hW0]; exact (Below.refl _ _).alloc (Nat.le_refl _) _
  have B0 : W0.heap[w.heap.size]? = some (.cells #[.int .i64 n, .int .i64 m, .slice a1 St.length c1, .slice a2 Fi.length c2, .slice a3 Ed.length c3] 25 (0, 0)) := by rw [← hW0]; exact World.alloc_heap_new _ _
  have k0 : W0.cell? ⟨w.heap.size, 0, none⟩ = some (.int .i64 n) := cell_of B0 rfl
  have k1 : W0.cell? ⟨w.heap.size, 1, none⟩ = some (.int .i64 m) := cell_of B0 rfl
  have k2 : W0.cell? ⟨w.heap.size, 2, none⟩ = some (.slice a1 St.length c1) := cell_of B0 rfl
  have k3 : W0.cell? ⟨w.heap.size, 3, none⟩ = some (.slice a2 Fi.length c2) := cell_of B0 rfl
  have k4 : W0.cell? ⟨w.heap.size, 4, none⟩ = some (.slice a3 Ed.length c3) := cell_of B0 rfl
  have T := image_bad W0 n m a1 a2 a3 aq c1 c2 c3 cq St Fi Ed Q sym (hide (hA.out.on d0)) (hide (hQ.out.on d0)) h1 h2 h3 hq hbad.out
  have HD := hide d0
  clear d0 B0
  obtain ⟨r, hr⟩ : ∃ r, imgErr n m St Fi Ed Q sym = r := ⟨_, rfl⟩
  rw [hr] at T
  rw [hr]
  clear hr hbad
  go_enter Tryz.func15, Tryz.ntmps15
  go_wp2_with (go_at_call 57; refine T.mono ?_; rintro e w1 ⟨rfl, d1⟩; have H1 := hide d1; clear d1)
  go_ret2
  exact ⟨rfl, HD.out.trans (H1.out.mono HD.out.size)⟩
set_option maxRecDepth 100000 in
set_option maxHeartbeats 1000000 in
theorem post_ok (w : World) (N : Nat) (m : Int) (a1 a2 a3 aq : Option Addr) (c1 c2 c3 cq : Nat) (St Fi : List Int) (Ed : List EdT) (Q : List Int) (sym : Int) (hT : Hid (TabAt w ∧ 0 < w.heap.size)) (hA : Hid (RdA w a1 a2 a3 St Fi Ed)) (hQ : Hid (RdN w aq Q)) (h1 : St.length ≤ 4194304) (h2 : Fi.length ≤ 4194304) (h3 : Ed.length ≤ 4194304) (hq : Q.length ≤ 4194304) (em : Hid (mayA N m St Fi Ed = true)) (e4 : Hid (Q.all (inB N) = true)) (e5 : Hid (inB m sym = true)) :
    Calls Tryz.prog 15 #[.agg #[.int .i64 (N : Nat), .int .i64 m, .slice a1 St.length c1, .slice a2 Fi.length c2, .slice a3 Ed.length c3], .slice aq Q.length cq, .int .i64 sym] w fun e w' => ∃ gl capl, e = .returned (.tuple #[.slice (some ⟨gl, 0, none⟩) (elems N (imgF false (setI N Q) sym Ed)).length capl, .int .i64 0]) ∧ w'.ownsRow w.heap.size 3 1 (.slice (some ⟨gl, 0, none⟩) (elems N (imgF false (setI N Q) sym Ed)).length capl) (elems N (imgF false (setI N Q) sym Ed)).length (intV (elems N (imgF false (setI N Q) sym Ed))) ∧ Below w.heap.size w w' := by
  obtain ⟨W0, hW0⟩ : ∃ W0, w.alloc (.cells #[.int .i64 (N : Nat), .int .i64 m, .slice a1 St.length c1, .slice a2 Fi.length c2, .slice a3 Ed.length c3] 25) = W0 := ⟨_, rfl⟩
  have d0 : Below w.heap.size w W0 := by rw [← hW0]; exact (Below.refl _ _).alloc (Nat.le_refl _) _
  have B0 : W0.heap[w.heap.size]? = some (.cells #[.int .i64 (N : Nat), .int .i64 m, .slice a1 St.length c1, .slice a2 Fi.length c2, .slice a3 Ed.length c3] 25 (0, 0)) := by rw [← hW0]; exact World.alloc_heap_new _ _
  have k0 : W0.cell? ⟨w.heap.size, 0, none⟩ = some (.int .i64 (N : Nat)) := cell_of B0 rfl
  have k1 : W0.cell? ⟨w.heap.size, 1, none⟩ = some (.int .i64 m) := cell_of B0 rfl
  have k2 : W0.cell? ⟨w.heap.size, 2, none⟩ = some (.slice a1 St.length c1) := cell_of B0 rfl
  have k3 : W0.cell? ⟨w.heap.size, 3, none⟩ = some (.slice a2 Fi.length c2) := cell_of B0 rfl
  have k4 : W0.cell? ⟨w.heap.size, 4, none⟩ = some (.slice a3 Ed.length c3) := cell_of B0 rfl
  have T := image_ok W0 N m a1 a2 a3 aq c1 c2 c3 cq St Fi Ed Q sym (hide ⟨hT.out.1.below d0 hT.out.2, Nat.lt_of_lt_of_le hT.out.2 d0.size⟩) (hide (hA.out.on d0)) (hide (hQ.out.on d0)) h1 h2 h3 hq em.out e4.out e5.out
  have HD := hide d0
  clear d0 B0
  obtain ⟨I, hI⟩ : ∃ I, (elems N (imgF false (setI N Q) sym Ed)) = I := ⟨_, rfl⟩
  rw [hI] at T
  rw [hI]
  clear hI
  go_enter Tryz.func15, Tryz.ntmps15
  go_wp2_with (go_at_call 57; refine T.mono ?_; rintro e w1 ⟨gl, capl, rfl, ho, d1⟩; have H1 := hide (And.intro ho d1); clear ho d1)
  go_ret2
  exact ⟨gl, capl, rfl, ownsRow_base H1.out.1 HD.out.size, HD.out.trans (H1.out.2.mono HD.out.size)⟩
set_option maxRecDepth 100000 in
set_option maxHeartbeats 1000000 in
theorem pre_bad (w : World) (n m : Int) (a1 a2 a3 aq : Option Addr) (c1 c2 c3 cq : Nat) (St Fi : List Int) (Ed : List EdT) (Q : List Int) (sym : Int) (hA : Hid (RdA w a1 a2 a3 St Fi Ed)) (hQ : Hid (RdN w aq Q)) (h1 : St.length ≤ 4194304) (h2 : Fi.length ≤ 4194304) (h3 : Ed.length ≤ 4194304) (hq : Q.length ≤ 4194304) (hbad : Hid (imgErr n m St Fi Ed Q sym ≠ 0)) :
    Calls Tryz.prog 16 #[.agg #[.int .i64 n, .int .i64 m, .slice a1 St.length c1, .slice a2 Fi.length c2, .slice a3 Ed.length c3], .slice aq Q.length cq, .int .i64 sym] w fun e w' => e = .returned (.tuple #[.slice none 0 0, .int .i64 (imgErr n m St Fi Ed Q sym)]) ∧ Below w.heap.size w w' := by
  obtain ⟨W0, hW0⟩ : ∃ W0, w.alloc (.cells #[.int .i64 n, .int .i64 m, .slice a1 St.length c1, .slice a2 Fi.length c2, .slice a3 Ed.length c3] 25) = W0 := ⟨_, rfl⟩
  have d0 : Below w.heap.size w W0 := by rw [← hW0]; exact (Below.refl _ _).alloc (Nat.le_refl _) _
  have B0 : W0.heap[w.heap.size]? = some (.cells #[.int .i64 n, .int .i64 m, .slice a1 St.length c1, .slice a2 Fi.length c2, .slice a3 Ed.length c3] 25 (0, 0)) := by rw [← hW0]; exact World.alloc_heap_new _ _
  have k0 : W0.cell? ⟨w.heap.size, 0, none⟩ = some (.int .i64 n) := cell_of B0 rfl
  have k1 : W0.cell? ⟨w.heap.size, 1, none⟩ = some (.int .i64 m) := cell_of B0 rfl
  have k2 : W0.cell? ⟨w.heap.size, 2, none⟩ = some (.slice a1 St.length c1) := cell_of B0 rfl
  have k3 : W0.cell? ⟨w.heap.size, 3, none⟩ = some (.slice a2 Fi.length c2) := cell_of B0 rfl
  have k4 : W0.cell? ⟨w.heap.size, 4, none⟩ = some (.slice a3 Ed.length c3) := cell_of B0 rfl
  have T := image_badB W0 n m a1 a2 a3 aq c1 c2 c3 cq St Fi Ed Q sym (hide (hA.out.on d0)) (hide (hQ.out.on d0)) h1 h2 h3 hq hbad.out
  have HD := hide d0
  clear d0 B0
  obtain ⟨r, hr⟩ : ∃ r, imgErr n m St Fi Ed Q sym = r := ⟨_, rfl⟩
  rw [hr] at T
  rw [hr]
  clear hr hbad
  go_enter Tryz.func16, Tryz.ntmps16
  go_wp2_with (go_at_call 57; refine T.mono ?_; rintro e w1 ⟨rfl, d1⟩; have H1 := hide d1; clear d1)
  go_ret2
  exact ⟨rfl, HD.out.trans (H1.out.mono HD.out.size)⟩
set_option maxRecDepth 100000 in
set_option maxHeartbeats 1000000 in
theorem pre_ok (w : World) (N : Nat) (m : Int) (a1 a2 a3 aq : Option Addr) (c1 c2 c3 cq : Nat) (St Fi : List Int) (Ed : List EdT) (Q : List Int) (sym : Int) (hT : Hid (TabAt w ∧ 0 < w.heap.size)) (hA : Hid (RdA w a1 a2 a3 St Fi Ed)) (hQ : Hid (RdN w aq Q)) (h1 : St.length ≤ 4194304) (h2 : Fi.length ≤ 4194304) (h3 : Ed.length ≤ 4194304) (hq : Q.length ≤ 4194304) (em : Hid (mayA N m St Fi Ed = true)) (e4 : Hid (Q.all (inB N) = true)) (e5 : Hid (inB m sym = true)) :
    Calls Tryz.prog 16 #[.agg #[.int .i64 (N : Nat), .int .i64 m, .slice a1 St.length c1, .slice a2 Fi.length c2, .slice a3 Ed.length c3], .slice aq Q.length cq, .int .i64 sym] w fun e w' => ∃ gl capl, e = .returned (.tuple #[.slice (some ⟨gl, 0, none⟩) (elems N (imgF true (setI N Q) sym Ed)).length capl, .int .i64 0]) ∧ w'.ownsRow w.heap.size 3 1 (.slice (some ⟨gl, 0, none⟩) (elems N (imgF true (setI N Q) sym Ed)).length capl) (elems N (imgF true (setI N Q) sym Ed)).length (intV (elems N (imgF true (setI N Q) sym Ed))) ∧ Below w.heap.size w w' := by
  obtain ⟨W0, hW0⟩ : ∃ W0, w.alloc (.cells #[.int .i64 (N : Nat), .int .i64 m, .slice a1 St.length c1, .slice a2 Fi.length c2, .slice a3 Ed.length c3] 25) = W0 := ⟨_, rfl⟩
  have d0 : Below w.heap.size w W0 := by rw [← hW0]; exact (Below.refl _ _).alloc (Nat.le_refl _) _
  have B0 : W0.heap[w.heap.size]? = some (.cells #[.int .i64 (N : Nat), .int .i64 m, .slice a1 St.length c1, .slice a2 Fi.length c2, .slice a3 Ed.length c3] 25 (0, 0)) := by rw [← hW0]; exact World.alloc_heap_new _ _
  have k0 : W0.cell? ⟨w.heap.size, 0, none⟩ = some (.int .i64 (N : Nat)) := cell_of B0 rfl
  have k1 : W0.cell? ⟨w.heap.size, 1, none⟩ = some (.int .i64 m) := cell_of B0 rfl
  have k2 : W0.cell? ⟨w.heap.size, 2, none⟩ = some (.slice a1 St.length c1) := cell_of B0 rfl
  have k3 : W0.cell? ⟨w.heap.size, 3, none⟩ = some (.slice a2 Fi.length c2) := cell_of B0 rfl
  have k4 : W0.cell? ⟨w.heap.size, 4, none⟩ = some (.slice a3 Ed.length c3) := cell_of B0 rfl
  have T := image_okB W0 N m a1 a2 a3 aq c1 c2 c3 cq St Fi Ed Q sym (hide ⟨hT.out.1.below d0 hT.out.2, Nat.lt_of_lt_of_le hT.out.2 d0.size⟩) (hide (hA.out.on d0)) (hide (hQ.out.on d0)) h1 h2 h3 hq em.out e4.out e5.out
  have HD := hide d0
  clear d0 B0
  obtain ⟨I, hI⟩ : ∃ I, (elems N (imgF true (setI N Q) sym Ed)) = I := ⟨_, rfl⟩
  rw [hI] at T
  rw [hI]
  clear hI
  go_enter Tryz.func16, Tryz.ntmps16
  go_wp2_with (go_at_call 57; refine T.mono ?_; rintro e w1 ⟨gl, capl, rfl, ho, d1⟩; have H1 := hide (And.intro ho d1); clear ho d1)
  go_ret2
  exact ⟨gl, capl, rfl, ownsRow_base H1.out.1 HD.out.size, HD.out.trans (H1.out.2.mono HD.out.size)⟩
end Go.Proofs.YtfoahpideglghaaGreatDoor
