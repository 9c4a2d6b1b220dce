import Derived.Test.YtdgmokelmocejabDoorPlc
namespace Go.Proofs.YtdgmokelmocejabDoor
open Go.RowKit

set_option maxRecDepth 100000 in
set_option maxHeartbeats 4000000 in
theorem makes_of_ok (w0 w : World) (B : Nat) (p : Nat → Sl) (At Of To I : Int) (al : Option Addr) (ll cl : Nat) (key : ByteArray) (h : Bn w0 B p w) (hok : Ok4 p) (l : List Int) (hll : Hid (ll = l.length)) (hrd : Hid (ReadsI w al l)) (hlen : l.length ≤ 1048576) (hTT : Hid (TabAt w ∧ 0 < w.heap.size)) (hyp : ofC I l = 0) :
    Calls Tryd.prog 44 #[.pointer (some ⟨B, 0, none⟩), .agg #[.int .i64 2, .int .i64 At, .int .i64 Of, .int .i64 To, .int .i64 I, .slice al ll cl, .string key]] w fun e w' => e = .returned (.bool true) ∧ ∃ p', Ok4 p' ∧ Bn w0 B p' w' := by
  have ha := plc_lt At
  have ho := plc_lt Of
  have ht := plc_lt To
  generalize hA : plc At = a at *
  generalize hO : plc Of = o at *
  generalize hT : plc To = t at *
  have PA := hide hA
  have PO := hide hO
  have PT := hide hT
  clear hA hO hT
  have HHYP := hide (hyp)
  clear hyp
  have hB := h.blt
  have c1 := h.ptr ha
  have c2 := h.ptr ho
  have c3 := h.num ha
  have c4 := h.sli ha
  have c5 := h.num ho
  have c6 := h.sli ho
  unfold Sl.ptr at c1 c2
  unfold Sl.num at c3 c5
  unfold Sl.sli at c4 c6
  rw [hok a ha] at c4
  rw [hok o ho] at c6
  have i0 : (0 : Int) ≤ (a : Int) := by omega
  have i1 : (a : Int) < 4 := by omega
  have j0 : (0 : Int) ≤ (o : Int) := by omega
  have j1 : (o : Int) < 4 := by omega
  have HOK := hide hok
  have H := hide h
  have HLT := hide h.lts
  have hlo : w0.heap.size ≤ w.heap.size := h.below.size
  have hnx := (h.set a ha).hn
  have HXX := hide (h.set a ha).hX
  have hx3 := box3 (w := w) (.cells #[.int .i64 2, .int .i64 At, .int .i64 Of, .int .i64 To, .int .i64 I, .slice al ll cl, .string key] 53) (.cells #[.int .i64 (p a).n, .slice (p a).ao (elems (p a).n (p a).X).length (p a).cr] 42) (.cells #[.int .i64 (p o).n, .slice (p o).ao (elems (p o).n (p o).X).length (p o).cr] 42) (Below.refl _ _)
  have HB3 := hide hx3
  have HBN := hide (h.on hx3.2.2.2)
  have HRA : Hid (Row3 w (p a).ao (elems (p a).n (p a).X)) := by
    have := h.row a ha
    rwa [hok a ha] at this
  have HRB : Hid (Row3 w (p o).ao (elems (p o).n (p o).X)) := by
    have := h.row o ho
    rwa [hok o ho] at this
  clear h hok hx3
  go_enter Tryd.func44, Tryd.ntmps44
  go_wp2_with fail
  refine (place_any At _).mono ?_
  rintro e w1 ⟨rfl, hw1⟩
  obtain rfl := hw1.symm
  clear hw1
  rw [PA.out]
  go_wp2_with fail
  refine (place_any Of _).mono ?_
  rintro e w1 ⟨rfl, hw1⟩
  obtain rfl := hw1.symm
  clear hw1
  rw [PO.out]
  go_wp2_with fail
  refine (place_any To _).mono ?_
  rintro e w1 ⟨rfl, hw1⟩
  obtain rfl := hw1.symm
  clear hw1
  rw [PT.out]
  go_wp2_with fail
  generalize hW3 : ((w.alloc (.cells #[.int .i64 2, .int .i64 At, .int .i64 Of, .int .i64 To, .int .i64 I, .slice al ll cl, .string key] 53)).alloc (.cells #[.int .i64 (p a).n, .slice (p a).ao (elems (p a).n (p a).X).length (p a).cr] 42)).alloc (.cells #[.int .i64 (p o).n, .slice (p o).ao (elems (p o).n (p o).X).length (p o).cr] 42) = W3 at *
  have hd3 : Below w.heap.size w W3 := HB3.out.2.2.2
  have HD3 := hide hd3
  have hz3 := HD3.out.size
  clear hd3 hW3 c1 c2 c3 c4 c5 c6
  have hTw := hide (hTT.out.1.below HD3.out hTT.out.2)
  have hT0 : 0 < W3.heap.size := by have := hTT.out.2; omega
  have hrd3 := hide (hrd.out.below HD3.out)
  obtain rfl := hll.out
  refine (of65_any al cl I l _ hTw.out hT0 hrd3.out hlen).mono ?_
  rintro e w1 ⟨p1, c1, rfl, Q1⟩
  have c4 : w1.cell? ⟨w.heap.size, 4, none⟩ = some (.int .i64 I) := by rw [cell_of_row _ _ 4 _ 53 (0, 0) (radd_res HB3.out.2.1 Q1.below)]; rfl
  have c5 : w1.cell? ⟨w.heap.size, 5, none⟩ = some (.slice al l.length cl) := by rw [cell_of_row _ _ 5 _ 53 (0, 0) (radd_res HB3.out.2.1 Q1.below)]; rfl
  have B1 := hide (HBN.out.on Q1.below)
  have RD1 := hide (hrd3.out.below Q1.below)
  obtain ⟨C, hC⟩ : ∃ C, ofC I l = C := ⟨_, rfl⟩
  have HQ1 := hide Q1
  have hc1 : c1 = C := by rw [Q1.code, hC]
  subst hc1
  have HC := hide hC
  clear Q1 hC
  go_wp2_with fail
  refine (of66_u al cl I l _ RD1.out (by omega)).mono ?_
  rintro e w2 ⟨m2, v2, c2, rfl, Q2⟩
  have hc2 : c2 = c1 := by rw [Q2.code, HC.out]
  subst hc2
  have BL := hide (B1.out.on Q2.below)
  obtain rfl : c2 = 0 := by rw [← HC.out]; exact HHYP.out
  obtain ⟨b, g, cs, rfl, hs, hb, hg, hbg⟩ := HQ1.out.some rfl
  obtain ⟨rfl, ao2, cap2, rfl, hr2⟩ := Q2.some rfl
  obtain ⟨n, rfl⟩ := Int.eq_ofNat_of_zero_le (ofC_zero HHYP.out).1
  rw [Int.toNat_natCast] at hs hr2
  rw [Int.toNat_natCast]
  have SL := hide (hs.below Q2.below)
  have RL := hide hr2
  have hb2 : w.heap.size ≤ b := by omega
  have hg2 : w.heap.size ≤ g := by omega
  clear hs hr2 Q2 HQ1 hb hg hbg c4 c5
  go_wp2_with fail
  refine (lay_yes w0 B a w.heap.size p ⟨b, g, cs, n, (setI n l), (setI n l), ao2, cap2⟩ _ (BL.out.on bw1) ha (SL.out.below bw1) (RL.out.below bw1) hlo HLT.out hb2 hg2).mono ?_
  rintro e w9 ⟨rfl, FIN⟩
  have F := hide FIN
  clear FIN
  go_wp2
  go_ret
  exact ⟨rfl, _, ok_up1 HOK.out rfl, F.out⟩

set_option maxRecDepth 100000 in
set_option maxHeartbeats 4000000 in
theorem makes_of_no (w0 w : World) (B : Nat) (p : Nat → Sl) (At Of To I : Int) (al : Option Addr) (ll cl : Nat) (key : ByteArray) (h : Bn w0 B p w) (hok : Ok4 p) (l : List Int) (hll : Hid (ll = l.length)) (hrd : Hid (ReadsI w al l)) (hlen : l.length ≤ 1048576) (hTT : Hid (TabAt w ∧ 0 < w.heap.size)) (hyp : ofC I l ≠ 0) :
    Calls Tryd.prog 44 #[.pointer (some ⟨B, 0, none⟩), .agg #[.int .i64 2, .int .i64 At, .int .i64 Of, .int .i64 To, .int .i64 I, .slice al ll cl, .string key]] w fun e w' => e = .returned (.bool true) ∧ ∃ p', Ok4 p' ∧ Bn w0 B p' w' := by
  have ha := plc_lt At
  have ho := plc_lt Of
  have ht := plc_lt To
  generalize hA : plc At = a at *
  generalize hO : plc Of = o at *
  generalize hT : plc To = t at *
  have PA := hide hA
  have PO := hide hO
  have PT := hide hT
  clear hA hO hT
  have HHYP := hide (hyp)
  clear hyp
  have hB := h.blt
  have c1 := h.ptr ha
  have c2 := h.ptr ho
  have c3 := h.num ha
  have c4 := h.sli ha
  have c5 := h.num ho
  have c6 := h.sli ho
  unfold Sl.ptr at c1 c2
  unfold Sl.num at c3 c5
  unfold Sl.sli at c4 c6
  rw [hok a ha] at c4
  rw [hok o ho] at c6
  have i0 : (0 : Int) ≤ (a : Int) := by omega
  have i1 : (a : Int) < 4 := by omega
  have j0 : (0 : Int) ≤ (o : Int) := by omega
  have j1 : (o : Int) < 4 := by omega
  have HOK := hide hok
  have H := hide h
  have HLT := hide h.lts
  have hlo : w0.heap.size ≤ w.heap.size := h.below.size
  have hnx := (h.set a ha).hn
  have HXX := hide (h.set a ha).hX
  have hx3 := box3 (w := w) (.cells #[.int .i64 2, .int .i64 At, .int .i64 Of, .int .i64 To, .int .i64 I, .slice al ll cl, .string key] 53) (.cells #[.int .i64 (p a).n, .slice (p a).ao (elems (p a).n (p a).X).length (p a).cr] 42) (.cells #[.int .i64 (p o).n, .slice (p o).ao (elems (p o).n (p o).X).length (p o).cr] 42) (Below.refl _ _)
  have HB3 := hide hx3
  have HBN := hide (h.on hx3.2.2.2)
  have HRA : Hid (Row3 w (p a).ao (elems (p a).n (p a).X)) := by
    have := h.row a ha
    rwa [hok a ha] at this
  have HRB : Hid (Row3 w (p o).ao (elems (p o).n (p o).X)) := by
    have := h.row o ho
    rwa [hok o ho] at this
  clear h hok hx3
  go_enter Tryd.func44, Tryd.ntmps44
  go_wp2_with fail
  refine (place_any At _).mono ?_
  rintro e w1 ⟨rfl, hw1⟩
  obtain rfl := hw1.symm
  clear hw1
  rw [PA.out]
  go_wp2_with fail
  refine (place_any Of _).mono ?_
  rintro e w1 ⟨rfl, hw1⟩
  obtain rfl := hw1.symm
  clear hw1
  rw [PO.out]
  go_wp2_with fail
  refine (place_any To _).mono ?_
  rintro e w1 ⟨rfl, hw1⟩
  obtain rfl := hw1.symm
  clear hw1
  rw [PT.out]
  go_wp2_with fail
  generalize hW3 : ((w.alloc (.cells #[.int .i64 2, .int .i64 At, .int .i64 Of, .int .i64 To, .int .i64 I, .slice al ll cl, .string key] 53)).alloc (.cells #[.int .i64 (p a).n, .slice (p a).ao (elems (p a).n (p a).X).length (p a).cr] 42)).alloc (.cells #[.int .i64 (p o).n, .slice (p o).ao (elems (p o).n (p o).X).length (p o).cr] 42) = W3 at *
  have hd3 : Below w.heap.size w W3 := HB3.out.2.2.2
  have HD3 := hide hd3
  have hz3 := HD3.out.size
  clear hd3 hW3 c1 c2 c3 c4 c5 c6
  have hTw := hide (hTT.out.1.below HD3.out hTT.out.2)
  have hT0 : 0 < W3.heap.size := by have := hTT.out.2; omega
  have hrd3 := hide (hrd.out.below HD3.out)
  obtain rfl := hll.out
  refine (of65_any al cl I l _ hTw.out hT0 hrd3.out hlen).mono ?_
  rintro e w1 ⟨p1, c1, rfl, Q1⟩
  have c4 : w1.cell? ⟨w.heap.size, 4, none⟩ = some (.int .i64 I) := by rw [cell_of_row _ _ 4 _ 53 (0, 0) (radd_res HB3.out.2.1 Q1.below)]; rfl
  have c5 : w1.cell? ⟨w.heap.size, 5, none⟩ = some (.slice al l.length cl) := by rw [cell_of_row _ _ 5 _ 53 (0, 0) (radd_res HB3.out.2.1 Q1.below)]; rfl
  have B1 := hide (HBN.out.on Q1.below)
  have RD1 := hide (hrd3.out.below Q1.below)
  obtain ⟨C, hC⟩ : ∃ C, ofC I l = C := ⟨_, rfl⟩
  have HQ1 := hide Q1
  have hc1 : c1 = C := by rw [Q1.code, hC]
  subst hc1
  have HC := hide hC
  clear Q1 hC
  go_wp2_with fail
  refine (of66_u al cl I l _ RD1.out (by omega)).mono ?_
  rintro e w2 ⟨m2, v2, c2, rfl, Q2⟩
  have hc2 : c2 = c1 := by rw [Q2.code, HC.out]
  subst hc2
  have BL := hide (B1.out.on Q2.below)
  have hc0 : c2 ≠ 0 := by rw [← HC.out]; exact HHYP.out
  obtain rfl := HQ1.out.none hc0
  obtain ⟨rfl, rfl⟩ := Q2.none hc0
  have HC0 := hide hc0
  clear Q2 HQ1 c4 c5 hc0
  go_wp2_with fail
  refine (lay_no B a c2 _ _ _ HC0.out).mono ?_
  rintro e w9 ⟨rfl, d9⟩
  have F := hide ((BL.out.on bw1).on d9)
  clear d9
  go_wp2
  go_ret
  exact ⟨rfl, p, HOK.out, F.out⟩
end Go.Proofs.YtdgmokelmocejabDoor
