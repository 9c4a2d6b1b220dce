import Derived.Test.YtdgmokelmocejabDoorPlc
namespace Go.Proofs.YtdgmokelmocejabDoor
open Go.RowKit

set_option maxRecDepth 100000 in
set_option maxHeartbeats 4000000 in
theorem makes_new_ok (w0 w : World) (B : Nat) (p : Nat → Sl) (At Of To I : Int) (al : Option Addr) (ll cl : Nat) (key : ByteArray) (h : Bn w0 B p w) (hok : Ok4 p) (hyp : 0 ≤ I ∧ I ≤ 8192) :
    Calls Tryd.prog 44 #[.pointer (some ⟨B, 0, none⟩), .agg #[.int .i64 1, .int .i64 At, .int .i64 Of, .int .i64 To, .int .i64 I, .slice al ll cl, .string key]] w fun e w' => e = .returned (.bool true) ∧ ∃ p', Ok4 p' ∧ Bn w0 B p' w' := by
  have ha := plc_lt At
  have ho := plc_lt Of
  have ht := plc_lt To
  generalize hA : plc At = a at *
  generalize hO : plc Of = o at *
  generalize hT : plc To = t at *
  have PA := hide hA
  have PO := hide hO
  have PT := hide hT
  clear hA hO hT
  have HHYP := hide (hyp)
  clear hyp
  have hB := h.blt
  have c1 := h.ptr ha
  have c2 := h.ptr ho
  have c3 := h.num ha
  have c4 := h.sli ha
  have c5 := h.num ho
  have c6 := h.sli ho
  unfold Sl.ptr at c1 c2
  unfold Sl.num at c3 c5
  unfold Sl.sli at c4 c6
  rw [hok a ha] at c4
  rw [hok o ho] at c6
  have i0 : (0 : Int) ≤ (a : Int) := by omega
  have i1 : (a : Int) < 4 := by omega
  have j0 : (0 : Int) ≤ (o : Int) := by omega
  have j1 : (o : Int) < 4 := by omega
  have HOK := hide hok
  have H := hide h
  have HLT := hide h.lts
  have hlo : w0.heap.size ≤ w.heap.size := h.below.size
  have hnx := (h.set a ha).hn
  have HXX := hide (h.set a ha).hX
  have hx3 := box3 (w := w) (.cells #[.int .i64 1, .int .i64 At, .int .i64 Of, .int .i64 To, .int .i64 I, .slice al ll cl, .string key] 53) (.cells #[.int .i64 (p a).n, .slice (p a).ao (elems (p a).n (p a).X).length (p a).cr] 42) (.cells #[.int .i64 (p o).n, .slice (p o).ao (elems (p o).n (p o).X).length (p o).cr] 42) (Below.refl _ _)
  have HB3 := hide hx3
  have HBN := hide (h.on hx3.2.2.2)
  have HRA : Hid (Row3 w (p a).ao (elems (p a).n (p a).X)) := by
    have := h.row a ha
    rwa [hok a ha] at this
  have HRB : Hid (Row3 w (p o).ao (elems (p o).n (p o).X)) := by
    have := h.row o ho
    rwa [hok o ho] at this
  clear h hok hx3
  go_enter Tryd.func44, Tryd.ntmps44
  go_wp2_with fail
  refine (place_any At _).mono ?_
  rintro e w1 ⟨rfl, hw1⟩
  obtain rfl := hw1.symm
  clear hw1
  rw [PA.out]
  go_wp2_with fail
  refine (place_any Of _).mono ?_
  rintro e w1 ⟨rfl, hw1⟩
  obtain rfl := hw1.symm
  clear hw1
  rw [PO.out]
  go_wp2_with fail
  refine (place_any To _).mono ?_
  rintro e w1 ⟨rfl, hw1⟩
  obtain rfl := hw1.symm
  clear hw1
  rw [PT.out]
  go_wp2_with fail
  generalize hW3 : ((w.alloc (.cells #[.int .i64 1, .int .i64 At, .int .i64 Of, .int .i64 To, .int .i64 I, .slice al ll cl, .string key] 53)).alloc (.cells #[.int .i64 (p a).n, .slice (p a).ao (elems (p a).n (p a).X).length (p a).cr] 42)).alloc (.cells #[.int .i64 (p o).n, .slice (p o).ao (elems (p o).n (p o).X).length (p o).cr] 42) = W3 at *
  have hd3 : Below w.heap.size w W3 := HB3.out.2.2.2
  have HD3 := hide hd3
  have hz3 := HD3.out.size
  clear hd3 hW3 c1 c2 c3 c4 c5 c6
  obtain ⟨n, rfl⟩ := Int.eq_ofNat_of_zero_le HHYP.out.1
  have hn : n ≤ 8192 := by have := HHYP.out.2; omega
  refine (new_ok n _ hn).mono ?_
  rintro e w1 ⟨b, g, cs, rfl, hs, hb, hg, hbg, d1⟩
  have c4 : w1.cell? ⟨w.heap.size, 4, none⟩ = some (.int .i64 n) := by rw [cell_of_row _ _ 4 _ 53 (0, 0) (radd_res HB3.out.2.1 d1)]; rfl
  have hb2 : w.heap.size ≤ b := by omega
  have hg2 : w.heap.size ≤ g := by omega
  have B1 := hide (HBN.out.on d1)
  have S1 := hide hs
  clear hs hb hg hbg d1
  go_wp2_with fail
  refine (rnew_r n _ hn).mono ?_
  rintro e w2 ⟨ao2, cap2, rfl, hr2, d2⟩
  have BL := hide (B1.out.on d2)
  have SL := hide (S1.out.below d2)
  have RL := hide hr2
  clear hr2 d2 c4
  go_wp2_with fail
  refine (lay_yes w0 B a w.heap.size p ⟨b, g, cs, n, 0, 0, ao2, cap2⟩ _ (BL.out.on bw1) ha (SL.out.below bw1) (RL.out.below bw1) hlo HLT.out hb2 hg2).mono ?_
  rintro e w9 ⟨rfl, FIN⟩
  have F := hide FIN
  clear FIN
  go_wp2
  go_ret
  exact ⟨rfl, _, ok_up1 HOK.out rfl, F.out⟩

set_option maxRecDepth 100000 in
set_option maxHeartbeats 4000000 in
theorem makes_new_no (w0 w : World) (B : Nat) (p : Nat → Sl) (At Of To I : Int) (al : Option Addr) (ll cl : Nat) (key : ByteArray) (h : Bn w0 B p w) (hok : Ok4 p) (hyp : I < 0 ∨ 8192 < I) :
    Calls Tryd.prog 44 #[.pointer (some ⟨B, 0, none⟩), .agg #[.int .i64 1, .int .i64 At, .int .i64 Of, .int .i64 To, .int .i64 I, .slice al ll cl, .string key]] w fun e w' => e = .returned (.bool true) ∧ ∃ p', Ok4 p' ∧ Bn w0 B p' w' := by
  have ha := plc_lt At
  have ho := plc_lt Of
  have ht := plc_lt To
  generalize hA : plc At = a at *
  generalize hO : plc Of = o at *
  generalize hT : plc To = t at *
  have PA := hide hA
  have PO := hide hO
  have PT := hide hT
  clear hA hO hT
  have HHYP := hide (hyp)
  clear hyp
  have hB := h.blt
  have c1 := h.ptr ha
  have c2 := h.ptr ho
  have c3 := h.num ha
  have c4 := h.sli ha
  have c5 := h.num ho
  have c6 := h.sli ho
  unfold Sl.ptr at c1 c2
  unfold Sl.num at c3 c5
  unfold Sl.sli at c4 c6
  rw [hok a ha] at c4
  rw [hok o ho] at c6
  have i0 : (0 : Int) ≤ (a : Int) := by omega
  have i1 : (a : Int) < 4 := by omega
  have j0 : (0 : Int) ≤ (o : Int) := by omega
  have j1 : (o : Int) < 4 := by omega
  have HOK := hide hok
  have H := hide h
  have HLT := hide h.lts
  have hlo : w0.heap.size ≤ w.heap.size := h.below.size
  have hnx := (h.set a ha).hn
  have HXX := hide (h.set a ha).hX
  have hx3 := box3 (w := w) (.cells #[.int .i64 1, .int .i64 At, .int .i64 Of, .int .i64 To, .int .i64 I, .slice al ll cl, .string key] 53) (.cells #[.int .i64 (p a).n, .slice (p a).ao (elems (p a).n (p a).X).length (p a).cr] 42) (.cells #[.int .i64 (p o).n, .slice (p o).ao (elems (p o).n (p o).X).length (p o).cr] 42) (Below.refl _ _)
  have HB3 := hide hx3
  have HBN := hide (h.on hx3.2.2.2)
  have HRA : Hid (Row3 w (p a).ao (elems (p a).n (p a).X)) := by
    have := h.row a ha
    rwa [hok a ha] at this
  have HRB : Hid (Row3 w (p o).ao (elems (p o).n (p o).X)) := by
    have := h.row o ho
    rwa [hok o ho] at this
  clear h hok hx3
  go_enter Tryd.func44, Tryd.ntmps44
  go_wp2_with fail
  refine (place_any At _).mono ?_
  rintro e w1 ⟨rfl, hw1⟩
  obtain rfl := hw1.symm
  clear hw1
  rw [PA.out]
  go_wp2_with fail
  refine (place_any Of _).mono ?_
  rintro e w1 ⟨rfl, hw1⟩
  obtain rfl := hw1.symm
  clear hw1
  rw [PO.out]
  go_wp2_with fail
  refine (place_any To _).mono ?_
  rintro e w1 ⟨rfl, hw1⟩
  obtain rfl := hw1.symm
  clear hw1
  rw [PT.out]
  go_wp2_with fail
  generalize hW3 : ((w.alloc (.cells #[.int .i64 1, .int .i64 At, .int .i64 Of, .int .i64 To, .int .i64 I, .slice al ll cl, .string key] 53)).alloc (.cells #[.int .i64 (p a).n, .slice (p a).ao (elems (p a).n (p a).X).length (p a).cr] 42)).alloc (.cells #[.int .i64 (p o).n, .slice (p o).ao (elems (p o).n (p o).X).length (p o).cr] 42) = W3 at *
  have hd3 : Below w.heap.size w W3 := HB3.out.2.2.2
  have HD3 := hide hd3
  have hz3 := HD3.out.size
  clear hd3 hW3 c1 c2 c3 c4 c5 c6
  refine (new_bad I _ HHYP.out).mono ?_
  rintro e w1 ⟨rfl, hw1⟩
  obtain rfl := hw1.symm
  clear hw1
  have c4 : W3.cell? ⟨w.heap.size, 4, none⟩ = some (.int .i64 I) := by rw [cell_of_row _ _ 4 _ 53 (0, 0) HB3.out.2.1]; rfl
  go_wp2_with fail
  refine (rnew_bad2 I _ HHYP.out).mono ?_
  rintro e w2 ⟨rfl, d2⟩
  have BL := hide (HBN.out.on d2)
  clear d2 c4
  go_wp2_with fail
  refine (lay_no B a 1 _ _ _ (by decide)).mono ?_
  rintro e w9 ⟨rfl, d9⟩
  have F := hide ((BL.out.on bw1).on d9)
  clear d9
  go_wp2
  go_ret
  exact ⟨rfl, p, HOK.out, F.out⟩

set_option maxRecDepth 100000 in
set_option maxHeartbeats 4000000 in
theorem makes_fk_ok (w0 w : World) (B : Nat) (p : Nat → Sl) (At Of To I : Int) (al : Option Addr) (ll cl : Nat) (key : ByteArray) (h : Bn w0 B p w) (hok : Ok4 p) (hyp : Good key) :
    Calls Tryd.prog 44 #[.pointer (some ⟨B, 0, none⟩), .agg #[.int .i64 3, .int .i64 At, .int .i64 Of, .int .i64 To, .int .i64 I, .slice al ll cl, .string key]] w fun e w' => e = .returned (.bool true) ∧ ∃ p', Ok4 p' ∧ Bn w0 B p' w' := by
  have ha := plc_lt At
  have ho := plc_lt Of
  have ht := plc_lt To
  generalize hA : plc At = a at *
  generalize hO : plc Of = o at *
  generalize hT : plc To = t at *
  have PA := hide hA
  have PO := hide hO
  have PT := hide hT
  clear hA hO hT
  have HHYP := hide (hyp)
  clear hyp
  have hB := h.blt
  have c1 := h.ptr ha
  have c2 := h.ptr ho
  have c3 := h.num ha
  have c4 := h.sli ha
  have c5 := h.num ho
  have c6 := h.sli ho
  unfold Sl.ptr at c1 c2
  unfold Sl.num at c3 c5
  unfold Sl.sli at c4 c6
  rw [hok a ha] at c4
  rw [hok o ho] at c6
  have i0 : (0 : Int) ≤ (a : Int) := by omega
  have i1 : (a : Int) < 4 := by omega
  have j0 : (0 : Int) ≤ (o : Int) := by omega
  have j1 : (o : Int) < 4 := by omega
  have HOK := hide hok
  have H := hide h
  have HLT := hide h.lts
  have hlo : w0.heap.size ≤ w.heap.size := h.below.size
  have hnx := (h.set a ha).hn
  have HXX := hide (h.set a ha).hX
  have hx3 := box3 (w := w) (.cells #[.int .i64 3, .int .i64 At, .int .i64 Of, .int .i64 To, .int .i64 I, .slice al ll cl, .string key] 53) (.cells #[.int .i64 (p a).n, .slice (p a).ao (elems (p a).n (p a).X).length (p a).cr] 42) (.cells #[.int .i64 (p o).n, .slice (p o).ao (elems (p o).n (p o).X).length (p o).cr] 42) (Below.refl _ _)
  have HB3 := hide hx3
  have HBN := hide (h.on hx3.2.2.2)
  have HRA : Hid (Row3 w (p a).ao (elems (p a).n (p a).X)) := by
    have := h.row a ha
    rwa [hok a ha] at this
  have HRB : Hid (Row3 w (p o).ao (elems (p o).n (p o).X)) := by
    have := h.row o ho
    rwa [hok o ho] at this
  clear h hok hx3
  go_enter Tryd.func44, Tryd.ntmps44
  go_wp2_with fail
  refine (place_any At _).mono ?_
  rintro e w1 ⟨rfl, hw1⟩
  obtain rfl := hw1.symm
  clear hw1
  rw [PA.out]
  go_wp2_with fail
  refine (place_any Of _).mono ?_
  rintro e w1 ⟨rfl, hw1⟩
  obtain rfl := hw1.symm
  clear hw1
  rw [PO.out]
  go_wp2_with fail
  refine (place_any To _).mono ?_
  rintro e w1 ⟨rfl, hw1⟩
  obtain rfl := hw1.symm
  clear hw1
  rw [PT.out]
  go_wp2_with fail
  generalize hW3 : ((w.alloc (.cells #[.int .i64 3, .int .i64 At, .int .i64 Of, .int .i64 To, .int .i64 I, .slice al ll cl, .string key] 53)).alloc (.cells #[.int .i64 (p a).n, .slice (p a).ao (elems (p a).n (p a).X).length (p a).cr] 42)).alloc (.cells #[.int .i64 (p o).n, .slice (p o).ao (elems (p o).n (p o).X).length (p o).cr] 42) = W3 at *
  have hd3 : Below w.heap.size w W3 := HB3.out.2.2.2
  have HD3 := hide hd3
  have hz3 := HD3.out.size
  clear hd3 hW3 c1 c2 c3 c4 c5 c6
  refine (fk_good key _ HHYP.out).mono ?_
  rintro e w1 ⟨b, g, cs, rfl, hs, hb, hg, hbg, d1⟩
  have c4 : w1.cell? ⟨w.heap.size, 6, none⟩ = some (.string key) := by rw [cell_of_row _ _ 6 _ 53 (0, 0) (radd_res HB3.out.2.1 d1)]; rfl
  have hb2 : w.heap.size ≤ b := by omega
  have hg2 : w.heap.size ≤ g := by omega
  have B1 := hide (HBN.out.on d1)
  have S1 := hide hs
  clear hs hb hg hbg d1
  go_wp2_with fail
  refine (rfk_ok key _ HHYP.out).mono ?_
  rintro e w2 ⟨ao2, cap2, rfl, hr2, d2⟩
  have BL := hide (B1.out.on d2)
  have SL := hide (S1.out.below d2)
  have RL := hide hr2
  clear hr2 d2 c4
  go_wp2_with fail
  refine (lay_yes w0 B a w.heap.size p ⟨b, g, cs, keyN key, keyY key, keyY key, ao2, cap2⟩ _ (BL.out.on bw1) ha (SL.out.below bw1) (RL.out.below bw1) hlo HLT.out hb2 hg2).mono ?_
  rintro e w9 ⟨rfl, FIN⟩
  have F := hide FIN
  clear FIN
  go_wp2
  go_ret
  exact ⟨rfl, _, ok_up1 HOK.out rfl, F.out⟩

set_option maxRecDepth 100000 in
set_option maxHeartbeats 4000000 in
theorem makes_fk_no (w0 w : World) (B : Nat) (p : Nat → Sl) (At Of To I : Int) (al : Option Addr) (ll cl : Nat) (key : ByteArray) (h : Bn w0 B p w) (hok : Ok4 p) (hyp : ¬ Good key) :
    Calls Tryd.prog 44 #[.pointer (some ⟨B, 0, none⟩), .agg #[.int .i64 3, .int .i64 At, .int .i64 Of, .int .i64 To, .int .i64 I, .slice al ll cl, .string key]] w fun e w' => e = .returned (.bool true) ∧ ∃ p', Ok4 p' ∧ Bn w0 B p' w' := by
  have ha := plc_lt At
  have ho := plc_lt Of
  have ht := plc_lt To
  generalize hA : plc At = a at *
  generalize hO : plc Of = o at *
  generalize hT : plc To = t at *
  have PA := hide hA
  have PO := hide hO
  have PT := hide hT
  clear hA hO hT
  have HHYP := hide (hyp)
  clear hyp
  have hB := h.blt
  have c1 := h.ptr ha
  have c2 := h.ptr ho
  have c3 := h.num ha
  have c4 := h.sli ha
  have c5 := h.num ho
  have c6 := h.sli ho
  unfold Sl.ptr at c1 c2
  unfold Sl.num at c3 c5
  unfold Sl.sli at c4 c6
  rw [hok a ha] at c4
  rw [hok o ho] at c6
  have i0 : (0 : Int) ≤ (a : Int) := by omega
  have i1 : (a : Int) < 4 := by omega
  have j0 : (0 : Int) ≤ (o : Int) := by omega
  have j1 : (o : Int) < 4 := by omega
  have HOK := hide hok
  have H := hide h
  have HLT := hide h.lts
  have hlo : w0.heap.size ≤ w.heap.size := h.below.size
  have hnx := (h.set a ha).hn
  have HXX := hide (h.set a ha).hX
  have hx3 := box3 (w := w) (.cells #[.int .i64 3, .int .i64 At, .int .i64 Of, .int .i64 To, .int .i64 I, .slice al ll cl, .string key] 53) (.cells #[.int .i64 (p a).n, .slice (p a).ao (elems (p a).n (p a).X).length (p a).cr] 42) (.cells #[.int .i64 (p o).n, .slice (p o).ao (elems (p o).n (p o).X).length (p o).cr] 42) (Below.refl _ _)
  have HB3 := hide hx3
  have HBN := hide (h.on hx3.2.2.2)
  have HRA : Hid (Row3 w (p a).ao (elems (p a).n (p a).X)) := by
    have := h.row a ha
    rwa [hok a ha] at this
  have HRB : Hid (Row3 w (p o).ao (elems (p o).n (p o).X)) := by
    have := h.row o ho
    rwa [hok o ho] at this
  clear h hok hx3
  go_enter Tryd.func44, Tryd.ntmps44
  go_wp2_with fail
  refine (place_any At _).mono ?_
  rintro e w1 ⟨rfl, hw1⟩
  obtain rfl := hw1.symm
  clear hw1
  rw [PA.out]
  go_wp2_with fail
  refine (place_any Of _).mono ?_
  rintro e w1 ⟨rfl, hw1⟩
  obtain rfl := hw1.symm
  clear hw1
  rw [PO.out]
  go_wp2_with fail
  refine (place_any To _).mono ?_
  rintro e w1 ⟨rfl, hw1⟩
  obtain rfl := hw1.symm
  clear hw1
  rw [PT.out]
  go_wp2_with fail
  generalize hW3 : ((w.alloc (.cells #[.int .i64 3, .int .i64 At, .int .i64 Of, .int .i64 To, .int .i64 I, .slice al ll cl, .string key] 53)).alloc (.cells #[.int .i64 (p a).n, .slice (p a).ao (elems (p a).n (p a).X).length (p a).cr] 42)).alloc (.cells #[.int .i64 (p o).n, .slice (p o).ao (elems (p o).n (p o).X).length (p o).cr] 42) = W3 at *
  have hd3 : Below w.heap.size w W3 := HB3.out.2.2.2
  have HD3 := hide hd3
  have hz3 := HD3.out.size
  clear hd3 hW3 c1 c2 c3 c4 c5 c6
  refine (fk_bad key _ HHYP.out).mono ?_
  rintro e w1 ⟨rfl, d1⟩
  have c4 : w1.cell? ⟨w.heap.size, 6, none⟩ = some (.string key) := by rw [cell_of_row _ _ 6 _ 53 (0, 0) (radd_res HB3.out.2.1 d1)]; rfl
  have B1 := hide (HBN.out.on d1)
  clear d1
  go_wp2_with fail
  refine (rfk_bad key _ HHYP.out).mono ?_
  rintro e w2 ⟨rfl, d2⟩
  have BL := hide (B1.out.on d2)
  clear d2 c4
  go_wp2_with fail
  refine (lay_no B a 11 _ _ _ (by decide)).mono ?_
  rintro e w9 ⟨rfl, d9⟩
  have F := hide ((BL.out.on bw1).on d9)
  clear d9
  go_wp2
  go_ret
  exact ⟨rfl, p, HOK.out, F.out⟩

set_option maxRecDepth 100000 in
set_option maxHeartbeats 4000000 in
theorem makes_again (w0 w : World) (B : Nat) (p : Nat → Sl) (At Of To I : Int) (al : Option Addr) (ll cl : Nat) (key : ByteArray) (h : Bn w0 B p w) (hok : Ok4 p) :
    Calls Tryd.prog 44 #[.pointer (some ⟨B, 0, none⟩), .agg #[.int .i64 4, .int .i64 At, .int .i64 Of, .int .i64 To, .int .i64 I, .slice al ll cl, .string key]] w fun e w' => e = .returned (.bool true) ∧ ∃ p', Ok4 p' ∧ Bn w0 B p' w' := by
  have ha := plc_lt At
  have ho := plc_lt Of
  have ht := plc_lt To
  generalize hA : plc At = a at *
  generalize hO : plc Of = o at *
  generalize hT : plc To = t at *
  have PA := hide hA
  have PO := hide hO
  have PT := hide hT
  clear hA hO hT
  have HHYP := hide (True.intro)
  skip
  have hB := h.blt
  have c1 := h.ptr ha
  have c2 := h.ptr ho
  have c3 := h.num ha
  have c4 := h.sli ha
  have c5 := h.num ho
  have c6 := h.sli ho
  unfold Sl.ptr at c1 c2
  unfold Sl.num at c3 c5
  unfold Sl.sli at c4 c6
  rw [hok a ha] at c4
  rw [hok o ho] at c6
  have i0 : (0 : Int) ≤ (a : Int) := by omega
  have i1 : (a : Int) < 4 := by omega
  have j0 : (0 : Int) ≤ (o : Int) := by omega
  have j1 : (o : Int) < 4 := by omega
  have HOK := hide hok
  have H := hide h
  have HLT := hide h.lts
  have hlo : w0.heap.size ≤ w.heap.size := h.below.size
  have hnx := (h.set a ha).hn
  have HXX := hide (h.set a ha).hX
  have hx3 := box3 (w := w) (.cells #[.int .i64 4, .int .i64 At, .int .i64 Of, .int .i64 To, .int .i64 I, .slice al ll cl, .string key] 53) (.cells #[.int .i64 (p a).n, .slice (p a).ao (elems (p a).n (p a).X).length (p a).cr] 42) (.cells #[.int .i64 (p o).n, .slice (p o).ao (elems (p o).n (p o).X).length (p o).cr] 42) (Below.refl _ _)
  have HB3 := hide hx3
  have HBN := hide (h.on hx3.2.2.2)
  have HRA : Hid (Row3 w (p a).ao (elems (p a).n (p a).X)) := by
    have := h.row a ha
    rwa [hok a ha] at this
  have HRB : Hid (Row3 w (p o).ao (elems (p o).n (p o).X)) := by
    have := h.row o ho
    rwa [hok o ho] at this
  clear h hok hx3
  go_enter Tryd.func44, Tryd.ntmps44
  go_wp2_with fail
  refine (place_any At _).mono ?_
  rintro e w1 ⟨rfl, hw1⟩
  obtain rfl := hw1.symm
  clear hw1
  rw [PA.out]
  go_wp2_with fail
  refine (place_any Of _).mono ?_
  rintro e w1 ⟨rfl, hw1⟩
  obtain rfl := hw1.symm
  clear hw1
  rw [PO.out]
  go_wp2_with fail
  refine (place_any To _).mono ?_
  rintro e w1 ⟨rfl, hw1⟩
  obtain rfl := hw1.symm
  clear hw1
  rw [PT.out]
  go_wp2_with fail
  generalize hW3 : ((w.alloc (.cells #[.int .i64 4, .int .i64 At, .int .i64 Of, .int .i64 To, .int .i64 I, .slice al ll cl, .string key] 53)).alloc (.cells #[.int .i64 (p a).n, .slice (p a).ao (elems (p a).n (p a).X).length (p a).cr] 42)).alloc (.cells #[.int .i64 (p o).n, .slice (p o).ao (elems (p o).n (p o).X).length (p o).cr] 42) = W3 at *
  have hd3 : Below w.heap.size w W3 := HB3.out.2.2.2
  have HD3 := hide hd3
  have hz3 := HD3.out.size
  clear hd3 hW3 c1 c2 c3 c4 c5 c6
  refine (key_str (p a).b (p a).g (p a).c (p a).n (p a).X _ (HBN.out.set a ha)).mono ?_
  rintro e w1 ⟨rfl, d1⟩
  have B1 := hide (HBN.out.on d1)
  have r1 := hide (radd_res HB3.out.2.2.1 d1)
  have hz1 := d1.size
  have R1 := hide ((HRA.out.below HD3.out).below d1)
  clear d1
  go_wp2_with fail
  refine (fk_key (p a).n (p a).X _ hnx HXX.out).mono ?_
  rintro e w2 ⟨b, g, cs, rfl, hs, hb, hg, hbg, d2⟩
  have hb2 : w.heap.size ≤ b := by omega
  have hg2 : w.heap.size ≤ g := by omega
  have B2 := hide (B1.out.on d2)
  have S2 := hide hs
  have r2 := radd_res r1.out d2
  have e0 : w2.cell? ⟨w.heap.size + 1, 0, none⟩ = some (.int .i64 (p a).n) := by rw [cell_of_row _ _ 0 _ 42 (0, 0) r2]; rfl
  have e1 : w2.cell? ⟨w.heap.size + 1, 1, none⟩ = some (.slice (p a).ao (elems (p a).n (p a).X).length (p a).cr) := by rw [cell_of_row _ _ 1 _ 42 (0, 0) r2]; rfl
  have R2 := hide (R1.out.below d2)
  clear hs hb hg hbg d2 r1 r2
  go_wp2_with fail
  refine (rkey_str (p a).n (p a).X (p a).ao (p a).cr _ hnx HXX.out R2.out).mono ?_
  rintro e w3 ⟨rfl, d3⟩
  have B3 := hide (B2.out.on d3)
  have S3 := hide (S2.out.below d3)
  clear d3 e0 e1
  go_wp2_with fail
  refine (rfk_key (p a).n (p a).X _ hnx HXX.out).mono ?_
  rintro e w4 ⟨ao2, cap2, rfl, hr2, d4⟩
  have BL := hide (B3.out.on d4)
  have SL := hide (S3.out.below d4)
  have RL := hide hr2
  clear hr2 d4
  go_wp2_with fail
  refine (lay_yes w0 B a w.heap.size p ⟨b, g, cs, (p a).n, (p a).X, (p a).X, ao2, cap2⟩ _ (BL.out.on bw1) ha (SL.out.below bw1) (RL.out.below bw1) hlo HLT.out hb2 hg2).mono ?_
  rintro e w9 ⟨rfl, FIN⟩
  have F := hide FIN
  clear FIN
  go_wp2
  go_ret
  exact ⟨rfl, _, ok_up1 HOK.out rfl, F.out⟩
end Go.Proofs.YtdgmokelmocejabDoor
