import Derived.Test.YtdgmokelmocejabDoorPlc
namespace Go.Proofs.YtdgmokelmocejabDoor
open Go.RowKit

set_option maxHeartbeats 400000 in
theorem meet_bad (b1 b2 n n2 : Nat) (w : World) (p0 : w.cell? ⟨b1, 0, none⟩ = some (.int .i64 n)) (q0 : w.cell? ⟨b2, 0, none⟩ = some (.int .i64 n2)) (h : n ≠ n2) :
    Calls Tryd.prog 38 #[.pointer (some ⟨b1, 0, none⟩), .pointer (some ⟨b2, 0, none⟩)] w fun e w' => e = .returned (.tuple #[.pointer none, .int .i64 10]) ∧ Below w.heap.size w w' := by
  have H := hide h
  clear h
  go_enter Tryd.func38, Tryd.ntmps38
  go_wp2_with fail
  refine (mixed_bad b1 b2 n n2 _ _ p0 q0 H.out).mono ?_
  rintro e w1 ⟨rfl, q, rfl⟩
  go_wp2
  go_ret2
  exact ⟨rfl, below_drewN' (Below.refl _ _) _⟩

set_option maxHeartbeats 400000 in
theorem minus_bad (b1 b2 n n2 : Nat) (w : World) (p0 : w.cell? ⟨b1, 0, none⟩ = some (.int .i64 n)) (q0 : w.cell? ⟨b2, 0, none⟩ = some (.int .i64 n2)) (h : n ≠ n2) :
    Calls Tryd.prog 39 #[.pointer (some ⟨b1, 0, none⟩), .pointer (some ⟨b2, 0, none⟩)] w fun e w' => e = .returned (.tuple #[.pointer none, .int .i64 10]) ∧ Below w.heap.size w w' := by
  have H := hide h
  clear h
  go_enter Tryd.func39, Tryd.ntmps39
  go_wp2_with fail
  refine (mixed_bad b1 b2 n n2 _ _ p0 q0 H.out).mono ?_
  rintro e w1 ⟨rfl, q, rfl⟩
  go_wp2
  go_ret2
  exact ⟨rfl, below_drewN' (Below.refl _ _) _⟩

set_option maxRecDepth 100000 in
set_option maxHeartbeats 4000000 in
theorem makes_union_ok (w0 w : World) (B : Nat) (p : Nat → Sl) (At Of To I : Int) (al : Option Addr) (ll cl : Nat) (key : ByteArray) (h : Bn w0 B p w) (hok : Ok4 p) (hyp : (p (plc At)).n = (p (plc Of)).n) :
    Calls Tryd.prog 44 #[.pointer (some ⟨B, 0, none⟩), .agg #[.int .i64 6, .int .i64 At, .int .i64 Of, .int .i64 To, .int .i64 I, .slice al ll cl, .string key]] w fun e w' => e = .returned (.bool true) ∧ ∃ p', Ok4 p' ∧ Bn w0 B p' w' := by
  have ha := plc_lt At
  have ho := plc_lt Of
  have ht := plc_lt To
  generalize hA : plc At = a at *
  generalize hO : plc Of = o at *
  generalize hT : plc To = t at *
  have PA := hide hA
  have PO := hide hO
  have PT := hide hT
  clear hA hO hT
  have HHYP := hide (hyp)
  clear hyp
  have hB := h.blt
  have c1 := h.ptr ha
  have c2 := h.ptr ho
  have c3 := h.num ha
  have c4 := h.sli ha
  have c5 := h.num ho
  have c6 := h.sli ho
  unfold Sl.ptr at c1 c2
  unfold Sl.num at c3 c5
  unfold Sl.sli at c4 c6
  rw [hok a ha] at c4
  rw [hok o ho] at c6
  have i0 : (0 : Int) ≤ (a : Int) := by omega
  have i1 : (a : Int) < 4 := by omega
  have j0 : (0 : Int) ≤ (o : Int) := by omega
  have j1 : (o : Int) < 4 := by omega
  have HOK := hide hok
  have H := hide h
  have HLT := hide h.lts
  have hlo : w0.heap.size ≤ w.heap.size := h.below.size
  have hnx := (h.set a ha).hn
  have HXX := hide (h.set a ha).hX
  have hx3 := box3 (w := w) (.cells #[.int .i64 6, .int .i64 At, .int .i64 Of, .int .i64 To, .int .i64 I, .slice al ll cl, .string key] 53) (.cells #[.int .i64 (p a).n, .slice (p a).ao (elems (p a).n (p a).X).length (p a).cr] 42) (.cells #[.int .i64 (p o).n, .slice (p o).ao (elems (p o).n (p o).X).length (p o).cr] 42) (Below.refl _ _)
  have HB3 := hide hx3
  have HBN := hide (h.on hx3.2.2.2)
  have HRA : Hid (Row3 w (p a).ao (elems (p a).n (p a).X)) := by
    have := h.row a ha
    rwa [hok a ha] at this
  have HRB : Hid (Row3 w (p o).ao (elems (p o).n (p o).X)) := by
    have := h.row o ho
    rwa [hok o ho] at this
  clear h hok hx3
  go_enter Tryd.func44, Tryd.ntmps44
  go_wp2_with fail
  refine (place_any At _).mono ?_
  rintro e w1 ⟨rfl, hw1⟩
  obtain rfl := hw1.symm
  clear hw1
  rw [PA.out]
  go_wp2_with fail
  refine (place_any Of _).mono ?_
  rintro e w1 ⟨rfl, hw1⟩
  obtain rfl := hw1.symm
  clear hw1
  rw [PO.out]
  go_wp2_with fail
  refine (place_any To _).mono ?_
  rintro e w1 ⟨rfl, hw1⟩
  obtain rfl := hw1.symm
  clear hw1
  rw [PT.out]
  go_wp2_with fail
  generalize hW3 : ((w.alloc (.cells #[.int .i64 6, .int .i64 At, .int .i64 Of, .int .i64 To, .int .i64 I, .slice al ll cl, .string key] 53)).alloc (.cells #[.int .i64 (p a).n, .slice (p a).ao (elems (p a).n (p a).X).length (p a).cr] 42)).alloc (.cells #[.int .i64 (p o).n, .slice (p o).ao (elems (p o).n (p o).X).length (p o).cr] 42) = W3 at *
  have hd3 : Below w.heap.size w W3 := HB3.out.2.2.2
  have HD3 := hide hd3
  have hz3 := HD3.out.size
  clear hd3 hW3 c1 c2 c3 c4 c5 c6
  have hso := HBN.out.set o ho
  rw [← HHYP.out] at hso
  refine (union_any (p a).b (p a).g (p a).c (p a).n (p a).X (p o).b (p o).g (p o).c (p o).X _ (HBN.out.set a ha) hso).mono ?_
  rintro e w1 ⟨b, g, cs, rfl, hs, hb, hg, hbg, d1⟩
  have hb2 : w.heap.size ≤ b := by omega
  have hg2 : w.heap.size ≤ g := by omega
  have r1 := radd_res HB3.out.2.2.1 d1
  have r2 := radd_res HB3.out.1 d1
  rw [← HHYP.out] at r2
  have e0 : w1.cell? ⟨w.heap.size + 1, 0, none⟩ = some (.int .i64 (p a).n) := by rw [cell_of_row _ _ 0 _ 42 (0, 0) r1]; rfl
  have e1 : w1.cell? ⟨w.heap.size + 1, 1, none⟩ = some (.slice (p a).ao (elems (p a).n (p a).X).length (p a).cr) := by rw [cell_of_row _ _ 1 _ 42 (0, 0) r1]; rfl
  have e2 : w1.cell? ⟨w.heap.size + 1 + 1, 0, none⟩ = some (.int .i64 (p a).n) := by rw [cell_of_row _ _ 0 _ 42 (0, 0) r2]; rfl
  have e3 : w1.cell? ⟨w.heap.size + 1 + 1, 1, none⟩ = some (.slice (p o).ao (elems (p a).n (p o).X).length (p o).cr) := by rw [cell_of_row _ _ 1 _ 42 (0, 0) r2]; rfl
  have hrA := hide ((HRA.out.below HD3.out).below d1)
  have hrB := (HRB.out.below HD3.out).below d1
  rw [← HHYP.out] at hrB
  have HRB1 := hide hrB
  have B1 := hide (HBN.out.on d1)
  have S1 := hide hs
  clear hs hb hg hbg d1 r1 r2 hrB hso
  go_wp2_with fail
  refine (runion_any (p a).n (p a).X (p o).X (p a).ao (p o).ao (p a).cr (p o).cr _ hnx hrA.out HRB1.out).mono ?_
  rintro e w2 ⟨ao2, cap2, rfl, hr2, d2⟩
  have BL := hide (B1.out.on d2)
  have SL := hide (S1.out.below d2)
  have RL := hide hr2
  clear hr2 d2 e0 e1 e2 e3
  go_wp2_with fail
  refine (lay_yes w0 B t w.heap.size p ⟨b, g, cs, (p a).n, ((p a).X ||| (p o).X), ((p a).X ||| (p o).X), ao2, cap2⟩ _ (BL.out.on bw1) ht (SL.out.below bw1) (RL.out.below bw1) hlo HLT.out hb2 hg2).mono ?_
  rintro e w9 ⟨rfl, FIN⟩
  have F := hide FIN
  clear FIN
  go_wp2
  go_ret
  exact ⟨rfl, _, ok_up1 HOK.out rfl, F.out⟩

set_option maxRecDepth 100000 in
set_option maxHeartbeats 4000000 in
theorem makes_union_no (w0 w : World) (B : Nat) (p : Nat → Sl) (At Of To I : Int) (al : Option Addr) (ll cl : Nat) (key : ByteArray) (h : Bn w0 B p w) (hok : Ok4 p) (hyp : (p (plc At)).n ≠ (p (plc Of)).n) :
    Calls Tryd.prog 44 #[.pointer (some ⟨B, 0, none⟩), .agg #[.int .i64 6, .int .i64 At, .int .i64 Of, .int .i64 To, .int .i64 I, .slice al ll cl, .string key]] w fun e w' => e = .returned (.bool true) ∧ ∃ p', Ok4 p' ∧ Bn w0 B p' w' := by
  have ha := plc_lt At
  have ho := plc_lt Of
  have ht := plc_lt To
  generalize hA : plc At = a at *
  generalize hO : plc Of = o at *
  generalize hT : plc To = t at *
  have PA := hide hA
  have PO := hide hO
  have PT := hide hT
  clear hA hO hT
  have HHYP := hide (hyp)
  clear hyp
  have hB := h.blt
  have c1 := h.ptr ha
  have c2 := h.ptr ho
  have c3 := h.num ha
  have c4 := h.sli ha
  have c5 := h.num ho
  have c6 := h.sli ho
  unfold Sl.ptr at c1 c2
  unfold Sl.num at c3 c5
  unfold Sl.sli at c4 c6
  rw [hok a ha] at c4
  rw [hok o ho] at c6
  have i0 : (0 : Int) ≤ (a : Int) := by omega
  have i1 : (a : Int) < 4 := by omega
  have j0 : (0 : Int) ≤ (o : Int) := by omega
  have j1 : (o : Int) < 4 := by omega
  have HOK := hide hok
  have H := hide h
  have HLT := hide h.lts
  have hlo : w0.heap.size ≤ w.heap.size := h.below.size
  have hnx := (h.set a ha).hn
  have HXX := hide (h.set a ha).hX
  have hx3 := box3 (w := w) (.cells #[.int .i64 6, .int .i64 At, .int .i64 Of, .int .i64 To, .int .i64 I, .slice al ll cl, .string key] 53) (.cells #[.int .i64 (p a).n, .slice (p a).ao (elems (p a).n (p a).X).length (p a).cr] 42) (.cells #[.int .i64 (p o).n, .slice (p o).ao (elems (p o).n (p o).X).length (p o).cr] 42) (Below.refl _ _)
  have HB3 := hide hx3
  have HBN := hide (h.on hx3.2.2.2)
  have HRA : Hid (Row3 w (p a).ao (elems (p a).n (p a).X)) := by
    have := h.row a ha
    rwa [hok a ha] at this
  have HRB : Hid (Row3 w (p o).ao (elems (p o).n (p o).X)) := by
    have := h.row o ho
    rwa [hok o ho] at this
  clear h hok hx3
  go_enter Tryd.func44, Tryd.ntmps44
  go_wp2_with fail
  refine (place_any At _).mono ?_
  rintro e w1 ⟨rfl, hw1⟩
  obtain rfl := hw1.symm
  clear hw1
  rw [PA.out]
  go_wp2_with fail
  refine (place_any Of _).mono ?_
  rintro e w1 ⟨rfl, hw1⟩
  obtain rfl := hw1.symm
  clear hw1
  rw [PO.out]
  go_wp2_with fail
  refine (place_any To _).mono ?_
  rintro e w1 ⟨rfl, hw1⟩
  obtain rfl := hw1.symm
  clear hw1
  rw [PT.out]
  go_wp2_with fail
  generalize hW3 : ((w.alloc (.cells #[.int .i64 6, .int .i64 At, .int .i64 Of, .int .i64 To, .int .i64 I, .slice al ll cl, .string key] 53)).alloc (.cells #[.int .i64 (p a).n, .slice (p a).ao (elems (p a).n (p a).X).length (p a).cr] 42)).alloc (.cells #[.int .i64 (p o).n, .slice (p o).ao (elems (p o).n (p o).X).length (p o).cr] 42) = W3 at *
  have hd3 : Below w.heap.size w W3 := HB3.out.2.2.2
  have HD3 := hide hd3
  have hz3 := HD3.out.size
  clear hd3 hW3 c1 c2 c3 c4 c5 c6
  refine (union_bad (p a).b (p o).b (p a).n (p o).n _ (HBN.out.set a ha).c0 (HBN.out.set o ho).c0 HHYP.out).mono ?_
  rintro e w1 ⟨rfl, d1⟩
  have r1 := radd_res HB3.out.2.2.1 d1
  have r2 := radd_res HB3.out.1 d1
  have e0 : w1.cell? ⟨w.heap.size + 1, 0, none⟩ = some (.int .i64 (p a).n) := by rw [cell_of_row _ _ 0 _ 42 (0, 0) r1]; rfl
  have e1 : w1.cell? ⟨w.heap.size + 1, 1, none⟩ = some (.slice (p a).ao (elems (p a).n (p a).X).length (p a).cr) := by rw [cell_of_row _ _ 1 _ 42 (0, 0) r1]; rfl
  have e2 : w1.cell? ⟨w.heap.size + 1 + 1, 0, none⟩ = some (.int .i64 (p o).n) := by rw [cell_of_row _ _ 0 _ 42 (0, 0) r2]; rfl
  have e3 : w1.cell? ⟨w.heap.size + 1 + 1, 1, none⟩ = some (.slice (p o).ao (elems (p o).n (p o).X).length (p o).cr) := by rw [cell_of_row _ _ 1 _ 42 (0, 0) r2]; rfl
  have B1 := hide (HBN.out.on d1)
  clear d1 r1 r2
  go_wp2_with fail
  refine (runion_bad (p a).n (p o).n _ _ _ HHYP.out).mono ?_
  rintro e w2 ⟨rfl, d2⟩
  have BL := hide (B1.out.on d2)
  clear d2 e0 e1 e2 e3
  go_wp2_with fail
  refine (lay_no B t 10 _ _ _ (by decide)).mono ?_
  rintro e w9 ⟨rfl, d9⟩
  have F := hide ((BL.out.on bw1).on d9)
  clear d9
  go_wp2
  go_ret
  exact ⟨rfl, p, HOK.out, F.out⟩

set_option maxRecDepth 100000 in
set_option maxHeartbeats 4000000 in
theorem makes_meet_ok (w0 w : World) (B : Nat) (p : Nat → Sl) (At Of To I : Int) (al : Option Addr) (ll cl : Nat) (key : ByteArray) (h : Bn w0 B p w) (hok : Ok4 p) (hyp : (p (plc At)).n = (p (plc Of)).n) :
    Calls Tryd.prog 44 #[.pointer (some ⟨B, 0, none⟩), .agg #[.int .i64 7, .int .i64 At, .int .i64 Of, .int .i64 To, .int .i64 I, .slice al ll cl, .string key]] w fun e w' => e = .returned (.bool true) ∧ ∃ p', Ok4 p' ∧ Bn w0 B p' w' := by
  have ha := plc_lt At
  have ho := plc_lt Of
  have ht := plc_lt To
  generalize hA : plc At = a at *
  generalize hO : plc Of = o at *
  generalize hT : plc To = t at *
  have PA := hide hA
  have PO := hide hO
  have PT := hide hT
  clear hA hO hT
  have HHYP := hide (hyp)
  clear hyp
  have hB := h.blt
  have c1 := h.ptr ha
  have c2 := h.ptr ho
  have c3 := h.num ha
  have c4 := h.sli ha
  have c5 := h.num ho
  have c6 := h.sli ho
  unfold Sl.ptr at c1 c2
  unfold Sl.num at c3 c5
  unfold Sl.sli at c4 c6
  rw [hok a ha] at c4
  rw [hok o ho] at c6
  have i0 : (0 : Int) ≤ (a : Int) := by omega
  have i1 : (a : Int) < 4 := by omega
  have j0 : (0 : Int) ≤ (o : Int) := by omega
  have j1 : (o : Int) < 4 := by omega
  have HOK := hide hok
  have H := hide h
  have HLT := hide h.lts
  have hlo : w0.heap.size ≤ w.heap.size := h.below.size
  have hnx := (h.set a ha).hn
  have HXX := hide (h.set a ha).hX
  have hx3 := box3 (w := w) (.cells #[.int .i64 7, .int .i64 At, .int .i64 Of, .int .i64 To, .int .i64 I, .slice al ll cl, .string key] 53) (.cells #[.int .i64 (p a).n, .slice (p a).ao (elems (p a).n (p a).X).length (p a).cr] 42) (.cells #[.int .i64 (p o).n, .slice (p o).ao (elems (p o).n (p o).X).length (p o).cr] 42) (Below.refl _ _)
  have HB3 := hide hx3
  have HBN := hide (h.on hx3.2.2.2)
  have HRA : Hid (Row3 w (p a).ao (elems (p a).n (p a).X)) := by
    have := h.row a ha
    rwa [hok a ha] at this
  have HRB : Hid (Row3 w (p o).ao (elems (p o).n (p o).X)) := by
    have := h.row o ho
    rwa [hok o ho] at this
  clear h hok hx3
  go_enter Tryd.func44, Tryd.ntmps44
  go_wp2_with fail
  refine (place_any At _).mono ?_
  rintro e w1 ⟨rfl, hw1⟩
  obtain rfl := hw1.symm
  clear hw1
  rw [PA.out]
  go_wp2_with fail
  refine (place_any Of _).mono ?_
  rintro e w1 ⟨rfl, hw1⟩
  obtain rfl := hw1.symm
  clear hw1
  rw [PO.out]
  go_wp2_with fail
  refine (place_any To _).mono ?_
  rintro e w1 ⟨rfl, hw1⟩
  obtain rfl := hw1.symm
  clear hw1
  rw [PT.out]
  go_wp2_with fail
  generalize hW3 : ((w.alloc (.cells #[.int .i64 7, .int .i64 At, .int .i64 Of, .int .i64 To, .int .i64 I, .slice al ll cl, .string key] 53)).alloc (.cells #[.int .i64 (p a).n, .slice (p a).ao (elems (p a).n (p a).X).length (p a).cr] 42)).alloc (.cells #[.int .i64 (p o).n, .slice (p o).ao (elems (p o).n (p o).X).length (p o).cr] 42) = W3 at *
  have hd3 : Below w.heap.size w W3 := HB3.out.2.2.2
  have HD3 := hide hd3
  have hz3 := HD3.out.size
  clear hd3 hW3 c1 c2 c3 c4 c5 c6
  have hso := HBN.out.set o ho
  rw [← HHYP.out] at hso
  refine (meet_any (p a).b (p a).g (p a).c (p a).n (p a).X (p o).b (p o).g (p o).c (p o).X _ (HBN.out.set a ha) hso).mono ?_
  rintro e w1 ⟨b, g, cs, rfl, hs, hb, hg, hbg, d1⟩
  have hb2 : w.heap.size ≤ b := by omega
  have hg2 : w.heap.size ≤ g := by omega
  have r1 := radd_res HB3.out.2.2.1 d1
  have r2 := radd_res HB3.out.1 d1
  rw [← HHYP.out] at r2
  have e0 : w1.cell? ⟨w.heap.size + 1, 0, none⟩ = some (.int .i64 (p a).n) := by rw [cell_of_row _ _ 0 _ 42 (0, 0) r1]; rfl
  have e1 : w1.cell? ⟨w.heap.size + 1, 1, none⟩ = some (.slice (p a).ao (elems (p a).n (p a).X).length (p a).cr) := by rw [cell_of_row _ _ 1 _ 42 (0, 0) r1]; rfl
  have e2 : w1.cell? ⟨w.heap.size + 1 + 1, 0, none⟩ = some (.int .i64 (p a).n) := by rw [cell_of_row _ _ 0 _ 42 (0, 0) r2]; rfl
  have e3 : w1.cell? ⟨w.heap.size + 1 + 1, 1, none⟩ = some (.slice (p o).ao (elems (p a).n (p o).X).length (p o).cr) := by rw [cell_of_row _ _ 1 _ 42 (0, 0) r2]; rfl
  have hrA := hide ((HRA.out.below HD3.out).below d1)
  have hrB := (HRB.out.below HD3.out).below d1
  rw [← HHYP.out] at hrB
  have HRB1 := hide hrB
  have B1 := hide (HBN.out.on d1)
  have S1 := hide hs
  clear hs hb hg hbg d1 r1 r2 hrB hso
  go_wp2_with fail
  refine (rmeet_any (p a).n (p a).X (p o).X (p a).ao (p o).ao (p a).cr (p o).cr _ hnx hrA.out HRB1.out).mono ?_
  rintro e w2 ⟨ao2, cap2, rfl, hr2, d2⟩
  have BL := hide (B1.out.on d2)
  have SL := hide (S1.out.below d2)
  have RL := hide hr2
  clear hr2 d2 e0 e1 e2 e3
  go_wp2_with fail
  refine (lay_yes w0 B t w.heap.size p ⟨b, g, cs, (p a).n, ((p a).X &&& (p o).X), ((p a).X &&& (p o).X), ao2, cap2⟩ _ (BL.out.on bw1) ht (SL.out.below bw1) (RL.out.below bw1) hlo HLT.out hb2 hg2).mono ?_
  rintro e w9 ⟨rfl, FIN⟩
  have F := hide FIN
  clear FIN
  go_wp2
  go_ret
  exact ⟨rfl, _, ok_up1 HOK.out rfl, F.out⟩

set_option maxRecDepth 100000 in
set_option maxHeartbeats 4000000 in
theorem makes_meet_no (w0 w : World) (B : Nat) (p : Nat → Sl) (At Of To I : Int) (al : Option Addr) (ll cl : Nat) (key : ByteArray) (h : Bn w0 B p w) (hok : Ok4 p) (hyp : (p (plc At)).n ≠ (p (plc Of)).n) :
    Calls Tryd.prog 44 #[.pointer (some ⟨B, 0, none⟩), .agg #[.int .i64 7, .int .i64 At, .int .i64 Of, .int .i64 To, .int .i64 I, .slice al ll cl, .string key]] w fun e w' => e = .returned (.bool true) ∧ ∃ p', Ok4 p' ∧ Bn w0 B p' w' := by
  have ha := plc_lt At
  have ho := plc_lt Of
  have ht := plc_lt To
  generalize hA : plc At = a at *
  generalize hO : plc Of = o at *
  generalize hT : plc To = t at *
  have PA := hide hA
  have PO := hide hO
  have PT := hide hT
  clear hA hO hT
  have HHYP := hide (hyp)
  clear hyp
  have hB := h.blt
  have c1 := h.ptr ha
  have c2 := h.ptr ho
  have c3 := h.num ha
  have c4 := h.sli ha
  have c5 := h.num ho
  have c6 := h.sli ho
  unfold Sl.ptr at c1 c2
  unfold Sl.num at c3 c5
  unfold Sl.sli at c4 c6
  rw [hok a ha] at c4
  rw [hok o ho] at c6
  have i0 : (0 : Int) ≤ (a : Int) := by omega
  have i1 : (a : Int) < 4 := by omega
  have j0 : (0 : Int) ≤ (o : Int) := by omega
  have j1 : (o : Int) < 4 := by omega
  have HOK := hide hok
  have H := hide h
  have HLT := hide h.lts
  have hlo : w0.heap.size ≤ w.heap.size := h.below.size
  have hnx := (h.set a ha).hn
  have HXX := hide (h.set a ha).hX
  have hx3 := box3 (w := w) (.cells #[.int .i64 7, .int .i64 At, .int .i64 Of, .int .i64 To, .int .i64 I, .slice al ll cl, .string key] 53) (.cells #[.int .i64 (p a).n, .slice (p a).ao (elems (p a).n (p a).X).length (p a).cr] 42) (.cells #[.int .i64 (p o).n, .slice (p o).ao (elems (p o).n (p o).X).length (p o).cr] 42) (Below.refl _ _)
  have HB3 := hide hx3
  have HBN := hide (h.on hx3.2.2.2)
  have HRA : Hid (Row3 w (p a).ao (elems (p a).n (p a).X)) := by
    have := h.row a ha
    rwa [hok a ha] at this
  have HRB : Hid (Row3 w (p o).ao (elems (p o).n (p o).X)) := by
    have := h.row o ho
    rwa [hok o ho] at this
  clear h hok hx3
  go_enter Tryd.func44, Tryd.ntmps44
  go_wp2_with fail
  refine (place_any At _).mono ?_
  rintro e w1 ⟨rfl, hw1⟩
  obtain rfl := hw1.symm
  clear hw1
  rw [PA.out]
  go_wp2_with fail
  refine (place_any Of _).mono ?_
  rintro e w1 ⟨rfl, hw1⟩
  obtain rfl := hw1.symm
  clear hw1
  rw [PO.out]
  go_wp2_with fail
  refine (place_any To _).mono ?_
  rintro e w1 ⟨rfl, hw1⟩
  obtain rfl := hw1.symm
  clear hw1
  rw [PT.out]
  go_wp2_with fail
  generalize hW3 : ((w.alloc (.cells #[.int .i64 7, .int .i64 At, .int .i64 Of, .int .i64 To, .int .i64 I, .slice al ll cl, .string key] 53)).alloc (.cells #[.int .i64 (p a).n, .slice (p a).ao (elems (p a).n (p a).X).length (p a).cr] 42)).alloc (.cells #[.int .i64 (p o).n, .slice (p o).ao (elems (p o).n (p o).X).length (p o).cr] 42) = W3 at *
  have hd3 : Below w.heap.size w W3 := HB3.out.2.2.2
  have HD3 := hide hd3
  have hz3 := HD3.out.size
  clear hd3 hW3 c1 c2 c3 c4 c5 c6
  refine (meet_bad (p a).b (p o).b (p a).n (p o).n _ (HBN.out.set a ha).c0 (HBN.out.set o ho).c0 HHYP.out).mono ?_
  rintro e w1 ⟨rfl, d1⟩
  have r1 := radd_res HB3.out.2.2.1 d1
  have r2 := radd_res HB3.out.1 d1
  have e0 : w1.cell? ⟨w.heap.size + 1, 0, none⟩ = some (.int .i64 (p a).n) := by rw [cell_of_row _ _ 0 _ 42 (0, 0) r1]; rfl
  have e1 : w1.cell? ⟨w.heap.size + 1, 1, none⟩ = some (.slice (p a).ao (elems (p a).n (p a).X).length (p a).cr) := by rw [cell_of_row _ _ 1 _ 42 (0, 0) r1]; rfl
  have e2 : w1.cell? ⟨w.heap.size + 1 + 1, 0, none⟩ = some (.int .i64 (p o).n) := by rw [cell_of_row _ _ 0 _ 42 (0, 0) r2]; rfl
  have e3 : w1.cell? ⟨w.heap.size + 1 + 1, 1, none⟩ = some (.slice (p o).ao (elems (p o).n (p o).X).length (p o).cr) := by rw [cell_of_row _ _ 1 _ 42 (0, 0) r2]; rfl
  have B1 := hide (HBN.out.on d1)
  clear d1 r1 r2
  go_wp2_with fail
  refine (rmeet_bad (p a).n (p o).n _ _ _ HHYP.out).mono ?_
  rintro e w2 ⟨rfl, d2⟩
  have BL := hide (B1.out.on d2)
  clear d2 e0 e1 e2 e3
  go_wp2_with fail
  refine (lay_no B t 10 _ _ _ (by decide)).mono ?_
  rintro e w9 ⟨rfl, d9⟩
  have F := hide ((BL.out.on bw1).on d9)
  clear d9
  go_wp2
  go_ret
  exact ⟨rfl, p, HOK.out, F.out⟩

set_option maxRecDepth 100000 in
set_option maxHeartbeats 4000000 in
theorem makes_minus_ok (w0 w : World) (B : Nat) (p : Nat → Sl) (At Of To I : Int) (al : Option Addr) (ll cl : Nat) (key : ByteArray) (h : Bn w0 B p w) (hok : Ok4 p) (hyp : (p (plc At)).n = (p (plc Of)).n) :
    Calls Tryd.prog 44 #[.pointer (some ⟨B, 0, none⟩), .agg #[.int .i64 8, .int .i64 At, .int .i64 Of, .int .i64 To, .int .i64 I, .slice al ll cl, .string key]] w fun e w' => e = .returned (.bool true) ∧ ∃ p', Ok4 p' ∧ Bn w0 B p' w' := by
  have ha := plc_lt At
  have ho := plc_lt Of
  have ht := plc_lt To
  generalize hA : plc At = a at *
  generalize hO : plc Of = o at *
  generalize hT : plc To = t at *
  have PA := hide hA
  have PO := hide hO
  have PT := hide hT
  clear hA hO hT
  have HHYP := hide (hyp)
  clear hyp
  have hB := h.blt
  have c1 := h.ptr ha
  have c2 := h.ptr ho
  have c3 := h.num ha
  have c4 := h.sli ha
  have c5 := h.num ho
  have c6 := h.sli ho
  unfold Sl.ptr at c1 c2
  unfold Sl.num at c3 c5
  unfold Sl.sli at c4 c6
  rw [hok a ha] at c4
  rw [hok o ho] at c6
  have i0 : (0 : Int) ≤ (a : Int) := by omega
  have i1 : (a : Int) < 4 := by omega
  have j0 : (0 : Int) ≤ (o : Int) := by omega
  have j1 : (o : Int) < 4 := by omega
  have HOK := hide hok
  have H := hide h
  have HLT := hide h.lts
  have hlo : w0.heap.size ≤ w.heap.size := h.below.size
  have hnx := (h.set a ha).hn
  have HXX := hide (h.set a ha).hX
  have hx3 := box3 (w := w) (.cells #[.int .i64 8, .int .i64 At, .int .i64 Of, .int .i64 To, .int .i64 I, .slice al ll cl, .string key] 53) (.cells #[.int .i64 (p a).n, .slice (p a).ao (elems (p a).n (p a).X).length (p a).cr] 42) (.cells #[.int .i64 (p o).n, .slice (p o).ao (elems (p o).n (p o).X).length (p o).cr] 42) (Below.refl _ _)
  have HB3 := hide hx3
  have HBN := hide (h.on hx3.2.2.2)
  have HRA : Hid (Row3 w (p a).ao (elems (p a).n (p a).X)) := by
    have := h.row a ha
    rwa [hok a ha] at this
  have HRB : Hid (Row3 w (p o).ao (elems (p o).n (p o).X)) := by
    have := h.row o ho
    rwa [hok o ho] at this
  clear h hok hx3
  go_enter Tryd.func44, Tryd.ntmps44
  go_wp2_with fail
  refine (place_any At _).mono ?_
  rintro e w1 ⟨rfl, hw1⟩
  obtain rfl := hw1.symm
  clear hw1
  rw [PA.out]
  go_wp2_with fail
  refine (place_any Of _).mono ?_
  rintro e w1 ⟨rfl, hw1⟩
  obtain rfl := hw1.symm
  clear hw1
  rw [PO.out]
  go_wp2_with fail
  refine (place_any To _).mono ?_
  rintro e w1 ⟨rfl, hw1⟩
  obtain rfl := hw1.symm
  clear hw1
  rw [PT.out]
  go_wp2_with fail
  generalize hW3 : ((w.alloc (.cells #[.int .i64 8, .int .i64 At, .int .i64 Of, .int .i64 To, .int .i64 I, .slice al ll cl, .string key] 53)).alloc (.cells #[.int .i64 (p a).n, .slice (p a).ao (elems (p a).n (p a).X).length (p a).cr] 42)).alloc (.cells #[.int .i64 (p o).n, .slice (p o).ao (elems (p o).n (p o).X).length (p o).cr] 42) = W3 at *
  have hd3 : Below w.heap.size w W3 := HB3.out.2.2.2
  have HD3 := hide hd3
  have hz3 := HD3.out.size
  clear hd3 hW3 c1 c2 c3 c4 c5 c6
  have hso := HBN.out.set o ho
  rw [← HHYP.out] at hso
  refine (minus_any (p a).b (p a).g (p a).c (p a).n (p a).X (p o).b (p o).g (p o).c (p o).X _ (HBN.out.set a ha) hso).mono ?_
  rintro e w1 ⟨b, g, cs, rfl, hs, hb, hg, hbg, d1⟩
  have hb2 : w.heap.size ≤ b := by omega
  have hg2 : w.heap.size ≤ g := by omega
  have r1 := radd_res HB3.out.2.2.1 d1
  have r2 := radd_res HB3.out.1 d1
  rw [← HHYP.out] at r2
  have e0 : w1.cell? ⟨w.heap.size + 1, 0, none⟩ = some (.int .i64 (p a).n) := by rw [cell_of_row _ _ 0 _ 42 (0, 0) r1]; rfl
  have e1 : w1.cell? ⟨w.heap.size + 1, 1, none⟩ = some (.slice (p a).ao (elems (p a).n (p a).X).length (p a).cr) := by rw [cell_of_row _ _ 1 _ 42 (0, 0) r1]; rfl
  have e2 : w1.cell? ⟨w.heap.size + 1 + 1, 0, none⟩ = some (.int .i64 (p a).n) := by rw [cell_of_row _ _ 0 _ 42 (0, 0) r2]; rfl
  have e3 : w1.cell? ⟨w.heap.size + 1 + 1, 1, none⟩ = some (.slice (p o).ao (elems (p a).n (p o).X).length (p o).cr) := by rw [cell_of_row _ _ 1 _ 42 (0, 0) r2]; rfl
  have hrA := hide ((HRA.out.below HD3.out).below d1)
  have hrB := (HRB.out.below HD3.out).below d1
  rw [← HHYP.out] at hrB
  have HRB1 := hide hrB
  have B1 := hide (HBN.out.on d1)
  have S1 := hide hs
  clear hs hb hg hbg d1 r1 r2 hrB hso
  go_wp2_with fail
  refine (rminus_any (p a).n (p a).X (p o).X (p a).ao (p o).ao (p a).cr (p o).cr _ hnx hrA.out HRB1.out).mono ?_
  rintro e w2 ⟨ao2, cap2, rfl, hr2, d2⟩
  have BL := hide (B1.out.on d2)
  have SL := hide (S1.out.below d2)
  have RL := hide hr2
  clear hr2 d2 e0 e1 e2 e3
  go_wp2_with fail
  refine (lay_yes w0 B t w.heap.size p ⟨b, g, cs, (p a).n, (minusN (p a).X (p o).X), (minusN (p a).X (p o).X), ao2, cap2⟩ _ (BL.out.on bw1) ht (SL.out.below bw1) (RL.out.below bw1) hlo HLT.out hb2 hg2).mono ?_
  rintro e w9 ⟨rfl, FIN⟩
  have F := hide FIN
  clear FIN
  go_wp2
  go_ret
  exact ⟨rfl, _, ok_up1 HOK.out rfl, F.out⟩

set_option maxRecDepth 100000 in
set_option maxHeartbeats 4000000 in
theorem makes_minus_no (w0 w : World) (B : Nat) (p : Nat → Sl) (At Of To I : Int) (al : Option Addr) (ll cl : Nat) (key : ByteArray) (h : Bn w0 B p w) (hok : Ok4 p) (hyp : (p (plc At)).n ≠ (p (plc Of)).n) :
    Calls Tryd.prog 44 #[.pointer (some ⟨B, 0, none⟩), .agg #[.int .i64 8, .int .i64 At, .int .i64 Of, .int .i64 To, .int .i64 I, .slice al ll cl, .string key]] w fun e w' => e = .returned (.bool true) ∧ ∃ p', Ok4 p' ∧ Bn w0 B p' w' := by
  have ha := plc_lt At
  have ho := plc_lt Of
  have ht := plc_lt To
  generalize hA : plc At = a at *
  generalize hO : plc Of = o at *
  generalize hT : plc To = t at *
  have PA := hide hA
  have PO := hide hO
  have PT := hide hT
  clear hA hO hT
  have HHYP := hide (hyp)
  clear hyp
  have hB := h.blt
  have c1 := h.ptr ha
  have c2 := h.ptr ho
  have c3 := h.num ha
  have c4 := h.sli ha
  have c5 := h.num ho
  have c6 := h.sli ho
  unfold Sl.ptr at c1 c2
  unfold Sl.num at c3 c5
  unfold Sl.sli at c4 c6
  rw [hok a ha] at c4
  rw [hok o ho] at c6
  have i0 : (0 : Int) ≤ (a : Int) := by omega
  have i1 : (a : Int) < 4 := by omega
  have j0 : (0 : Int) ≤ (o : Int) := by omega
  have j1 : (o : Int) < 4 := by omega
  have HOK := hide hok
  have H := hide h
  have HLT := hide h.lts
  have hlo : w0.heap.size ≤ w.heap.size := h.below.size
  have hnx := (h.set a ha).hn
  have HXX := hide (h.set a ha).hX
  have hx3 := box3 (w := w) (.cells #[.int .i64 8, .int .i64 At, .int .i64 Of, .int .i64 To, .int .i64 I, .slice al ll cl, .string key] 53) (.cells #[.int .i64 (p a).n, .slice (p a).ao (elems (p a).n (p a).X).length (p a).cr] 42) (.cells #[.int .i64 (p o).n, .slice (p o).ao (elems (p o).n (p o).X).length (p o).cr] 42) (Below.refl _ _)
  have HB3 := hide hx3
  have HBN := hide (h.on hx3.2.2.2)
  have HRA : Hid (Row3 w (p a).ao (elems (p a).n (p a).X)) := by
    have := h.row a ha
    rwa [hok a ha] at this
  have HRB : Hid (Row3 w (p o).ao (elems (p o).n (p o).X)) := by
    have := h.row o ho
    rwa [hok o ho] at this
  clear h hok hx3
  go_enter Tryd.func44, Tryd.ntmps44
  go_wp2_with fail
  refine (place_any At _).mono ?_
  rintro e w1 ⟨rfl, hw1⟩
  obtain rfl := hw1.symm
  clear hw1
  rw [PA.out]
  go_wp2_with fail
  refine (place_any Of _).mono ?_
  rintro e w1 ⟨rfl, hw1⟩
  obtain rfl := hw1.symm
  clear hw1
  rw [PO.out]
  go_wp2_with fail
  refine (place_any To _).mono ?_
  rintro e w1 ⟨rfl, hw1⟩
  obtain rfl := hw1.symm
  clear hw1
  rw [PT.out]
  go_wp2_with fail
  generalize hW3 : ((w.alloc (.cells #[.int .i64 8, .int .i64 At, .int .i64 Of, .int .i64 To, .int .i64 I, .slice al ll cl, .string key] 53)).alloc (.cells #[.int .i64 (p a).n, .slice (p a).ao (elems (p a).n (p a).X).length (p a).cr] 42)).alloc (.cells #[.int .i64 (p o).n, .slice (p o).ao (elems (p o).n (p o).X).length (p o).cr] 42) = W3 at *
  have hd3 : Below w.heap.size w W3 := HB3.out.2.2.2
  have HD3 := hide hd3
  have hz3 := HD3.out.size
  clear hd3 hW3 c1 c2 c3 c4 c5 c6
  refine (minus_bad (p a).b (p o).b (p a).n (p o).n _ (HBN.out.set a ha).c0 (HBN.out.set o ho).c0 HHYP.out).mono ?_
  rintro e w1 ⟨rfl, d1⟩
  have r1 := radd_res HB3.out.2.2.1 d1
  have r2 := radd_res HB3.out.1 d1
  have e0 : w1.cell? ⟨w.heap.size + 1, 0, none⟩ = some (.int .i64 (p a).n) := by rw [cell_of_row _ _ 0 _ 42 (0, 0) r1]; rfl
  have e1 : w1.cell? ⟨w.heap.size + 1, 1, none⟩ = some (.slice (p a).ao (elems (p a).n (p a).X).length (p a).cr) := by rw [cell_of_row _ _ 1 _ 42 (0, 0) r1]; rfl
  have e2 : w1.cell? ⟨w.heap.size + 1 + 1, 0, none⟩ = some (.int .i64 (p o).n) := by rw [cell_of_row _ _ 0 _ 42 (0, 0) r2]; rfl
  have e3 : w1.cell? ⟨w.heap.size + 1 + 1, 1, none⟩ = some (.slice (p o).ao (elems (p o).n (p o).X).length (p o).cr) := by rw [cell_of_row _ _ 1 _ 42 (0, 0) r2]; rfl
  have B1 := hide (HBN.out.on d1)
  clear d1 r1 r2
  go_wp2_with fail
  refine (rminus_bad (p a).n (p o).n _ _ _ HHYP.out).mono ?_
  rintro e w2 ⟨rfl, d2⟩
  have BL := hide (B1.out.on d2)
  clear d2 e0 e1 e2 e3
  go_wp2_with fail
  refine (lay_no B t 10 _ _ _ (by decide)).mono ?_
  rintro e w9 ⟨rfl, d9⟩
  have F := hide ((BL.out.on bw1).on d9)
  clear d9
  go_wp2
  go_ret
  exact ⟨rfl, p, HOK.out, F.out⟩
end Go.Proofs.YtdgmokelmocejabDoor
