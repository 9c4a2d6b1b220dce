import Derived.Test.YtdgmokelmocejabDoorPlC
namespace Go.Proofs.YtdgmokelmocejabDoor
open Go.RowKit

theorem keepB4 {w1 w2 : World} {a1 a2 a3 a4 : Addr} {x y z u : Value} (h : w1.cell? a1 = some x ∧ w1.cell? a2 = some y ∧ w1.cell? a3 = some z ∧ w1.cell? a4 = some u) (d : Below w1.heap.size w1 w2) : w2.cell? a1 = some x ∧ w2.cell? a2 = some y ∧ w2.cell? a3 = some z ∧ w2.cell? a4 = some u :=
  ⟨(d.cell (World.block_lt_of_cell? _ _ h.1)).trans h.1, (d.cell (World.block_lt_of_cell? _ _ h.2.1)).trans h.2.1, (d.cell (World.block_lt_of_cell? _ _ h.2.2.1)).trans h.2.2.1, (d.cell (World.block_lt_of_cell? _ _ h.2.2.2)).trans h.2.2.2⟩
theorem keepB5 {w0 w1 w2 : World} {a1 a2 a3 a4 : Addr} {x y z u : Value} (h : w1.cell? a1 = some x ∧ w1.cell? a2 = some y ∧ w1.cell? a3 = some z ∧ w1.cell? a4 = some u ∧ Below w0.heap.size w0 w1) (d : Below w1.heap.size w1 w2) : w2.cell? a1 = some x ∧ w2.cell? a2 = some y ∧ w2.cell? a3 = some z ∧ w2.cell? a4 = some u ∧ Below w0.heap.size w0 w2 :=
  ⟨(d.cell (World.block_lt_of_cell? _ _ h.1)).trans h.1, (d.cell (World.block_lt_of_cell? _ _ h.2.1)).trans h.2.1, (d.cell (World.block_lt_of_cell? _ _ h.2.2.1)).trans h.2.2.1, (d.cell (World.block_lt_of_cell? _ _ h.2.2.2.1)).trans h.2.2.2.1, h.2.2.2.2.trans (d.mono h.2.2.2.2.size)⟩
theorem q_bn {w0 W w1 : World} {B : Nat} {p : Nat → Sl} {a1 a2 a3 a4 : Addr} {x y z u : Option Value} (h : w1.cell? a1 = x ∧ w1.cell? a2 = y ∧ w1.cell? a3 = z ∧ w1.cell? a4 = u ∧ Below W.heap.size W w1) (hb : Bn w0 B p W) : Bn w0 B p w1 := hb.on h.2.2.2.2

set_option maxRecDepth 100000 in
set_option maxHeartbeats 8000000 in
theorem step_make (w0 w : World) (B : Nat) (p : Nat → Sl) (d At Of To I : Int) (al : Option Addr) (l : List Int) (cl : Nat) (key : ByteArray) (h : Bn w0 B p w) (hok : Ok4 p) (hrd : Hid (ReadsI w al l)) (hlen : l.length ≤ 1048576) (hTT : Hid (TabAt w ∧ 0 < w.heap.size)) (hd : 1 ≤ d ∧ d ≤ 9) :
    Calls Tryd.prog 21 #[.pointer (some ⟨B, 0, none⟩), .agg #[.int .i64 d, .int .i64 At, .int .i64 Of, .int .i64 To, .int .i64 I, .slice al l.length cl, .string key]] w (StepOk w0 B) := by
  have ha := plc_lt At
  have ho := plc_lt Of
  generalize hA : plc At = a at *
  generalize hO : plc Of = o at *
  have PA := hide hA
  have PO := hide hO
  clear hA hO
  have h1 := hd.1
  have h2 := hd.2
  have hB := h.blt
  have HOK := hide hok
  have H := hide h
  have i0 : (0 : Int) ≤ (a : Int) := by omega
  have i1 : (a : Int) < 4 := by omega
  have j0 : (0 : Int) ≤ (o : Int) := by omega
  have j1 : (o : Int) < 4 := by omega
  have c1 := h.ptr ha
  have c2 := h.ptr ho
  have c3 := h.num ha
  have c4 := h.sli ha
  have c5 := h.num ho
  have c6 := h.sli ho
  unfold Sl.ptr at c1 c2
  unfold Sl.num at c3 c5
  unfold Sl.sli at c4 c6
  rw [hok a ha] at c4
  rw [hok o ho] at c6
  clear h hok
  go_enter Tryd.func21, Tryd.ntmps21
  go_wp2_with fail
  refine (place_any At _).mono ?_
  rintro e w1 ⟨rfl, hw1⟩
  obtain rfl := hw1.symm
  clear hw1
  rw [PA.out]
  go_wp2_with fail
  refine (place_any Of _).mono ?_
  rintro e w1 ⟨rfl, hw1⟩
  obtain rfl := hw1.symm
  clear hw1
  rw [PO.out]
  go_wp2_with fail
  refine (makes_any w0 _ B p d At Of To I al l cl key (H.out.on bw1) HOK.out (hrd.out.below bw1) hlen (hide ⟨hTT.out.1.below bw1 hTT.out.2, by simp⟩) hd).mono ?_
  rintro e w2 ⟨rfl, p', ho', hB'⟩
  have F := hide (And.intro ho' hB')
  clear ho' hB'
  go_wp2
  go_ret
  exact ⟨rfl, p', F.out⟩

set_option maxRecDepth 100000 in
set_option maxHeartbeats 8000000 in
theorem step_change (w0 w : World) (B : Nat) (p : Nat → Sl) (d At Of To I : Int) (al : Option Addr) (l : List Int) (cl : Nat) (key : ByteArray) (h : Bn w0 B p w) (hok : Ok4 p) (_hrd : Hid (ReadsI w al l)) (_hlen : l.length ≤ 1048576) (_hTT : Hid (TabAt w ∧ 0 < w.heap.size)) (hd : 10 ≤ d ∧ d ≤ 15) :
    Calls Tryd.prog 21 #[.pointer (some ⟨B, 0, none⟩), .agg #[.int .i64 d, .int .i64 At, .int .i64 Of, .int .i64 To, .int .i64 I, .slice al l.length cl, .string key]] w (StepOk w0 B) := by
  have ha := plc_lt At
  have ho := plc_lt Of
  generalize hA : plc At = a at *
  generalize hO : plc Of = o at *
  have PA := hide hA
  have PO := hide hO
  clear hA hO
  have h1 : 1 ≤ d := by omega
  have h2 : ¬ d ≤ 9 := by omega
  have h3 := hd.1
  have h4 := hd.2
  have hB := h.blt
  have HOK := hide hok
  have H := hide h
  have i0 : (0 : Int) ≤ (a : Int) := by omega
  have i1 : (a : Int) < 4 := by omega
  have j0 : (0 : Int) ≤ (o : Int) := by omega
  have j1 : (o : Int) < 4 := by omega
  have c1 := h.ptr ha
  have c2 := h.ptr ho
  have c3 := h.num ha
  have c4 := h.sli ha
  have c5 := h.num ho
  have c6 := h.sli ho
  unfold Sl.ptr at c1 c2
  unfold Sl.num at c3 c5
  unfold Sl.sli at c4 c6
  rw [hok a ha] at c4
  rw [hok o ho] at c6
  clear h hok
  go_enter Tryd.func21, Tryd.ntmps21
  go_wp2_with fail
  refine (place_any At _).mono ?_
  rintro e w1 ⟨rfl, hw1⟩
  obtain rfl := hw1.symm
  clear hw1
  rw [PA.out]
  go_wp2_with fail
  refine (place_any Of _).mono ?_
  rintro e w1 ⟨rfl, hw1⟩
  obtain rfl := hw1.symm
  clear hw1
  rw [PO.out]
  go_wp2_with fail
  refine (changes_any w0 _ B p d At Of To I al l cl key (H.out.on bw1) HOK.out hd).mono ?_
  rintro e w2 ⟨rfl, p', ho', hB'⟩
  have F := hide (And.intro ho' hB')
  clear ho' hB'
  go_wp2
  go_ret
  exact ⟨rfl, p', F.out⟩

set_option maxRecDepth 100000 in
set_option maxHeartbeats 8000000 in
theorem step_low (w0 w : World) (B : Nat) (p : Nat → Sl) (d At Of To I : Int) (al : Option Addr) (l : List Int) (cl : Nat) (key : ByteArray) (h : Bn w0 B p w) (hok : Ok4 p) (_hrd : Hid (ReadsI w al l)) (_hlen : l.length ≤ 1048576) (_hTT : Hid (TabAt w ∧ 0 < w.heap.size)) (hd : d < 1) :
    Calls Tryd.prog 21 #[.pointer (some ⟨B, 0, none⟩), .agg #[.int .i64 d, .int .i64 At, .int .i64 Of, .int .i64 To, .int .i64 I, .slice al l.length cl, .string key]] w (StepOk w0 B) := by
  have ha := plc_lt At
  have ho := plc_lt Of
  generalize hA : plc At = a at *
  generalize hO : plc Of = o at *
  have PA := hide hA
  have PO := hide hO
  clear hA hO
  have h1 : ¬ 1 ≤ d := by omega
  have h2 : ¬ 10 ≤ d := by omega
  have h3 : (d == 16) = false := by rw [beq_eq_false_iff_ne]; omega
  have h4 : (d == 17) = false := by rw [beq_eq_false_iff_ne]; omega
  have hB := h.blt
  have HOK := hide hok
  have H := hide h
  have i0 : (0 : Int) ≤ (a : Int) := by omega
  have i1 : (a : Int) < 4 := by omega
  have j0 : (0 : Int) ≤ (o : Int) := by omega
  have j1 : (o : Int) < 4 := by omega
  have c1 := h.ptr ha
  have c2 := h.ptr ho
  have c3 := h.num ha
  have c4 := h.sli ha
  have c5 := h.num ho
  have c6 := h.sli ho
  unfold Sl.ptr at c1 c2
  unfold Sl.num at c3 c5
  unfold Sl.sli at c4 c6
  rw [hok a ha] at c4
  rw [hok o ho] at c6
  clear h hok
  go_enter Tryd.func21, Tryd.ntmps21
  go_wp2_with fail
  refine (place_any At _).mono ?_
  rintro e w1 ⟨rfl, hw1⟩
  obtain rfl := hw1.symm
  clear hw1
  rw [PA.out]
  go_wp2_with fail
  refine (place_any Of _).mono ?_
  rintro e w1 ⟨rfl, hw1⟩
  obtain rfl := hw1.symm
  clear hw1
  rw [PO.out]
  go_wp2
  go_ret
  exact ⟨rfl, p, HOK.out, H.out.on bw1⟩

set_option maxRecDepth 100000 in
set_option maxHeartbeats 8000000 in
theorem step_high (w0 w : World) (B : Nat) (p : Nat → Sl) (d At Of To I : Int) (al : Option Addr) (l : List Int) (cl : Nat) (key : ByteArray) (h : Bn w0 B p w) (hok : Ok4 p) (_hrd : Hid (ReadsI w al l)) (_hlen : l.length ≤ 1048576) (_hTT : Hid (TabAt w ∧ 0 < w.heap.size)) (hd : 17 < d) :
    Calls Tryd.prog 21 #[.pointer (some ⟨B, 0, none⟩), .agg #[.int .i64 d, .int .i64 At, .int .i64 Of, .int .i64 To, .int .i64 I, .slice al l.length cl, .string key]] w (StepOk w0 B) := by
  have ha := plc_lt At
  have ho := plc_lt Of
  generalize hA : plc At = a at *
  generalize hO : plc Of = o at *
  have PA := hide hA
  have PO := hide hO
  clear hA hO
  have h1 : 1 ≤ d := by omega
  have h2 : 10 ≤ d := by omega
  have h5 : ¬ d ≤ 9 := by omega
  have h6 : ¬ d ≤ 15 := by omega
  have h3 : (d == 16) = false := by rw [beq_eq_false_iff_ne]; omega
  have h4 : (d == 17) = false := by rw [beq_eq_false_iff_ne]; omega
  have hB := h.blt
  have HOK := hide hok
  have H := hide h
  have i0 : (0 : Int) ≤ (a : Int) := by omega
  have i1 : (a : Int) < 4 := by omega
  have j0 : (0 : Int) ≤ (o : Int) := by omega
  have j1 : (o : Int) < 4 := by omega
  have c1 := h.ptr ha
  have c2 := h.ptr ho
  have c3 := h.num ha
  have c4 := h.sli ha
  have c5 := h.num ho
  have c6 := h.sli ho
  unfold Sl.ptr at c1 c2
  unfold Sl.num at c3 c5
  unfold Sl.sli at c4 c6
  rw [hok a ha] at c4
  rw [hok o ho] at c6
  clear h hok
  go_enter Tryd.func21, Tryd.ntmps21
  go_wp2_with fail
  refine (place_any At _).mono ?_
  rintro e w1 ⟨rfl, hw1⟩
  obtain rfl := hw1.symm
  clear hw1
  rw [PA.out]
  go_wp2_with fail
  refine (place_any Of _).mono ?_
  rintro e w1 ⟨rfl, hw1⟩
  obtain rfl := hw1.symm
  clear hw1
  rw [PO.out]
  go_wp2
  go_ret
  exact ⟨rfl, p, HOK.out, H.out.on bw1⟩

set_option maxRecDepth 100000 in
set_option maxHeartbeats 8000000 in
theorem step_ask (w0 w : World) (B : Nat) (p : Nat → Sl) (_d At Of To I : Int) (al : Option Addr) (l : List Int) (cl : Nat) (key : ByteArray) (h : Bn w0 B p w) (hok : Ok4 p) (_hrd : Hid (ReadsI w al l)) (_hlen : l.length ≤ 1048576) (hTT : Hid (TabAt w ∧ 0 < w.heap.size))  :
    Calls Tryd.prog 21 #[.pointer (some ⟨B, 0, none⟩), .agg #[.int .i64 16, .int .i64 At, .int .i64 Of, .int .i64 To, .int .i64 I, .slice al l.length cl, .string key]] w (StepOk w0 B) := by
  have ha := plc_lt At
  have ho := plc_lt Of
  generalize hA : plc At = a at *
  generalize hO : plc Of = o at *
  have PA := hide hA
  have PO := hide hO
  clear hA hO
  have hB := h.blt
  have HOK := hide hok
  have H := hide h
  have i0 : (0 : Int) ≤ (a : Int) := by omega
  have i1 : (a : Int) < 4 := by omega
  have j0 : (0 : Int) ≤ (o : Int) := by omega
  have j1 : (o : Int) < 4 := by omega
  have c1 := h.ptr ha
  have c2 := h.ptr ho
  have c3 := h.num ha
  have c4 := h.sli ha
  have c5 := h.num ho
  have c6 := h.sli ho
  unfold Sl.ptr at c1 c2
  unfold Sl.num at c3 c5
  unfold Sl.sli at c4 c6
  rw [hok a ha] at c4
  rw [hok o ho] at c6
  clear h hok
  go_enter Tryd.func21, Tryd.ntmps21
  go_wp2_with fail
  refine (place_any At _).mono ?_
  rintro e w1 ⟨rfl, hw1⟩
  obtain rfl := hw1.symm
  clear hw1
  rw [PA.out]
  go_wp2_with fail
  refine (place_any Of _).mono ?_
  rintro e w1 ⟨rfl, hw1⟩
  obtain rfl := hw1.symm
  clear hw1
  rw [PO.out]
  go_wp2_with fail
  generalize hW : (w.alloc (.cells #[.int .i64 16, .int .i64 At, .int .i64 Of, .int .i64 To, .int .i64 I, .slice al l.length cl, .string key] 53)) = W at *
  have hb0 : Below w.heap.size w W := by rw [← hW]; exact bw1
  have hbo : W.heap[w.heap.size]? = some (.cells #[.int .i64 16, .int .i64 At, .int .i64 Of, .int .i64 To, .int .i64 I, .slice al l.length cl, .string key] 53 (0, 0)) := by rw [← hW]; exact heap_alloc_new _ _
  have HBW := hide (H.out.on hb0)
  have d1 := HBW.out.ptr ha
  have d2 := HBW.out.num ha
  have d3 := HBW.out.sli ha
  have d4 : W.cell? ⟨w.heap.size, 4, none⟩ = some (.int .i64 I) := by rw [cell_of_row _ _ 4 _ 53 (0, 0) hbo]; rfl
  unfold Sl.ptr at d1
  unfold Sl.num at d2
  unfold Sl.sli at d3
  rw [HOK.out a ha] at d3
  have HTW := hide (hTT.out.1.below hb0 hTT.out.2)
  have h0W := Nat.lt_of_lt_of_le hTT.out.2 hb0.size
  clear hW hb0 hbo c1 c2 c3 c4 c5 c6
  go_region_held3 (fun w' => w'.cell? ⟨B, a, none⟩ = some (.pointer (some ⟨(p a).b, 0, none⟩)) ∧ w'.cell? ⟨B, 4 + a * 2, none⟩ = some (.int .i64 (p a).n) ∧ w'.cell? ⟨B, 4 + a * 2 + 1, none⟩ = some (.slice (p a).ao (elems (p a).n (p a).X).length (p a).cr) ∧ w'.cell? ⟨w.heap.size, 4, none⟩ = some (.int .i64 I))
    (first | exact ⟨d1, d2, d3, d4⟩ | exact keepB4 (by assumption) hbX | go_keep)
    ((go_at_call 24; refine (shows_any (p a).b (p a).g (p a).c (p a).n (p a).X (p a).cr (p a).ao I _ (by exact (HBW.out.on (Below.refl _ _).drew).set a ha) (by exact HTW.out.below (Below.refl _ _).drew h0W) (by exact ((HBW.out.on (Below.refl _ _).drew).rowK HOK.out ha).reads)).mono ?_; rintro e wX ⟨rfl, hbX⟩))
  rename_i hS
  have F := hide ((HBW.out.on (Below.refl _ _).drew).on hbX)
  clear hS
  go_wp2
  go_ret
  exact ⟨rfl, p, HOK.out, F.out⟩

set_option maxRecDepth 100000 in
set_option maxHeartbeats 8000000 in
theorem step_two (w0 w : World) (B : Nat) (p : Nat → Sl) (_d At Of To I : Int) (al : Option Addr) (l : List Int) (cl : Nat) (key : ByteArray) (h : Bn w0 B p w) (hok : Ok4 p) (_hrd : Hid (ReadsI w al l)) (_hlen : l.length ≤ 1048576) (_hTT : Hid (TabAt w ∧ 0 < w.heap.size))  :
    Calls Tryd.prog 21 #[.pointer (some ⟨B, 0, none⟩), .agg #[.int .i64 17, .int .i64 At, .int .i64 Of, .int .i64 To, .int .i64 I, .slice al l.length cl, .string key]] w (StepOk w0 B) := by
  have ha := plc_lt At
  have ho := plc_lt Of
  generalize hA : plc At = a at *
  generalize hO : plc Of = o at *
  have PA := hide hA
  have PO := hide hO
  clear hA hO
  have hB := h.blt
  have HOK := hide hok
  have H := hide h
  have i0 : (0 : Int) ≤ (a : Int) := by omega
  have i1 : (a : Int) < 4 := by omega
  have j0 : (0 : Int) ≤ (o : Int) := by omega
  have j1 : (o : Int) < 4 := by omega
  have c1 := h.ptr ha
  have c2 := h.ptr ho
  have c3 := h.num ha
  have c4 := h.sli ha
  have c5 := h.num ho
  have c6 := h.sli ho
  unfold Sl.ptr at c1 c2
  unfold Sl.num at c3 c5
  unfold Sl.sli at c4 c6
  rw [hok a ha] at c4
  rw [hok o ho] at c6
  clear h hok
  go_enter Tryd.func21, Tryd.ntmps21
  go_wp2_with fail
  refine (place_any At _).mono ?_
  rintro e w1 ⟨rfl, hw1⟩
  obtain rfl := hw1.symm
  clear hw1
  rw [PA.out]
  go_wp2_with fail
  refine (place_any Of _).mono ?_
  rintro e w1 ⟨rfl, hw1⟩
  obtain rfl := hw1.symm
  clear hw1
  rw [PO.out]
  obtain ⟨r, hr⟩ := cmp_ex (p := p) (a := a) (o := o)
  have HR := hide hr
  clear hr
  go_wp2_with fail
  generalize hW : ((w.alloc (.cells #[.int .i64 17, .int .i64 At, .int .i64 Of, .int .i64 To, .int .i64 I, .slice al l.length cl, .string key] 53)).alloc (.cells #[.int .i64 (p a).n, .slice (p a).ao (elems (p a).n (p a).X).length (p a).cr] 42)).alloc (.cells #[.int .i64 (p o).n, .slice (p o).ao (elems (p o).n (p o).X).length (p o).cr] 42) = W at *
  obtain ⟨q2, q0, q1, qb⟩ := box3 (w := w) (.cells #[.int .i64 17, .int .i64 At, .int .i64 Of, .int .i64 To, .int .i64 I, .slice al l.length cl, .string key] 53) (.cells #[.int .i64 (p a).n, .slice (p a).ao (elems (p a).n (p a).X).length (p a).cr] 42) (.cells #[.int .i64 (p o).n, .slice (p o).ao (elems (p o).n (p o).X).length (p o).cr] 42) (Below.refl _ _)
  rw [hW] at q2 q0 q1 qb
  have HBW := hide (H.out.on qb)
  have d1 : W.cell? ⟨w.heap.size + 1, 0, none⟩ = some (.int .i64 (p a).n) := by rw [cell_of_row _ _ 0 _ 42 (0, 0) q1]; rfl
  have d2 : W.cell? ⟨w.heap.size + 1, 1, none⟩ = some (.slice (p a).ao (elems (p a).n (p a).X).length (p a).cr) := by rw [cell_of_row _ _ 1 _ 42 (0, 0) q1]; rfl
  have d3 : W.cell? ⟨w.heap.size + 1 + 1, 0, none⟩ = some (.int .i64 (p o).n) := by rw [cell_of_row _ _ 0 _ 42 (0, 0) q2]; rfl
  have d4 : W.cell? ⟨w.heap.size + 1 + 1, 1, none⟩ = some (.slice (p o).ao (elems (p o).n (p o).X).length (p o).cr) := by rw [cell_of_row _ _ 1 _ 42 (0, 0) q2]; rfl
  clear hW q2 q0 q1 qb c1 c2 c3 c4 c5 c6
  have CS := fun (W' : World) (hb : Bn w0 B p W') => bn_subset hb ha ho
  have CE := fun (W' : World) (hb : Bn w0 B p W') => bn_equal hb ha ho
  have CM := fun (W' : World) (hb : Bn w0 B p W') => bn_meets hb ha ho
  have CC := fun (W' : World) (hb : Bn w0 B p W') => bn_compare HR.out hb ha ho
  have DS := fun (W' : World) (hb : Bn w0 B p W') => bn_rsubset hb HOK.out ha ho
  have DE := fun (W' : World) (hb : Bn w0 B p W') => bn_requal hb HOK.out ha ho
  have DM := fun (W' : World) (hb : Bn w0 B p W') => bn_rmeets hb HOK.out ha ho
  have DC := fun (W' : World) (hb : Bn w0 B p W') => bn_rcompare HR.out hb HOK.out ha ho
  generalize qS p a o = vS at CS DS
  generalize qE p a o = vE at CE DE
  generalize qM p a o = vM at CM DM
  unfold Sl.ptr at CS CE CM CC
  unfold agv at DS DE DM DC
  have HC := hide (And.intro CS (And.intro CE (And.intro CM (And.intro CC (And.intro DS (And.intro DE (And.intro DM DC)))))))
  have y1 : (vS == vS) = true := by simp
  have y2 : (vE == vE) = true := by simp
  have y3 : (vM == vM) = true := by simp
  have y4 : (r == r) = true := by simp
  clear CS CE CM CC DS DE DM DC
  go_region_held3 (fun w' => w'.cell? ⟨w.heap.size + 1, 0, none⟩ = some (.int .i64 (p a).n) ∧ w'.cell? ⟨w.heap.size + 1, 1, none⟩ = some (.slice (p a).ao (elems (p a).n (p a).X).length (p a).cr) ∧ w'.cell? ⟨w.heap.size + 1 + 1, 0, none⟩ = some (.int .i64 (p o).n) ∧ w'.cell? ⟨w.heap.size + 1 + 1, 1, none⟩ = some (.slice (p o).ao (elems (p o).n (p o).X).length (p o).cr) ∧ Below W.heap.size W w')
    (first | exact ⟨d1, d2, d3, d4, (Below.refl _ _).drew⟩ | exact keepB5 (by assumption) hbX | go_keep)
    (first
      | (go_at_call 46; refine (HC.out.1 _ (by exact q_bn (by assumption) HBW.out)).mono ?_; rintro e wX ⟨rfl, hbX⟩)
      | (go_at_call 34; refine (HC.out.2.1 _ (by exact q_bn (by assumption) HBW.out)).mono ?_; rintro e wX ⟨rfl, hbX⟩)
      | (go_at_call 49; refine (HC.out.2.2.1 _ (by exact q_bn (by assumption) HBW.out)).mono ?_; rintro e wX ⟨rfl, hbX⟩)
      | (go_at_call 35; refine (HC.out.2.2.2.1 _ (by exact q_bn (by assumption) HBW.out)).mono ?_; rintro e wX ⟨rfl, hbX⟩)
      | (go_at_call 47; refine (HC.out.2.2.2.2.1 _ (by exact q_bn (by assumption) HBW.out)).mono ?_; rintro e wX ⟨rfl, hbX⟩)
      | (go_at_call 48; refine (HC.out.2.2.2.2.2.1 _ (by exact q_bn (by assumption) HBW.out)).mono ?_; rintro e wX ⟨rfl, hbX⟩)
      | (go_at_call 50; refine (HC.out.2.2.2.2.2.2.1 _ (by exact q_bn (by assumption) HBW.out)).mono ?_; rintro e wX ⟨rfl, hbX⟩)
      | (go_at_call 51; refine (HC.out.2.2.2.2.2.2.2 _ (by exact q_bn (by assumption) HBW.out)).mono ?_; rintro e wX ⟨rfl, hbX⟩))
  all_goals
    rename_i hS
    have F := hide (q_bn hS HBW.out)
    clear hS
    go_wp2
    go_ret
    exact ⟨rfl, p, HOK.out, F.out⟩
end Go.Proofs.YtdgmokelmocejabDoor
