import Derived.Test.YtdgmokelmocejabDoorPlB
import Derived.Deep.DeepCutAuto
namespace Go.Proofs.YtdgmokelmocejabDoor
open Go.RowKit

set_option maxRecDepth 100000 in
set_option maxHeartbeats 4000000 in
theorem changes_join_ok (w0 w : World) (B : Nat) (p : Nat → Sl) (At Of To I : Int) (al : Option Addr) (ll cl : Nat) (key : ByteArray) (h : Bn w0 B p w) (hok : Ok4 p) (hn : (p (plc At)).n = (p (plc Of)).n) :
    Calls Tryd.prog 45 #[.pointer (some ⟨B, 0, none⟩), .agg #[.int .i64 13, .int .i64 At, .int .i64 Of, .int .i64 To, .int .i64 I, .slice al ll cl, .string key]] w fun e w' => e = .returned (.bool true) ∧ ∃ p', Ok4 p' ∧ Bn w0 B p' w' := by
  have ha := plc_lt At
  have ho := plc_lt Of
  generalize hA : plc At = a at *
  generalize hO : plc Of = o at *
  have PA := hide hA
  have PO := hide hO
  clear hA hO
  have HN := hide hn
  clear hn
  have hbx : Below w.heap.size w (w.alloc (.cells #[.int .i64 13, .int .i64 At, .int .i64 Of, .int .i64 To, .int .i64 I, .slice al ll cl, .string key] 53)) := bw1
  have h1 := h.on hbx
  have N1 := h1.num ha
  have Q1 := h1.sli ha
  have hB := h.blt
  have i0 : (0 : Int) ≤ (a : Int) := by omega
  have i1 : (a : Int) < 4 := by omega
  have j0 : (0 : Int) ≤ (o : Int) := by omega
  have j1 : (o : Int) < 4 := by omega
  unfold Sl.num at N1
  unfold Sl.sli at Q1
  have HOK := hide hok
  have H := hide h
  have HLT := hide h.lts
  have hnx := (h.set a ha).hn
  have HXX := hide (h.set a ha).hX
  clear h h1 hok
  go_enter Tryd.func45, Tryd.ntmps45
  go_wp2_with fail
  refine (place_any At _).mono ?_
  rintro e w1 ⟨rfl, hw1⟩
  obtain rfl := hw1.symm
  clear hw1
  rw [PA.out]
  go_wp2_with fail
  go_cut [7] (fun t7 wx => t7 = .pointer (some ⟨w.heap.size + 1 + 1, 0, none⟩) ∧ Hid (Pre w0 w B p a o #[.int .i64 13, .int .i64 At, .int .i64 Of, .int .i64 To, .int .i64 I, .slice al ll cl, .string key] wx))
  case first =>
    have HP := hide (pre_mk (a := a) (o := o) (bx := #[.int .i64 13, .int .i64 At, .int .i64 Of, .int .i64 To, .int .i64 I, .slice al ll cl, .string key]) H.out)
    have h2 := H.out.on (b2w (o0 := .cells #[.int .i64 13, .int .i64 At, .int .i64 Of, .int .i64 To, .int .i64 I, .slice al ll cl, .string key] 53) (o1 := .cells #[.int .i64 (p a).n, .slice (p a).ao (elems (p a).n (p a).y).length (p a).cr] 42))
    obtain ⟨_, q0, _⟩ := box2 (w := w) (.cells #[.int .i64 13, .int .i64 At, .int .i64 Of, .int .i64 To, .int .i64 I, .slice al ll cl, .string key] 53) (.cells #[.int .i64 (p a).n, .slice (p a).ao (elems (p a).n (p a).y).length (p a).cr] 42) (Below.refl _ _)
    have s0 := h2.num ho
    have s1 := h2.sli ho
    have s2 : ((w.alloc (.cells #[.int .i64 13, .int .i64 At, .int .i64 Of, .int .i64 To, .int .i64 I, .slice al ll cl, .string key] 53)).alloc (.cells #[.int .i64 (p a).n, .slice (p a).ao (elems (p a).n (p a).y).length (p a).cr] 42)).cell? ⟨w.heap.size, 2, none⟩ = some (.int .i64 Of) := by rw [cell_of_row _ _ 2 _ 53 (0, 0) q0]; rfl
    have hB2 : B < ((w.alloc (.cells #[.int .i64 13, .int .i64 At, .int .i64 Of, .int .i64 To, .int .i64 I, .slice al ll cl, .string key] 53)).alloc (.cells #[.int .i64 (p a).n, .slice (p a).ao (elems (p a).n (p a).y).length (p a).cr] 42)).heap.size := h2.blt
    have hzz : ((w.alloc (.cells #[.int .i64 13, .int .i64 At, .int .i64 Of, .int .i64 To, .int .i64 I, .slice al ll cl, .string key] 53)).alloc (.cells #[.int .i64 (p a).n, .slice (p a).ao (elems (p a).n (p a).y).length (p a).cr] 42)).heap.size = w.heap.size + 1 + 1 := by simp
    unfold Sl.num at s0
    unfold Sl.sli at s1
    clear h2 q0 N1 Q1
    generalize hW1 : ((w.alloc (.cells #[.int .i64 13, .int .i64 At, .int .i64 Of, .int .i64 To, .int .i64 I, .slice al ll cl, .string key] 53)).alloc (.cells #[.int .i64 (p a).n, .slice (p a).ao (elems (p a).n (p a).y).length (p a).cr] 42)) = W1 at *
    have hlO : w.heap.size < W1.heap.size := by omega
    have n1 := World.new_ne W1 _ s0
    have n2 := World.new_ne W1 _ s1
    have n3 := World.new_ne W1 _ s2
    go_region_held3 (fun w' => w'.cell? ⟨B, 4 + o * 2, none⟩ = some (.int .i64 (p o).n) ∧ w'.cell? ⟨B, 4 + o * 2 + 1, none⟩ = some (.slice (p o).ao (elems (p o).n (p o).y).length (p o).cr) ∧ w'.cell? ⟨w.heap.size, 2, none⟩ = some (.int .i64 Of))
      (first | exact ⟨s0, s1, s2⟩ | exact keepB3 (by assumption) bw1 | exact keepB3 ⟨s0, s1, s2⟩ bw1.drew | go_keep)
      ((go_at_call 43; refine (place_any Of _).mono ?_; rintro e w2 ⟨rfl, hw2⟩; obtain rfl := hw2.symm; clear hw2; rw [PO.out]))
    all_goals (go_wp2_with fail; go_meet)
    all_goals exact ⟨rfl, HP⟩
  case rest =>
    obtain ⟨rfl, PP⟩ := hcut
    clear N1 Q1 hbx
    have c1 := PP.out.bn.ptr ha
    have hgO : (p a).g < w.heap.size := (HLT.out a ha).2
    have hBg : B ≠ (p a).g := fun e => (set_ne (H.out.set a ha) H.out.blk (by decide) (by decide)).2 e.symm
    have hlo : w0.heap.size ≤ w.heap.size := H.out.below.size
    have c3 : wc.cell? ⟨w.heap.size, 0, none⟩ = some (.int .i64 13) := by rw [cell_of_row _ _ 0 _ 53 (0, 0) PP.out.ob]; rfl
    unfold Sl.ptr at c1
    have c2 := PP.out.bn.ptr ho
    have c4 : wc.cell? ⟨w.heap.size, 2, none⟩ = some (.int .i64 Of) := by rw [cell_of_row _ _ 2 _ 53 (0, 0) PP.out.ob]; rfl
    unfold Sl.ptr at c2
    go_wp2_with fail
    go_region_held3 (fun w' => w'.cell? ⟨B, a, none⟩ = some (.pointer (some ⟨(p a).b, 0, none⟩)) ∧ w'.cell? ⟨B, o, none⟩ = some (.pointer (some ⟨(p o).b, 0, none⟩)) ∧ w'.cell? ⟨w.heap.size, 2, none⟩ = some (.int .i64 Of))
      (first | exact ⟨c1, c2, c4⟩ | exact keepG3 (by assumption) dX hBg hBg (by show w.heap.size ≠ _; omega) | go_keep)
      (first
        | (go_at_call 43; refine (place_any Of _).mono ?_; rintro e w2 ⟨rfl, hw2⟩; obtain rfl := hw2.symm; clear hw2; rw [PO.out])
        | (go_at_call 9; refine (bn_join_ok (w0 := w0) (B := B) (p := p) (by exact PP.out.bn.on (Below.refl _ _).drew) ha ho HN.out).mono ?_; rintro e wX ⟨rfl, bX, dX⟩))
    rename_i hS
    have r1 : wX.heap[w.heap.size + 1]? = some (.cells #[.int .i64 (p a).n, .slice (p a).ao (elems (p a).n (p a).y).length (p a).cr] 42 (0, 0)) := grown_blk (by exact PP.out.rb) dX (by omega)
    have r2 : wX.heap[w.heap.size + 1 + 1]? = some (.cells #[.int .i64 (p o).n, .slice (p o).ao (elems (p o).n (p o).y).length (p o).cr] 42 (0, 0)) := grown_blk (by exact PP.out.ub) dX (by omega)
    skip
    have d0 : wX.cell? ⟨w.heap.size + 1, 0, none⟩ = some (.int .i64 (p a).n) := by rw [cell_of_row _ _ 0 _ 42 (0, 0) r1]; rfl
    have d1 : wX.cell? ⟨w.heap.size + 1, 1, none⟩ = some (.slice (p a).ao (elems (p a).n (p a).y).length (p a).cr) := by rw [cell_of_row _ _ 1 _ 42 (0, 0) r1]; rfl
    have d2 : wX.cell? ⟨w.heap.size + 1 + 1, 0, none⟩ = some (.int .i64 (p o).n) := by rw [cell_of_row _ _ 0 _ 42 (0, 0) r2]; rfl
    have d3 : wX.cell? ⟨w.heap.size + 1 + 1, 1, none⟩ = some (.slice (p o).ao (elems (p o).n (p o).y).length (p o).cr) := by rw [cell_of_row _ _ 1 _ 42 (0, 0) r2]; rfl
    have hrA : Row3 wX (p a).ao (elems (p a).n (p a).X) := by
      have := bX.rowX a ha
      rwa [HOK.out a ha] at this
    have hrB : Row3 wX (p o).ao (elems (p a).n (p o).X) := by
      have := bX.rowX o ho
      rwa [HOK.out o ho, ← HN.out] at this
    rw [HOK.out a ha] at d1 r1
    rw [HOK.out o ho, ← HN.out] at d3
    rw [← HN.out] at d2
    have R1 := hide r1
    have BX := hide bX
    have HRA := hide hrA
    have HRB := hide hrB
    clear hS r1 r2 bX hrA hrB dX c1 c2 c3 c4 PP
    go_wp2_with fail
    refine (runion_any (p a).n (p a).X (p o).X (p a).ao (p o).ao (p a).cr (p o).cr _ hnx HRA.out HRB.out).mono ?_
    rintro e w3 ⟨ao3, cap3, rfl, hr3, hb3⟩
    have r3 := radd_res R1.out hb3
    have b3' := BX.out.on hb3
    obtain ⟨BB, h4, kr⟩ := b3'.box w0 (u0 := .int .i64 (p a).n) (u1 := .slice ao3 (elems (p a).n ((p a).X ||| (p o).X)).length cap3) r3 (by omega)
    have e0 : w3.cell? ⟨w.heap.size + 1, 0, none⟩ = some (.int .i64 (p a).n) := by rw [cell_of_row _ _ 0 _ 42 (0, 0) r3]; rfl
    have e1 : w3.cell? ⟨w.heap.size + 1, 1, none⟩ = some (.slice (p a).ao (elems (p a).n (p a).X).length (p a).cr) := by rw [cell_of_row _ _ 1 _ 42 (0, 0) r3]; rfl
    have f0 := frozen_of_row w3 (w.heap.size + 1) 0 _ 42 r3
    have f1 := frozen_of_row w3 (w.heap.size + 1) 1 _ 42 r3
    have HR4 := hide (kr _ _ hr3)
    have g0 : ((w3.setCell ⟨w.heap.size + 1, 0, none⟩ (.int .i64 (p a).n)).setCell ⟨w.heap.size + 1, 1, none⟩ (.slice ao3 (elems (p a).n ((p a).X ||| (p o).X)).length cap3)).cell? ⟨w.heap.size + 1, 0, none⟩ = some (.int .i64 (p a).n) := by rw [cell_of_row _ _ 0 _ 42 (0, 0) h4]; rfl
    have g1 : ((w3.setCell ⟨w.heap.size + 1, 0, none⟩ (.int .i64 (p a).n)).setCell ⟨w.heap.size + 1, 1, none⟩ (.slice ao3 (elems (p a).n ((p a).X ||| (p o).X)).length cap3)).cell? ⟨w.heap.size + 1, 1, none⟩ = some (.slice ao3 (elems (p a).n ((p a).X ||| (p o).X)).length cap3) := by rw [cell_of_row _ _ 1 _ 42 (0, 0) h4]; rfl
    have g2 := BB.num ha
    have g3 := BB.sli ha
    have g4 := BB.fz (4 + a * 2)
    have g5 := BB.fz (4 + a * 2 + 1)
    rw [upd_same] at g2 g3
    unfold Sl.num at g2
    unfold Sl.sli at g3
    dsimp only at g2 g3
    have hlB := BB.blt
    have FIN := hide (BB.putR (y := (p a).X ||| (p o).X) (ao := ao3) (cr := cap3) ha (by rw [upd_same]) HR4.out)
    have hBO : B ≠ w.heap.size + 1 := by omega
    have G0 := hide (And.intro g0 (And.intro g1 (And.intro g2 (And.intro g3 (And.intro g4 (And.intro g5 hlB))))))
    clear hb3 b3' r3 BB h4 kr hr3 g0 g1 g2 g3 g4 g5 hlB
    go_wp2_with fail
    obtain ⟨g0, g1, g2, g3, g4, g5, hlB⟩ := G0.out
    clear G0
    skip
    generalize hW4 : ((w3.setCell ⟨w.heap.size + 1, 0, none⟩ (.int .i64 (p a).n)).setCell ⟨w.heap.size + 1, 1, none⟩ (.slice ao3 (elems (p a).n ((p a).X ||| (p o).X)).length cap3)) = W4 at *
    clear hW4
    go_region
    go_wp2
    go_ret
    exact ⟨rfl, _, ok_up2 HOK.out, FIN.out.on (Below.refl _ _).drew⟩

set_option maxRecDepth 100000 in
set_option maxHeartbeats 4000000 in
theorem changes_join_no (w0 w : World) (B : Nat) (p : Nat → Sl) (At Of To I : Int) (al : Option Addr) (ll cl : Nat) (key : ByteArray) (h : Bn w0 B p w) (hok : Ok4 p) (hn : (p (plc At)).n ≠ (p (plc Of)).n) :
    Calls Tryd.prog 45 #[.pointer (some ⟨B, 0, none⟩), .agg #[.int .i64 13, .int .i64 At, .int .i64 Of, .int .i64 To, .int .i64 I, .slice al ll cl, .string key]] w fun e w' => e = .returned (.bool true) ∧ ∃ p', Ok4 p' ∧ Bn w0 B p' w' := by
  have ha := plc_lt At
  have ho := plc_lt Of
  generalize hA : plc At = a at *
  generalize hO : plc Of = o at *
  have PA := hide hA
  have PO := hide hO
  clear hA hO
  have HN := hide hn
  clear hn
  have hbx : Below w.heap.size w (w.alloc (.cells #[.int .i64 13, .int .i64 At, .int .i64 Of, .int .i64 To, .int .i64 I, .slice al ll cl, .string key] 53)) := bw1
  have h1 := h.on hbx
  have N1 := h1.num ha
  have Q1 := h1.sli ha
  have hB := h.blt
  have i0 : (0 : Int) ≤ (a : Int) := by omega
  have i1 : (a : Int) < 4 := by omega
  have j0 : (0 : Int) ≤ (o : Int) := by omega
  have j1 : (o : Int) < 4 := by omega
  unfold Sl.num at N1
  unfold Sl.sli at Q1
  have HOK := hide hok
  have H := hide h
  have HLT := hide h.lts
  have hnx := (h.set a ha).hn
  have HXX := hide (h.set a ha).hX
  clear h h1 hok
  go_enter Tryd.func45, Tryd.ntmps45
  go_wp2_with fail
  refine (place_any At _).mono ?_
  rintro e w1 ⟨rfl, hw1⟩
  obtain rfl := hw1.symm
  clear hw1
  rw [PA.out]
  go_wp2_with fail
  go_cut [7] (fun t7 wx => t7 = .pointer (some ⟨w.heap.size + 1 + 1, 0, none⟩) ∧ Hid (Pre w0 w B p a o #[.int .i64 13, .int .i64 At, .int .i64 Of, .int .i64 To, .int .i64 I, .slice al ll cl, .string key] wx))
  case first =>
    have HP := hide (pre_mk (a := a) (o := o) (bx := #[.int .i64 13, .int .i64 At, .int .i64 Of, .int .i64 To, .int .i64 I, .slice al ll cl, .string key]) H.out)
    have h2 := H.out.on (b2w (o0 := .cells #[.int .i64 13, .int .i64 At, .int .i64 Of, .int .i64 To, .int .i64 I, .slice al ll cl, .string key] 53) (o1 := .cells #[.int .i64 (p a).n, .slice (p a).ao (elems (p a).n (p a).y).length (p a).cr] 42))
    obtain ⟨_, q0, _⟩ := box2 (w := w) (.cells #[.int .i64 13, .int .i64 At, .int .i64 Of, .int .i64 To, .int .i64 I, .slice al ll cl, .string key] 53) (.cells #[.int .i64 (p a).n, .slice (p a).ao (elems (p a).n (p a).y).length (p a).cr] 42) (Below.refl _ _)
    have s0 := h2.num ho
    have s1 := h2.sli ho
    have s2 : ((w.alloc (.cells #[.int .i64 13, .int .i64 At, .int .i64 Of, .int .i64 To, .int .i64 I, .slice al ll cl, .string key] 53)).alloc (.cells #[.int .i64 (p a).n, .slice (p a).ao (elems (p a).n (p a).y).length (p a).cr] 42)).cell? ⟨w.heap.size, 2, none⟩ = some (.int .i64 Of) := by rw [cell_of_row _ _ 2 _ 53 (0, 0) q0]; rfl
    have hB2 : B < ((w.alloc (.cells #[.int .i64 13, .int .i64 At, .int .i64 Of, .int .i64 To, .int .i64 I, .slice al ll cl, .string key] 53)).alloc (.cells #[.int .i64 (p a).n, .slice (p a).ao (elems (p a).n (p a).y).length (p a).cr] 42)).heap.size := h2.blt
    have hzz : ((w.alloc (.cells #[.int .i64 13, .int .i64 At, .int .i64 Of, .int .i64 To, .int .i64 I, .slice al ll cl, .string key] 53)).alloc (.cells #[.int .i64 (p a).n, .slice (p a).ao (elems (p a).n (p a).y).length (p a).cr] 42)).heap.size = w.heap.size + 1 + 1 := by simp
    unfold Sl.num at s0
    unfold Sl.sli at s1
    clear h2 q0 N1 Q1
    generalize hW1 : ((w.alloc (.cells #[.int .i64 13, .int .i64 At, .int .i64 Of, .int .i64 To, .int .i64 I, .slice al ll cl, .string key] 53)).alloc (.cells #[.int .i64 (p a).n, .slice (p a).ao (elems (p a).n (p a).y).length (p a).cr] 42)) = W1 at *
    have hlO : w.heap.size < W1.heap.size := by omega
    have n1 := World.new_ne W1 _ s0
    have n2 := World.new_ne W1 _ s1
    have n3 := World.new_ne W1 _ s2
    go_region_held3 (fun w' => w'.cell? ⟨B, 4 + o * 2, none⟩ = some (.int .i64 (p o).n) ∧ w'.cell? ⟨B, 4 + o * 2 + 1, none⟩ = some (.slice (p o).ao (elems (p o).n (p o).y).length (p o).cr) ∧ w'.cell? ⟨w.heap.size, 2, none⟩ = some (.int .i64 Of))
      (first | exact ⟨s0, s1, s2⟩ | exact keepB3 (by assumption) bw1 | exact keepB3 ⟨s0, s1, s2⟩ bw1.drew | go_keep)
      ((go_at_call 43; refine (place_any Of _).mono ?_; rintro e w2 ⟨rfl, hw2⟩; obtain rfl := hw2.symm; clear hw2; rw [PO.out]))
    all_goals (go_wp2_with fail; go_meet)
    all_goals exact ⟨rfl, HP⟩
  case rest =>
    obtain ⟨rfl, PP⟩ := hcut
    clear N1 Q1 hbx
    have c1 := PP.out.bn.ptr ha
    have hgO : (p a).g < w.heap.size := (HLT.out a ha).2
    have hBg : B ≠ (p a).g := fun e => (set_ne (H.out.set a ha) H.out.blk (by decide) (by decide)).2 e.symm
    have hlo : w0.heap.size ≤ w.heap.size := H.out.below.size
    have c3 : wc.cell? ⟨w.heap.size, 0, none⟩ = some (.int .i64 13) := by rw [cell_of_row _ _ 0 _ 53 (0, 0) PP.out.ob]; rfl
    unfold Sl.ptr at c1
    have c2 := PP.out.bn.ptr ho
    have c4 : wc.cell? ⟨w.heap.size, 2, none⟩ = some (.int .i64 Of) := by rw [cell_of_row _ _ 2 _ 53 (0, 0) PP.out.ob]; rfl
    unfold Sl.ptr at c2
    go_wp2_with fail
    go_region_held3 (fun w' => w'.cell? ⟨B, a, none⟩ = some (.pointer (some ⟨(p a).b, 0, none⟩)) ∧ w'.cell? ⟨B, o, none⟩ = some (.pointer (some ⟨(p o).b, 0, none⟩)) ∧ w'.cell? ⟨w.heap.size, 2, none⟩ = some (.int .i64 Of))
      (first | exact ⟨c1, c2, c4⟩ | exact keepB3 (by assumption) dX | go_keep)
      (first
        | (go_at_call 43; refine (place_any Of _).mono ?_; rintro e w2 ⟨rfl, hw2⟩; obtain rfl := hw2.symm; clear hw2; rw [PO.out])
        | (go_at_call 9; refine (bn_join_no (w0 := w0) (B := B) (p := p) (by exact PP.out.bn.on (Below.refl _ _).drew) ha ho HN.out).mono ?_; rintro e wX ⟨rfl, dX⟩))
    rename_i hS
    have r1 : wX.heap[w.heap.size + 1]? = some (.cells #[.int .i64 (p a).n, .slice (p a).ao (elems (p a).n (p a).y).length (p a).cr] 42 (0, 0)) := radd_res (by exact PP.out.rb) dX
    have r2 : wX.heap[w.heap.size + 1 + 1]? = some (.cells #[.int .i64 (p o).n, .slice (p o).ao (elems (p o).n (p o).y).length (p o).cr] 42 (0, 0)) := radd_res (by exact PP.out.ub) dX
    have bX : Bn w0 B p wX := (PP.out.bn.on (Below.refl _ _).drew).on dX
    have d0 : wX.cell? ⟨w.heap.size + 1, 0, none⟩ = some (.int .i64 (p a).n) := by rw [cell_of_row _ _ 0 _ 42 (0, 0) r1]; rfl
    have d1 : wX.cell? ⟨w.heap.size + 1, 1, none⟩ = some (.slice (p a).ao (elems (p a).n (p a).y).length (p a).cr) := by rw [cell_of_row _ _ 1 _ 42 (0, 0) r1]; rfl
    have d2 : wX.cell? ⟨w.heap.size + 1 + 1, 0, none⟩ = some (.int .i64 (p o).n) := by rw [cell_of_row _ _ 0 _ 42 (0, 0) r2]; rfl
    have d3 : wX.cell? ⟨w.heap.size + 1 + 1, 1, none⟩ = some (.slice (p o).ao (elems (p o).n (p o).y).length (p o).cr) := by rw [cell_of_row _ _ 1 _ 42 (0, 0) r2]; rfl
    rw [HOK.out a ha] at d1 r1
    have R1 := hide r1
    have BX := hide bX
    clear hS r1 r2 bX dX c1 c2 c3 c4 PP
    go_wp2_with fail
    refine (runion_bad (p a).n (p o).n _ _ _ HN.out).mono ?_
    rintro e w3 ⟨rfl, hb3⟩
    have r3 := radd_res R1.out hb3
    have b3' := BX.out.on hb3
    obtain ⟨BB, h4, kr⟩ := b3'.box w0 (u0 := .int .i64 0) (u1 := .slice none 0 0) r3 (by omega)
    have e0 : w3.cell? ⟨w.heap.size + 1, 0, none⟩ = some (.int .i64 (p a).n) := by rw [cell_of_row _ _ 0 _ 42 (0, 0) r3]; rfl
    have e1 : w3.cell? ⟨w.heap.size + 1, 1, none⟩ = some (.slice (p a).ao (elems (p a).n (p a).X).length (p a).cr) := by rw [cell_of_row _ _ 1 _ 42 (0, 0) r3]; rfl
    have f0 := frozen_of_row w3 (w.heap.size + 1) 0 _ 42 r3
    have f1 := frozen_of_row w3 (w.heap.size + 1) 1 _ 42 r3
    have FIN := hide BB
    clear hb3 r3 b3' BB h4 kr d0 d1 d2 d3 R1 BX
    go_wp2
    go_ret
    exact ⟨rfl, p, HOK.out, FIN.out⟩

set_option maxRecDepth 100000 in
set_option maxHeartbeats 4000000 in
theorem changes_cut_ok (w0 w : World) (B : Nat) (p : Nat → Sl) (At Of To I : Int) (al : Option Addr) (ll cl : Nat) (key : ByteArray) (h : Bn w0 B p w) (hok : Ok4 p) (hn : (p (plc At)).n = (p (plc Of)).n) :
    Calls Tryd.prog 45 #[.pointer (some ⟨B, 0, none⟩), .agg #[.int .i64 14, .int .i64 At, .int .i64 Of, .int .i64 To, .int .i64 I, .slice al ll cl, .string key]] w fun e w' => e = .returned (.bool true) ∧ ∃ p', Ok4 p' ∧ Bn w0 B p' w' := by
  have ha := plc_lt At
  have ho := plc_lt Of
  generalize hA : plc At = a at *
  generalize hO : plc Of = o at *
  have PA := hide hA
  have PO := hide hO
  clear hA hO
  have HN := hide hn
  clear hn
  have hbx : Below w.heap.size w (w.alloc (.cells #[.int .i64 14, .int .i64 At, .int .i64 Of, .int .i64 To, .int .i64 I, .slice al ll cl, .string key] 53)) := bw1
  have h1 := h.on hbx
  have N1 := h1.num ha
  have Q1 := h1.sli ha
  have hB := h.blt
  have i0 : (0 : Int) ≤ (a : Int) := by omega
  have i1 : (a : Int) < 4 := by omega
  have j0 : (0 : Int) ≤ (o : Int) := by omega
  have j1 : (o : Int) < 4 := by omega
  unfold Sl.num at N1
  unfold Sl.sli at Q1
  have HOK := hide hok
  have H := hide h
  have HLT := hide h.lts
  have hnx := (h.set a ha).hn
  have HXX := hide (h.set a ha).hX
  clear h h1 hok
  go_enter Tryd.func45, Tryd.ntmps45
  go_wp2_with fail
  refine (place_any At _).mono ?_
  rintro e w1 ⟨rfl, hw1⟩
  obtain rfl := hw1.symm
  clear hw1
  rw [PA.out]
  go_wp2_with fail
  go_cut [7] (fun t7 wx => t7 = .pointer (some ⟨w.heap.size + 1 + 1, 0, none⟩) ∧ Hid (Pre w0 w B p a o #[.int .i64 14, .int .i64 At, .int .i64 Of, .int .i64 To, .int .i64 I, .slice al ll cl, .string key] wx))
  case first =>
    have HP := hide (pre_mk (a := a) (o := o) (bx := #[.int .i64 14, .int .i64 At, .int .i64 Of, .int .i64 To, .int .i64 I, .slice al ll cl, .string key]) H.out)
    have h2 := H.out.on (b2w (o0 := .cells #[.int .i64 14, .int .i64 At, .int .i64 Of, .int .i64 To, .int .i64 I, .slice al ll cl, .string key] 53) (o1 := .cells #[.int .i64 (p a).n, .slice (p a).ao (elems (p a).n (p a).y).length (p a).cr] 42))
    obtain ⟨_, q0, _⟩ := box2 (w := w) (.cells #[.int .i64 14, .int .i64 At, .int .i64 Of, .int .i64 To, .int .i64 I, .slice al ll cl, .string key] 53) (.cells #[.int .i64 (p a).n, .slice (p a).ao (elems (p a).n (p a).y).length (p a).cr] 42) (Below.refl _ _)
    have s0 := h2.num ho
    have s1 := h2.sli ho
    have s2 : ((w.alloc (.cells #[.int .i64 14, .int .i64 At, .int .i64 Of, .int .i64 To, .int .i64 I, .slice al ll cl, .string key] 53)).alloc (.cells #[.int .i64 (p a).n, .slice (p a).ao (elems (p a).n (p a).y).length (p a).cr] 42)).cell? ⟨w.heap.size, 2, none⟩ = some (.int .i64 Of) := by rw [cell_of_row _ _ 2 _ 53 (0, 0) q0]; rfl
    have hB2 : B < ((w.alloc (.cells #[.int .i64 14, .int .i64 At, .int .i64 Of, .int .i64 To, .int .i64 I, .slice al ll cl, .string key] 53)).alloc (.cells #[.int .i64 (p a).n, .slice (p a).ao (elems (p a).n (p a).y).length (p a).cr] 42)).heap.size := h2.blt
    have hzz : ((w.alloc (.cells #[.int .i64 14, .int .i64 At, .int .i64 Of, .int .i64 To, .int .i64 I, .slice al ll cl, .string key] 53)).alloc (.cells #[.int .i64 (p a).n, .slice (p a).ao (elems (p a).n (p a).y).length (p a).cr] 42)).heap.size = w.heap.size + 1 + 1 := by simp
    unfold Sl.num at s0
    unfold Sl.sli at s1
    clear h2 q0 N1 Q1
    generalize hW1 : ((w.alloc (.cells #[.int .i64 14, .int .i64 At, .int .i64 Of, .int .i64 To, .int .i64 I, .slice al ll cl, .string key] 53)).alloc (.cells #[.int .i64 (p a).n, .slice (p a).ao (elems (p a).n (p a).y).length (p a).cr] 42)) = W1 at *
    have hlO : w.heap.size < W1.heap.size := by omega
    have n1 := World.new_ne W1 _ s0
    have n2 := World.new_ne W1 _ s1
    have n3 := World.new_ne W1 _ s2
    go_region_held3 (fun w' => w'.cell? ⟨B, 4 + o * 2, none⟩ = some (.int .i64 (p o).n) ∧ w'.cell? ⟨B, 4 + o * 2 + 1, none⟩ = some (.slice (p o).ao (elems (p o).n (p o).y).length (p o).cr) ∧ w'.cell? ⟨w.heap.size, 2, none⟩ = some (.int .i64 Of))
      (first | exact ⟨s0, s1, s2⟩ | exact keepB3 (by assumption) bw1 | exact keepB3 ⟨s0, s1, s2⟩ bw1.drew | go_keep)
      ((go_at_call 43; refine (place_any Of _).mono ?_; rintro e w2 ⟨rfl, hw2⟩; obtain rfl := hw2.symm; clear hw2; rw [PO.out]))
    all_goals (go_wp2_with fail; go_meet)
    all_goals exact ⟨rfl, HP⟩
  case rest =>
    obtain ⟨rfl, PP⟩ := hcut
    clear N1 Q1 hbx
    have c1 := PP.out.bn.ptr ha
    have hgO : (p a).g < w.heap.size := (HLT.out a ha).2
    have hBg : B ≠ (p a).g := fun e => (set_ne (H.out.set a ha) H.out.blk (by decide) (by decide)).2 e.symm
    have hlo : w0.heap.size ≤ w.heap.size := H.out.below.size
    have c3 : wc.cell? ⟨w.heap.size, 0, none⟩ = some (.int .i64 14) := by rw [cell_of_row _ _ 0 _ 53 (0, 0) PP.out.ob]; rfl
    unfold Sl.ptr at c1
    have c2 := PP.out.bn.ptr ho
    have c4 : wc.cell? ⟨w.heap.size, 2, none⟩ = some (.int .i64 Of) := by rw [cell_of_row _ _ 2 _ 53 (0, 0) PP.out.ob]; rfl
    unfold Sl.ptr at c2
    go_wp2_with fail
    go_region_held3 (fun w' => w'.cell? ⟨B, a, none⟩ = some (.pointer (some ⟨(p a).b, 0, none⟩)) ∧ w'.cell? ⟨B, o, none⟩ = some (.pointer (some ⟨(p o).b, 0, none⟩)) ∧ w'.cell? ⟨w.heap.size, 2, none⟩ = some (.int .i64 Of))
      (first | exact ⟨c1, c2, c4⟩ | exact keepG3 (by assumption) dX hBg hBg (by show w.heap.size ≠ _; omega) | go_keep)
      (first
        | (go_at_call 43; refine (place_any Of _).mono ?_; rintro e w2 ⟨rfl, hw2⟩; obtain rfl := hw2.symm; clear hw2; rw [PO.out])
        | (go_at_call 10; refine (bn_cut_ok (w0 := w0) (B := B) (p := p) (by exact PP.out.bn.on (Below.refl _ _).drew) ha ho HN.out).mono ?_; rintro e wX ⟨rfl, bX, dX⟩))
    rename_i hS
    have r1 : wX.heap[w.heap.size + 1]? = some (.cells #[.int .i64 (p a).n, .slice (p a).ao (elems (p a).n (p a).y).length (p a).cr] 42 (0, 0)) := grown_blk (by exact PP.out.rb) dX (by omega)
    have r2 : wX.heap[w.heap.size + 1 + 1]? = some (.cells #[.int .i64 (p o).n, .slice (p o).ao (elems (p o).n (p o).y).length (p o).cr] 42 (0, 0)) := grown_blk (by exact PP.out.ub) dX (by omega)
    skip
    have d0 : wX.cell? ⟨w.heap.size + 1, 0, none⟩ = some (.int .i64 (p a).n) := by rw [cell_of_row _ _ 0 _ 42 (0, 0) r1]; rfl
    have d1 : wX.cell? ⟨w.heap.size + 1, 1, none⟩ = some (.slice (p a).ao (elems (p a).n (p a).y).length (p a).cr) := by rw [cell_of_row _ _ 1 _ 42 (0, 0) r1]; rfl
    have d2 : wX.cell? ⟨w.heap.size + 1 + 1, 0, none⟩ = some (.int .i64 (p o).n) := by rw [cell_of_row _ _ 0 _ 42 (0, 0) r2]; rfl
    have d3 : wX.cell? ⟨w.heap.size + 1 + 1, 1, none⟩ = some (.slice (p o).ao (elems (p o).n (p o).y).length (p o).cr) := by rw [cell_of_row _ _ 1 _ 42 (0, 0) r2]; rfl
    have hrA : Row3 wX (p a).ao (elems (p a).n (p a).X) := by
      have := bX.rowX a ha
      rwa [HOK.out a ha] at this
    have hrB : Row3 wX (p o).ao (elems (p a).n (p o).X) := by
      have := bX.rowX o ho
      rwa [HOK.out o ho, ← HN.out] at this
    rw [HOK.out a ha] at d1 r1
    rw [HOK.out o ho, ← HN.out] at d3
    rw [← HN.out] at d2
    have R1 := hide r1
    have BX := hide bX
    have HRA := hide hrA
    have HRB := hide hrB
    clear hS r1 r2 bX hrA hrB dX c1 c2 c3 c4 PP
    go_wp2_with fail
    refine (rmeet_any (p a).n (p a).X (p o).X (p a).ao (p o).ao (p a).cr (p o).cr _ hnx HRA.out HRB.out).mono ?_
    rintro e w3 ⟨ao3, cap3, rfl, hr3, hb3⟩
    have r3 := radd_res R1.out hb3
    have b3' := BX.out.on hb3
    obtain ⟨BB, h4, kr⟩ := b3'.box w0 (u0 := .int .i64 (p a).n) (u1 := .slice ao3 (elems (p a).n ((p a).X &&& (p o).X)).length cap3) r3 (by omega)
    have e0 : w3.cell? ⟨w.heap.size + 1, 0, none⟩ = some (.int .i64 (p a).n) := by rw [cell_of_row _ _ 0 _ 42 (0, 0) r3]; rfl
    have e1 : w3.cell? ⟨w.heap.size + 1, 1, none⟩ = some (.slice (p a).ao (elems (p a).n (p a).X).length (p a).cr) := by rw [cell_of_row _ _ 1 _ 42 (0, 0) r3]; rfl
    have f0 := frozen_of_row w3 (w.heap.size + 1) 0 _ 42 r3
    have f1 := frozen_of_row w3 (w.heap.size + 1) 1 _ 42 r3
    have HR4 := hide (kr _ _ hr3)
    have g0 : ((w3.setCell ⟨w.heap.size + 1, 0, none⟩ (.int .i64 (p a).n)).setCell ⟨w.heap.size + 1, 1, none⟩ (.slice ao3 (elems (p a).n ((p a).X &&& (p o).X)).length cap3)).cell? ⟨w.heap.size + 1, 0, none⟩ = some (.int .i64 (p a).n) := by rw [cell_of_row _ _ 0 _ 42 (0, 0) h4]; rfl
    have g1 : ((w3.setCell ⟨w.heap.size + 1, 0, none⟩ (.int .i64 (p a).n)).setCell ⟨w.heap.size + 1, 1, none⟩ (.slice ao3 (elems (p a).n ((p a).X &&& (p o).X)).length cap3)).cell? ⟨w.heap.size + 1, 1, none⟩ = some (.slice ao3 (elems (p a).n ((p a).X &&& (p o).X)).length cap3) := by rw [cell_of_row _ _ 1 _ 42 (0, 0) h4]; rfl
    have g2 := BB.num ha
    have g3 := BB.sli ha
    have g4 := BB.fz (4 + a * 2)
    have g5 := BB.fz (4 + a * 2 + 1)
    rw [upd_same] at g2 g3
    unfold Sl.num at g2
    unfold Sl.sli at g3
    dsimp only at g2 g3
    have hlB := BB.blt
    have FIN := hide (BB.putR (y := (p a).X &&& (p o).X) (ao := ao3) (cr := cap3) ha (by rw [upd_same]) HR4.out)
    have hBO : B ≠ w.heap.size + 1 := by omega
    have G0 := hide (And.intro g0 (And.intro g1 (And.intro g2 (And.intro g3 (And.intro g4 (And.intro g5 hlB))))))
    clear hb3 b3' r3 BB h4 kr hr3 g0 g1 g2 g3 g4 g5 hlB
    go_wp2_with fail
    obtain ⟨g0, g1, g2, g3, g4, g5, hlB⟩ := G0.out
    clear G0
    skip
    generalize hW4 : ((w3.setCell ⟨w.heap.size + 1, 0, none⟩ (.int .i64 (p a).n)).setCell ⟨w.heap.size + 1, 1, none⟩ (.slice ao3 (elems (p a).n ((p a).X &&& (p o).X)).length cap3)) = W4 at *
    clear hW4
    go_region
    go_wp2
    go_ret
    exact ⟨rfl, _, ok_up2 HOK.out, FIN.out.on (Below.refl _ _).drew⟩

set_option maxRecDepth 100000 in
set_option maxHeartbeats 4000000 in
theorem changes_cut_no (w0 w : World) (B : Nat) (p : Nat → Sl) (At Of To I : Int) (al : Option Addr) (ll cl : Nat) (key : ByteArray) (h : Bn w0 B p w) (hok : Ok4 p) (hn : (p (plc At)).n ≠ (p (plc Of)).n) :
    Calls Tryd.prog 45 #[.pointer (some ⟨B, 0, none⟩), .agg #[.int .i64 14, .int .i64 At, .int .i64 Of, .int .i64 To, .int .i64 I, .slice al ll cl, .string key]] w fun e w' => e = .returned (.bool true) ∧ ∃ p', Ok4 p' ∧ Bn w0 B p' w' := by
  have ha := plc_lt At
  have ho := plc_lt Of
  generalize hA : plc At = a at *
  generalize hO : plc Of = o at *
  have PA := hide hA
  have PO := hide hO
  clear hA hO
  have HN := hide hn
  clear hn
  have hbx : Below w.heap.size w (w.alloc (.cells #[.int .i64 14, .int .i64 At, .int .i64 Of, .int .i64 To, .int .i64 I, .slice al ll cl, .string key] 53)) := bw1
  have h1 := h.on hbx
  have N1 := h1.num ha
  have Q1 := h1.sli ha
  have hB := h.blt
  have i0 : (0 : Int) ≤ (a : Int) := by omega
  have i1 : (a : Int) < 4 := by omega
  have j0 : (0 : Int) ≤ (o : Int) := by omega
  have j1 : (o : Int) < 4 := by omega
  unfold Sl.num at N1
  unfold Sl.sli at Q1
  have HOK := hide hok
  have H := hide h
  have HLT := hide h.lts
  have hnx := (h.set a ha).hn
  have HXX := hide (h.set a ha).hX
  clear h h1 hok
  go_enter Tryd.func45, Tryd.ntmps45
  go_wp2_with fail
  refine (place_any At _).mono ?_
  rintro e w1 ⟨rfl, hw1⟩
  obtain rfl := hw1.symm
  clear hw1
  rw [PA.out]
  go_wp2_with fail
  go_cut [7] (fun t7 wx => t7 = .pointer (some ⟨w.heap.size + 1 + 1, 0, none⟩) ∧ Hid (Pre w0 w B p a o #[.int .i64 14, .int .i64 At, .int .i64 Of, .int .i64 To, .int .i64 I, .slice al ll cl, .string key] wx))
  case first =>
    have HP := hide (pre_mk (a := a) (o := o) (bx := #[.int .i64 14, .int .i64 At, .int .i64 Of, .int .i64 To, .int .i64 I, .slice al ll cl, .string key]) H.out)
    have h2 := H.out.on (b2w (o0 := .cells #[.int .i64 14, .int .i64 At, .int .i64 Of, .int .i64 To, .int .i64 I, .slice al ll cl, .string key] 53) (o1 := .cells #[.int .i64 (p a).n, .slice (p a).ao (elems (p a).n (p a).y).length (p a).cr] 42))
    obtain ⟨_, q0, _⟩ := box2 (w := w) (.cells #[.int .i64 14, .int .i64 At, .int .i64 Of, .int .i64 To, .int .i64 I, .slice al ll cl, .string key] 53) (.cells #[.int .i64 (p a).n, .slice (p a).ao (elems (p a).n (p a).y).length (p a).cr] 42) (Below.refl _ _)
    have s0 := h2.num ho
    have s1 := h2.sli ho
    have s2 : ((w.alloc (.cells #[.int .i64 14, .int .i64 At, .int .i64 Of, .int .i64 To, .int .i64 I, .slice al ll cl, .string key] 53)).alloc (.cells #[.int .i64 (p a).n, .slice (p a).ao (elems (p a).n (p a).y).length (p a).cr] 42)).cell? ⟨w.heap.size, 2, none⟩ = some (.int .i64 Of) := by rw [cell_of_row _ _ 2 _ 53 (0, 0) q0]; rfl
    have hB2 : B < ((w.alloc (.cells #[.int .i64 14, .int .i64 At, .int .i64 Of, .int .i64 To, .int .i64 I, .slice al ll cl, .string key] 53)).alloc (.cells #[.int .i64 (p a).n, .slice (p a).ao (elems (p a).n (p a).y).length (p a).cr] 42)).heap.size := h2.blt
    have hzz : ((w.alloc (.cells #[.int .i64 14, .int .i64 At, .int .i64 Of, .int .i64 To, .int .i64 I, .slice al ll cl, .string key] 53)).alloc (.cells #[.int .i64 (p a).n, .slice (p a).ao (elems (p a).n (p a).y).length (p a).cr] 42)).heap.size = w.heap.size + 1 + 1 := by simp
    unfold Sl.num at s0
    unfold Sl.sli at s1
    clear h2 q0 N1 Q1
    generalize hW1 : ((w.alloc (.cells #[.int .i64 14, .int .i64 At, .int .i64 Of, .int .i64 To, .int .i64 I, .slice al ll cl, .string key] 53)).alloc (.cells #[.int .i64 (p a).n, .slice (p a).ao (elems (p a).n (p a).y).length (p a).cr] 42)) = W1 at *
    have hlO : w.heap.size < W1.heap.size := by omega
    have n1 := World.new_ne W1 _ s0
    have n2 := World.new_ne W1 _ s1
    have n3 := World.new_ne W1 _ s2
    go_region_held3 (fun w' => w'.cell? ⟨B, 4 + o * 2, none⟩ = some (.int .i64 (p o).n) ∧ w'.cell? ⟨B, 4 + o * 2 + 1, none⟩ = some (.slice (p o).ao (elems (p o).n (p o).y).length (p o).cr) ∧ w'.cell? ⟨w.heap.size, 2, none⟩ = some (.int .i64 Of))
      (first | exact ⟨s0, s1, s2⟩ | exact keepB3 (by assumption) bw1 | exact keepB3 ⟨s0, s1, s2⟩ bw1.drew | go_keep)
      ((go_at_call 43; refine (place_any Of _).mono ?_; rintro e w2 ⟨rfl, hw2⟩; obtain rfl := hw2.symm; clear hw2; rw [PO.out]))
    all_goals (go_wp2_with fail; go_meet)
    all_goals exact ⟨rfl, HP⟩
  case rest =>
    obtain ⟨rfl, PP⟩ := hcut
    clear N1 Q1 hbx
    have c1 := PP.out.bn.ptr ha
    have hgO : (p a).g < w.heap.size := (HLT.out a ha).2
    have hBg : B ≠ (p a).g := fun e => (set_ne (H.out.set a ha) H.out.blk (by decide) (by decide)).2 e.symm
    have hlo : w0.heap.size ≤ w.heap.size := H.out.below.size
    have c3 : wc.cell? ⟨w.heap.size, 0, none⟩ = some (.int .i64 14) := by rw [cell_of_row _ _ 0 _ 53 (0, 0) PP.out.ob]; rfl
    unfold Sl.ptr at c1
    have c2 := PP.out.bn.ptr ho
    have c4 : wc.cell? ⟨w.heap.size, 2, none⟩ = some (.int .i64 Of) := by rw [cell_of_row _ _ 2 _ 53 (0, 0) PP.out.ob]; rfl
    unfold Sl.ptr at c2
    go_wp2_with fail
    go_region_held3 (fun w' => w'.cell? ⟨B, a, none⟩ = some (.pointer (some ⟨(p a).b, 0, none⟩)) ∧ w'.cell? ⟨B, o, none⟩ = some (.pointer (some ⟨(p o).b, 0, none⟩)) ∧ w'.cell? ⟨w.heap.size, 2, none⟩ = some (.int .i64 Of))
      (first | exact ⟨c1, c2, c4⟩ | exact keepB3 (by assumption) dX | go_keep)
      (first
        | (go_at_call 43; refine (place_any Of _).mono ?_; rintro e w2 ⟨rfl, hw2⟩; obtain rfl := hw2.symm; clear hw2; rw [PO.out])
        | (go_at_call 10; refine (bn_cut_no (w0 := w0) (B := B) (p := p) (by exact PP.out.bn.on (Below.refl _ _).drew) ha ho HN.out).mono ?_; rintro e wX ⟨rfl, dX⟩))
    rename_i hS
    have r1 : wX.heap[w.heap.size + 1]? = some (.cells #[.int .i64 (p a).n, .slice (p a).ao (elems (p a).n (p a).y).length (p a).cr] 42 (0, 0)) := radd_res (by exact PP.out.rb) dX
    have r2 : wX.heap[w.heap.size + 1 + 1]? = some (.cells #[.int .i64 (p o).n, .slice (p o).ao (elems (p o).n (p o).y).length (p o).cr] 42 (0, 0)) := radd_res (by exact PP.out.ub) dX
    have bX : Bn w0 B p wX := (PP.out.bn.on (Below.refl _ _).drew).on dX
    have d0 : wX.cell? ⟨w.heap.size + 1, 0, none⟩ = some (.int .i64 (p a).n) := by rw [cell_of_row _ _ 0 _ 42 (0, 0) r1]; rfl
    have d1 : wX.cell? ⟨w.heap.size + 1, 1, none⟩ = some (.slice (p a).ao (elems (p a).n (p a).y).length (p a).cr) := by rw [cell_of_row _ _ 1 _ 42 (0, 0) r1]; rfl
    have d2 : wX.cell? ⟨w.heap.size + 1 + 1, 0, none⟩ = some (.int .i64 (p o).n) := by rw [cell_of_row _ _ 0 _ 42 (0, 0) r2]; rfl
    have d3 : wX.cell? ⟨w.heap.size + 1 + 1, 1, none⟩ = some (.slice (p o).ao (elems (p o).n (p o).y).length (p o).cr) := by rw [cell_of_row _ _ 1 _ 42 (0, 0) r2]; rfl
    rw [HOK.out a ha] at d1 r1
    have R1 := hide r1
    have BX := hide bX
    clear hS r1 r2 bX dX c1 c2 c3 c4 PP
    go_wp2_with fail
    refine (rmeet_bad (p a).n (p o).n _ _ _ HN.out).mono ?_
    rintro e w3 ⟨rfl, hb3⟩
    have r3 := radd_res R1.out hb3
    have b3' := BX.out.on hb3
    obtain ⟨BB, h4, kr⟩ := b3'.box w0 (u0 := .int .i64 0) (u1 := .slice none 0 0) r3 (by omega)
    have e0 : w3.cell? ⟨w.heap.size + 1, 0, none⟩ = some (.int .i64 (p a).n) := by rw [cell_of_row _ _ 0 _ 42 (0, 0) r3]; rfl
    have e1 : w3.cell? ⟨w.heap.size + 1, 1, none⟩ = some (.slice (p a).ao (elems (p a).n (p a).X).length (p a).cr) := by rw [cell_of_row _ _ 1 _ 42 (0, 0) r3]; rfl
    have f0 := frozen_of_row w3 (w.heap.size + 1) 0 _ 42 r3
    have f1 := frozen_of_row w3 (w.heap.size + 1) 1 _ 42 r3
    have FIN := hide BB
    clear hb3 r3 b3' BB h4 kr d0 d1 d2 d3 R1 BX
    go_wp2
    go_ret
    exact ⟨rfl, p, HOK.out, FIN.out⟩

set_option maxRecDepth 100000 in
set_option maxHeartbeats 4000000 in
theorem changes_drop_ok (w0 w : World) (B : Nat) (p : Nat → Sl) (At Of To I : Int) (al : Option Addr) (ll cl : Nat) (key : ByteArray) (h : Bn w0 B p w) (hok : Ok4 p) (hn : (p (plc At)).n = (p (plc Of)).n) :
    Calls Tryd.prog 45 #[.pointer (some ⟨B, 0, none⟩), .agg #[.int .i64 15, .int .i64 At, .int .i64 Of, .int .i64 To, .int .i64 I, .slice al ll cl, .string key]] w fun e w' => e = .returned (.bool true) ∧ ∃ p', Ok4 p' ∧ Bn w0 B p' w' := by
  have ha := plc_lt At
  have ho := plc_lt Of
  generalize hA : plc At = a at *
  generalize hO : plc Of = o at *
  have PA := hide hA
  have PO := hide hO
  clear hA hO
  have HN := hide hn
  clear hn
  have hbx : Below w.heap.size w (w.alloc (.cells #[.int .i64 15, .int .i64 At, .int .i64 Of, .int .i64 To, .int .i64 I, .slice al ll cl, .string key] 53)) := bw1
  have h1 := h.on hbx
  have N1 := h1.num ha
  have Q1 := h1.sli ha
  have hB := h.blt
  have i0 : (0 : Int) ≤ (a : Int) := by omega
  have i1 : (a : Int) < 4 := by omega
  have j0 : (0 : Int) ≤ (o : Int) := by omega
  have j1 : (o : Int) < 4 := by omega
  unfold Sl.num at N1
  unfold Sl.sli at Q1
  have HOK := hide hok
  have H := hide h
  have HLT := hide h.lts
  have hnx := (h.set a ha).hn
  have HXX := hide (h.set a ha).hX
  clear h h1 hok
  go_enter Tryd.func45, Tryd.ntmps45
  go_wp2_with fail
  refine (place_any At _).mono ?_
  rintro e w1 ⟨rfl, hw1⟩
  obtain rfl := hw1.symm
  clear hw1
  rw [PA.out]
  go_wp2_with fail
  go_cut [7] (fun t7 wx => t7 = .pointer (some ⟨w.heap.size + 1 + 1, 0, none⟩) ∧ Hid (Pre w0 w B p a o #[.int .i64 15, .int .i64 At, .int .i64 Of, .int .i64 To, .int .i64 I, .slice al ll cl, .string key] wx))
  case first =>
    have HP := hide (pre_mk (a := a) (o := o) (bx := #[.int .i64 15, .int .i64 At, .int .i64 Of, .int .i64 To, .int .i64 I, .slice al ll cl, .string key]) H.out)
    have h2 := H.out.on (b2w (o0 := .cells #[.int .i64 15, .int .i64 At, .int .i64 Of, .int .i64 To, .int .i64 I, .slice al ll cl, .string key] 53) (o1 := .cells #[.int .i64 (p a).n, .slice (p a).ao (elems (p a).n (p a).y).length (p a).cr] 42))
    obtain ⟨_, q0, _⟩ := box2 (w := w) (.cells #[.int .i64 15, .int .i64 At, .int .i64 Of, .int .i64 To, .int .i64 I, .slice al ll cl, .string key] 53) (.cells #[.int .i64 (p a).n, .slice (p a).ao (elems (p a).n (p a).y).length (p a).cr] 42) (Below.refl _ _)
    have s0 := h2.num ho
    have s1 := h2.sli ho
    have s2 : ((w.alloc (.cells #[.int .i64 15, .int .i64 At, .int .i64 Of, .int .i64 To, .int .i64 I, .slice al ll cl, .string key] 53)).alloc (.cells #[.int .i64 (p a).n, .slice (p a).ao (elems (p a).n (p a).y).length (p a).cr] 42)).cell? ⟨w.heap.size, 2, none⟩ = some (.int .i64 Of) := by rw [cell_of_row _ _ 2 _ 53 (0, 0) q0]; rfl
    have hB2 : B < ((w.alloc (.cells #[.int .i64 15, .int .i64 At, .int .i64 Of, .int .i64 To, .int .i64 I, .slice al ll cl, .string key] 53)).alloc (.cells #[.int .i64 (p a).n, .slice (p a).ao (elems (p a).n (p a).y).length (p a).cr] 42)).heap.size := h2.blt
    have hzz : ((w.alloc (.cells #[.int .i64 15, .int .i64 At, .int .i64 Of, .int .i64 To, .int .i64 I, .slice al ll cl, .string key] 53)).alloc (.cells #[.int .i64 (p a).n, .slice (p a).ao (elems (p a).n (p a).y).length (p a).cr] 42)).heap.size = w.heap.size + 1 + 1 := by simp
    unfold Sl.num at s0
    unfold Sl.sli at s1
    clear h2 q0 N1 Q1
    generalize hW1 : ((w.alloc (.cells #[.int .i64 15, .int .i64 At, .int .i64 Of, .int .i64 To, .int .i64 I, .slice al ll cl, .string key] 53)).alloc (.cells #[.int .i64 (p a).n, .slice (p a).ao (elems (p a).n (p a).y).length (p a).cr] 42)) = W1 at *
    have hlO : w.heap.size < W1.heap.size := by omega
    have n1 := World.new_ne W1 _ s0
    have n2 := World.new_ne W1 _ s1
    have n3 := World.new_ne W1 _ s2
    go_region_held3 (fun w' => w'.cell? ⟨B, 4 + o * 2, none⟩ = some (.int .i64 (p o).n) ∧ w'.cell? ⟨B, 4 + o * 2 + 1, none⟩ = some (.slice (p o).ao (elems (p o).n (p o).y).length (p o).cr) ∧ w'.cell? ⟨w.heap.size, 2, none⟩ = some (.int .i64 Of))
      (first | exact ⟨s0, s1, s2⟩ | exact keepB3 (by assumption) bw1 | exact keepB3 ⟨s0, s1, s2⟩ bw1.drew | go_keep)
      ((go_at_call 43; refine (place_any Of _).mono ?_; rintro e w2 ⟨rfl, hw2⟩; obtain rfl := hw2.symm; clear hw2; rw [PO.out]))
    all_goals (go_wp2_with fail; go_meet)
    all_goals exact ⟨rfl, HP⟩
  case rest =>
    obtain ⟨rfl, PP⟩ := hcut
    clear N1 Q1 hbx
    have c1 := PP.out.bn.ptr ha
    have hgO : (p a).g < w.heap.size := (HLT.out a ha).2
    have hBg : B ≠ (p a).g := fun e => (set_ne (H.out.set a ha) H.out.blk (by decide) (by decide)).2 e.symm
    have hlo : w0.heap.size ≤ w.heap.size := H.out.below.size
    have c3 : wc.cell? ⟨w.heap.size, 0, none⟩ = some (.int .i64 15) := by rw [cell_of_row _ _ 0 _ 53 (0, 0) PP.out.ob]; rfl
    unfold Sl.ptr at c1
    have c2 := PP.out.bn.ptr ho
    have c4 : wc.cell? ⟨w.heap.size, 2, none⟩ = some (.int .i64 Of) := by rw [cell_of_row _ _ 2 _ 53 (0, 0) PP.out.ob]; rfl
    unfold Sl.ptr at c2
    go_wp2_with fail
    go_region_held3 (fun w' => w'.cell? ⟨B, a, none⟩ = some (.pointer (some ⟨(p a).b, 0, none⟩)) ∧ w'.cell? ⟨B, o, none⟩ = some (.pointer (some ⟨(p o).b, 0, none⟩)) ∧ w'.cell? ⟨w.heap.size, 2, none⟩ = some (.int .i64 Of))
      (first | exact ⟨c1, c2, c4⟩ | exact keepG3 (by assumption) dX hBg hBg (by show w.heap.size ≠ _; omega) | go_keep)
      (first
        | (go_at_call 43; refine (place_any Of _).mono ?_; rintro e w2 ⟨rfl, hw2⟩; obtain rfl := hw2.symm; clear hw2; rw [PO.out])
        | (go_at_call 11; refine (bn_drop_ok (w0 := w0) (B := B) (p := p) (by exact PP.out.bn.on (Below.refl _ _).drew) ha ho HN.out).mono ?_; rintro e wX ⟨rfl, bX, dX⟩))
    rename_i hS
    have r1 : wX.heap[w.heap.size + 1]? = some (.cells #[.int .i64 (p a).n, .slice (p a).ao (elems (p a).n (p a).y).length (p a).cr] 42 (0, 0)) := grown_blk (by exact PP.out.rb) dX (by omega)
    have r2 : wX.heap[w.heap.size + 1 + 1]? = some (.cells #[.int .i64 (p o).n, .slice (p o).ao (elems (p o).n (p o).y).length (p o).cr] 42 (0, 0)) := grown_blk (by exact PP.out.ub) dX (by omega)
    skip
    have d0 : wX.cell? ⟨w.heap.size + 1, 0, none⟩ = some (.int .i64 (p a).n) := by rw [cell_of_row _ _ 0 _ 42 (0, 0) r1]; rfl
    have d1 : wX.cell? ⟨w.heap.size + 1, 1, none⟩ = some (.slice (p a).ao (elems (p a).n (p a).y).length (p a).cr) := by rw [cell_of_row _ _ 1 _ 42 (0, 0) r1]; rfl
    have d2 : wX.cell? ⟨w.heap.size + 1 + 1, 0, none⟩ = some (.int .i64 (p o).n) := by rw [cell_of_row _ _ 0 _ 42 (0, 0) r2]; rfl
    have d3 : wX.cell? ⟨w.heap.size + 1 + 1, 1, none⟩ = some (.slice (p o).ao (elems (p o).n (p o).y).length (p o).cr) := by rw [cell_of_row _ _ 1 _ 42 (0, 0) r2]; rfl
    have hrA : Row3 wX (p a).ao (elems (p a).n (p a).X) := by
      have := bX.rowX a ha
      rwa [HOK.out a ha] at this
    have hrB : Row3 wX (p o).ao (elems (p a).n (p o).X) := by
      have := bX.rowX o ho
      rwa [HOK.out o ho, ← HN.out] at this
    rw [HOK.out a ha] at d1 r1
    rw [HOK.out o ho, ← HN.out] at d3
    rw [← HN.out] at d2
    have R1 := hide r1
    have BX := hide bX
    have HRA := hide hrA
    have HRB := hide hrB
    clear hS r1 r2 bX hrA hrB dX c1 c2 c3 c4 PP
    go_wp2_with fail
    refine (rminus_any (p a).n (p a).X (p o).X (p a).ao (p o).ao (p a).cr (p o).cr _ hnx HRA.out HRB.out).mono ?_
    rintro e w3 ⟨ao3, cap3, rfl, hr3, hb3⟩
    have r3 := radd_res R1.out hb3
    have b3' := BX.out.on hb3
    obtain ⟨BB, h4, kr⟩ := b3'.box w0 (u0 := .int .i64 (p a).n) (u1 := .slice ao3 (elems (p a).n (minusN (p a).X (p o).X)).length cap3) r3 (by omega)
    have e0 : w3.cell? ⟨w.heap.size + 1, 0, none⟩ = some (.int .i64 (p a).n) := by rw [cell_of_row _ _ 0 _ 42 (0, 0) r3]; rfl
    have e1 : w3.cell? ⟨w.heap.size + 1, 1, none⟩ = some (.slice (p a).ao (elems (p a).n (p a).X).length (p a).cr) := by rw [cell_of_row _ _ 1 _ 42 (0, 0) r3]; rfl
    have f0 := frozen_of_row w3 (w.heap.size + 1) 0 _ 42 r3
    have f1 := frozen_of_row w3 (w.heap.size + 1) 1 _ 42 r3
    have HR4 := hide (kr _ _ hr3)
    have g0 : ((w3.setCell ⟨w.heap.size + 1, 0, none⟩ (.int .i64 (p a).n)).setCell ⟨w.heap.size + 1, 1, none⟩ (.slice ao3 (elems (p a).n (minusN (p a).X (p o).X)).length cap3)).cell? ⟨w.heap.size + 1, 0, none⟩ = some (.int .i64 (p a).n) := by rw [cell_of_row _ _ 0 _ 42 (0, 0) h4]; rfl
    have g1 : ((w3.setCell ⟨w.heap.size + 1, 0, none⟩ (.int .i64 (p a).n)).setCell ⟨w.heap.size + 1, 1, none⟩ (.slice ao3 (elems (p a).n (minusN (p a).X (p o).X)).length cap3)).cell? ⟨w.heap.size + 1, 1, none⟩ = some (.slice ao3 (elems (p a).n (minusN (p a).X (p o).X)).length cap3) := by rw [cell_of_row _ _ 1 _ 42 (0, 0) h4]; rfl
    have g2 := BB.num ha
    have g3 := BB.sli ha
    have g4 := BB.fz (4 + a * 2)
    have g5 := BB.fz (4 + a * 2 + 1)
    rw [upd_same] at g2 g3
    unfold Sl.num at g2
    unfold Sl.sli at g3
    dsimp only at g2 g3
    have hlB := BB.blt
    have FIN := hide (BB.putR (y := minusN (p a).X (p o).X) (ao := ao3) (cr := cap3) ha (by rw [upd_same]) HR4.out)
    have hBO : B ≠ w.heap.size + 1 := by omega
    have G0 := hide (And.intro g0 (And.intro g1 (And.intro g2 (And.intro g3 (And.intro g4 (And.intro g5 hlB))))))
    clear hb3 b3' r3 BB h4 kr hr3 g0 g1 g2 g3 g4 g5 hlB
    go_wp2_with fail
    obtain ⟨g0, g1, g2, g3, g4, g5, hlB⟩ := G0.out
    clear G0
    skip
    generalize hW4 : ((w3.setCell ⟨w.heap.size + 1, 0, none⟩ (.int .i64 (p a).n)).setCell ⟨w.heap.size + 1, 1, none⟩ (.slice ao3 (elems (p a).n (minusN (p a).X (p o).X)).length cap3)) = W4 at *
    clear hW4
    go_region
    go_wp2
    go_ret
    exact ⟨rfl, _, ok_up2 HOK.out, FIN.out.on (Below.refl _ _).drew⟩

set_option maxRecDepth 100000 in
set_option maxHeartbeats 4000000 in
theorem changes_drop_no (w0 w : World) (B : Nat) (p : Nat → Sl) (At Of To I : Int) (al : Option Addr) (ll cl : Nat) (key : ByteArray) (h : Bn w0 B p w) (hok : Ok4 p) (hn : (p (plc At)).n ≠ (p (plc Of)).n) :
    Calls Tryd.prog 45 #[.pointer (some ⟨B, 0, none⟩), .agg #[.int .i64 15, .int .i64 At, .int .i64 Of, .int .i64 To, .int .i64 I, .slice al ll cl, .string key]] w fun e w' => e = .returned (.bool true) ∧ ∃ p', Ok4 p' ∧ Bn w0 B p' w' := by
  have ha := plc_lt At
  have ho := plc_lt Of
  generalize hA : plc At = a at *
  generalize hO : plc Of = o at *
  have PA := hide hA
  have PO := hide hO
  clear hA hO
  have HN := hide hn
  clear hn
  have hbx : Below w.heap.size w (w.alloc (.cells #[.int .i64 15, .int .i64 At, .int .i64 Of, .int .i64 To, .int .i64 I, .slice al ll cl, .string key] 53)) := bw1
  have h1 := h.on hbx
  have N1 := h1.num ha
  have Q1 := h1.sli ha
  have hB := h.blt
  have i0 : (0 : Int) ≤ (a : Int) := by omega
  have i1 : (a : Int) < 4 := by omega
  have j0 : (0 : Int) ≤ (o : Int) := by omega
  have j1 : (o : Int) < 4 := by omega
  unfold Sl.num at N1
  unfold Sl.sli at Q1
  have HOK := hide hok
  have H := hide h
  have HLT := hide h.lts
  have hnx := (h.set a ha).hn
  have HXX := hide (h.set a ha).hX
  clear h h1 hok
  go_enter Tryd.func45, Tryd.ntmps45
  go_wp2_with fail
  refine (place_any At _).mono ?_
  rintro e w1 ⟨rfl, hw1⟩
  obtain rfl := hw1.symm
  clear hw1
  rw [PA.out]
  go_wp2_with fail
  go_cut [7] (fun t7 wx => t7 = .pointer (some ⟨w.heap.size + 1 + 1, 0, none⟩) ∧ Hid (Pre w0 w B p a o #[.int .i64 15, .int .i64 At, .int .i64 Of, .int .i64 To, .int .i64 I, .slice al ll cl, .string key] wx))
  case first =>
    have HP := hide (pre_mk (a := a) (o := o) (bx := #[.int .i64 15, .int .i64 At, .int .i64 Of, .int .i64 To, .int .i64 I, .slice al ll cl, .string key]) H.out)
    have h2 := H.out.on (b2w (o0 := .cells #[.int .i64 15, .int .i64 At, .int .i64 Of, .int .i64 To, .int .i64 I, .slice al ll cl, .string key] 53) (o1 := .cells #[.int .i64 (p a).n, .slice (p a).ao (elems (p a).n (p a).y).length (p a).cr] 42))
    obtain ⟨_, q0, _⟩ := box2 (w := w) (.cells #[.int .i64 15, .int .i64 At, .int .i64 Of, .int .i64 To, .int .i64 I, .slice al ll cl, .string key] 53) (.cells #[.int .i64 (p a).n, .slice (p a).ao (elems (p a).n (p a).y).length (p a).cr] 42) (Below.refl _ _)
    have s0 := h2.num ho
    have s1 := h2.sli ho
    have s2 : ((w.alloc (.cells #[.int .i64 15, .int .i64 At, .int .i64 Of, .int .i64 To, .int .i64 I, .slice al ll cl, .string key] 53)).alloc (.cells #[.int .i64 (p a).n, .slice (p a).ao (elems (p a).n (p a).y).length (p a).cr] 42)).cell? ⟨w.heap.size, 2, none⟩ = some (.int .i64 Of) := by rw [cell_of_row _ _ 2 _ 53 (0, 0) q0]; rfl
    have hB2 : B < ((w.alloc (.cells #[.int .i64 15, .int .i64 At, .int .i64 Of, .int .i64 To, .int .i64 I, .slice al ll cl, .string key] 53)).alloc (.cells #[.int .i64 (p a).n, .slice (p a).ao (elems (p a).n (p a).y).length (p a).cr] 42)).heap.size := h2.blt
    have hzz : ((w.alloc (.cells #[.int .i64 15, .int .i64 At, .int .i64 Of, .int .i64 To, .int .i64 I, .slice al ll cl, .string key] 53)).alloc (.cells #[.int .i64 (p a).n, .slice (p a).ao (elems (p a).n (p a).y).length (p a).cr] 42)).heap.size = w.heap.size + 1 + 1 := by simp
    unfold Sl.num at s0
    unfold Sl.sli at s1
    clear h2 q0 N1 Q1
    generalize hW1 : ((w.alloc (.cells #[.int .i64 15, .int .i64 At, .int .i64 Of, .int .i64 To, .int .i64 I, .slice al ll cl, .string key] 53)).alloc (.cells #[.int .i64 (p a).n, .slice (p a).ao (elems (p a).n (p a).y).length (p a).cr] 42)) = W1 at *
    have hlO : w.heap.size < W1.heap.size := by omega
    have n1 := World.new_ne W1 _ s0
    have n2 := World.new_ne W1 _ s1
    have n3 := World.new_ne W1 _ s2
    go_region_held3 (fun w' => w'.cell? ⟨B, 4 + o * 2, none⟩ = some (.int .i64 (p o).n) ∧ w'.cell? ⟨B, 4 + o * 2 + 1, none⟩ = some (.slice (p o).ao (elems (p o).n (p o).y).length (p o).cr) ∧ w'.cell? ⟨w.heap.size, 2, none⟩ = some (.int .i64 Of))
      (first | exact ⟨s0, s1, s2⟩ | exact keepB3 (by assumption) bw1 | exact keepB3 ⟨s0, s1, s2⟩ bw1.drew | go_keep)
      ((go_at_call 43; refine (place_any Of _).mono ?_; rintro e w2 ⟨rfl, hw2⟩; obtain rfl := hw2.symm; clear hw2; rw [PO.out]))
    all_goals (go_wp2_with fail; go_meet)
    all_goals exact ⟨rfl, HP⟩
  case rest =>
    obtain ⟨rfl, PP⟩ := hcut
    clear N1 Q1 hbx
    have c1 := PP.out.bn.ptr ha
    have hgO : (p a).g < w.heap.size := (HLT.out a ha).2
    have hBg : B ≠ (p a).g := fun e => (set_ne (H.out.set a ha) H.out.blk (by decide) (by decide)).2 e.symm
    have hlo : w0.heap.size ≤ w.heap.size := H.out.below.size
    have c3 : wc.cell? ⟨w.heap.size, 0, none⟩ = some (.int .i64 15) := by rw [cell_of_row _ _ 0 _ 53 (0, 0) PP.out.ob]; rfl
    unfold Sl.ptr at c1
    have c2 := PP.out.bn.ptr ho
    have c4 : wc.cell? ⟨w.heap.size, 2, none⟩ = some (.int .i64 Of) := by rw [cell_of_row _ _ 2 _ 53 (0, 0) PP.out.ob]; rfl
    unfold Sl.ptr at c2
    go_wp2_with fail
    go_region_held3 (fun w' => w'.cell? ⟨B, a, none⟩ = some (.pointer (some ⟨(p a).b, 0, none⟩)) ∧ w'.cell? ⟨B, o, none⟩ = some (.pointer (some ⟨(p o).b, 0, none⟩)) ∧ w'.cell? ⟨w.heap.size, 2, none⟩ = some (.int .i64 Of))
      (first | exact ⟨c1, c2, c4⟩ | exact keepB3 (by assumption) dX | go_keep)
      (first
        | (go_at_call 43; refine (place_any Of _).mono ?_; rintro e w2 ⟨rfl, hw2⟩; obtain rfl := hw2.symm; clear hw2; rw [PO.out])
        | (go_at_call 11; refine (bn_drop_no (w0 := w0) (B := B) (p := p) (by exact PP.out.bn.on (Below.refl _ _).drew) ha ho HN.out).mono ?_; rintro e wX ⟨rfl, dX⟩))
    rename_i hS
    have r1 : wX.heap[w.heap.size + 1]? = some (.cells #[.int .i64 (p a).n, .slice (p a).ao (elems (p a).n (p a).y).length (p a).cr] 42 (0, 0)) := radd_res (by exact PP.out.rb) dX
    have r2 : wX.heap[w.heap.size + 1 + 1]? = some (.cells #[.int .i64 (p o).n, .slice (p o).ao (elems (p o).n (p o).y).length (p o).cr] 42 (0, 0)) := radd_res (by exact PP.out.ub) dX
    have bX : Bn w0 B p wX := (PP.out.bn.on (Below.refl _ _).drew).on dX
    have d0 : wX.cell? ⟨w.heap.size + 1, 0, none⟩ = some (.int .i64 (p a).n) := by rw [cell_of_row _ _ 0 _ 42 (0, 0) r1]; rfl
    have d1 : wX.cell? ⟨w.heap.size + 1, 1, none⟩ = some (.slice (p a).ao (elems (p a).n (p a).y).length (p a).cr) := by rw [cell_of_row _ _ 1 _ 42 (0, 0) r1]; rfl
    have d2 : wX.cell? ⟨w.heap.size + 1 + 1, 0, none⟩ = some (.int .i64 (p o).n) := by rw [cell_of_row _ _ 0 _ 42 (0, 0) r2]; rfl
    have d3 : wX.cell? ⟨w.heap.size + 1 + 1, 1, none⟩ = some (.slice (p o).ao (elems (p o).n (p o).y).length (p o).cr) := by rw [cell_of_row _ _ 1 _ 42 (0, 0) r2]; rfl
    rw [HOK.out a ha] at d1 r1
    have R1 := hide r1
    have BX := hide bX
    clear hS r1 r2 bX dX c1 c2 c3 c4 PP
    go_wp2_with fail
    refine (rminus_bad (p a).n (p o).n _ _ _ HN.out).mono ?_
    rintro e w3 ⟨rfl, hb3⟩
    have r3 := radd_res R1.out hb3
    have b3' := BX.out.on hb3
    obtain ⟨BB, h4, kr⟩ := b3'.box w0 (u0 := .int .i64 0) (u1 := .slice none 0 0) r3 (by omega)
    have e0 : w3.cell? ⟨w.heap.size + 1, 0, none⟩ = some (.int .i64 (p a).n) := by rw [cell_of_row _ _ 0 _ 42 (0, 0) r3]; rfl
    have e1 : w3.cell? ⟨w.heap.size + 1, 1, none⟩ = some (.slice (p a).ao (elems (p a).n (p a).X).length (p a).cr) := by rw [cell_of_row _ _ 1 _ 42 (0, 0) r3]; rfl
    have f0 := frozen_of_row w3 (w.heap.size + 1) 0 _ 42 r3
    have f1 := frozen_of_row w3 (w.heap.size + 1) 1 _ 42 r3
    have FIN := hide BB
    clear hb3 r3 b3' BB h4 kr d0 d1 d2 d3 R1 BX
    go_wp2
    go_ret
    exact ⟨rfl, p, HOK.out, FIN.out⟩
end Go.Proofs.YtdgmokelmocejabDoor
