import Derived.Test.YtdgmokelmocejabDoorPlc
namespace Go.Proofs.YtdgmokelmocejabDoor
open Go.RowKit

set_option maxHeartbeats 1000000 in
theorem lay_yes2 (w0 : World) (B a N : Nat) (p : Nat → Sl) (s : Sl) (w : World) (h : Bn w0 B p w) (ha : a < 4) (hs : IsSet w s.b s.g s.c s.n s.X) (hr : Row3 w s.ao (elems s.n s.y)) (hN : w0.heap.size ≤ N) (hlt : ∀ k, k < 4 → (p k).b < N ∧ (p k).g < N) (hb : N ≤ s.b) (hg : N ≤ s.g) :
    Calls Tryd.prog 20 #[.pointer (some ⟨B, 0, none⟩), .int .i64 a, s.ptr, .int .i64 0, .agg #[.int .i64 s.n, .slice s.ao (elems s.n s.y).length s.cr], .int .i64 0] w fun e w' => e = .returned (.bool true) ∧ Bn w0 B (upd p a s) w' ∧ w.grownBy w' (some B) := by
  have P1 := h.ptr ha
  have N1 := h.num ha
  have Q1 := h.sli ha
  have f0 := h.fz a
  have hlB := h.blt
  have i0 : (0 : Int) ≤ (a : Int) := by omega
  have i1 : (a : Int) < 4 := by omega
  have HN := hide ((h.putS ha hs hr hN hlt hb hg))
  have h0 := heap_setCell_same w B a _ 45 s.ptr h.blk
  have hz : (w.setCell ⟨B, a, none⟩ s.ptr).heap.size = w.heap.size := by simp [World.setCell]
  have hl1 : B < (w.setCell ⟨B, a, none⟩ s.ptr).heap.size := by omega
  have N2 : (w.setCell ⟨B, a, none⟩ s.ptr).cell? ⟨B, 4 + a * 2, none⟩ = some (p a).num := by rw [cell_set_off (by omega)]; exact N1
  have Q2 : (w.setCell ⟨B, a, none⟩ s.ptr).cell? ⟨B, 4 + a * 2 + 1, none⟩ = some (p a).sli := by rw [cell_set_off (by omega)]; exact Q1
  have f3 : (w.setCell ⟨B, a, none⟩ s.ptr).frozen? ⟨B, 4 + a * 2, none⟩ = false := frozen_of_row _ B _ _ 45 h0
  have f4 : (w.setCell ⟨B, a, none⟩ s.ptr).frozen? ⟨B, 4 + a * 2 + 1, none⟩ = false := frozen_of_row _ B _ _ 45 h0
  have HG := hide (g_set (g_set (g_set (g_refl w (some B)) a s.ptr) (4 + a * 2) (.int .i64 s.n)) (4 + a * 2 + 1) (.slice s.ao (elems s.n s.y).length s.cr))
  unfold Sl.ptr at *
  clear h hs hr hN hlt hb hg N1 Q1 h0
  go_enter Tryd.func20, Tryd.ntmps20
  go_wp2_with fail
  generalize hW1 : (w.setCell ⟨B, a, none⟩ (.pointer (some ⟨s.b, 0, none⟩))) = W1 at *
  clear hW1
  rw [← hz]
  go_region
  go_wp2
  go_ret
  exact ⟨rfl, HN.out.on bw1.drew, g_trans HG.out (g_below bw1.drew)⟩
theorem mk_keep {w0 w1 w2 : World} {a b : Addr} {x y : Value} {B : Nat} (h : w1.cell? a = some x ∧ w1.cell? b = some y ∧ w0.grownBy w1 (some B)) (d : Below w1.heap.size w1 w2) : w2.cell? a = some x ∧ w2.cell? b = some y ∧ w0.grownBy w2 (some B) :=
  ⟨(d.cell (World.block_lt_of_cell? _ _ h.1)).trans h.1, (d.cell (World.block_lt_of_cell? _ _ h.2.1)).trans h.2.1, g_trans h.2.2 (g_below d)⟩
theorem mk_keepG {w0 w1 w2 : World} {a b : Addr} {x y : Value} {B : Nat} (h : w1.cell? a = some x ∧ w1.cell? b = some y ∧ w0.grownBy w1 (some B)) (d : w1.grownBy w2 (some B)) (h1 : a.block ≠ B) (h2 : b.block ≠ B) : w2.cell? a = some x ∧ w2.cell? b = some y ∧ w0.grownBy w2 (some B) :=
  ⟨(World.cell?_of_block (d.block _ (World.block_lt_of_cell? _ _ h.1) (fun e => h1 (Option.some.inj e)))).trans h.1, (World.cell?_of_block (d.block _ (World.block_lt_of_cell? _ _ h.2.1) (fun e => h2 (Option.some.inj e)))).trans h.2.1, g_trans h.2.2 d⟩
theorem mk_g {w0 w1 : World} {a b : Addr} {x y : Option Value} {B : Nat} (h : w1.cell? a = x ∧ w1.cell? b = y ∧ w0.grownBy w1 (some B)) : w0.grownBy w1 (some B) := h.2.2

theorem mk_set {w0 W w' : World} {B : Nat} {p : Nat → Sl} {b g c n X : Nat} (d : W.grownBy w' (some B)) (h : Bn w0 B p W) (hs : IsSet W b g c n X) : IsSet w' b g c n X := by
  have := set_ne hs h.blk (by decide) (by decide)
  exact hs.other d this.1 this.2
theorem mk_row {w0 W w' : World} {B : Nat} {p : Nat → Sl} {ao : Option Addr} {l : List Nat} (d : W.grownBy w' (some B)) (h : Bn w0 B p W) (hr : Row3 W ao l) : Row3 w' ao l := hr.grown d h.blk (by decide)

set_option maxRecDepth 100000 in
set_option maxHeartbeats 4000000 in
theorem makes_copy (w0 w : World) (B : Nat) (p : Nat → Sl) (At Of To I : Int) (al : Option Addr) (ll cl : Nat) (key : ByteArray) (h : Bn w0 B p w) (hok : Ok4 p) :
    Calls Tryd.prog 44 #[.pointer (some ⟨B, 0, none⟩), .agg #[.int .i64 5, .int .i64 At, .int .i64 Of, .int .i64 To, .int .i64 I, .slice al ll cl, .string key]] w fun e w' => e = .returned (.bool true) ∧ ∃ p', Ok4 p' ∧ Bn w0 B p' w' := by
  have ha := plc_lt At
  have ho := plc_lt Of
  have ht := plc_lt To
  generalize hA : plc At = a at *
  generalize hO : plc Of = o at *
  generalize hT : plc To = t at *
  have PA := hide hA
  have PO := hide hO
  have PT := hide hT
  clear hA hO hT
  have HHYP := hide (True.intro)
  skip
  have hB := h.blt
  have c1 := h.ptr ha
  have c2 := h.ptr ho
  have c3 := h.num ha
  have c4 := h.sli ha
  have c5 := h.num ho
  have c6 := h.sli ho
  unfold Sl.ptr at c1 c2
  unfold Sl.num at c3 c5
  unfold Sl.sli at c4 c6
  rw [hok a ha] at c4
  rw [hok o ho] at c6
  have i0 : (0 : Int) ≤ (a : Int) := by omega
  have i1 : (a : Int) < 4 := by omega
  have j0 : (0 : Int) ≤ (o : Int) := by omega
  have j1 : (o : Int) < 4 := by omega
  have HOK := hide hok
  have H := hide h
  have HLT := hide h.lts
  have hlo : w0.heap.size ≤ w.heap.size := h.below.size
  have hnx := (h.set a ha).hn
  have HXX := hide (h.set a ha).hX
  have hx3 := box3 (w := w) (.cells #[.int .i64 5, .int .i64 At, .int .i64 Of, .int .i64 To, .int .i64 I, .slice al ll cl, .string key] 53) (.cells #[.int .i64 (p a).n, .slice (p a).ao (elems (p a).n (p a).X).length (p a).cr] 42) (.cells #[.int .i64 (p o).n, .slice (p o).ao (elems (p o).n (p o).X).length (p o).cr] 42) (Below.refl _ _)
  have HB3 := hide hx3
  have HBN := hide (h.on hx3.2.2.2)
  have HRA : Hid (Row3 w (p a).ao (elems (p a).n (p a).X)) := by
    have := h.row a ha
    rwa [hok a ha] at this
  have HRB : Hid (Row3 w (p o).ao (elems (p o).n (p o).X)) := by
    have := h.row o ho
    rwa [hok o ho] at this
  clear h hok hx3
  go_enter Tryd.func44, Tryd.ntmps44
  go_wp2_with fail
  refine (place_any At _).mono ?_
  rintro e w1 ⟨rfl, hw1⟩
  obtain rfl := hw1.symm
  clear hw1
  rw [PA.out]
  go_wp2_with fail
  refine (place_any Of _).mono ?_
  rintro e w1 ⟨rfl, hw1⟩
  obtain rfl := hw1.symm
  clear hw1
  rw [PO.out]
  go_wp2_with fail
  refine (place_any To _).mono ?_
  rintro e w1 ⟨rfl, hw1⟩
  obtain rfl := hw1.symm
  clear hw1
  rw [PT.out]
  go_wp2_with fail
  generalize hW3 : ((w.alloc (.cells #[.int .i64 5, .int .i64 At, .int .i64 Of, .int .i64 To, .int .i64 I, .slice al ll cl, .string key] 53)).alloc (.cells #[.int .i64 (p a).n, .slice (p a).ao (elems (p a).n (p a).X).length (p a).cr] 42)).alloc (.cells #[.int .i64 (p o).n, .slice (p o).ao (elems (p o).n (p o).X).length (p o).cr] 42) = W3 at *
  have hd3 : Below w.heap.size w W3 := HB3.out.2.2.2
  have HD3 := hide hd3
  have hz3 := HD3.out.size
  clear hd3 hW3 c1 c2 c3 c4 c5 c6
  have e0 : W3.cell? ⟨w.heap.size + 1, 0, none⟩ = some (.int .i64 (p a).n) := by rw [cell_of_row _ _ 0 _ 42 (0, 0) HB3.out.2.2.1]; rfl
  have e1 : W3.cell? ⟨w.heap.size + 1, 1, none⟩ = some (.slice (p a).ao (elems (p a).n (p a).X).length (p a).cr) := by rw [cell_of_row _ _ 1 _ 42 (0, 0) HB3.out.2.2.1]; rfl
  have hOB : w.heap.size + 1 ≠ B := by omega
  have HRW := hide (HRA.out.below HD3.out)
  go_region_held3 (fun w' => w'.cell? ⟨w.heap.size + 1, 0, none⟩ = some (.int .i64 (p a).n) ∧ w'.cell? ⟨w.heap.size + 1, 1, none⟩ = some (.slice (p a).ao (elems (p a).n (p a).X).length (p a).cr) ∧ W3.grownBy w' (some B))
    (first | exact ⟨e0, e1, g_drew (g_refl _ _)⟩ | exact mk_keepG (by assumption) dL hOB hOB | exact mk_keep (by assumption) hbX | go_keep)
    (first
      | (go_at_call 8; refine (copy_any (p a).b (p a).g (p a).c (p a).n (p a).X _ (by exact (HBN.out.on (Below.refl _ _).drew).set a ha)).mono ?_; rintro e wX ⟨b, g, cs, rfl, hs, hb, hg, hbg, hbX⟩; have bN := (HBN.out.on (Below.refl _ _).drew).on hbX; have hz9 := hz3)
      | (go_at_call 20; refine (lay_yes2 w0 B t w.heap.size p ⟨b, g, cs, (p a).n, (p a).X, (p a).X, (p a).ao, (p a).cr⟩ _ (by exact bN) ht (by exact hs) (by exact (HRW.out.below (Below.refl _ _).drew).below hbX) hlo HLT.out (by exact Nat.le_trans hz9 hb) (by exact Nat.le_trans hz9 hg)).mono ?_; rintro e wL ⟨rfl, FIN, dL⟩))
  go_wp2
  go_ret
  exact ⟨rfl, _, ok_up1 HOK.out rfl, FIN⟩

set_option maxRecDepth 100000 in
set_option maxHeartbeats 4000000 in
theorem makes_not (w0 w : World) (B : Nat) (p : Nat → Sl) (At Of To I : Int) (al : Option Addr) (ll cl : Nat) (key : ByteArray) (h : Bn w0 B p w) (hok : Ok4 p) :
    Calls Tryd.prog 44 #[.pointer (some ⟨B, 0, none⟩), .agg #[.int .i64 9, .int .i64 At, .int .i64 Of, .int .i64 To, .int .i64 I, .slice al ll cl, .string key]] w fun e w' => e = .returned (.bool true) ∧ ∃ p', Ok4 p' ∧ Bn w0 B p' w' := by
  have ha := plc_lt At
  have ho := plc_lt Of
  have ht := plc_lt To
  generalize hA : plc At = a at *
  generalize hO : plc Of = o at *
  generalize hT : plc To = t at *
  have PA := hide hA
  have PO := hide hO
  have PT := hide hT
  clear hA hO hT
  have HHYP := hide (True.intro)
  skip
  have hB := h.blt
  have c1 := h.ptr ha
  have c2 := h.ptr ho
  have c3 := h.num ha
  have c4 := h.sli ha
  have c5 := h.num ho
  have c6 := h.sli ho
  unfold Sl.ptr at c1 c2
  unfold Sl.num at c3 c5
  unfold Sl.sli at c4 c6
  rw [hok a ha] at c4
  rw [hok o ho] at c6
  have i0 : (0 : Int) ≤ (a : Int) := by omega
  have i1 : (a : Int) < 4 := by omega
  have j0 : (0 : Int) ≤ (o : Int) := by omega
  have j1 : (o : Int) < 4 := by omega
  have HOK := hide hok
  have H := hide h
  have HLT := hide h.lts
  have hlo : w0.heap.size ≤ w.heap.size := h.below.size
  have hnx := (h.set a ha).hn
  have HXX := hide (h.set a ha).hX
  have hx3 := box3 (w := w) (.cells #[.int .i64 9, .int .i64 At, .int .i64 Of, .int .i64 To, .int .i64 I, .slice al ll cl, .string key] 53) (.cells #[.int .i64 (p a).n, .slice (p a).ao (elems (p a).n (p a).X).length (p a).cr] 42) (.cells #[.int .i64 (p o).n, .slice (p o).ao (elems (p o).n (p o).X).length (p o).cr] 42) (Below.refl _ _)
  have HB3 := hide hx3
  have HBN := hide (h.on hx3.2.2.2)
  have HRA : Hid (Row3 w (p a).ao (elems (p a).n (p a).X)) := by
    have := h.row a ha
    rwa [hok a ha] at this
  have HRB : Hid (Row3 w (p o).ao (elems (p o).n (p o).X)) := by
    have := h.row o ho
    rwa [hok o ho] at this
  clear h hok hx3
  go_enter Tryd.func44, Tryd.ntmps44
  go_wp2_with fail
  refine (place_any At _).mono ?_
  rintro e w1 ⟨rfl, hw1⟩
  obtain rfl := hw1.symm
  clear hw1
  rw [PA.out]
  go_wp2_with fail
  refine (place_any Of _).mono ?_
  rintro e w1 ⟨rfl, hw1⟩
  obtain rfl := hw1.symm
  clear hw1
  rw [PO.out]
  go_wp2_with fail
  refine (place_any To _).mono ?_
  rintro e w1 ⟨rfl, hw1⟩
  obtain rfl := hw1.symm
  clear hw1
  rw [PT.out]
  go_wp2_with fail
  generalize hW3 : ((w.alloc (.cells #[.int .i64 9, .int .i64 At, .int .i64 Of, .int .i64 To, .int .i64 I, .slice al ll cl, .string key] 53)).alloc (.cells #[.int .i64 (p a).n, .slice (p a).ao (elems (p a).n (p a).X).length (p a).cr] 42)).alloc (.cells #[.int .i64 (p o).n, .slice (p o).ao (elems (p o).n (p o).X).length (p o).cr] 42) = W3 at *
  have hd3 : Below w.heap.size w W3 := HB3.out.2.2.2
  have HD3 := hide hd3
  have hz3 := HD3.out.size
  clear hd3 hW3 c1 c2 c3 c4 c5 c6
  have e0 : W3.cell? ⟨w.heap.size + 1, 0, none⟩ = some (.int .i64 (p a).n) := by rw [cell_of_row _ _ 0 _ 42 (0, 0) HB3.out.2.2.1]; rfl
  have e1 : W3.cell? ⟨w.heap.size + 1, 1, none⟩ = some (.slice (p a).ao (elems (p a).n (p a).X).length (p a).cr) := by rw [cell_of_row _ _ 1 _ 42 (0, 0) HB3.out.2.2.1]; rfl
  have hOB : w.heap.size + 1 ≠ B := by omega
  have HRW := hide (HRA.out.below HD3.out)
  go_region_held3 (fun w' => w'.cell? ⟨w.heap.size + 1, 0, none⟩ = some (.int .i64 (p a).n) ∧ w'.cell? ⟨w.heap.size + 1, 1, none⟩ = some (.slice (p a).ao (elems (p a).n (p a).X).length (p a).cr) ∧ W3.grownBy w' (some B))
    (first | exact ⟨e0, e1, g_drew (g_refl _ _)⟩ | exact mk_keepG (by assumption) dL hOB hOB | exact mk_keep (by assumption) hbX | go_keep)
    (first
      | (go_at_call 72; refine (not_any (p a).b (p a).g (p a).c (p a).n (p a).X _ (by exact mk_set (mk_g (by assumption)) HBN.out (HBN.out.set a ha))).mono ?_; rintro e wX ⟨b, g, cs, rfl, hs, hb, hg, hbg, hbX⟩; have hbX1 := hbX; have bN := Bn.on (by first | assumption | exact HBN.out.on (Below.refl _ _).drew) hbX; have hz9 := Nat.le_trans hz3 (mk_g (w0 := W3) (by assumption)).size)
      | (go_at_call 73; refine (rnot_any (p a).n (p a).X (p a).ao (p a).cr _ hnx HXX.out (by exact mk_row (mk_g (by assumption)) HBN.out HRW.out)).mono ?_; rintro e wX ⟨ao2, cap2, rfl, hr, hbX⟩; have hbX2 := hbX; have bN := Bn.on (by first | assumption | exact HBN.out.on (Below.refl _ _).drew) hbX)
      | (go_at_call 20; refine (lay_yes2 w0 B t w.heap.size p ⟨b, g, cs, (p a).n, notN (p a).n (p a).X, notN (p a).n (p a).X, ao2, cap2⟩ _ (by exact bN) ht (by first | exact hs | exact hs.below hbX2) (by first | exact hr | exact hr.below hbX1) hlo HLT.out (by exact Nat.le_trans hz9 hb) (by exact Nat.le_trans hz9 hg)).mono ?_; rintro e wL ⟨rfl, FIN, dL⟩))
  all_goals
    go_wp2
    go_ret
    exact ⟨rfl, _, ok_up1 HOK.out rfl, FIN⟩
end Go.Proofs.YtdgmokelmocejabDoor
