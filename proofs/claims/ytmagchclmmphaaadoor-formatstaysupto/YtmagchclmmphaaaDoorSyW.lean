import Derived.Test.YtmagchclmmphaaaDoorLm
import Derived.Deep.RegionHeld3
namespace Go.Proofs.YtmagchclmmphaaaDoor
open Go.RowKit Go.Maps
attribute [local go_sem] Oper.semAt_some

/-! ### The first problem stays -/
theorem goF_stays {s : Nat × Nat} {l : List Nat} (r : List Nat) (h : (goF s l).2 < l.length) : goF s (l.take ((goF s l).2 + 1) ++ r) = ((goF s l).1, (goF s l).2) := by
  have h1 : l.take ((goF s l).2 + 1) ++ r = l.take (goF s l).2 ++ (l[(goF s l).2] :: r) := by
    rw [List.take_succ_eq_append_getElem h, List.append_assoc]; rfl
  have h2 : (goF s (l.take (goF s l).2)).2 = (l.take (goF s l).2).length := by
    rw [goF_take, List.length_take]; omega
  rw [h1, goF_app _ h2, goF_take, goF_stop _ (goF_next h)]
  simp only [List.length_take, Prod.mk.injEq, true_and]
  omega
theorem bts_app (a b : ByteArray) : bts (a ++ b) = bts a ++ bts b := by
  unfold bts
  rw [← List.map_append]
  congr 1
theorem stays_of (t m : ByteArray) (h : lenF t < t.size) : lenF (t.extract 0 (lenF t + 1) ++ m) = lenF t ∧ errF (t.extract 0 (lenF t + 1) ++ m) = 30 := by
  have hl : (goF (1, 0) (bts t)).2 < (bts t).length := by rw [bts_len]; exact h
  have e : bts (t.extract 0 (lenF t + 1) ++ m) = (bts t).take ((goF (1, 0) (bts t)).2 + 1) ++ bts m := by
    rw [bts_app, bts_extract, List.drop_zero, Nat.sub_zero]; rfl
  have g := goF_stays (bts m) hl
  rw [← e] at g
  have h1 : lenF (t.extract 0 (lenF t + 1) ++ m) = lenF t := by
    unfold lenF at g ⊢
    rw [show (goF (1, 0) (bts (t.extract 0 ((goF (1, 0) (bts t)).2 + 1) ++ m))) = _ from g]
  refine ⟨h1, ?_⟩
  have hlt : lenF (t.extract 0 (lenF t + 1) ++ m) < (t.extract 0 (lenF t + 1) ++ m).size := by
    rw [h1, ByteArray.size_append, ByteArray.size_extract]; omega
  unfold errF
  rw [if_pos (.inl hlt)]

theorem slice_none (t : ByteArray) (k : Nat) (W : World) (hk : k ≤ t.size) : (Instr.slice 9 (.string t) none (some (.int .i64 (k : Int))) none).run Tryd.prog W = .ok (.string (t.extract 0 k)) W := by
  simp [Instr.slice, run_underlying Tryd.underlying9, Instr.sliceBounds, Instr.sliceBound, asIntOf, hk]
/-! ### Worlds above another one -/
theorem sy_call {X Y n : Nat} {t m : ByteArray} {W3 W W' : World} (d : Below W.heap.size W W') (h : (W.cell? ⟨X, 0, none⟩ = some (.string t) ∧ W.cell? ⟨X, 1, none⟩ = some (.string m) ∧ W.cell? ⟨Y + 1, 0, none⟩ = some (.int .i64 30) ∧ W.cell? ⟨Y + 1, 1, none⟩ = some (.int .i64 (n : Nat)) ∧ Hid (X < W3.heap.size ∧ Y + 1 < W3.heap.size ∧ Below W3.heap.size W3 W))) : (W'.cell? ⟨X, 0, none⟩ = some (.string t) ∧ W'.cell? ⟨X, 1, none⟩ = some (.string m) ∧ W'.cell? ⟨Y + 1, 0, none⟩ = some (.int .i64 30) ∧ W'.cell? ⟨Y + 1, 1, none⟩ = some (.int .i64 (n : Nat)) ∧ Hid (X < W3.heap.size ∧ Y + 1 < W3.heap.size ∧ Below W3.heap.size W3 W')) :=
  ⟨(d.cell (p := ⟨X, 0, none⟩) (World.block_lt_of_cell? W _ h.1)).trans h.1, (d.cell (p := ⟨X, 1, none⟩) (World.block_lt_of_cell? W _ h.2.1)).trans h.2.1, (d.cell (p := ⟨Y + 1, 0, none⟩) (World.block_lt_of_cell? W _ h.2.2.1)).trans h.2.2.1, (d.cell (p := ⟨Y + 1, 1, none⟩) (World.block_lt_of_cell? W _ h.2.2.2.1)).trans h.2.2.2.1, hide ⟨h.2.2.2.2.out.1, h.2.2.2.2.out.2.1, h.2.2.2.2.out.2.2.trans (d.mono h.2.2.2.2.out.2.2.size)⟩⟩
theorem sy_alloc {X Y n : Nat} {t m : ByteArray} {W3 W : World} {o : Obj} (h : (W.cell? ⟨X, 0, none⟩ = some (.string t) ∧ W.cell? ⟨X, 1, none⟩ = some (.string m) ∧ W.cell? ⟨Y + 1, 0, none⟩ = some (.int .i64 30) ∧ W.cell? ⟨Y + 1, 1, none⟩ = some (.int .i64 (n : Nat)) ∧ Hid (X < W3.heap.size ∧ Y + 1 < W3.heap.size ∧ Below W3.heap.size W3 W))) : ((W.alloc o).cell? ⟨X, 0, none⟩ = some (.string t) ∧ (W.alloc o).cell? ⟨X, 1, none⟩ = some (.string m) ∧ (W.alloc o).cell? ⟨Y + 1, 0, none⟩ = some (.int .i64 30) ∧ (W.alloc o).cell? ⟨Y + 1, 1, none⟩ = some (.int .i64 (n : Nat)) ∧ Hid (X < W3.heap.size ∧ Y + 1 < W3.heap.size ∧ Below W3.heap.size W3 (W.alloc o))) := sy_call ((Below.refl _ _).alloc (Nat.le_refl _) _) h
theorem sy_set {X Y n b j : Nat} {t m : ByteArray} {W3 W : World} {v : Value} (hb : W3.heap.size ≤ b) (h : (W.cell? ⟨X, 0, none⟩ = some (.string t) ∧ W.cell? ⟨X, 1, none⟩ = some (.string m) ∧ W.cell? ⟨Y + 1, 0, none⟩ = some (.int .i64 30) ∧ W.cell? ⟨Y + 1, 1, none⟩ = some (.int .i64 (n : Nat)) ∧ Hid (X < W3.heap.size ∧ Y + 1 < W3.heap.size ∧ Below W3.heap.size W3 W))) : ((W.setCell ⟨b, j, none⟩ v).cell? ⟨X, 0, none⟩ = some (.string t) ∧ (W.setCell ⟨b, j, none⟩ v).cell? ⟨X, 1, none⟩ = some (.string m) ∧ (W.setCell ⟨b, j, none⟩ v).cell? ⟨Y + 1, 0, none⟩ = some (.int .i64 30) ∧ (W.setCell ⟨b, j, none⟩ v).cell? ⟨Y + 1, 1, none⟩ = some (.int .i64 (n : Nat)) ∧ Hid (X < W3.heap.size ∧ Y + 1 < W3.heap.size ∧ Below W3.heap.size W3 (W.setCell ⟨b, j, none⟩ v))) := by
  have hX := h.2.2.2.2.out.1
  have hY := h.2.2.2.2.out.2.1
  have e : ∀ k, k < W3.heap.size → (W.setCell ⟨b, j, none⟩ v).heap[k]? = W.heap[k]? := fun k hk => Below.heap_setCell _ _ _ _ (show k ≠ b by omega)
  exact ⟨(World.cell?_of_block (a := ⟨X, 0, none⟩) (e X hX)).trans h.1, (World.cell?_of_block (a := ⟨X, 1, none⟩) (e X hX)).trans h.2.1, (World.cell?_of_block (a := ⟨Y + 1, 0, none⟩) (e _ hY)).trans h.2.2.1, (World.cell?_of_block (a := ⟨Y + 1, 1, none⟩) (e _ hY)).trans h.2.2.2.1, hide ⟨hX, hY, h.2.2.2.2.out.2.2.setCell hb _⟩⟩
theorem sy_drew {X Y n : Nat} {t m : ByteArray} {W3 W : World} (h : (W.cell? ⟨X, 0, none⟩ = some (.string t) ∧ W.cell? ⟨X, 1, none⟩ = some (.string m) ∧ W.cell? ⟨Y + 1, 0, none⟩ = some (.int .i64 30) ∧ W.cell? ⟨Y + 1, 1, none⟩ = some (.int .i64 (n : Nat)) ∧ Hid (X < W3.heap.size ∧ Y + 1 < W3.heap.size ∧ Below W3.heap.size W3 W))) : (W.drew.cell? ⟨X, 0, none⟩ = some (.string t) ∧ W.drew.cell? ⟨X, 1, none⟩ = some (.string m) ∧ W.drew.cell? ⟨Y + 1, 0, none⟩ = some (.int .i64 30) ∧ W.drew.cell? ⟨Y + 1, 1, none⟩ = some (.int .i64 (n : Nat)) ∧ Hid (X < W3.heap.size ∧ Y + 1 < W3.heap.size ∧ Below W3.heap.size W3 W.drew)) := ⟨h.1, h.2.1, h.2.2.1, h.2.2.2.1, hide ⟨h.2.2.2.2.out.1, h.2.2.2.2.out.2.1, h.2.2.2.2.out.2.2.drew⟩⟩
theorem sy_out {X Y n : Nat} {t m : ByteArray} {W3 W : World} (h : (W.cell? ⟨X, 0, none⟩ = some (.string t) ∧ W.cell? ⟨X, 1, none⟩ = some (.string m) ∧ W.cell? ⟨Y + 1, 0, none⟩ = some (.int .i64 30) ∧ W.cell? ⟨Y + 1, 1, none⟩ = some (.int .i64 (n : Nat)) ∧ Hid (X < W3.heap.size ∧ Y + 1 < W3.heap.size ∧ Below W3.heap.size W3 W))) : Below W3.heap.size W3 W := h.2.2.2.2.out.2.2
def Z28 (W : World) (b : Nat) : Prop := W.heap[b]? = some (.cells #[.string ⟨#[]⟩, .slice none 0 0, .slice none 0 0, .slice none 0 0, .slice none 0 0] 28 (0, 0))
def Z31 (W : World) (b : Nat) : Prop := W.heap[b]? = some (.cells #[.int .i64 0, .int .i64 0] 31 (0, 0))
theorem Z28.one {X w : World} (d : Below (X.alloc (.cells #[.string ⟨#[]⟩, .slice none 0 0, .slice none 0 0, .slice none 0 0, .slice none 0 0] 28)).drew.heap.size (X.alloc (.cells #[.string ⟨#[]⟩, .slice none 0 0, .slice none 0 0, .slice none 0 0, .slice none 0 0] 28)).drew w) : Z28 w X.heap.size := (d.block _ (by simp)).trans (heap_alloc_new X _)
theorem Z28.two {X w : World} {o : Obj} (d : Below ((X.alloc (.cells #[.string ⟨#[]⟩, .slice none 0 0, .slice none 0 0, .slice none 0 0, .slice none 0 0] 28)).alloc o).drew.heap.size ((X.alloc (.cells #[.string ⟨#[]⟩, .slice none 0 0, .slice none 0 0, .slice none 0 0, .slice none 0 0] 28)).alloc o).drew w) : Z28 w X.heap.size := (d.block _ (by simp; omega)).trans ((Below.heap_alloc (X.alloc (.cells #[.string ⟨#[]⟩, .slice none 0 0, .slice none 0 0, .slice none 0 0, .slice none 0 0] 28)) o _ (by simp)).trans (heap_alloc_new X _))
theorem Z28.three {X w : World} {o : Obj} (d : Below ((X.alloc o).alloc (.cells #[.string ⟨#[]⟩, .slice none 0 0, .slice none 0 0, .slice none 0 0, .slice none 0 0] 28)).drew.heap.size ((X.alloc o).alloc (.cells #[.string ⟨#[]⟩, .slice none 0 0, .slice none 0 0, .slice none 0 0, .slice none 0 0] 28)).drew w) : Z28 w (X.heap.size + 1) := (d.block _ (by simp)).trans (heap_alloc2_new X _ _)
theorem Z31.one {X w : World} (d : Below (X.alloc (.cells #[.int .i64 0, .int .i64 0] 31)).drew.heap.size (X.alloc (.cells #[.int .i64 0, .int .i64 0] 31)).drew w) : Z31 w X.heap.size := (d.block _ (by simp)).trans (heap_alloc_new X _)
theorem Z31.two {X w : World} {o : Obj} (d : Below ((X.alloc (.cells #[.int .i64 0, .int .i64 0] 31)).alloc o).drew.heap.size ((X.alloc (.cells #[.int .i64 0, .int .i64 0] 31)).alloc o).drew w) : Z31 w X.heap.size := (d.block _ (by simp; omega)).trans ((Below.heap_alloc (X.alloc (.cells #[.int .i64 0, .int .i64 0] 31)) o _ (by simp)).trans (heap_alloc_new X _))
theorem Z31.three {X w : World} {o : Obj} (d : Below ((X.alloc o).alloc (.cells #[.int .i64 0, .int .i64 0] 31)).drew.heap.size ((X.alloc o).alloc (.cells #[.int .i64 0, .int .i64 0] 31)).drew w) : Z31 w (X.heap.size + 1) := (d.block _ (by simp)).trans (heap_alloc2_new X _ _)
theorem Z28.up {W : World} {b : Nat} (h : Z28 W b) (o : Obj) : Z28 (W.alloc o) b := (Below.heap_alloc W o b (Array.getElem?_eq_some_iff.1 h).1).trans h
theorem Z31.up {W : World} {b : Nat} (h : Z31 W b) (o : Obj) : Z31 (W.alloc o) b := (Below.heap_alloc W o b (Array.getElem?_eq_some_iff.1 h).1).trans h
theorem Z28.cells {W : World} {b : Nat} (h : Z28 W b) : (W.cell? ⟨b, 0, none⟩ = some (.string ⟨#[]⟩) ∧ W.cell? ⟨b, 1, none⟩ = some (.slice none 0 0) ∧ W.cell? ⟨b, 2, none⟩ = some (.slice none 0 0) ∧ W.cell? ⟨b, 3, none⟩ = some (.slice none 0 0) ∧ W.cell? ⟨b, 4, none⟩ = some (.slice none 0 0)) ∧ (W.frozen? ⟨b, 0, none⟩ = false ∧ W.frozen? ⟨b, 1, none⟩ = false ∧ W.frozen? ⟨b, 2, none⟩ = false ∧ W.frozen? ⟨b, 3, none⟩ = false ∧ W.frozen? ⟨b, 4, none⟩ = false) ∧ ((∀ o, (W.alloc o).cell? ⟨b, 0, none⟩ = some (.string ⟨#[]⟩)) ∧ (∀ o, (W.alloc o).cell? ⟨b, 1, none⟩ = some (.slice none 0 0)) ∧ (∀ o, (W.alloc o).cell? ⟨b, 2, none⟩ = some (.slice none 0 0)) ∧ (∀ o, (W.alloc o).cell? ⟨b, 3, none⟩ = some (.slice none 0 0)) ∧ (∀ o, (W.alloc o).cell? ⟨b, 4, none⟩ = some (.slice none 0 0))) ∧ ((∀ o, (W.alloc o).frozen? ⟨b, 0, none⟩ = false) ∧ (∀ o, (W.alloc o).frozen? ⟨b, 1, none⟩ = false) ∧ (∀ o, (W.alloc o).frozen? ⟨b, 2, none⟩ = false) ∧ (∀ o, (W.alloc o).frozen? ⟨b, 3, none⟩ = false) ∧ (∀ o, (W.alloc o).frozen? ⟨b, 4, none⟩ = false)) ∧ b ≠ W.heap.size ∧ W.heap.size ≠ b :=
  ⟨⟨cell_of h rfl, cell_of h rfl, cell_of h rfl, cell_of h rfl, cell_of h rfl⟩, ⟨fz_of h, fz_of h, fz_of h, fz_of h, fz_of h⟩, ⟨fun o => cell_of (h.up o) rfl, fun o => cell_of (h.up o) rfl, fun o => cell_of (h.up o) rfl, fun o => cell_of (h.up o) rfl, fun o => cell_of (h.up o) rfl⟩, ⟨fun o => fz_of (h.up o), fun o => fz_of (h.up o), fun o => fz_of (h.up o), fun o => fz_of (h.up o), fun o => fz_of (h.up o)⟩, Nat.ne_of_lt (Array.getElem?_eq_some_iff.1 h).1, Nat.ne_of_gt (Array.getElem?_eq_some_iff.1 h).1⟩
theorem Z31.cells {W : World} {b : Nat} (h : Z31 W b) : (W.cell? ⟨b, 0, none⟩ = some (.int .i64 0) ∧ W.cell? ⟨b, 1, none⟩ = some (.int .i64 0)) ∧ (W.frozen? ⟨b, 0, none⟩ = false ∧ W.frozen? ⟨b, 1, none⟩ = false) ∧ ((∀ o, (W.alloc o).cell? ⟨b, 0, none⟩ = some (.int .i64 0)) ∧ (∀ o, (W.alloc o).cell? ⟨b, 1, none⟩ = some (.int .i64 0))) ∧ ((∀ o, (W.alloc o).frozen? ⟨b, 0, none⟩ = false) ∧ (∀ o, (W.alloc o).frozen? ⟨b, 1, none⟩ = false)) ∧ b ≠ W.heap.size ∧ W.heap.size ≠ b :=
  ⟨⟨cell_of h rfl, cell_of h rfl⟩, ⟨fz_of h, fz_of h⟩, ⟨fun o => cell_of (h.up o) rfl, fun o => cell_of (h.up o) rfl⟩, ⟨fun o => fz_of (h.up o), fun o => fz_of (h.up o)⟩, Nat.ne_of_lt (Array.getElem?_eq_some_iff.1 h).1, Nat.ne_of_gt (Array.getElem?_eq_some_iff.1 h).1⟩

set_option maxRecDepth 100000 in
set_option maxHeartbeats 4000000 in
theorem stays_any (t m : ByteArray) (w : World) (hT : Hid (RowsAt w ∧ BytesAt w ∧ 1 < w.heap.size)) (ht : t.size ≤ 1048576) (hm : m.size ≤ 1048576) :
    Calls Tryd.prog 3 #[.agg #[.string t, .string m]] w fun e w' => e = .returned (.bool true) ∧ Below w.heap.size w w' := by
  obtain ⟨W0, hW0⟩ : ∃ W0, w.alloc (.cells #[.string t, .string m] 23) = W0 := ⟨_, rfl⟩
  have d0 : Below w.heap.size w W0 := by rw [← hW0]; exact (Below.refl _ _).alloc (Nat.le_refl _) _
  have b0 : W0.heap[w.heap.size]? = some (.cells #[.string t, .string m] 23 (0, 0)) := by rw [← hW0]; exact World.alloc_heap_new _ _
  have z0 : w.heap.size < W0.heap.size := by rw [← hW0]; simp
  have x0 : W0.cell? ⟨w.heap.size, 0, none⟩ = some (.string t) := cell_of b0 rfl
  have hT0 : Hid (RowsAt W0 ∧ BytesAt W0 ∧ 1 < W0.heap.size) := hide ⟨hT.out.1.below d0 (by have := hT.out.2.2; omega), hT.out.2.1.below d0 hT.out.2.2, Nat.lt_of_lt_of_le hT.out.2.2 d0.size⟩
  have HD := hide (And.intro d0 (And.intro b0 z0))
  clear d0 b0 z0 hT
  have hle := len_le t
  rcases err_two t with he | he
  · have P1 := parse_ok t W0 hT0 (by omega) he
    go_enter Tryd.func3, Tryd.ntmps3
    go_wp2_with fail
    refine P1.mono ?_
    rintro e w1 ⟨vo, vs, vn, vr, rfl, ro, rs, rn, rr, rd, d1⟩
    obtain ⟨ao, no, co, rfl⟩ := row_form ro
    obtain ⟨asx, ns, cs, rfl⟩ := row_form rs
    obtain ⟨an, nn, cn, rfl⟩ := row_form rn
    obtain ⟨ar, nr, cr, rfl⟩ := row_form rr
    have HD1 := hide d1
    clear ro rs rn rr rd d1 P1 x0
    have hz : (w1.alloc (.cells #[.string ⟨#[]⟩, .slice none 0 0, .slice none 0 0, .slice none 0 0, .slice none 0 0] 28)).alloc (.cells #[.int .i64 0, .int .i64 0] 31) = two31 w1 := rfl
    obtain ⟨⟨o0, o1, o2, o3, o4⟩, ⟨p0, p1⟩, ⟨f0, f1, f2, f3, f4⟩, g0, g1⟩ := two31_cells w1
    have HS := hide (two31_set w1 (.string (contF t).ti) (.slice ao no co) (.slice asx ns cs) (.slice an nn cn) (.slice ar nr cr) (.int .i64 0) (.int .i64 0))
    have x1 : (two31 w1).cell? ⟨w.heap.size, 0, none⟩ = some (.string t) := cell_of (((two31_rows w1).2.2.1.block _ (by have := HD.out.2.2; have := HD1.out.size; omega)).trans ((HD1.out.block _ HD.out.2.2).trans HD.out.2.1)) rfl
    have n1 : w.heap.size ≠ w1.heap.size := by have := HD.out.2.2; have := HD1.out.size; omega
    have n2 : w.heap.size ≠ w1.heap.size + 1 := by have := HD.out.2.2; have := HD1.out.size; omega
    have hT1 := hide (fun (W : World) (d : Below w1.heap.size w1 W) => show RowsAt W ∧ BytesAt W ∧ 1 < W.heap.size from
      have D := HD1.out.trans (d.mono HD1.out.size)
      ⟨hT0.out.1.below D (by have := hT0.out.2.2; omega), hT0.out.2.1.below D hT0.out.2.2, Nat.lt_of_lt_of_le hT0.out.2.2 D.size⟩)
    have i1 : (0 : Int) ≤ (t.size : Int) := by omega
    go_wp2_with (go_at_call 6; refine (least_any _ (hide (hT1.out _ HS.out.2.2.1))).mono ?_; rintro e w2 ⟨rfl, d2⟩)
    go_ret
    exact ⟨rfl, HD.out.1.trans ((HD1.out.trans ((HS.out.2.2.1.trans (d2.mono (by have := HS.out.2.2.2; omega))).mono HD1.out.size)).mono HD.out.1.size)⟩
  · have P1 := parse_bad t W0 (hide ⟨hT0.out.1, by have := hT0.out.2.2; omega⟩) (by omega) he
    obtain ⟨n, hn⟩ : ∃ n, lenF t = n := ⟨_, rfl⟩
    rw [hn] at P1 hle
    have HN := hide hn
    clear hn
    have hT1 := hide (fun (w1 : World) (D1 : Below W0.heap.size W0 w1) (W : World) (d : Below w1.heap.size w1 W) => show RowsAt W ∧ BytesAt W ∧ 1 < W.heap.size from
      have D := D1.trans (d.mono D1.size)
      ⟨hT0.out.1.below D (by have := hT0.out.2.2; omega), hT0.out.2.1.below D hT0.out.2.2, Nat.lt_of_lt_of_le hT0.out.2.2 D.size⟩)
    have i1 : (n : Int) ≤ (t.size : Int) := by omega
    by_cases hge : t.size ≤ n
    · have i2 : (n : Int) ≥ (t.size : Int) := by omega
      go_enter Tryd.func3, Tryd.ntmps3
      go_wp2_with fail
      refine P1.mono ?_
      rintro e w1 ⟨rfl, d1⟩
      have HD1 := hide d1
      clear d1 P1 x0
      have hz : (w1.alloc (.cells #[.string ⟨#[]⟩, .slice none 0 0, .slice none 0 0, .slice none 0 0, .slice none 0 0] 28)).alloc (.cells #[.int .i64 0, .int .i64 0] 31) = two31 w1 := rfl
      obtain ⟨⟨o0, o1, o2, o3, o4⟩, ⟨p0, p1⟩, ⟨f0, f1, f2, f3, f4⟩, g0, g1⟩ := two31_cells w1
      have HS := hide (two31_set w1 (.string ⟨#[]⟩) (.slice none 0 0) (.slice none 0 0) (.slice none 0 0) (.slice none 0 0) (.int .i64 30) (.int .i64 (n : Nat)))
      have x1 : (two31 w1).cell? ⟨w.heap.size, 0, none⟩ = some (.string t) := cell_of (((two31_rows w1).2.2.1.block _ (by have := HD.out.2.2; have := HD1.out.size; omega)).trans ((HD1.out.block _ HD.out.2.2).trans HD.out.2.1)) rfl
      have n1 : w.heap.size ≠ w1.heap.size := by have := HD.out.2.2; have := HD1.out.size; omega
      have n2 : w.heap.size ≠ w1.heap.size + 1 := by have := HD.out.2.2; have := HD1.out.size; omega
      go_wp2_with (go_at_call 6; refine (least_any _ (hide (hT1.out w1 HD1.out _ HS.out.2.2.1))).mono ?_; rintro e w2 ⟨rfl, d2⟩)
      go_ret
      exact ⟨rfl, HD.out.1.trans ((HD1.out.trans ((HS.out.2.2.1.trans (d2.mono (by have := HS.out.2.2.2; omega))).mono HD1.out.size)).mono HD.out.1.size)⟩
    · have i2 : ¬ (n : Int) ≥ (t.size : Int) := by omega
      have i3 : ¬ (n : Int) < 0 := by omega
      have hst := stays_of t m (by rw [HN.out]; omega)
      rw [HN.out] at hst
      go_enter Tryd.func3, Tryd.ntmps3
      go_wp2_with fail
      refine P1.mono ?_
      rintro e w1 ⟨rfl, d1⟩
      have HD1 := hide d1
      clear d1 P1 x0
      have hz : (w1.alloc (.cells #[.string ⟨#[]⟩, .slice none 0 0, .slice none 0 0, .slice none 0 0, .slice none 0 0] 28)).alloc (.cells #[.int .i64 0, .int .i64 0] 31) = two31 w1 := rfl
      obtain ⟨⟨o0, o1, o2, o3, o4⟩, ⟨p0, p1⟩, ⟨f0, f1, f2, f3, f4⟩, g0, g1⟩ := two31_cells w1
      have HS := hide (two31_set w1 (.string ⟨#[]⟩) (.slice none 0 0) (.slice none 0 0) (.slice none 0 0) (.slice none 0 0) (.int .i64 30) (.int .i64 (n : Nat)))
      have x1 : (two31 w1).cell? ⟨w.heap.size, 0, none⟩ = some (.string t) := cell_of (((two31_rows w1).2.2.1.block _ (by have := HD.out.2.2; have := HD1.out.size; omega)).trans ((HD1.out.block _ HD.out.2.2).trans HD.out.2.1)) rfl
      have n1 : w.heap.size ≠ w1.heap.size := by have := HD.out.2.2; have := HD1.out.size; omega
      have n2 : w.heap.size ≠ w1.heap.size + 1 := by have := HD.out.2.2; have := HD1.out.size; omega
      go_wp2_with fail
      obtain ⟨W3, hW3⟩ : ∃ W3, (((((((two31 w1).setCell ⟨w1.heap.size, 0, none⟩ (.string ⟨#[]⟩)).setCell ⟨w1.heap.size, 1, none⟩ (.slice none 0 0)).setCell ⟨w1.heap.size, 2, none⟩ (.slice none 0 0)).setCell ⟨w1.heap.size, 3, none⟩ (.slice none 0 0)).setCell ⟨w1.heap.size, 4, none⟩ (.slice none 0 0)).setCell ⟨w1.heap.size + 1, 0, none⟩ (.int .i64 30)).setCell ⟨w1.heap.size + 1, 1, none⟩ (.int .i64 (n : Nat)) = W3 := ⟨_, rfl⟩
      rw [hW3]
      have HS3 : Hid (W3.heap[w1.heap.size + 1]? = some (.cells #[.int .i64 30, .int .i64 (n : Nat)] 31 (0, 0)) ∧ Below w1.heap.size w1 W3 ∧ w1.heap.size + 2 ≤ W3.heap.size) := hide (by rw [← hW3]; exact HS.out.2)
      clear HS hW3 hz o0 o1 o2 o3 o4 p0 p1 f0 f1 f2 f3 f4 g0 g1 x1 n1 n2
      have hb3 : W3.heap[w.heap.size]? = some (.cells #[.string t, .string m] 23 (0, 0)) := (HS3.out.2.1.block _ (by have := HD.out.2.2; have := HD1.out.size; omega)).trans ((HD1.out.block _ HD.out.2.2).trans HD.out.2.1)
      have y0 : W3.cell? ⟨w.heap.size, 0, none⟩ = some (.string t) := cell_of hb3 rfl
      have y1 : W3.cell? ⟨w.heap.size, 1, none⟩ = some (.string m) := cell_of hb3 rfl
      have y3 : W3.cell? ⟨w1.heap.size + 1, 1, none⟩ = some (.int .i64 (n : Nat)) := cell_of HS3.out.1 rfl
      have hXz : w.heap.size < W3.heap.size := (Array.getElem?_eq_some_iff.1 hb3).1
      have hYz : w1.heap.size + 1 < W3.heap.size := by have := HS3.out.2.2; omega
      have SW3 : W3.cell? ⟨w.heap.size, 0, none⟩ = some (.string t) ∧ W3.cell? ⟨w.heap.size, 1, none⟩ = some (.string m) ∧ W3.cell? ⟨w1.heap.size + 1, 0, none⟩ = some (.int .i64 30) ∧ W3.cell? ⟨w1.heap.size + 1, 1, none⟩ = some (.int .i64 (n : Nat)) ∧ Hid (w.heap.size < W3.heap.size ∧ w1.heap.size + 1 < W3.heap.size ∧ Below W3.heap.size W3 W3) := ⟨cell_of hb3 rfl, cell_of hb3 rfl, cell_of HS3.out.1 rfl, cell_of HS3.out.1 rfl, hide ⟨hXz, hYz, Below.refl _ _⟩⟩
      have S0 := sy_drew SW3
      clear hb3
      have hes : (t.extract 0 (n + 1)).size ≤ 1048577 := by rw [ByteArray.size_extract]; omega
      have hsl : ∀ W, (Instr.slice 9 (.string t) none (some (.int .i64 ((n : Int) + 1))) none).run Tryd.prog W = .ok (.string (t.extract 0 (n + 1))) W := fun W => slice_none t (n + 1) W (by omega)
      have hwr : IntKind.i64.wrap ((n : Int) + 1) = (n : Int) + 1 := wrap_one n (by omega)
      have he1 : ¬ (9223372036854775807 < (t.extract 0 (n + 1)).size + m.size) := by omega
      have he2 : ¬ ((t.extract 0 (n + 1)).size + m.size > 9223372036854775807) := he1
      obtain ⟨y, hy⟩ : ∃ y, t.extract 0 (n + 1) = y := ⟨_, rfl⟩
      have P2 : Hid (∀ W, Below W3.heap.size W3 W → Calls Tryd.prog 5 #[.string (y ++ m)] W fun e w' => e = .returned (.tuple #[.agg #[.string ⟨#[]⟩, .slice none 0 0, .slice none 0 0, .slice none 0 0, .slice none 0 0], .agg #[.int .i64 30, .int .i64 (n : Nat)]]) ∧ Below W.heap.size W w') := hide fun W d => by
        have q := hT1.out w1 HD1.out W (HS3.out.2.1.trans (d.mono (by have := HS3.out.2.2; omega)))
        have r := parse_bad (y ++ m) W (hide ⟨q.1, by have := q.2.2; omega⟩) (by rw [← hy, ByteArray.size_append]; omega) (by rw [← hy]; exact hst.2)
        rwa [← hy, hst.1, hy] at r
      rw [hy] at hsl he1 he2 hes
      clear hy hst
      clear y0 y1 y3
      go_region_held3 (fun W => W.cell? ⟨w.heap.size, 0, none⟩ = some (.string t) ∧ W.cell? ⟨w.heap.size, 1, none⟩ = some (.string m) ∧ W.cell? ⟨w1.heap.size + 1, 0, none⟩ = some (.int .i64 30) ∧ W.cell? ⟨w1.heap.size + 1, 1, none⟩ = some (.int .i64 (n : Nat)) ∧ Hid (w.heap.size < W3.heap.size ∧ w1.heap.size + 1 < W3.heap.size ∧ Below W3.heap.size W3 W))
        (first | with_reducible exact S0 | with_reducible exact sy_drew (sy_alloc SW3) | with_reducible exact sy_drew (sy_alloc (sy_alloc SW3)) | with_reducible assumption | with_reducible exact SW5 | with_reducible exact sy_alloc (SW5) | with_reducible exact sy_alloc (sy_alloc (SW5)) | with_reducible exact sy_set (by first | exact Nat.le_refl _ | exact Nat.le_succ _ | exact hw5) (sy_set (by first | exact Nat.le_refl _ | exact Nat.le_succ _ | exact hw5) (sy_set (by first | exact Nat.le_refl _ | exact Nat.le_succ _ | exact hw5) (sy_set (by first | exact Nat.le_refl _ | exact Nat.le_succ _ | exact hw5) (sy_set (by first | exact Nat.le_refl _ | exact Nat.le_succ _ | exact hw5) (SW5))))) | with_reducible exact sy_set (by first | exact Nat.le_refl _ | exact Nat.le_succ _ | exact hw5) (sy_set (by first | exact Nat.le_refl _ | exact Nat.le_succ _ | exact hw5) (SW5)) | with_reducible exact sy_alloc (sy_set (by first | exact Nat.le_refl _ | exact Nat.le_succ _ | exact hw5) (sy_set (by first | exact Nat.le_refl _ | exact Nat.le_succ _ | exact hw5) (sy_set (by first | exact Nat.le_refl _ | exact Nat.le_succ _ | exact hw5) (sy_set (by first | exact Nat.le_refl _ | exact Nat.le_succ _ | exact hw5) (sy_set (by first | exact Nat.le_refl _ | exact Nat.le_succ _ | exact hw5) (SW5)))))) | with_reducible exact sy_alloc (sy_set (by first | exact Nat.le_refl _ | exact Nat.le_succ _ | exact hw5) (sy_set (by first | exact Nat.le_refl _ | exact Nat.le_succ _ | exact hw5) (SW5))) | with_reducible exact sy_set (by first | exact Nat.le_refl _ | exact Nat.le_succ _ | exact hw5) (sy_set (by first | exact Nat.le_refl _ | exact Nat.le_succ _ | exact hw5) (sy_set (by first | exact Nat.le_refl _ | exact Nat.le_succ _ | exact hw5) (sy_set (by first | exact Nat.le_refl _ | exact Nat.le_succ _ | exact hw5) (sy_set (by first | exact Nat.le_refl _ | exact Nat.le_succ _ | exact hw5) (sy_set (by first | exact Nat.le_refl _ | exact Nat.le_succ _ | exact hw5) (sy_set (by first | exact Nat.le_refl _ | exact Nat.le_succ _ | exact hw5) (SW5))))))) | with_reducible exact sy_set (by first | exact Nat.le_refl _ | exact Nat.le_succ _ | exact hw5) (sy_set (by first | exact Nat.le_refl _ | exact Nat.le_succ _ | exact hw5) (sy_set (by first | exact Nat.le_refl _ | exact Nat.le_succ _ | exact hw5) (sy_set (by first | exact Nat.le_refl _ | exact Nat.le_succ _ | exact hw5) (sy_set (by first | exact Nat.le_refl _ | exact Nat.le_succ _ | exact hw5) (sy_set (by first | exact Nat.le_refl _ | exact Nat.le_succ _ | exact hw5) (sy_set (by first | exact Nat.le_refl _ | exact Nat.le_succ _ | exact hw5) (SW5))))))) | with_reducible exact sy_set (by first | exact Nat.le_refl _ | exact Nat.le_succ _ | exact hw5) (sy_set (by first | exact Nat.le_refl _ | exact Nat.le_succ _ | exact hw5) (sy_set (by first | exact Nat.le_refl _ | exact Nat.le_succ _ | exact hw5) (sy_set (by first | exact Nat.le_refl _ | exact Nat.le_succ _ | exact hw5) (sy_set (by first | exact Nat.le_refl _ | exact Nat.le_succ _ | exact hw5) (sy_alloc SW5))))) | with_reducible exact sy_set (by first | exact Nat.le_refl _ | exact Nat.le_succ _ | exact hw5) (sy_set (by first | exact Nat.le_refl _ | exact Nat.le_succ _ | exact hw5) (sy_alloc SW5)) | with_reducible exact sy_set (by first | exact Nat.le_refl _ | exact Nat.le_succ _ | exact hw5) (sy_set (by first | exact Nat.le_refl _ | exact Nat.le_succ _ | exact hw5) (sy_set (by first | exact Nat.le_refl _ | exact Nat.le_succ _ | exact hw5) (sy_set (by first | exact Nat.le_refl _ | exact Nat.le_succ _ | exact hw5) (sy_set (by first | exact Nat.le_refl _ | exact Nat.le_succ _ | exact hw5) (sy_set (by first | exact Nat.le_refl _ | exact Nat.le_succ _ | exact hw5) (sy_set (by first | exact Nat.le_refl _ | exact Nat.le_succ _ | exact hw5) (sy_alloc SW5))))))) | with_reducible exact sy_set (by first | exact Nat.le_refl _ | exact Nat.le_succ _ | exact hw5) (sy_set (by first | exact Nat.le_refl _ | exact Nat.le_succ _ | exact hw5) (sy_set (by first | exact Nat.le_refl _ | exact Nat.le_succ _ | exact hw5) (sy_set (by first | exact Nat.le_refl _ | exact Nat.le_succ _ | exact hw5) (sy_set (by first | exact Nat.le_refl _ | exact Nat.le_succ _ | exact hw5) (sy_set (by first | exact Nat.le_refl _ | exact Nat.le_succ _ | exact hw5) (sy_set (by first | exact Nat.le_refl _ | exact Nat.le_succ _ | exact hw5) (sy_alloc SW5))))))))
        ((go_at_call 5; refine (P2.out _ (sy_out (by assumption))).mono ?_; rintro e w5 ⟨rfl, d5⟩; have SW5 := sy_call (X := w.heap.size) (Y := w1.heap.size) (n := n) (t := t) (m := m) (W3 := W3) d5 (by assumption); have hw5 : W3.heap.size ≤ w5.heap.size := (sy_out SW5).size;
          (try (have z1 : Z28 w5 W3.heap.size := Z28.one d5; obtain ⟨⟨a0, a1, a2, a3, a4⟩, ⟨b0, b1, b2, b3, b4⟩, ⟨aa0, aa1, aa2, aa3, aa4⟩, ⟨bb0, bb1, bb2, bb3, bb4⟩, na, na'⟩ := z1.cells));
          (try (have z1 : Z28 w5 W3.heap.size := Z28.two d5; obtain ⟨⟨a0, a1, a2, a3, a4⟩, ⟨b0, b1, b2, b3, b4⟩, ⟨aa0, aa1, aa2, aa3, aa4⟩, ⟨bb0, bb1, bb2, bb3, bb4⟩, na, na'⟩ := z1.cells));
          (try (have z1 : Z28 w5 (W3.heap.size + 1) := Z28.three d5; obtain ⟨⟨a0, a1, a2, a3, a4⟩, ⟨b0, b1, b2, b3, b4⟩, ⟨aa0, aa1, aa2, aa3, aa4⟩, ⟨bb0, bb1, bb2, bb3, bb4⟩, na, na'⟩ := z1.cells));
          (try (have z2 : Z31 w5 W3.heap.size := Z31.one d5; obtain ⟨⟨p0, p1⟩, ⟨g0, g1⟩, ⟨pp0, pp1⟩, ⟨gg0, gg1⟩, nb, nb'⟩ := z2.cells));
          (try (have z2 : Z31 w5 W3.heap.size := Z31.two d5; obtain ⟨⟨p0, p1⟩, ⟨g0, g1⟩, ⟨pp0, pp1⟩, ⟨gg0, gg1⟩, nb, nb'⟩ := z2.cells));
          (try (have z2 : Z31 w5 (W3.heap.size + 1) := Z31.three d5; obtain ⟨⟨p0, p1⟩, ⟨g0, g1⟩, ⟨pp0, pp1⟩, ⟨gg0, gg1⟩, nb, nb'⟩ := z2.cells))))
      all_goals (
        rename_i hSS
        have HH := hide (sy_out hSS)
        have c0 := hSS.2.2.1
        have c1 := hSS.2.2.2.1
        clear hSS SW5 SW3 S0
        go_wp2_with (go_at_call 6; refine (least_any _ (hide (hT1.out w1 HD1.out _ (HS3.out.2.1.trans (HH.out.mono (by have := HS3.out.2.2; omega)))))).mono ?_; rintro e w7 ⟨rfl, d7⟩)
        go_ret
        exact ⟨rfl, HD.out.1.trans ((HD1.out.trans (((HS3.out.2.1.trans (HH.out.mono (by have := HS3.out.2.2; omega))).trans (d7.mono (by have := HH.out.size; have := HS3.out.2.2; omega))).mono HD1.out.size)).mono HD.out.1.size)⟩)
end Go.Proofs.YtmagchclmmphaaaDoor
