import Derived.Test.YtdgmokelmocejabDoorRkey
import Derived.Deep.DeepCutAuto
namespace Go.Proofs.YtdgmokelmocejabDoor
open Go.RowKit

set_option maxHeartbeats 400000 in
theorem rnew_bad (n : Int) (w : World) (h : 8192 < n) :
    Calls Tryd.prog 19 #[.int .i64 n] w fun e w' => e = .returned (.tuple #[.agg #[.int .i64 0, .slice none 0 0], .int .i64 1]) ∧ Below w.heap.size w w' := by
  go_enter Tryd.func19, Tryd.ntmps19
  go_wp2
  exact bodyPost_ret (v := .tuple #[.agg #[.int .i64 0, .slice none 0 0], .int .i64 1]) (by simp [results, Tryd.results19, go_sem]) rfl ⟨rfl, (Below.refl _ _).alloc (Nat.le_refl _) _⟩

set_option maxHeartbeats 400000 in
theorem rnew_ok (n : Int) (w : World) (h0 : 0 ≤ n) (h : n ≤ 8192) :
    Calls Tryd.prog 19 #[.int .i64 n] w fun e w' => e = .returned (.tuple #[.agg #[.int .i64 n, .slice none 0 0], .int .i64 0]) ∧ Below w.heap.size w w' := by
  go_enter Tryd.func19, Tryd.ntmps19
  go_wp2
  exact bodyPost_ret (v := .tuple #[.agg #[.int .i64 n, .slice none 0 0], .int .i64 0]) (by simp [results, Tryd.results19, go_sem]) rfl ⟨rfl, (Below.refl _ _).alloc (Nat.le_refl _) _⟩

set_option maxHeartbeats 400000 in
theorem rfrom_short (s : ByteArray) (w : World) (h : s.size < 2) :
    Calls Tryd.prog 68 #[.string s] w fun e w' => e = .returned (.tuple #[.agg #[.int .i64 0, .slice none 0 0], .int .i64 11]) ∧ Below w.heap.size w w' := by
  go_enter Tryd.func68, Tryd.ntmps68
  go_wp2
  exact bodyPost_ret (v := .tuple #[.agg #[.int .i64 0, .slice none 0 0], .int .i64 11]) (by simp [results, Tryd.results68, go_sem]) rfl ⟨rfl, (Below.refl _ _).alloc (Nat.le_refl _) _⟩

theorem bcell {W w1 : World} (hb : Below W.heap.size W w1) : (∀ b o, b < W.heap.size → w1.cell? ⟨b, o, none⟩ = W.cell? ⟨b, o, none⟩) ∧ (∀ b o, b < W.heap.size → w1.frozen? ⟨b, o, none⟩ = W.frozen? ⟨b, o, none⟩) :=
  ⟨fun b o h => hb.cell (p := ⟨b, o, none⟩) h, fun b o h => hb.frozen (p := ⟨b, o, none⟩) h⟩

theorem head_num2 (x y : UInt8) : IntKind.i64.wrap (IntKind.i64.wrap (256 * IntKind.i64.wrap (x.toNat : Int)) + IntKind.i64.wrap (y.toNat : Int)) = ((x.toNat * 256 + y.toNat : Nat) : Int) := by
  have hx := x.toNat_lt
  have hy := y.toNat_lt
  simp only [IntKind.wrap_i64]
  omega

theorem idx_at (s : ByteArray) (k : Nat) (W : World) (h : k < s.size) : (Instr.index 9 (.string s) (.int .i64 (k : Int))).run Tryd.prog W = .ok (.int .u8 (s[k].toNat : Int)) W := by
  rw [run_index_string W 9 s .i64 _ Tryd.underlying9, dif_pos (by omega)]
  simp only [Int.toNat_natCast]

/-- What ref.FromKey holds behind its call of New: its result's place, and its own set (block Bs). -/
structure RFS (w : World) (Bs : Nat) (N0 : Int) (wx : World) : Prop where
  res : wx.heap[w.heap.size]? = some (.cells #[.int .i64 0, .slice none 0 0] 42 (0, 0))
  set : wx.heap[Bs]? = some (.cells #[.int .i64 N0, .slice none 0 0] 42 (0, 0))
  ne : Bs ≠ w.heap.size
  le : w.heap.size ≤ Bs
  below : Below w.heap.size w wx

theorem rfs_a {w W w2 : World} {N0 : Int} (hb2 : Below W.heap.size W w2) (hBW : Below w.heap.size w W) (hlt : w.heap.size < W.heap.size) (hz : W.heap[w.heap.size]? = some (.cells #[.int .i64 0, .slice none 0 0] 42 (0, 0))) :
    RFS w w2.heap.size N0 (w2.alloc (.cells #[.int .i64 N0, .slice none 0 0] 42)) := by
  have h2 := hb2.size
  refine ⟨?_, heap_alloc_new _ _, by omega, by omega, (hBW.trans (hb2.mono (by omega))).alloc (by omega) _⟩
  rw [Below.heap_alloc _ _ _ (by omega), hb2.block _ hlt]; exact hz

theorem rfs_b {w W w2 : World} {N0 : Int} (hb2 : Below W.heap.size W w2) (hBW : Below w.heap.size w W) (hlt : w.heap.size + 1 < W.heap.size) (hz : W.heap[w.heap.size]? = some (.cells #[.int .i64 0, .slice none 0 0] 42 (0, 0))) (hz1 : W.heap[w.heap.size + 1]? = some (.cells #[.int .i64 0, .slice none 0 0] 42 (0, 0))) :
    RFS w (w.heap.size + 1) N0 ((w2.setCell ⟨w.heap.size + 1, 0, none⟩ (.int .i64 N0)).setCell ⟨w.heap.size + 1, 1, none⟩ (.slice none 0 0)) := by
  have h2 := hb2.size
  refine ⟨?_, ?_, by omega, by omega, ((hBW.trans (hb2.mono (by omega))).setCell (by simp) _).setCell (by simp) _⟩
  · rw [heap_setCell_other _ _ _ _ (by simp), heap_setCell_other _ _ _ _ (by simp), hb2.block _ (by omega)]; exact hz
  · have h3 : w2.heap[w.heap.size + 1]? = some (.cells #[.int .i64 0, .slice none 0 0] 42 (0, 0)) := by rw [hb2.block _ hlt]; exact hz1
    have h4 := heap_setCell_same w2 (w.heap.size + 1) 0 _ 42 (.int .i64 N0) h3
    have h5 := heap_setCell_same _ (w.heap.size + 1) 1 _ 42 (.slice none 0 0) h4
    exact h5

theorem two_new (w : World) (o1 o2 : Obj) : ((w.alloc o1).alloc o2).heap[w.heap.size + 1]? = some o2 := by
  have := heap_alloc_new (w.alloc o1) o2
  simpa only [World.size_alloc] using this

theorem RFS.r0 {w wx : World} {Bs : Nat} {N0 : Int} (h : RFS w Bs N0 wx) : wx.cell? ⟨w.heap.size, 0, none⟩ = some (.int .i64 0) := by rw [cell_of_row wx _ 0 _ 42 (0, 0) h.res]; rfl
theorem RFS.r1 {w wx : World} {Bs : Nat} {N0 : Int} (h : RFS w Bs N0 wx) : wx.cell? ⟨w.heap.size, 1, none⟩ = some (.slice none 0 0) := by rw [cell_of_row wx _ 1 _ 42 (0, 0) h.res]; rfl
theorem RFS.f {w wx : World} {Bs : Nat} {N0 : Int} (h : RFS w Bs N0 wx) (j : Nat) : wx.frozen? ⟨w.heap.size, j, none⟩ = false := frozen_of_row wx _ j _ 42 h.res

set_option maxRecDepth 100000 in
set_option maxHeartbeats 1000000 in
theorem rfrom_big (s : ByteArray) (n c0 c1 : Nat) (w : World) (h : 2 ≤ s.size) (hi0 : ∀ W : World, (Instr.index 9 (.string s) (.int .i64 0)).run Tryd.prog W = .ok (.int .u8 (c0 : Int)) W) (hi1 : ∀ W : World, (Instr.index 9 (.string s) (.int .i64 1)).run Tryd.prog W = .ok (.int .u8 (c1 : Int)) W)
    (HN : Hid (IntKind.i64.wrap (IntKind.i64.wrap (256 * IntKind.i64.wrap (c0 : Int)) + IntKind.i64.wrap (c1 : Int)) = (n : Int))) (hbig : 8192 < n) :
    Calls Tryd.prog 68 #[.string s] w fun e w' => e = .returned (.tuple #[.agg #[.int .i64 0, .slice none 0 0], .int .i64 11]) ∧ Below w.heap.size w w' := by
  go_enter Tryd.func68, Tryd.ntmps68
  go_upto_region 3 with fail
  go_cut [4, 5] (fun s4 s5 wx => ∃ Bs, s4 = .pointer (some ⟨Bs, 0, none⟩) ∧ s5 = .int .i64 1 ∧ RFS w Bs 0 wx)
  case first =>
    go_region_held3 (fun w' => True) (first | go_keep | trivial) ((go_at_call 19; rw [HN.out]; refine (rnew_bad n _ (by omega)).mono ?_; rintro e w2 ⟨rfl, hb2⟩; obtain ⟨hcB, hfB⟩ := bcell hb2))
    all_goals (go_wp2_with fail; go_meet)
    all_goals first
      | exact ⟨_, rfl, rfl, rfs_a hb2 ((Below.refl _ _).alloc (Nat.le_refl _) _).drew (by simp) (heap_alloc_new _ _)⟩
      | exact ⟨_, rfl, rfl, rfs_b hb2 ((((Below.refl _ _).alloc (Nat.le_refl _) _).alloc (by simp) _).drew) (by simp) ((Below.heap_alloc _ _ _ (by simp)).trans (heap_alloc_new _ _)) (two_new w _ _)⟩
  case rest =>
    obtain ⟨Bs, rfl, rfl, hr⟩ := hcut
    have r0 := hr.r0
    have r1 := hr.r1
    have f0 := hr.f 0
    have f1 := hr.f 1
    go_wp2
    refine bodyPost_ret (v := .tuple #[.agg #[.int .i64 0, .slice none 0 0], .int .i64 11]) (by simp [results, Tryd.results68, go_sem, r0, r1]) rfl ⟨rfl, ?_⟩
    exact (hr.below.setCell (by simp) _).setCell (by simp) _
end Go.Proofs.YtdgmokelmocejabDoor
