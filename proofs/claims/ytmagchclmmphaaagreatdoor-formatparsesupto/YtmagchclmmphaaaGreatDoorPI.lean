import Derived.Test.YtmagchclmmphaaaGreatDoorPH
import Derived.Test.YtmagchclmmphaaaGreatDoorPp
import Derived.Test.YtmagchclmmphaaaGreatDoorQD
namespace Go.Proofs.YtmagchclmmphaaaGreatDoor
open Go.RowKit Go.Maps
attribute [local go_sem] Oper.semAt_some

set_option maxRecDepth 100000 in
set_option maxHeartbeats 2000000 in
/-- A text that is no file, as the document reads it. -/
theorem rparse_bad (s : ByteArray) (w : World) (hsz : s.size ≤ 130000000) (he : errF s = 30) :
    Calls Tryz.prog 18 #[.string s] w fun e w' => e = .returned (.tuple #[.agg #[.string ⟨#[]⟩, .slice none 0 0, .slice none 0 0, .slice none 0 0, .slice none 0 0], .agg #[.int .i64 30, .int .i64 (lenF s : Nat)]]) ∧ Below w.heap.size w w' := by
  obtain ⟨W0, hW0⟩ : ∃ W0, (w.alloc (.cells #[.string ⟨#[]⟩, .slice none 0 0, .slice none 0 0, .slice none 0 0, .slice none 0 0] 26)).alloc (.cells #[.int .i64 0, .int .i64 0] 29) = W0 := ⟨_, rfl⟩
  have d0 : Below w.heap.size w W0 := by rw [← hW0]; exact ((Below.refl _ _).alloc (Nat.le_refl _) _).alloc (by simp) _
  have b0 : W0.heap[w.heap.size]? = some (.cells #[.string ⟨#[]⟩, .slice none 0 0, .slice none 0 0, .slice none 0 0, .slice none 0 0] 26 (0, 0)) := by
    rw [← hW0]; exact (Below.heap_alloc _ _ _ (by simp)).trans (World.alloc_heap_new _ _)
  have b1 : W0.heap[w.heap.size + 1]? = some (.cells #[.int .i64 0, .int .i64 0] 29 (0, 0)) := by
    rw [← hW0]
    have := World.alloc_heap_new (w.alloc (.cells #[.string ⟨#[]⟩, .slice none 0 0, .slice none 0 0, .slice none 0 0, .slice none 0 0] 26)) (.cells #[.int .i64 0, .int .i64 0] 29)
    simpa using this
  have z0 : w.heap.size + 2 = W0.heap.size := by rw [← hW0]; simp
  have HC := rf.rcheck_any s W0 hsz
  rw [he] at HC
  have HD := hide (And.intro d0 (And.intro b0 (And.intro b1 z0)))
  clear d0 b0 b1 z0
  go_enter Tryz.func18, Tryz.ntmps18
  go_wp2_with fail
  refine HC.mono ?_
  rintro e w1 ⟨rfl, d1⟩
  have e0 : w1.heap[w.heap.size]? = some (.cells #[.string ⟨#[]⟩, .slice none 0 0, .slice none 0 0, .slice none 0 0, .slice none 0 0] 26 (0, 0)) := (d1.block _ (by have := HD.out.2.2.2; omega)).trans HD.out.2.1
  have e1 : w1.heap[w.heap.size + 1]? = some (.cells #[.int .i64 0, .int .i64 0] 29 (0, 0)) := (d1.block _ (by have := HD.out.2.2.2; omega)).trans HD.out.2.2.1
  have HB := hide (HD.out.1.trans (d1.mono HD.out.1.size))
  clear d1 HC
  have o0 : w1.cell? ⟨w.heap.size, 0, none⟩ = some (.string ⟨#[]⟩) := cell_of e0 rfl
  have o1 : w1.cell? ⟨w.heap.size, 1, none⟩ = some (.slice none 0 0) := cell_of e0 rfl
  have o2 : w1.cell? ⟨w.heap.size, 2, none⟩ = some (.slice none 0 0) := cell_of e0 rfl
  have o3 : w1.cell? ⟨w.heap.size, 3, none⟩ = some (.slice none 0 0) := cell_of e0 rfl
  have o4 : w1.cell? ⟨w.heap.size, 4, none⟩ = some (.slice none 0 0) := cell_of e0 rfl
  have f0 : w1.frozen? ⟨w.heap.size, 0, none⟩ = false := by simp [World.frozen?, e0]
  have f1 : w1.frozen? ⟨w.heap.size, 1, none⟩ = false := by simp [World.frozen?, e0]
  have f2 : w1.frozen? ⟨w.heap.size, 2, none⟩ = false := by simp [World.frozen?, e0]
  have f3 : w1.frozen? ⟨w.heap.size, 3, none⟩ = false := by simp [World.frozen?, e0]
  have f4 : w1.frozen? ⟨w.heap.size, 4, none⟩ = false := by simp [World.frozen?, e0]
  have p0 : w1.cell? ⟨w.heap.size + 1, 0, none⟩ = some (.int .i64 0) := cell_of e1 rfl
  have p1 : w1.cell? ⟨w.heap.size + 1, 1, none⟩ = some (.int .i64 0) := cell_of e1 rfl
  have g0 : w1.frozen? ⟨w.heap.size + 1, 0, none⟩ = false := by simp [World.frozen?, e1]
  have g1 : w1.frozen? ⟨w.heap.size + 1, 1, none⟩ = false := by simp [World.frozen?, e1]
  have HE := hide (And.intro e0 e1)
  clear e0 e1
  have HS := hide (set57 w1 w.heap.size (.string ⟨#[]⟩) (.slice none 0 0) (.slice none 0 0) (.slice none 0 0) (.slice none 0 0) (.int .i64 30) (.int .i64 (lenF s : Nat)) _ _ _ _ _ _ _ HE.out.1 HE.out.2)
  go_wp2
  obtain ⟨r0, r1, ro⟩ := HS.out
  refine bodyPost_ret (results_cell2 (p := 2) (q := 3) (ty := 26) (uy := 29) rfl _ _ w.heap.size (w.heap.size + 1) 26 29 _ _ (0, 0) (0, 0) _ _ rfl rfl r0 r1 Tryz.underlying26 rfl (by kernel_rfl) Tryz.underlying29 rfl (by kernel_rfl)) rfl ?_
  exact ⟨rfl, HB.out.trans (ro.toBelow HB.out.size (fun k hk => by omega))⟩
end Go.Proofs.YtmagchclmmphaaaGreatDoor
namespace Go.Proofs.YtmagchclmmphaaaGreatDoor
open Go.RowKit Go.Maps

/-! ### How many lines and words a text has -/
theorem mem_flat {l : List Nat} : ∀ {D : List (List Nat)}, l ∈ D → l.length ≤ D.flatten.length
  | [], h => by cases h
  | d :: D, h => by
    rw [List.flatten_cons, List.length_append]
    rcases List.mem_cons.1 h with rfl | h
    · omega
    · have := mem_flat h; omega
theorem words_le {x : ByteArray} {V : List ByteArray} (h : V.map bts = runsF nbB [] (bts x)) : V.length ≤ x.size ∧ ∀ v ∈ V, v.size ≤ x.size + 1 := by
  refine ⟨?_, fun v hv => ?_⟩
  · have := runs_count nbB (bts x)
    rw [← h, List.length_map, bts_len] at this
    exact this
  · have h1 := runs_room nbB (bts x) []
    have h2 := mem_flat (show bts v ∈ runsF nbB [] (bts x) by rw [← h]; exact List.mem_map_of_mem hv)
    rw [bts_len] at h1 h2
    rw [List.length_nil] at h1
    omega
theorem sum_filter (p : ByteArray → Bool) : ∀ l : List ByteArray, ((l.filter p).map fun x => x.size + 1).sum ≤ (l.map fun x => x.size + 1).sum
  | [] => Nat.le_refl _
  | x :: l => by
    have := sum_filter p l
    rw [List.filter_cons]
    split
    · simp only [List.map_cons, List.sum_cons]; omega
    · simp only [List.map_cons, List.sum_cons]; omega
theorem sum_mem {x : ByteArray} : ∀ {l : List ByteArray}, x ∈ l → x.size + 1 ≤ (l.map fun x => x.size + 1).sum
  | [], h => by cases h
  | y :: l, h => by
    simp only [List.map_cons, List.sum_cons]
    rcases List.mem_cons.1 h with rfl | h
    · omega
    · have := sum_mem h; omega
theorem sum_two : ∀ l : List ByteArray, (∀ x ∈ l, 0 < x.size) → 2 * l.length ≤ (l.map fun x => x.size + 1).sum
  | [], _ => Nat.le_refl _
  | x :: l, h => by
    have h1 := sum_two l fun y hy => h y (by simp [hy])
    have h2 := h x (by simp)
    simp only [List.map_cons, List.sum_cons, List.length_cons]
    omega
theorem linesR_le (s : ByteArray) : 2 * (linesR s).length ≤ s.size + 1 ∧ ∀ x ∈ linesR s, x.size ≤ s.size := by
  have h1 := lines_total s
  have h2 := sum_filter wneB (lines s)
  refine ⟨?_, fun x hx => ?_⟩
  · have h3 := sum_two (linesR s) fun x hx => by
      have hw := (List.mem_filter.1 hx).2
      rcases Nat.eq_zero_or_pos x.size with hz | hz
      · have hb : bts x = [] := List.eq_nil_of_length_eq_zero (by rw [bts_len]; exact hz)
        unfold wneB at hw
        rw [hb] at hw
        simp [runsF, endC] at hw
      · exact hz
    unfold linesR at h3 ⊢
    omega
  · have h3 := sum_mem hx
    unfold linesR at h3
    omega
end Go.Proofs.YtmagchclmmphaaaGreatDoor
