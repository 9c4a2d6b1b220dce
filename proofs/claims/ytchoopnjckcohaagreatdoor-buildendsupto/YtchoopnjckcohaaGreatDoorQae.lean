import Derived.Test.YtchoopnjckcohaaGreatDoorQad
namespace Go.Proofs.YtchoopnjckcohaaGreatDoor
open Go.RowKit Go.Maps
attribute [local go_sem] Oper.semAt_some

/-! ### The queue in a search's box -/
/-- The cells of a search. -/
def sF (al it : Value) (f c : Nat) (ln : Value) : Nat → Value := fun k => match k with | 0 => al | 1 => it | 2 => .int .i64 f | 3 => .int .i64 c | _ => ln
/-- What waits in the queue of the search in block b: m places, the first one f. -/
structure RingAt (w : World) (b : Nat) (al ln : Value) (m f : Nat) (ao : Option Addr) (T : List Int) : Prop where
  box : Mrw w b 138 5 (sF al (.slice ao m m) f T.length ln) 5
  le : T.length ≤ m
  nil : m = 0 → ao = none ∧ f = 0
  some : 0 < m → f < m ∧ ∃ (g : Nat) (F : Nat → Int), ao = some ⟨g, 0, none⟩ ∧ Mrw w g 3 m (fun c => .int .i64 (F c)) m ∧ ∀ k, k < T.length → F ((f + k) % m) = T.getD k 0
theorem RingAt.drew {w : World} {b m f : Nat} {al ln : Value} {ao : Option Addr} {T : List Int} (h : RingAt w b al ln m f ao T) : RingAt w.drew b al ln m f ao T := ⟨h.1, h.2, h.3, h.4⟩
theorem RingAt.drewN {w : World} {b m f : Nat} {al ln : Value} {ao : Option Addr} {T : List Int} (h : RingAt w b al ln m f ao T) (q : Nat) : RingAt (w.drewN q) b al ln m f ao T := ⟨h.1, h.2, h.3, h.4⟩
theorem mod_one {f m : Nat} (k : Nat) : ((f + 1) % m + k) % m = (f + (k + 1)) % m := by
  rw [Nat.mod_add_mod]; congr 1; omega
set_option maxRecDepth 100000 in
set_option maxHeartbeats 1000000 in
theorem ring_none (w : World) (b : Nat) (al ln : Value) (m f : Nat) (ao : Option Addr) (h : RingAt w b al ln m f ao []) :
    Calls Tryz.prog 156 #[.pointer (some ⟨b, 1, none⟩)] w fun e w' => e = .returned (.tuple #[.int .i64 0, .bool false]) ∧ w' = w := by
  have c3 : w.cell? ⟨b, 3, none⟩ = some (.int .i64 0) := h.box.at 3 (by omega)
  clear h
  go_enter Tryz.func156, Tryz.ntmps156
  go_wp2
  go_ret2
  exact ⟨rfl, rfl⟩
theorem ring_took {w : World} {b m f q : Nat} {al ln : Value} {ao : Option Addr} {p : Int} {T : List Int} (h : RingAt w b al ln m f ao (p :: T)) :
    RingAt (((w.drewN q).setCell ⟨b, 2, none⟩ (.int .i64 (((f : Int) + 1) % (m : Int)))).setCell ⟨b, 3, none⟩ (.int .i64 T.length)) b al ln m ((f + 1) % m) ao T := by
  have hle : T.length + 1 ≤ m := h.le
  obtain ⟨hf, g, F, e, hM, hF⟩ := h.some (by omega)
  have hgb : g ≠ b := hM.ne h.box (by decide)
  refine ⟨?_, by omega, fun h0 => by omega, fun _ => ⟨Nat.mod_lt _ (by omega), g, F, e, ?_, fun k hk => ?_⟩⟩
  · refine (((h.drewN q).box.upd 2 _).upd 3 _).congr fun c hc => ?_
    rcases c with _ | _ | _ | _ | _ | c
    · rfl
    · rfl
    · simp [sF]
    · simp [sF]
    · rfl
    · omega
  · exact (((show Mrw (w.drewN q) g 3 m _ m from hM).far hgb 2 _).far hgb 3 _)
  · rw [mod_one]
    have := hF (k + 1) (by simpa using hk)
    simpa using this
theorem only_drewN (w : World) (q : Nat) {R : Nat → Prop} : Only w (w.drewN q) R := Only.ofBelow (below_drewN2 (Below.refl _ _) q)
set_option maxRecDepth 100000 in
set_option maxHeartbeats 1000000 in
theorem ring_take (w : World) (b : Nat) (al ln : Value) (m f : Nat) (ao : Option Addr) (p : Int) (T : List Int) (h : RingAt w b al ln m f ao (p :: T)) (hm : m ≤ 4194304) :
    Calls Tryz.prog 156 #[.pointer (some ⟨b, 1, none⟩)] w fun e w' => e = .returned (.tuple #[.int .i64 p, .bool true]) ∧ RingAt w' b al ln m ((f + 1) % m) ao T ∧ Only w w' (fun k => k = b) := by
  have hle : T.length + 1 ≤ m := h.le
  obtain ⟨hf, g, F, rfl, hM, hF⟩ := h.some (by omega)
  have c1 : w.cell? ⟨b, 1, none⟩ = some (.slice (some ⟨g, 0, none⟩) m m) := h.box.at 1 (by omega)
  have c2 : w.cell? ⟨b, 2, none⟩ = some (.int .i64 f) := h.box.at 2 (by omega)
  have c3 : w.cell? ⟨b, 3, none⟩ = some (.int .i64 ((T.length + 1 : Nat) : Int)) := h.box.at 3 (by omega)
  have z2 : w.frozen? ⟨b, 2, none⟩ = false := h.box.fz 2
  have z3 : w.frozen? ⟨b, 3, none⟩ = false := h.box.fz 3
  have f0 : F f = p := by
    have := hF 0 (by simp)
    rw [Nat.add_zero, Nat.mod_eq_of_lt hf] at this
    exact this
  have cg : w.cell? ⟨g, f, none⟩ = some (.int .i64 p) := by rw [← f0]; exact hM.at f hf
  have hx0 : (0 : Int) ≤ (f : Int) := by omega
  have hx1 : (f : Int) < (m : Int) := by omega
  have n0 : ¬ (((T.length + 1 : Nat) : Int) = 0) := by omega
  have n1 : ¬ ((m : Int) = 0) := by omega
  have w1 : IntKind.i64.wrap ((f : Int) + 1) = ((f + 1 : Nat) : Int) := by rw [IntKind.wrap_i64]; omega
  have w2 : IntKind.i64.wrap (((f + 1 : Nat) : Int) % (m : Int)) = (((f + 1) % m : Nat) : Int) := by
    have : (f + 1) % m < m := Nat.mod_lt _ (by omega)
    rw [IntKind.wrap_i64]; omega
  have w3 : IntKind.i64.wrap (((T.length + 1 : Nat) : Int) - 1) = (T.length : Int) := by rw [IntKind.wrap_i64]; omega
  have H := hide h
  have HM := hide hM
  have HF := hide hF
  clear h hM hF f0
  go_enter Tryz.func156, Tryz.ntmps156
  go_wp2
  go_quiet (fail)
  go_wp2_with fail
  refine wp_region_phase 14 #[true, true, true, true, true, true, true, true, true, true, true, true, true, true, false] (by kernel_rfl) (by kernel_rfl) ?_
  simp only [List.take_succ_cons, List.take_zero, List.drop_succ_cons, List.drop_zero]
  repeat (go_big_quiet_step (fail))
  refine wpQuiet_nil ?_
  intro wz hz
  obtain ⟨nq, rfl⟩ := hz
  go_wp2_with fail
  go_ret2
  exact ⟨rfl, ring_took H.out, (((only_drewN w _).trans (only_set _ b 2 _)).trans (only_set _ b 3 _))⟩
/-- A row that was made: all its numbers are 0. -/
theorem new_zeros {w w1 : World} {n : Nat} (h : w1.ownsRow w.heap.size 3 1 (.slice (some ⟨w.heap.size, 0, none⟩) n n) n (madeCells #[.int .i64 0] n).toList) : w1.heap[w.heap.size]? = some (.cells ((List.replicate n (0 : Int)).map (Value.int .i64)).toArray 3 (0, 0)) := by
  rw [toList_madeCells_one] at h
  rcases h.2 with ⟨hv, _⟩ | ⟨g', cap', cur, hv, hb, hg, h1, h2, h3, h4⟩
  · cases hv
  · cases hv
    rw [hg]
    have e : cur.toList = (List.replicate n (0 : Int)).map (Value.int .i64) := by
      rw [List.take_of_length_le (by simp; omega)] at h4
      rw [h4]; simp
    rw [← e]
theorem one_ints (L : List Int) : ∀ v ∈ L.map (Value.int .i64), v.oneCell' = true := by
  intro v hv
  obtain ⟨x, _, rfl⟩ := List.mem_map.1 hv
  rfl
theorem add_at (g o j : Nat) : Addr.add ⟨g, o, none⟩ j = ⟨g, o + j, none⟩ := by
  unfold Addr.add
  by_cases q : j = 0
  · subst q; simp
  · simp [q]
theorem ints_src {W : World} {g o n : Nat} {G : Nat → Int} (h : ∀ j, j < n → W.cell? ⟨g, o + j, none⟩ = some (.int .i64 (G j))) : ∀ j v, (((List.range n).map G).map (Value.int .i64))[j]? = some v → W.cell? (Addr.add ⟨g, o, none⟩ j) = some v := by
  intro j v hv
  rw [List.getElem?_map, List.getElem?_map] at hv
  obtain ⟨x, hx, rfl⟩ := Option.map_eq_some_iff.1 hv
  obtain ⟨y, hy, rfl⟩ := Option.map_eq_some_iff.1 hx
  obtain ⟨hj, rfl⟩ := List.getElem?_eq_some_iff.1 hy
  rw [add_at, List.getElem_range]
  exact h j (by simpa using hj)
theorem ring_wide {w W : World} {b h m f n : Nat} {al ln : Value} {ao : Option Addr} {T L : List Int} (H : RingAt w b al ln m f ao T) (hb : Below w.heap.size w W) (hh : w.heap.size ≤ h)
    (hz : W.heap[h]? = some (.cells (L.map (Value.int .i64)).toArray 3 (0, 0))) (hL : L.length = n) (hn : T.length ≤ n) (hn0 : 0 < n) (hT : ∀ k, k < T.length → L.getD k 0 = T.getD k 0) :
    RingAt ((W.setCell ⟨b, 1, none⟩ (.slice (some ⟨h, 0, none⟩) n n)).setCell ⟨b, 2, none⟩ (.int .i64 0)) b al ln n 0 (some ⟨h, 0, none⟩) T := by
  have hbl := H.box.lt
  have hne : h ≠ b := by omega
  have hM : Mrw W h 3 n (fun c => .int .i64 (L.getD c 0)) n := ⟨_, hz, by simp [hL], fun j hj => by
    have hj' : j < L.length := by omega
    simp [hj']⟩
  refine ⟨?_, hn, fun h0 => by omega, fun _ => ⟨hn0, h, fun c => L.getD c 0, rfl, (hM.far hne 1 _).far hne 2 _, fun k hk => ?_⟩⟩
  · refine (((H.box.below hb hbl).upd 1 _).upd 2 _).congr fun c hc => ?_
    rcases c with _ | _ | _ | _ | _ | c
    · rfl
    · simp [sF]
    · simp [sF]
    · rfl
    · rfl
    · omega
  · rw [Nat.zero_add, Nat.mod_eq_of_lt (by omega)]
    exact hT k hk
theorem wide_at {m f q n k : Nat} {F : Nat → Int} {A C : List Int} (hA : A = (List.range (m - f)).map fun j => F (f + j)) (hC : C = (List.range f).map F) (hq : m - f = q) (hf : f < m) (hk : k < m) :
    (splice (splice (List.replicate n (0 : Int)) 0 A) q C).getD k 0 = F ((f + k) % m) := by
  have lA : A.length = q := by rw [hA]; simp [hq]
  have lC : C.length = f := by rw [hC]; simp
  have e : (splice (splice (List.replicate n (0 : Int)) 0 A) q C) = A ++ (C ++ ((A ++ (List.replicate n (0 : Int)).drop A.length).drop (q + f))) := by
    unfold splice
    rw [List.take_zero, List.nil_append, Nat.zero_add, lC]
    congr 1
    rw [List.take_append_of_le_length (by omega), List.take_of_length_le (by omega)]
  rw [e, List.getD_eq_getElem?_getD]
  by_cases h : k < q
  · rw [List.getElem?_append_left (by omega), hA, Nat.mod_eq_of_lt (by omega)]
    simp [show k < m - f by omega]
  · rw [List.getElem?_append_right (by omega), List.getElem?_append_left (by omega), hC, show (f + k) % m = k - A.length by
      rw [Nat.mod_eq_sub_mod (by omega), Nat.mod_eq_of_lt (by omega)]; omega]
    simp [show k - A.length < f by omega]
set_option maxRecDepth 100000 in
set_option maxHeartbeats 1000000 in
theorem ring_widen0 (w : World) (b : Nat) (al ln : Value) (h : RingAt w b al ln 0 0 none []) :
    Calls Tryz.prog 167 #[.pointer (some ⟨b, 1, none⟩)] w fun e w' => e = .returned (.tuple #[]) ∧ RingAt w' b al ln 1 0 (some ⟨w.heap.size, 0, none⟩) [] ∧ Only w w' (fun k => k = b) := by
  obtain ⟨i9, hi9, hz90, hz91, hz92⟩ := info_parts info3
  have c1 : w.cell? ⟨b, 1, none⟩ = some (.slice none 0 0) := h.box.at 1 (by omega)
  have c2 : w.cell? ⟨b, 2, none⟩ = some (.int .i64 0) := h.box.at 2 (by omega)
  have H := hide h
  clear h
  go_enter Tryz.func167, Tryz.ntmps167
  go_wp2_with (at_make; refine wpList_make_full _ rfl _ _ 22 rfl w.heap.size 3 i9 (.int .i64 0) 1 Tryz.underlying22 hi9 hz90 hz91 _ _ _ _ 1 rfl rfl (by go_num) (by go_num) (by rw [hz92]; omega) (by unfold maxLen; omega) (Nat.le_refl _) ?_)
  intro w1 ho hg
  have D1 : Below w.heap.size w w1 := (Below.refl _ _).grown hg (Nat.le_refl _) (by intro k hk; cases hk)
  have B1 := hide (H.out.box.below D1 H.out.box.lt)
  have y1 : w1.cell? ⟨b, 1, none⟩ = some (.slice none 0 0) := B1.out.at 1 (by omega)
  have y2 : w1.cell? ⟨b, 2, none⟩ = some (.int .i64 0) := B1.out.at 2 (by omega)
  have hcur := new_zeros ho
  have HC := hide (And.intro hcur D1)
  clear ho hg D1 hcur
  obtain ⟨A, hA⟩ : ∃ A, A = ([] : List Int) := ⟨_, rfl⟩
  have HA := hide hA
  have lA : A.length = 0 := by rw [hA]; simp
  have HlA := hide lA
  clear hA lA
  obtain ⟨C, hC⟩ : ∃ C, C = ([] : List Int) := ⟨_, rfl⟩
  have HlC : Hid (C.length = 0) := hide (by rw [hC]; simp)
  have HCC := hide hC
  clear hC
  go_wp2_with fail
  refine wp_region_phase 10 #[true, true, true, true, true, true, true, true, true, true, false, false] (by kernel_rfl) (by kernel_rfl) ?_
  simp only [List.take_succ_cons, List.take_zero, List.drop_succ_cons, List.drop_zero]
  repeat (go_big_quiet_step (fail))
  refine wpQuiet_nil ?_
  intro wz hz
  obtain ⟨nq, rfl⟩ := hz
  go_wp2_with (refine wpList_copy_splice rfl (.tmp 12) (.tmp 21) 22 22 rfl 3 Tryz.underlying22 (by rw [hi9]; simp [hz91]) _ _ _ _ _ _ rfl rfl w.heap.size 0 ((List.replicate 1 (0 : Int)).map (Value.int .i64)) 3 HC.out.1 (A.map (Value.int .i64)) (by rw [List.length_map, HlA.out]; exact (Nat.min_eq_left (by omega)).symm) (fun h => by have := HlA.out; simp at h; omega) (by rw [List.length_map, HlA.out, List.length_map, List.length_replicate]; omega) (one_ints A) w.heap.size w (below_drewN2 HC.out.2 _) (Nat.le_refl _) ?_)
  intro w2 HG2 d2
  rw [HlA.out]
  have D2 := hide d2
  clear d2
  have B2 := hide (H.out.box.below D2.out H.out.box.lt)
  have y1 : w2.cell? ⟨b, 1, none⟩ = some (.slice none 0 0) := B2.out.at 1 (by omega)
  have y2 : w2.cell? ⟨b, 2, none⟩ = some (.int .i64 0) := B2.out.at 2 (by omega)
  go_wp2_with fail
  refine wp_region_phase 12 #[true, true, true, true, true, true, true, true, true, true, true, true, false] (by kernel_rfl) (by kernel_rfl) ?_
  simp only [List.take_succ_cons, List.take_zero, List.drop_succ_cons, List.drop_zero]
  repeat (go_big_quiet_step (fail))
  refine wpQuiet_nil ?_
  intro wz hz
  obtain ⟨nq, rfl⟩ := hz
  go_wp2_with (refine wpList_copy_splice rfl (.tmp 25) (.tmp 34) 22 22 rfl 3 Tryz.underlying22 (by rw [hi9]; simp [hz91]) _ _ _ _ _ _ rfl rfl w.heap.size 0 _ 3 HG2.out (C.map (Value.int .i64)) (by rw [List.length_map, HlC.out]; exact (Nat.min_eq_left (by omega)).symm) (fun h => by have := HlC.out; simp at h; omega) (by have a1 := HlA.out; have a2 := HlC.out; simp [splice]; omega) (one_ints C) w.heap.size w (below_drewN2 D2.out _) (Nat.le_refl _) ?_)
  intro w3 HG3 d3
  have B3 := hide (H.out.box.below d3 H.out.box.lt)
  have y1 : w3.cell? ⟨b, 1, none⟩ = some (.slice none 0 0) := B3.out.at 1 (by omega)
  have y2 : w3.cell? ⟨b, 2, none⟩ = some (.int .i64 0) := B3.out.at 2 (by omega)
  have z1 : w3.frozen? ⟨b, 1, none⟩ = false := B3.out.fz 1
  have z2 : w3.frozen? ⟨b, 2, none⟩ = false := B3.out.fz 2
  have D3 := hide d3
  clear d3
  go_wp2_with fail
  go_end0
  refine ⟨rfl, ring_wide (L := splice (splice (List.replicate 1 0) 0 A) 0 C) H.out D3.out (Nat.le_refl _) ?_ ?_ (by simp) (by omega) ?_, ((Only.ofBelow D3.out).trans (only_set _ b 1 _)).trans (only_set _ b 2 _)⟩
  · refine HG3.out.trans ?_
    simp [splice, List.map_append, List.map_drop]
  · have a1 := HlA.out
    have a2 := HlC.out
    simp [splice]
    omega
  · intro k hk
    simp at hk
set_option maxRecDepth 100000 in
set_option maxHeartbeats 1000000 in
theorem ring_widen1 (w : World) (b : Nat) (al ln : Value) (m f g : Nat) (T : List Int) (hm0 : 0 < m) (hm : m ≤ 2000000) (hT : T.length = m) (h : RingAt w b al ln m f (some ⟨g, 0, none⟩) T) :
    Calls Tryz.prog 167 #[.pointer (some ⟨b, 1, none⟩)] w fun e w' => e = .returned (.tuple #[]) ∧ RingAt w' b al ln (2 * m + 1) 0 (some ⟨w.heap.size, 0, none⟩) T ∧ Only w w' (fun k => k = b) := by
  obtain ⟨i9, hi9, hz90, hz91, hz92⟩ := info_parts info3
  obtain ⟨hf, g', F, e, hM, hF⟩ := h.some hm0
  cases e
  have hx0 : (0 : Int) ≤ (f : Int) := by omega
  have hx1 : (f : Int) ≤ (m : Int) := by omega
  have hx2 : f ≤ m := by omega
  have HF := hide (And.intro hM hF)
  have hgl : g < w.heap.size := hM.lt
  clear hM hF
  have c1 : w.cell? ⟨b, 1, none⟩ = some (.slice (some ⟨g, 0, none⟩) m m) := h.box.at 1 (by omega)
  have c2 : w.cell? ⟨b, 2, none⟩ = some (.int .i64 f) := h.box.at 2 (by omega)
  have H := hide h
  clear h
  go_enter Tryz.func167, Tryz.ntmps167
  go_wp2_with (at_make; refine wpList_make_full _ rfl _ _ 22 rfl w.heap.size 3 i9 (.int .i64 0) 1 Tryz.underlying22 hi9 hz90 hz91 _ _ _ _ (2 * m + 1) rfl rfl (by go_num) (by go_num) (by rw [hz92]; omega) (by unfold maxLen; omega) (Nat.le_refl _) ?_)
  intro w1 ho hg
  have D1 : Below w.heap.size w w1 := (Below.refl _ _).grown hg (Nat.le_refl _) (by intro k hk; cases hk)
  have B1 := hide (H.out.box.below D1 H.out.box.lt)
  have y1 : w1.cell? ⟨b, 1, none⟩ = some (.slice (some ⟨g, 0, none⟩) m m) := B1.out.at 1 (by omega)
  have y2 : w1.cell? ⟨b, 2, none⟩ = some (.int .i64 f) := B1.out.at 2 (by omega)
  have hcur := new_zeros ho
  have HC := hide (And.intro hcur D1)
  clear ho hg D1 hcur
  obtain ⟨A, hA⟩ : ∃ A, A = ((List.range (m - f)).map fun j => F (f + j)) := ⟨_, rfl⟩
  have HA := hide hA
  have lA : A.length = m - f := by rw [hA]; simp
  have HlA := hide lA
  clear hA lA
  obtain ⟨C, hC⟩ : ∃ C, C = ((List.range f).map F) := ⟨_, rfl⟩
  have HlC : Hid (C.length = f) := hide (by rw [hC]; simp)
  have HCC := hide hC
  clear hC
  go_wp2_with fail
  refine wp_region_phase 10 #[true, true, true, true, true, true, true, true, true, true, false, false] (by kernel_rfl) (by kernel_rfl) ?_
  simp only [List.take_succ_cons, List.take_zero, List.drop_succ_cons, List.drop_zero]
  repeat (go_big_quiet_step (fail))
  refine wpQuiet_nil ?_
  intro wz hz
  obtain ⟨nq, rfl⟩ := hz
  go_wp2_with (refine wpList_copy_splice rfl (.tmp 12) (.tmp 21) 22 22 rfl 3 Tryz.underlying22 (by rw [hi9]; simp [hz91]) _ _ _ _ _ _ rfl rfl w.heap.size 0 ((List.replicate (2 * m + 1) (0 : Int)).map (Value.int .i64)) 3 HC.out.1 (A.map (Value.int .i64)) (by rw [List.length_map, HlA.out]; exact (Nat.min_eq_left (by omega)).symm) (fun _ => ⟨rfl, _, rfl, ?_⟩) (by rw [List.length_map, HlA.out, List.length_map, List.length_replicate]; omega) (one_ints A) w.heap.size w (below_drewN2 HC.out.2 _) (Nat.le_refl _) ?_)
  · rw [HA.out]
    exact ints_src (G := fun j => F (f + j)) (fun j hj => (HF.out.1.below HC.out.2 hgl).at (f + j) (by omega))
  intro w2 HG2 d2
  rw [HlA.out]
  have D2 := hide d2
  clear d2
  have B2 := hide (H.out.box.below D2.out H.out.box.lt)
  have y1 : w2.cell? ⟨b, 1, none⟩ = some (.slice (some ⟨g, 0, none⟩) m m) := B2.out.at 1 (by omega)
  have y2 : w2.cell? ⟨b, 2, none⟩ = some (.int .i64 f) := B2.out.at 2 (by omega)
  obtain ⟨q, hq⟩ : ∃ q, m - f = q := ⟨_, rfl⟩
  rw [hq]
  have hy1 : (q : Int) ≤ ((2 * m + 1 : Nat) : Int) := by omega
  have hy0 : (0 : Int) ≤ (q : Int) := by omega
  have hy2 : q < 2 * m + 1 := by omega
  have hy3 : q ≤ 2 * m + 1 := by omega
  have hy4 : ¬ (2 * m + 1 - q = 0) := by omega
  have hy5 : ¬ (2 * m + 1 = q) := by omega
  have HQ := hide hq
  clear hq
  go_wp2_with fail
  refine wp_region_phase 12 #[true, true, true, true, true, true, true, true, true, true, true, true, false] (by kernel_rfl) (by kernel_rfl) ?_
  simp only [List.take_succ_cons, List.take_zero, List.drop_succ_cons, List.drop_zero]
  repeat (go_big_quiet_step (fail))
  refine wpQuiet_nil ?_
  intro wz hz
  obtain ⟨nq, rfl⟩ := hz
  go_wp2_with (refine wpList_copy_splice rfl (.tmp 25) (.tmp 34) 22 22 rfl 3 Tryz.underlying22 (by rw [hi9]; simp [hz91]) _ _ _ _ _ _ rfl rfl w.heap.size q _ 3 HG2.out (C.map (Value.int .i64)) (by rw [List.length_map, HlC.out]; exact (Nat.min_eq_left (by have a3 := HQ.out; omega)).symm) (fun _ => ⟨rfl, _, rfl, ?_⟩) (by have a1 := HlA.out; have a2 := HlC.out; have a3 := HQ.out; simp [splice]; omega) (one_ints C) w.heap.size w (below_drewN2 D2.out _) (Nat.le_refl _) ?_)
  · rw [HCC.out]
    exact ints_src (o := 0) (G := F) (fun j hj => by rw [Nat.zero_add]; exact (HF.out.1.below D2.out hgl).at j (by omega))
  intro w3 HG3 d3
  have B3 := hide (H.out.box.below d3 H.out.box.lt)
  have y1 : w3.cell? ⟨b, 1, none⟩ = some (.slice (some ⟨g, 0, none⟩) m m) := B3.out.at 1 (by omega)
  have y2 : w3.cell? ⟨b, 2, none⟩ = some (.int .i64 f) := B3.out.at 2 (by omega)
  have z1 : w3.frozen? ⟨b, 1, none⟩ = false := B3.out.fz 1
  have z2 : w3.frozen? ⟨b, 2, none⟩ = false := B3.out.fz 2
  have D3 := hide d3
  clear d3
  go_wp2_with fail
  go_end0
  refine ⟨rfl, ring_wide (L := splice (splice (List.replicate (2 * m + 1) 0) 0 A) q C) H.out D3.out (Nat.le_refl _) ?_ ?_ (by omega) (by omega) ?_, ((Only.ofBelow D3.out).trans (only_set _ b 1 _)).trans (only_set _ b 2 _)⟩
  · refine HG3.out.trans ?_
    simp [splice, List.map_append, List.map_take, List.map_drop, List.map_replicate]
  · have a1 := HlA.out
    have a2 := HlC.out
    have a3 := HQ.out; simp [splice]
    omega
  · intro k hk
    rw [← HF.out.2 k hk]
    exact wide_at HA.out HCC.out HQ.out hf (by omega)
end Go.Proofs.YtchoopnjckcohaaGreatDoor
namespace Go.Proofs.YtchoopnjckcohaaGreatDoor
open Go.RowKit Go.Maps
attribute [local go_sem] Oper.semAt_some

/-! ### What is put into the queue -/
theorem ring_puts {w : World} {b m f q g j : Nat} {al ln : Value} {T : List Int} {p : Int} (h : RingAt w b al ln m f (some ⟨g, 0, none⟩) T) (hm : T.length < m) (hj : (f + T.length) % m = j) :
    RingAt (((w.drewN q).setCell ⟨g, j, none⟩ (.int .i64 p)).setCell ⟨b, 3, none⟩ (.int .i64 ((T.length : Int) + 1))) b al ln m f (some ⟨g, 0, none⟩) (T ++ [p]) := by
  obtain ⟨hf, g', F, e, hM, hF⟩ := h.some (by omega)
  cases e
  have hgb : g ≠ b := hM.ne h.box (by decide)
  have hl : (T ++ [p]).length = T.length + 1 := by simp
  refine ⟨?_, by omega, fun h0 => by omega, fun _ => ⟨hf, g, fun c => if c = j then p else F c, rfl, ?_, fun k hk => ?_⟩⟩
  · rw [hl]
    refine (((h.drewN q).box.far hgb.symm j _).upd 3 _).congr fun c hc => ?_
    rcases c with _ | _ | _ | _ | _ | c
    · rfl
    · rfl
    · rfl
    · simp [sF]
    · rfl
    · omega
  · refine (((show Mrw (w.drewN q) g 3 m _ m from hM).upd j _).congr fun c _ => ?_).far hgb 3 _
    by_cases e : c = j
    · simp [e]
    · simp [e]
  · by_cases hk' : k = T.length
    · subst hk'
      simp [hj]
    · have hk2 : k < T.length := by omega
      have hne : ¬ ((f + k) % m = j) := by
        intro e
        rw [← hj] at e
        have h1 : f + k < m ∨ m ≤ f + k := by omega
        have h2 : f + T.length < m ∨ m ≤ f + T.length := by omega
        rcases h1 with h1 | h1 <;> rcases h2 with h2 | h2
        · rw [Nat.mod_eq_of_lt h1, Nat.mod_eq_of_lt h2] at e; omega
        · rw [Nat.mod_eq_of_lt h1, Nat.mod_eq_sub_mod h2, Nat.mod_eq_of_lt (by omega)] at e; omega
        · omega
        · rw [Nat.mod_eq_sub_mod h1, Nat.mod_eq_of_lt (by omega), Nat.mod_eq_sub_mod h2, Nat.mod_eq_of_lt (by omega)] at e; omega
      show (if (f + k) % m = j then p else F ((f + k) % m)) = _
      rw [if_neg hne, hF k hk2, List.getD_eq_getElem?_getD, List.getD_eq_getElem?_getD, List.getElem?_append_left hk2]
theorem ring_widen (w : World) (b : Nat) (al ln : Value) (m f : Nat) (ao : Option Addr) (T : List Int) (hm : m ≤ 2000000) (hT : T.length = m) (h : RingAt w b al ln m f ao T) :
    Calls Tryz.prog 167 #[.pointer (some ⟨b, 1, none⟩)] w fun e w' => e = .returned (.tuple #[]) ∧ RingAt w' b al ln (2 * m + 1) 0 (some ⟨w.heap.size, 0, none⟩) T ∧ Only w w' (fun k => k = b) := by
  by_cases h0 : m = 0
  · obtain ⟨rfl, rfl⟩ := h.nil h0
    subst h0
    obtain rfl : T = [] := List.eq_nil_of_length_eq_zero hT
    exact ring_widen0 w b al ln h
  · obtain ⟨hf, g, F, rfl, _⟩ := h.some (by omega)
    exact ring_widen1 w b al ln m f g T (by omega) hm hT h
set_option maxRecDepth 100000 in
set_option maxHeartbeats 1000000 in
theorem ring_put (w : World) (b : Nat) (al ln : Value) (m f : Nat) (ao : Option Addr) (T : List Int) (p : Int) (K : Nat) (h : RingAt w b al ln m f ao T) (hK : m ≤ K) (hT : 2 * T.length + 1 ≤ K) (hk : K ≤ 2000000) :
    Calls Tryz.prog 155 #[.pointer (some ⟨b, 1, none⟩), .int .i64 p] w fun e w' => e = .returned (.tuple #[]) ∧ ∃ m' f' ao', RingAt w' b al ln m' f' ao' (T ++ [p]) ∧ m' ≤ K ∧ Only w w' (fun k => k = b ∨ ao = some ⟨k, 0, none⟩) ∧ ∀ g, ao' = some ⟨g, 0, none⟩ → ao = ao' ∨ w.heap.size ≤ g := by
  have d1 : w.cell? ⟨b, 1, none⟩ = some (.slice ao m m) := h.box.at 1 (by omega)
  have d3 : w.cell? ⟨b, 3, none⟩ = some (.int .i64 T.length) := h.box.at 3 (by omega)
  have hle := h.le
  by_cases hw : T.length = m
  · have u1 : ((T.length : Nat) : Int) = (m : Int) := by omega
    have H := hide h
    clear h
    go_enter Tryz.func155, Tryz.ntmps155
    go_wp2_with fail
    go_quiet (fail)
    go_wp2_with (go_at_call 167; refine (ring_widen _ b al ln m f ao T (by omega) hw (H.out.drewN _)).mono ?_; rintro e w1 ⟨rfl, hR, hO⟩)
    obtain ⟨m1, f1, g1, hm1, hg1, hR⟩ : ∃ m1 f1 g1, m1 = 2 * m + 1 ∧ g1 = w.heap.size ∧ RingAt w1 b al ln m1 f1 (some ⟨g1, 0, none⟩) T := ⟨_, _, _, rfl, rfl, hR⟩
    have HR := hide hR
    have HO := hide hO
    clear hR hO
    have q0 : T.length < m1 := by omega
    have q1 : m1 ≤ 2000000 := by omega
    have q2 : m1 ≤ K := by omega
    have HE := hide (And.intro hw (And.intro hm1 hg1))
    clear hw u1 d1 d3 hm1 hg1
    obtain ⟨hf', g', F, e, hM, hF⟩ := HR.out.some (by omega)
    cases e
    have c1 : w1.cell? ⟨b, 1, none⟩ = some (.slice (some ⟨g1, 0, none⟩) m1 m1) := HR.out.box.at 1 (by omega)
    have c2 : w1.cell? ⟨b, 2, none⟩ = some (.int .i64 f1) := HR.out.box.at 2 (by omega)
    have c3 : w1.cell? ⟨b, 3, none⟩ = some (.int .i64 T.length) := HR.out.box.at 3 (by omega)
    have z3 : w1.frozen? ⟨b, 3, none⟩ = false := HR.out.box.fz 3
    have hgb : g1 ≠ b := hM.ne HR.out.box (by decide)
    have hbg : b ≠ g1 := hgb.symm
    obtain ⟨j, hj⟩ : ∃ j, (f1 + T.length) % (m1) = j := ⟨_, rfl⟩
    have hjm : j < m1 := by rw [← hj]; exact Nat.mod_lt _ (by omega)
    have cj : w1.cell? ⟨g1, j, none⟩ = some (.int .i64 (F j)) := hM.at j hjm
    have zj : w1.frozen? ⟨g1, j, none⟩ = false := hM.fz j
    have n1 : ¬ (((m1 : Nat) : Int) = 0) := by omega
    have wj : ((f1 : Int) + (T.length : Int)) % ((m1 : Nat) : Int) = (j : Int) := by rw [← hj, Int.natCast_emod, Int.natCast_add]
    have j0 : (0 : Int) ≤ (j : Int) := by omega
    have j1 : (j : Int) < ((m1 : Nat) : Int) := by omega
    have HM := hide (And.intro hM (And.intro hF hj))
    clear hM hF hj
    go_wp2_with fail
    refine wp_region_phase 21 #[true, true, true, true, true, true, true, true, true, true, true, true, true, true, true, true, true, true, true, true, true, false] (by kernel_rfl) (by kernel_rfl) ?_
    simp only [List.take_succ_cons, List.take_zero, List.drop_succ_cons, List.drop_zero]
    repeat (go_big_quiet_step (fail))
    refine wpQuiet_nil ?_
    intro wz hz
    obtain ⟨nq, rfl⟩ := hz
    rw [wj]
    go_wp2_with fail
    go_end0
    refine ⟨rfl, m1, f1, _, ring_puts HR.out q0 HM.out.2.2, q2, ?_, fun g h => ?_⟩
    · have O1 : Only w w1 (fun k => k = b ∨ ao = some ⟨k, 0, none⟩) := (only_drewN w _).trans (HO.out.mono fun k _ hk => .inl hk)
      exact ((O1.trans (only_drewN w1 _)).andNew (only_set _ g1 j _) (fun i hi e => absurd e (by have := HE.out.2.2; omega))).trans ((only_set _ b 3 _).mono fun k _ e => .inl e)
    · cases h
      exact .inr (by have := HE.out.2.2; omega)
  · have u1 : ¬ ((T.length : Nat) : Int) = (m : Int) := by omega
    obtain ⟨hf, g, _, rfl, _⟩ := h.some (by omega)
    have HR := hide h
    clear h
    go_enter Tryz.func155, Tryz.ntmps155
    go_wp2_with fail
    go_quiet (fail)
    go_wp2_with fail
    have q0 : T.length < m := by omega
    have q1 : m ≤ 2000000 := by omega
    have q2 : m ≤ K := by omega
    obtain ⟨hf', g', F, e, hM, hF⟩ := HR.out.some (by omega)
    cases e
    have c1 : w.cell? ⟨b, 1, none⟩ = some (.slice (some ⟨g, 0, none⟩) m m) := HR.out.box.at 1 (by omega)
    have c2 : w.cell? ⟨b, 2, none⟩ = some (.int .i64 f) := HR.out.box.at 2 (by omega)
    have c3 : w.cell? ⟨b, 3, none⟩ = some (.int .i64 T.length) := HR.out.box.at 3 (by omega)
    have z3 : w.frozen? ⟨b, 3, none⟩ = false := HR.out.box.fz 3
    have hgb : g ≠ b := hM.ne HR.out.box (by decide)
    have hbg : b ≠ g := hgb.symm
    obtain ⟨j, hj⟩ : ∃ j, (f + T.length) % (m) = j := ⟨_, rfl⟩
    have hjm : j < m := by rw [← hj]; exact Nat.mod_lt _ (by omega)
    have cj : w.cell? ⟨g, j, none⟩ = some (.int .i64 (F j)) := hM.at j hjm
    have zj : w.frozen? ⟨g, j, none⟩ = false := hM.fz j
    have n1 : ¬ (((m : Nat) : Int) = 0) := by omega
    have wj : ((f : Int) + (T.length : Int)) % ((m : Nat) : Int) = (j : Int) := by rw [← hj, Int.natCast_emod, Int.natCast_add]
    have j0 : (0 : Int) ≤ (j : Int) := by omega
    have j1 : (j : Int) < ((m : Nat) : Int) := by omega
    have HM := hide (And.intro hM (And.intro hF hj))
    clear hM hF hj
    go_wp2_with fail
    refine wp_region_phase 21 #[true, true, true, true, true, true, true, true, true, true, true, true, true, true, true, true, true, true, true, true, true, false] (by kernel_rfl) (by kernel_rfl) ?_
    simp only [List.take_succ_cons, List.take_zero, List.drop_succ_cons, List.drop_zero]
    repeat (go_big_quiet_step (fail))
    refine wpQuiet_nil ?_
    intro wz hz
    obtain ⟨nq, rfl⟩ := hz
    rw [wj]
    go_wp2_with fail
    go_end0
    refine ⟨rfl, m, f, _, ring_puts HR.out q0 HM.out.2.2, q2, ?_, fun g' h => .inl rfl⟩
    · exact ((only_drewN w _).trans ((only_set _ g j _).mono fun k _ e => .inr (by rw [e]))).trans ((only_set _ b 3 _).mono fun k _ e => .inl e)
end Go.Proofs.YtchoopnjckcohaaGreatDoor
namespace Go.Proofs.YtchoopnjckcohaaGreatDoor
open Go.RowKit Go.Maps
attribute [local go_sem] Oper.semAt_some

/-! ### A state that is met -/
/-- Nothing below B is changed, and no block but of numbers and of searches. -/
structure SFr (B : Nat) (w w' : World) : Prop where
  os : w'.os = w.os
  tape : w'.tape = w.tape
  output : w'.output = w.output
  size : w.heap.size ≤ w'.heap.size
  block : ∀ k, k < w.heap.size → (k < B ∨ ∃ cs t fr, w.heap[k]? = some (.cells cs t fr) ∧ t ≠ 3 ∧ t ≠ 138) → w'.heap[k]? = w.heap[k]?
theorem SFr.refl (B : Nat) (w : World) : SFr B w w := ⟨rfl, rfl, rfl, Nat.le_refl _, fun _ _ _ => rfl⟩
theorem SFr.trans {B : Nat} {a b c : World} (h : SFr B a b) (k : SFr B b c) : SFr B a c :=
  ⟨k.os.trans h.os, k.tape.trans h.tape, k.output.trans h.output, Nat.le_trans h.size k.size, fun i hi hh => by
    have e := h.block i hi hh
    rw [← e]
    exact k.block i (Nat.lt_of_lt_of_le hi h.size) (by rw [e]; exact hh)⟩
theorem SFr.ofOnly {B : Nat} {w w' : World} {R : Nat → Prop} (h : Only w w' R) (hR : ∀ k, R k → B ≤ k ∧ ∃ cs t fr, w.heap[k]? = some (.cells cs t fr) ∧ (t = 3 ∨ t = 138)) : SFr B w w' :=
  ⟨h.os, h.tape, h.output, h.size, fun k hk hh => h.block k hk fun hr => by
    obtain ⟨h1, cs, t, fr, h2, h3⟩ := hR k hr
    rcases hh with hh | ⟨cs', t', fr', h4, h5, h6⟩
    · omega
    · rw [h2] at h4
      cases h4
      rcases h3 with h3 | h3
      · exact h5 h3
      · exact h6 h3⟩
theorem SFr.toBelow {B : Nat} {w w' : World} (h : SFr B w w') (hB : B ≤ w.heap.size) : Below B w w' := ⟨h.os, h.tape, h.output, h.size, fun k hk => h.block k (by omega) (.inl hk)⟩
theorem SFr.ofBelow {B : Nat} {w w' : World} (h : Below w.heap.size w w') : SFr B w w' := ⟨h.os, h.tape, h.output, h.size, fun k hk _ => h.block k hk⟩
theorem SFr.mrw {B : Nat} {w w' : World} (h : SFr B w w') {g t N k : Nat} {f : Nat → Value} (hM : Mrw w g t N f k) (h1 : t ≠ 3) (h2 : t ≠ 138) : Mrw w' g t N f k := by
  have hl := hM.lt
  obtain ⟨cur, e, r⟩ := hM
  exact ⟨cur, (h.block g hl (.inr ⟨_, _, _, e, h1, h2⟩)).trans e, r⟩
/-- A search: what waits, and the lengths that are known. -/
structure SrAt (B : Nat) (w : World) (b : Nat) (al : Value) (gl N m f : Nat) (ao : Option Addr) (T : List Int) (len : Nat → Int) : Prop where
  ring : RingAt w b al (.slice (some ⟨gl, 0, none⟩) N N) m f ao T
  row : Mrw w gl 3 N (fun c => .int .i64 (len c)) N
  ne : ao ≠ some ⟨gl, 0, none⟩
  lb : B ≤ b
  lg : B ≤ gl
  la : ∀ g, ao = some ⟨g, 0, none⟩ → B ≤ g
theorem SrAt.drewN {B : Nat} {w : World} {b : Nat} {al : Value} {gl N m f : Nat} {ao : Option Addr} {T : List Int} {len : Nat → Int} (h : SrAt B w b al gl N m f ao T len) (q : Nat) : SrAt B (w.drewN q) b al gl N m f ao T len := ⟨h.1.drewN q, h.2, h.3, h.4, h.5, h.6⟩
theorem ring_only {w w' : World} {b : Nat} {al ln : Value} {m f : Nat} {ao : Option Addr} {T : List Int} {R : Nat → Prop} (h : RingAt w b al ln m f ao T) (o : Only w w' R) (hb : ¬ R b) (ha : ∀ g, ao = some ⟨g, 0, none⟩ → ¬ R g) : RingAt w' b al ln m f ao T :=
  ⟨h.box.only o hb, h.le, h.nil, fun hm => by
    obtain ⟨h1, g, F, e, hM, hF⟩ := h.some hm
    exact ⟨h1, g, F, e, hM.only o (ha g e), hF⟩⟩
theorem mrw_typed {w : World} {g t N k : Nat} {f : Nat → Value} (h : Mrw w g t N f k) : ∃ cs fr, w.heap[g]? = some (.cells cs t fr) := by
  obtain ⟨cur, e, _⟩ := h
  exact ⟨cur, _, e⟩
theorem SrAt.fr {B : Nat} {w w' : World} {b : Nat} {al : Value} {gl N m f : Nat} {ao : Option Addr} {T : List Int} {len : Nat → Int} (h : SrAt B w b al gl N m f ao T len)
    (o : Only w w' (fun k => k = b ∨ k = gl ∨ ao = some ⟨k, 0, none⟩)) : SFr B w w' := by
  refine SFr.ofOnly o fun k hk => ?_
  rcases hk with rfl | rfl | e
  · obtain ⟨cs, fr, e⟩ := mrw_typed h.ring.box
    exact ⟨h.lb, cs, 138, fr, e, .inr rfl⟩
  · obtain ⟨cs, fr, e⟩ := mrw_typed h.row
    exact ⟨h.lg, cs, 3, fr, e, .inl rfl⟩
  · by_cases hm : 0 < m
    · obtain ⟨_, g, F, e', hM, _⟩ := h.ring.some hm
      rw [e] at e'
      cases e'
      obtain ⟨cs, fr, e2⟩ := mrw_typed hM
      exact ⟨h.la k e, cs, 3, fr, e2, .inl rfl⟩
    · obtain ⟨rfl, _⟩ := h.ring.nil (by omega)
      cases e
set_option maxRecDepth 100000 in
set_option maxHeartbeats 1000000 in
theorem meet_old (B : Nat) (w : World) (b : Nat) (al : Value) (gl N m f : Nat) (ao : Option Addr) (T : List Int) (len : Nat → Int) (p : Nat) (n : Int) (h : SrAt B w b al gl N m f ao T len) (hp : p < N) (hn : len p ≠ -1) :
    Calls Tryz.prog 139 #[.pointer (some ⟨b, 0, none⟩), .int .i64 p, .int .i64 n] w fun e w' => e = .returned (.tuple #[]) ∧ w' = w := by
  have c4 : w.cell? ⟨b, 4, none⟩ = some (.slice (some ⟨gl, 0, none⟩) N N) := h.ring.box.at 4 (by omega)
  have cp : w.cell? ⟨gl, p, none⟩ = some (.int .i64 (len p)) := h.row.at p hp
  have p0 : (0 : Int) ≤ (p : Int) := by omega
  have p1 : (p : Int) < (N : Int) := by omega
  clear h
  go_enter Tryz.func139, Tryz.ntmps139
  go_wp2_with fail
  go_end0
  exact ⟨rfl, rfl⟩
set_option maxRecDepth 100000 in
set_option maxHeartbeats 1000000 in
theorem meet_new (B : Nat) (w : World) (b : Nat) (al : Value) (gl N m f : Nat) (ao : Option Addr) (T : List Int) (len : Nat → Int) (p : Nat) (n : Int) (K : Nat) (h : SrAt B w b al gl N m f ao T len) (hp : p < N) (hn : len p = -1)
    (hK : m ≤ K) (hT : 2 * T.length + 1 ≤ K) (hk : K ≤ 2000000) (hB : B ≤ w.heap.size) :
    Calls Tryz.prog 139 #[.pointer (some ⟨b, 0, none⟩), .int .i64 p, .int .i64 n] w fun e w' => e = .returned (.tuple #[]) ∧ ∃ m' f' ao', SrAt B w' b al gl N m' f' ao' (T ++ [(p : Int)]) (fun c => if c = p then n else len c) ∧ m' ≤ K ∧ SFr B w w' := by
  have c4 : w.cell? ⟨b, 4, none⟩ = some (.slice (some ⟨gl, 0, none⟩) N N) := h.ring.box.at 4 (by omega)
  have cp : w.cell? ⟨gl, p, none⟩ = some (.int .i64 (-1)) := by rw [← hn]; exact h.row.at p hp
  have zp : w.frozen? ⟨gl, p, none⟩ = false := h.row.fz p
  have p0 : (0 : Int) ≤ (p : Int) := by omega
  have p1 : (p : Int) < (N : Int) := by omega
  have hgb : gl ≠ b := h.row.ne h.ring.box (by decide)
  have hbg : b ≠ gl := hgb.symm
  have H := hide h
  clear h
  go_enter Tryz.func139, Tryz.ntmps139
  go_wp2_with (go_at_call 155; refine (ring_put (w.setCell ⟨gl, p, none⟩ (.int .i64 n)) b al (.slice (some ⟨gl, 0, none⟩) N N) m f ao T p K (ring_only H.out.ring (only_set w gl p _) hbg (fun g e h => H.out.ne (by rw [e, h]))) hK hT hk).mono ?_; rintro e w1 ⟨rfl, m', f', ao', hR, hm', hO, hA⟩)
  go_end0
  have O1 : Only w w1 (fun k => k = b ∨ k = gl ∨ ao = some ⟨k, 0, none⟩) := ((only_set w gl p _).mono fun k _ e => .inr (.inl e)).trans (hO.mono fun k _ e => e.imp id .inr)
  have hsz : (w.setCell ⟨gl, p, none⟩ (.int .i64 n)).heap.size = w.heap.size := by simp [World.setCell]
  refine ⟨rfl, m', f', ao', ⟨hR, ?_, fun e => ?_, H.out.lb, H.out.lg, fun g e => ?_⟩, hm', H.out.fr O1⟩
  · refine ((H.out.row.upd p _).only hO ?_).congr fun c _ => ?_
    · rintro (e | e)
      · exact hgb e
      · exact H.out.ne e
    · by_cases e : c = p
      · simp [e]
      · simp [e]
  · rcases hA gl e with e' | e'
    · exact H.out.ne (e'.trans e)
    · have := H.out.row.lt
      omega
  · rcases hA g e with e' | e'
    · exact H.out.la g (e'.trans e)
    · omega
end Go.Proofs.YtchoopnjckcohaaGreatDoor
namespace Go.Proofs.YtchoopnjckcohaaGreatDoor
open Go.RowKit Go.Maps
attribute [local go_sem] Oper.semAt_some

/-! ### Along an edge or against it -/
set_option maxRecDepth 100000 in
theorem fwd_any (w : World) (x1 x2 x3 : Int) : Calls Tryz.prog 119 #[.agg #[.int .i64 x1, .int .i64 x2, .int .i64 x3]] w fun e w' => e = .returned (.tuple #[.int .i64 x1, .int .i64 x3]) ∧ Below w.heap.size w w' := by
  obtain ⟨W0, hW0⟩ : ∃ W0, w.alloc (.cells #[.int .i64 x1, .int .i64 x2, .int .i64 x3] 61) = W0 := ⟨_, rfl⟩
  have d0 : Below w.heap.size w W0 := by rw [← hW0]; exact (Below.refl _ _).alloc (Nat.le_refl _) _
  have B0 : W0.heap[w.heap.size]? = some (.cells #[.int .i64 x1, .int .i64 x2, .int .i64 x3] 61 (0, 0)) := by rw [← hW0]; exact World.alloc_heap_new _ _
  have k0 : W0.cell? ⟨w.heap.size, 0, none⟩ = some (.int .i64 x1) := cell_of B0 rfl
  have k2 : W0.cell? ⟨w.heap.size, 2, none⟩ = some (.int .i64 x3) := cell_of B0 rfl
  have HD := hide d0
  clear d0 B0
  go_enter Tryz.func119, Tryz.ntmps119
  go_wp2
  go_region
  go_wp2
  go_ret2
  exact ⟨rfl, HD.out.drew⟩
set_option maxRecDepth 100000 in
theorem bwd_any (w : World) (x1 x2 x3 : Int) : Calls Tryz.prog 115 #[.agg #[.int .i64 x1, .int .i64 x2, .int .i64 x3]] w fun e w' => e = .returned (.tuple #[.int .i64 x3, .int .i64 x1]) ∧ Below w.heap.size w w' := by
  obtain ⟨W0, hW0⟩ : ∃ W0, w.alloc (.cells #[.int .i64 x1, .int .i64 x2, .int .i64 x3] 61) = W0 := ⟨_, rfl⟩
  have d0 : Below w.heap.size w W0 := by rw [← hW0]; exact (Below.refl _ _).alloc (Nat.le_refl _) _
  have B0 : W0.heap[w.heap.size]? = some (.cells #[.int .i64 x1, .int .i64 x2, .int .i64 x3] 61 (0, 0)) := by rw [← hW0]; exact World.alloc_heap_new _ _
  have k0 : W0.cell? ⟨w.heap.size, 0, none⟩ = some (.int .i64 x1) := cell_of B0 rfl
  have k2 : W0.cell? ⟨w.heap.size, 2, none⟩ = some (.int .i64 x3) := cell_of B0 rfl
  have HD := hide d0
  clear d0 B0
  go_enter Tryz.func115, Tryz.ntmps115
  go_wp2
  go_region
  go_wp2
  go_ret2
  exact ⟨rfl, HD.out.drew⟩
end Go.Proofs.YtchoopnjckcohaaGreatDoor
namespace Go.Proofs.YtchoopnjckcohaaGreatDoor

/-! ### Breadth first -/
/-- Some start leads to q by k steps. -/
def Wlk (S : Nat → Prop) (E : Nat → Nat → Prop) : Nat → Nat → Prop
  | 0, q => S q
  | k + 1, q => ∃ p, Wlk S E k p ∧ E p q
/-- What is known while states wait. -/
structure Bfs (N : Nat) (S : Nat → Prop) (E : Nat → Nat → Prop) (T : List Nat) (len : Nat → Int) : Prop where
  mem : ∀ q ∈ T, q < N ∧ 0 ≤ len q
  nd : T.Nodup
  ge : ∀ q, -1 ≤ len q
  sound : ∀ q, q < N → 0 ≤ len q → Wlk S E (len q).toNat q
  start : ∀ q, S q → len q = 0
  mono : T.Pairwise (fun x y => len x ≤ len y)
  near : ∀ x ∈ T, ∀ q, q < N → len q ≤ len x + 1
  closed : ∀ q r, q < N → E q r → 0 ≤ len q → q ∉ T → 0 ≤ len r ∧ len r ≤ len q + 1
def putL (len : Nat → Int) (r : Nat) (n : Int) : Nat → Int := fun c => if c = r then n else len c
theorem putL_same (len : Nat → Int) (r : Nat) (n : Int) : putL len r n r = n := by simp [putL]
theorem putL_ne (len : Nat → Int) {r q : Nat} (n : Int) (h : q ≠ r) : putL len r n q = len q := by simp [putL, h]
/-- A new state is met. -/
theorem Bfs.meet {N : Nat} {S : Nat → Prop} {E : Nat → Nat → Prop} {p r : Nat} {T : List Nat} {len : Nat → Int} (h : Bfs N S E (p :: T) len) (hE : E p r) (hr : r < N) (h1 : len r = -1) : Bfs N S E (p :: (T ++ [r])) (putL len r (len p + 1)) := by
  have hp := h.mem p (by simp)
  have hpr : p ≠ r := by intro e; rw [e] at hp; omega
  have hT : ∀ q ∈ p :: T, q ≠ r := fun q hq e => by have := (h.mem q hq).2; rw [e] at this; omega
  have e1 : putL len r (len p + 1) p = len p := putL_ne len _ hpr
  have hin : ∀ x, x ∈ p :: (T ++ [r]) ↔ x ∈ p :: T ∨ x = r := fun x => by simp [or_assoc]
  refine ⟨fun q hq => ?_, ?_, fun q => ?_, fun q hq h0 => ?_, fun q hs => ?_, ?_, fun x hx q hq => ?_, fun q s hq hqs h0 hn => ?_⟩
  · rcases (hin q).1 hq with hq | rfl
    · rw [putL_ne _ _ (hT q hq)]; exact h.mem q hq
    · rw [putL_same]; exact ⟨hr, by omega⟩
  · have := h.nd
    rw [← List.cons_append, List.nodup_append]
    refine ⟨this, by simp, fun a ha b hb => ?_⟩
    simp at hb
    subst hb
    exact hT a ha
  · by_cases e : q = r
    · subst e; rw [putL_same]; omega
    · rw [putL_ne _ _ e]; exact h.ge q
  · by_cases e : q = r
    · subst e
      rw [putL_same, show (len p + 1).toNat = (len p).toNat + 1 by omega]
      exact ⟨p, h.sound p hp.1 hp.2, hE⟩
    · rw [putL_ne _ _ e] at h0 ⊢; exact h.sound q hq h0
  · have := h.start q hs
    rw [putL_ne _ _ (fun e => by rw [e] at this; omega)]
    exact this
  · rw [← List.cons_append, List.pairwise_append]
    refine ⟨?_, by simp, fun a ha b hb => ?_⟩
    · refine h.mono.imp_of_mem fun {a b} ha hb hab => ?_
      rw [putL_ne _ _ (hT a ha), putL_ne _ _ (hT b hb)]
      exact hab
    · simp at hb
      subst hb
      rw [putL_same, putL_ne _ _ (hT a ha)]
      exact h.near p (by simp) a (h.mem a ha).1
  · have hpx : len p ≤ putL len r (len p + 1) x := by
      rcases (hin x).1 hx with hx | rfl
      · rw [putL_ne _ _ (hT x hx)]
        rcases List.mem_cons.1 hx with rfl | hx
        · omega
        · exact (List.pairwise_cons.1 h.mono).1 x hx
      · rw [putL_same]; omega
    by_cases e : q = r
    · subst e; rw [putL_same]; omega
    · rw [putL_ne _ _ e]
      have hpn := h.near p (by simp) q hq
      omega
  · have hqr : q ≠ r := fun e => hn ((hin q).2 (.inr e))
    rw [putL_ne _ _ hqr] at h0 ⊢
    have hc := h.closed q s hq hqs h0 (fun e => hn ((hin q).2 (.inl e)))
    have hsr : s ≠ r := by intro e; rw [e] at hc; omega
    rw [putL_ne _ _ hsr]
    exact hc
/-- All edges of the state that waited longest are gone along. -/
theorem Bfs.pop {N : Nat} {S : Nat → Prop} {E : Nat → Nat → Prop} {p : Nat} {T : List Nat} {len : Nat → Int} (h : Bfs N S E (p :: T) len) (hE : ∀ r, E p r → 0 ≤ len r ∧ len r ≤ len p + 1) : Bfs N S E T len :=
  ⟨fun q hq => h.mem q (by simp [hq]), (List.nodup_cons.1 h.nd).2, h.ge, h.sound, h.start, (List.pairwise_cons.1 h.mono).2, fun x hx => h.near x (by simp [hx]), fun q r hq hqr h0 hn => by
    by_cases e : q = p
    · subst e; exact hE r hqr
    · exact h.closed q r hq hqr h0 (by simp [e, hn])⟩
/-- Nothing waits any more: the lengths are those of the shortest ways. -/
theorem Bfs.done {N : Nat} {S : Nat → Prop} {E : Nat → Nat → Prop} {len : Nat → Int} (h : Bfs N S E [] len) (hS : ∀ q, S q → q < N) (hE : ∀ p q, E p q → q < N) : ∀ k q, Wlk S E k q → q < N ∧ 0 ≤ len q ∧ len q ≤ k
  | 0, q, hw => ⟨hS q hw, by rw [h.start q hw]; omega, by rw [h.start q hw]; omega⟩
  | k + 1, q, ⟨p, hw, hpq⟩ => by
    obtain ⟨h1, h2, h3⟩ := h.done hS hE k p hw
    obtain ⟨h4, h5⟩ := h.closed p q h1 hpq h2 (by simp)
    exact ⟨hE p q hpq, h4, by omega⟩
/-- The starts are met. -/
theorem Bfs.first {N : Nat} {S : Nat → Prop} {E : Nat → Nat → Prop} {T : List Nat} {len : Nat → Int} (hT : T.Nodup) (hS : ∀ q, S q ↔ q ∈ T) (hN : ∀ q, S q → q < N) (hl : ∀ q, len q = if q ∈ T then 0 else -1) : Bfs N S E T len := by
  have h0 : ∀ q, q ∈ T → len q = 0 := fun q hq => by rw [hl, if_pos hq]
  have h1 : ∀ q, q ∉ T → len q = -1 := fun q hq => by rw [hl, if_neg hq]
  have hle : ∀ q, len q = 0 ∨ len q = -1 := fun q => by
    by_cases e : q ∈ T
    · exact .inl (h0 q e)
    · exact .inr (h1 q e)
  refine ⟨fun q hq => ⟨hN q ((hS q).2 hq), by rw [h0 q hq]; omega⟩, hT, fun q => by rcases hle q with e | e <;> omega, fun q _ h => ?_, fun q hs => h0 q ((hS q).1 hs), ?_, fun x hx q _ => ?_, fun q r _ _ h hn => ?_⟩
  · by_cases e : q ∈ T
    · rw [h0 q e]; exact (hS q).2 e
    · rw [h1 q e] at h; omega
  · exact List.pairwise_of_forall_mem_list fun a ha b hb => by rw [h0 a ha, h0 b hb]; omega
  · rw [h0 x hx]; rcases hle q with e | e <;> omega
  · rw [h1 q hn] at h; omega
end Go.Proofs.YtchoopnjckcohaaGreatDoor
