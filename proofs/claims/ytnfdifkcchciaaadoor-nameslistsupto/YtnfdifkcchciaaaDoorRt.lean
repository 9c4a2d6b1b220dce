import Derived.Test.YtnfdifkcchciaaaDoorRv
import Derived.Test.YtnfdifkcchciaaaDoorUnd
namespace Go.Proofs.YtnfdifkcchciaaaDoor
open Go.RowKit Go.Maps

/-- The document's table at block t. -/
structure RTb (w : World) (t : Nat) (most : Int) (v : Value) (l : List ByteArray) : Prop where
  blk : w.heap[t]? = some (.cells #[.int .i64 most, v] 60 (0, 0))
  own : OwnS w 0 v l
  n1 : v.ownBlock ≠ some t
  sml : l.length ≤ 2097152
/-- Its blocks. -/
def RB (t : Nat) (v : Value) (k : Nat) : Prop := k = t ∨ v.ownBlock = some k

theorem RTb.only {w w' : World} {R : Nat → Prop} {t : Nat} {most : Int} {v : Value} {l : List ByteArray} (h : RTb w t most v l) (ho : Only w w' R) (hn : ∀ k, RB t v k → ¬ R k) : RTb w' t most v l := by
  have ht : t < w.heap.size := (Array.getElem?_eq_some_iff.1 h.blk).1
  exact ⟨(ho.block t ht (hn t (.inl rfl))).trans h.blk, row_only h.own ho (fun k hk => hn k (.inr hk)), h.n1, h.sml⟩
theorem RTb.below {w w' : World} {t : Nat} {most : Int} {v : Value} {l : List ByteArray} (h : RTb w t most v l) (d : Below w.heap.size w w') : RTb w' t most v l :=
  h.only (Only.ofBelow (R := fun _ => False) d) (fun _ _ h => h)
theorem RTb.lt {w : World} {t : Nat} {most : Int} {v : Value} {l : List ByteArray} (h : RTb w t most v l) : ∀ k, RB t v k → k < w.heap.size := by
  rintro k (rfl | hk)
  · exact (Array.getElem?_eq_some_iff.1 h.blk).1
  · exact (World.ownsRow.lt h.own k hk).2
theorem RTb.c0 {w : World} {t : Nat} {most : Int} {v : Value} {l : List ByteArray} (h : RTb w t most v l) : w.cell? ⟨t, 0, none⟩ = some (.int .i64 most) := by simp [World.cell?, h.blk]
theorem RTb.c1 {w : World} {t : Nat} {most : Int} {v : Value} {l : List ByteArray} (h : RTb w t most v l) : w.cell? ⟨t, 1, none⟩ = some v := by simp [World.cell?, h.blk]

set_option maxRecDepth 100000 in
set_option maxHeartbeats 1000000 in
theorem rnew_bad (most : Int) (w : World) (h : most < 0) :
    Calls Tryd.prog 20 #[.int .i64 most] w fun e w' => e = .returned (.tuple #[.pointer none, .int .i64 1]) ∧ w' = w := by
  go_enter Tryd.func20, Tryd.ntmps20
  go_wp2
  go_ret2
  exact ⟨rfl, rfl⟩

set_option maxRecDepth 100000 in
set_option maxHeartbeats 1000000 in
theorem rnew_ok (most : Int) (w : World) (h : ¬ most < 0) :
    Calls Tryd.prog 20 #[.int .i64 most] w fun e w' => ∃ t, e = .returned (.tuple #[.pointer (some ⟨t, 0, none⟩), .int .i64 0]) ∧ RTb w' t most (.slice none 0 0) [] ∧ w.heap.size ≤ t ∧ Below w.heap.size w w' := by
  go_enter Tryd.func20, Tryd.ntmps20
  go_wp2
  go_ret2
  exact ⟨w.heap.size, rfl, ⟨heap_alloc_new w _, World.ownsRow_nil _ _ _ _, by simp [Value.ownBlock], by simp⟩, Nat.le_refl _, (Below.refl _ _).alloc (Nat.le_refl _) _⟩

set_option maxRecDepth 100000 in
set_option maxHeartbeats 1000000 in
theorem rfind_in (t : Nat) (most : Int) (v : Value) (l : List ByteArray) (s : ByteArray) (m : Nat) (w : World) (h : Hid (RTb w t most v l)) (hs : Hid (s ∈ l ∧ l.idxOf s = m)) :
    Calls Tryd.prog 47 #[.pointer (some ⟨t, 0, none⟩), .string s] w fun e w' => e = .returned (.tuple #[.int .i64 (m : Nat), .int .i64 0]) ∧ w' = w := by
  have c1 := h.out.c1
  have j0 : ¬ (m : Int) < 0 := by omega
  go_enter Tryd.func47, Tryd.ntmps47
  go_wp2_with fail
  refine (place_yes v l s m _ h.out.own.str (by have := h.out.sml; omega) hs.out.1 hs.out.2).mono ?_
  rintro e w' ⟨rfl, hw⟩
  obtain rfl := hw.symm
  clear hw
  go_wp2
  go_ret2
  exact ⟨rfl, rfl⟩
set_option maxRecDepth 100000 in
set_option maxHeartbeats 1000000 in
theorem rfind_out (t : Nat) (most : Int) (v : Value) (l : List ByteArray) (s : ByteArray) (w : World) (h : Hid (RTb w t most v l)) (hs : Hid (s ∉ l)) :
    Calls Tryd.prog 47 #[.pointer (some ⟨t, 0, none⟩), .string s] w fun e w' => e = .returned (.tuple #[.int .i64 0, .int .i64 22]) ∧ w' = w := by
  have c1 := h.out.c1
  go_enter Tryd.func47, Tryd.ntmps47
  go_wp2_with fail
  refine (place_no v l s _ h.out.own.str (by have := h.out.sml; omega) hs.out).mono ?_
  rintro e w' ⟨rfl, hw⟩
  obtain rfl := hw.symm
  clear hw
  go_wp2
  go_ret2
  exact ⟨rfl, rfl⟩

set_option maxRecDepth 100000 in
set_option maxHeartbeats 1000000 in
theorem rname_in (t : Nat) (most : Int) (v : Value) (l : List ByteArray) (k : Nat) (w : World) (h : Hid (RTb w t most v l)) (hk : k < l.length) :
    Calls Tryd.prog 48 #[.pointer (some ⟨t, 0, none⟩), .int .i64 (k : Nat)] w fun e w' => e = .returned (.tuple #[.string l[k], .int .i64 0]) ∧ w' = w := by
  obtain ⟨ao, cp, hv, hr⟩ := h.out.own.str
  have c1 := h.out.c1
  rw [hv] at c1
  obtain ⟨g, o, rfl, hc⟩ := hr k hk
  generalize l[k] = s at hc
  have i0 : (0 : Int) ≤ (k : Int) := by omega
  have i1 : ¬ (k : Int) < 0 := by omega
  have i2 : (k : Int) < (l.length : Int) := by omega
  have i3 : ¬ (k : Int) ≥ (l.length : Int) := by omega
  clear hr hv
  go_enter Tryd.func48, Tryd.ntmps48
  go_wp2
  go_ret2
  exact ⟨rfl, rfl⟩
set_option maxRecDepth 100000 in
set_option maxHeartbeats 1000000 in
theorem rname_out (t : Nat) (most : Int) (v : Value) (l : List ByteArray) (x : Int) (w : World) (h : Hid (RTb w t most v l)) (hx : x < 0 ∨ (l.length : Int) ≤ x) :
    Calls Tryd.prog 48 #[.pointer (some ⟨t, 0, none⟩), .int .i64 x] w fun e w' => e = .returned (.tuple #[.string ⟨#[]⟩, .int .i64 10]) ∧ w' = w := by
  obtain ⟨ao, cp, hv, hr⟩ := h.out.own.str
  have c1 := h.out.c1
  rw [hv] at c1
  clear hr hv
  by_cases h0 : x < 0
  · clear hx
    go_enter Tryd.func48, Tryd.ntmps48
    go_wp2
    go_ret2
    exact ⟨rfl, rfl⟩
  · have h1 : x ≥ (l.length : Int) := by omega
    clear hx
    go_enter Tryd.func48, Tryd.ntmps48
    go_wp2
    go_ret2
    exact ⟨rfl, rfl⟩

set_option maxRecDepth 100000 in
set_option maxHeartbeats 1000000 in
theorem name_out (t bm : Nat) (most : Int) (v : Value) (l : List ByteArray) (x : Int) (w : World) (h : Hid (Tbl w t most v bm l)) (hx : x < 0 ∨ (l.length : Int) ≤ x) :
    Calls Tryd.prog 13 #[.pointer (some ⟨t, 0, none⟩), .int .i64 x] w fun e w' => e = .returned (.tuple #[.string ⟨#[]⟩, .int .i64 10]) ∧ w' = w := by
  obtain ⟨ao, cp, hv, hr⟩ := h.out.own.str
  have c1 := h.out.c1
  rw [hv] at c1
  clear hr hv
  by_cases h0 : x < 0
  · clear hx
    go_enter Tryd.func13, Tryd.ntmps13
    go_wp2
    go_ret2
    exact ⟨rfl, rfl⟩
  · have h1 : x ≥ (l.length : Int) := by omega
    clear hx
    go_enter Tryd.func13, Tryd.ntmps13
    go_wp2
    go_ret2
    exact ⟨rfl, rfl⟩
set_option maxRecDepth 100000 in
set_option maxHeartbeats 1000000 in
theorem find_out (t bm : Nat) (most : Int) (v : Value) (l : List ByteArray) (s : ByteArray) (w : World) (h : Hid (Tbl w t most v bm l)) (hs : Hid (s ∉ l)) (hz : s.size ≤ 1048576) :
    Calls Tryd.prog 14 #[.pointer (some ⟨t, 0, none⟩), .string s] w fun e w' => e = .returned (.tuple #[.int .i64 0, .int .i64 22]) ∧ w' = w := by
  have c2 := h.out.c2
  go_enter Tryd.func14, Tryd.ntmps14
  go_wp2_with (at_lookup; refine lookup_out _ rfl _ _ rfl bm l.length l s h.out.pl hs.out hz rfl rfl ?_; intro c)
  go_ret2
  exact ⟨rfl, rfl⟩

set_option maxRecDepth 100000 in
set_option maxHeartbeats 1000000 in
theorem radd_bad (t : Nat) (s : ByteArray) (w : World) (hv : vld s = false) :
    Calls Tryd.prog 46 #[.pointer (some ⟨t, 0, none⟩), .string s] w fun e w' => e = .returned (.tuple #[.int .i64 0, .int .i64 20]) ∧ w' = w := by
  go_enter Tryd.func46, Tryd.ntmps46
  go_wp2_with fail
  refine (rvalid_any s _).mono ?_
  rintro e w' ⟨rfl, hw⟩
  obtain rfl := hw.symm
  rw [hv]
  clear hw
  go_wp2
  go_ret2
  exact ⟨rfl, rfl⟩
set_option maxRecDepth 100000 in
set_option maxHeartbeats 1000000 in
theorem radd_old (t : Nat) (most : Int) (v : Value) (l : List ByteArray) (s : ByteArray) (m : Nat) (w : World) (h : Hid (RTb w t most v l)) (hv : vld s = true) (hs : Hid (s ∈ l ∧ l.idxOf s = m)) :
    Calls Tryd.prog 46 #[.pointer (some ⟨t, 0, none⟩), .string s] w fun e w' => e = .returned (.tuple #[.int .i64 (m : Nat), .int .i64 0]) ∧ w' = w := by
  have c1 := h.out.c1
  have j0 : (m : Int) ≥ 0 := by omega
  go_enter Tryd.func46, Tryd.ntmps46
  go_wp2_with fail
  refine (rvalid_any s _).mono ?_
  rintro e w' ⟨rfl, hw⟩
  obtain rfl := hw.symm
  rw [hv]
  clear hw
  go_wp2_with fail
  refine (place_yes v l s m _ h.out.own.str (by have := h.out.sml; omega) hs.out.1 hs.out.2).mono ?_
  rintro e w' ⟨rfl, hw⟩
  obtain rfl := hw.symm
  clear hw
  go_wp2
  go_ret2
  exact ⟨rfl, rfl⟩
set_option maxRecDepth 100000 in
set_option maxHeartbeats 1000000 in
theorem radd_full (t : Nat) (most : Int) (v : Value) (l : List ByteArray) (s : ByteArray) (w : World) (h : Hid (RTb w t most v l)) (hv : vld s = true) (hs : Hid (s ∉ l)) (hf : (l.length : Int) ≥ most) :
    Calls Tryd.prog 46 #[.pointer (some ⟨t, 0, none⟩), .string s] w fun e w' => e = .returned (.tuple #[.int .i64 0, .int .i64 23]) ∧ Below w.heap.size w w' := by
  obtain ⟨ao, cp, hvv, _⟩ := h.out.own.str
  have c0 := h.out.c0
  have c1 := h.out.c1
  rw [hvv] at c1
  go_enter Tryd.func46, Tryd.ntmps46
  go_wp2_with fail
  refine (rvalid_any s _).mono ?_
  rintro e w' ⟨rfl, hw⟩
  obtain rfl := hw.symm
  rw [hv]
  clear hw
  go_wp2_with fail
  refine (place_no _ l s _ (hvv ▸ h.out.own.str) (by have := h.out.sml; omega) hs.out).mono ?_
  rintro e w' ⟨rfl, hw⟩
  obtain rfl := hw.symm
  clear hw hvv
  go_wp2_with fail
  go_quiet (fail)
  go_wp2
  go_ret2
  exact ⟨rfl, by first | exact Below.refl _ _ | exact below_drewN' (Below.refl _ _) _⟩

set_option maxRecDepth 100000 in
set_option maxHeartbeats 1000000 in
theorem radd_new (t : Nat) (most : Int) (v : Value) (l : List ByteArray) (s : ByteArray) (w : World) (h : Hid (RTb w t most v l)) (hv : vld s = true) (hs : Hid (s ∉ l)) (hf : (l.length : Int) < most) (hl : l.length < 2097152) :
    Calls Tryd.prog 46 #[.pointer (some ⟨t, 0, none⟩), .string s] w fun e w' => ∃ v', e = .returned (.tuple #[.int .i64 (l.length : Nat), .int .i64 0]) ∧ RTb w' t most v' (l ++ [s]) ∧ Only w w' (RB t v) ∧ (v'.ownBlock = v.ownBlock ∨ ∃ k, v'.ownBlock = some k ∧ w.heap.size ≤ k) := by
  obtain ⟨i9, hi9, hz90, hz91, hz92⟩ := info_parts info9
  obtain ⟨ao, cp, hvv, _⟩ := h.out.own.str
  have c0 := h.out.c0
  have c1 := h.out.c1
  rw [hvv] at c1
  have HVV := hide hvv
  have hfn : ¬ (l.length : Int) ≥ most := by omega
  have ht2 := h.out.lt t (.inl rfl)
  clear hf hvv
  go_enter Tryd.func46, Tryd.ntmps46
  go_wp2_with fail
  refine (rvalid_any s _).mono ?_
  rintro e w' ⟨rfl, hw⟩
  obtain rfl := hw.symm
  rw [hv]
  clear hw
  go_wp2_with fail
  refine (place_no _ l s _ (HVV.out ▸ h.out.own.str) (by have := h.out.sml; omega) hs.out).mono ?_
  rintro e w' ⟨rfl, hw⟩
  obtain rfl := hw.symm
  clear hw
  go_wp2_with fail
  go_quiet (fail)
  have hov : (w.drewN nq).ownsRow 0 9 1 (.slice ao l.length cp) l.length (strV l) := by have := h.out.own; rw [HVV.out] at this; exact this
  go_wp2_with (at_builtin; refine wpList_append_own_at _ rfl _ _ _ rfl 0 9 i9 _ 1 16 Tryd.underlying22 hi9 hz90 hz91 hz92 rfl (by omega) (.slice ao l.length cp) l.length (strV l) rfl (hov.alloc _) ⟨w.heap.size, 0, none⟩ 1 1 [.string s] rfl rfl (cell_one_new _ _ _) (strV_one [s]) (by unfold maxLen; omega) (by omega) (Nat.zero_le _) ?_)
  intro v' w3 ho hgr hnil hloc
  obtain ⟨gv, cv, rfl, _, _⟩ := ho.form (by omega)
  have hgr2 : w.grownBy w3 v.ownBlock := by
    rw [HVV.out]
    have g1 : (w.drewN nq).grownBy w3 (Value.slice ao l.length cp).ownBlock := (World.grownBy_alloc _ _ _).trans hgr
    exact ⟨g1.os, g1.tape, g1.output, g1.size, g1.block⟩
  have b3 : w3.heap[t]? = some (.cells #[.int .i64 most, v] 60 (0, 0)) := (hgr2.block t ht2 (fun e => h.out.n1 e.symm)).trans h.out.blk
  have hu : w3.cell? ⟨t, 1, none⟩ = some v := by simp [World.cell?, b3]
  have hfz : w3.frozen? ⟨t, 1, none⟩ = false := by simp [World.frozen?, b3]
  have hloc2 : (Value.slice (some ⟨gv, 0, none⟩) (l.length + 1) cv).ownBlock = v.ownBlock ∨ ∃ k, (Value.slice (some ⟨gv, 0, none⟩) (l.length + 1) cv).ownBlock = some k ∧ w.heap.size ≤ k := by
    rcases hloc with e | e
    · exact .inl (by rw [e, HVV.out])
    · exact .inr ⟨_, e, by simp⟩
  have HX := hide (And.intro ho (And.intro hgr2 (And.intro hloc2 b3)))
  clear ho hgr hgr2 hnil hloc hloc2 b3 hov c1 c0
  go_wp2
  go_ret2
  obtain ⟨ho, hgr2, hloc2, b3⟩ := HX.out
  have n1' : (Value.slice (some ⟨gv, 0, none⟩) (l.length + 1) cv).ownBlock ≠ some t := by
    rcases hloc2 with e | ⟨k, e, hk⟩
    · rw [e]; exact h.out.n1
    · rw [e]; simp; omega
  refine ⟨_, rfl, ⟨?_, ?_, n1', by simp; omega⟩, (Only.grown hgr2 (fun k hk => .inr hk)).set (.inl rfl) 1 _, hloc2⟩
  · rw [heap_setCell_same w3 t 1 _ 60 _ b3]; simp
  · have r4 := row_only (R := fun k => k = t) (w' := w3.setCell ⟨t, 1, none⟩ (.slice (some ⟨gv, 0, none⟩) (l.length + 1) cv)) ho ⟨rfl, rfl, rfl, by simp [World.setCell], fun k _ hn => Below.heap_setCell _ _ _ _ hn⟩ (fun k hk e => n1' (by rw [hk, e]))
    show World.ownsRow _ 0 9 1 _ (l ++ [s]).length (strV (l ++ [s]))
    rw [List.length_append, List.length_singleton]
    simpa [strV] using r4

end Go.Proofs.YtnfdifkcchciaaaDoor
