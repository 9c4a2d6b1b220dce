import Derived.Test.YtnfdifkcchciaaaDoorTab
namespace Go.Proofs.YtnfdifkcchciaaaDoor
open Go.RowKit Go.Maps

set_option maxRecDepth 100000 in
set_option maxHeartbeats 1000000 in
theorem add_bad (t : Nat) (s : ByteArray) (w : World) (hT : BytesAt w) (hw0 : 0 < w.heap.size) (hv : vld s = false) :
    Calls Tryd.prog 10 #[.pointer (some ⟨t, 0, none⟩), .string s] w fun e w' => e = .returned (.tuple #[.int .i64 0, .int .i64 20]) ∧ Below w.heap.size w w' := by
  go_enter Tryd.func10, Tryd.ntmps10
  go_wp2_with fail
  refine (valid_any s _ hT hw0).mono ?_
  rintro e w1 ⟨rfl, d⟩
  rw [hv]
  clear hT
  go_wp2
  go_ret2
  exact ⟨rfl, d⟩

set_option maxRecDepth 100000 in
set_option maxHeartbeats 1000000 in
theorem add_old (t bm : Nat) (most : Int) (v : Value) (l : List ByteArray) (s : ByteArray) (m : Nat) (w : World) (h : Hid (Tbl w t most v bm l)) (hs : Hid (s ∈ l ∧ l.idxOf s = m)) (hT : BytesAt w) (hw0 : 0 < w.heap.size) :
    Calls Tryd.prog 10 #[.pointer (some ⟨t, 0, none⟩), .string s] w fun e w' => e = .returned (.tuple #[.int .i64 (m : Nat), .int .i64 0]) ∧ Below w.heap.size w w' := by
  have hv : vld s = true := h.out.val s hs.out.1
  have hz : s.size ≤ 1048576 := by have := vld_size hv; omega
  go_enter Tryd.func10, Tryd.ntmps10
  go_wp2_with fail
  refine (valid_any s _ hT hw0).mono ?_
  rintro e w1 ⟨rfl, d⟩
  rw [hv]
  have H1 := hide (h.out.below d)
  have c2 := H1.out.c2
  clear hT
  go_wp2_with (at_lookup; refine lookup_in _ rfl _ _ rfl bm l.length l s m H1.out.pl hs.out.1 hs.out.2 hz rfl rfl ?_)
  go_ret2
  exact ⟨rfl, d⟩

set_option maxRecDepth 100000 in
set_option maxHeartbeats 1000000 in
theorem add_full (t bm : Nat) (most : Int) (v : Value) (l : List ByteArray) (s : ByteArray) (w : World) (h : Hid (Tbl w t most v bm l)) (hv : vld s = true) (hs : Hid (s ∉ l)) (hf : (l.length : Int) ≥ most) (hT : BytesAt w) (hw0 : 0 < w.heap.size) :
    Calls Tryd.prog 10 #[.pointer (some ⟨t, 0, none⟩), .string s] w fun e w' => e = .returned (.tuple #[.int .i64 0, .int .i64 23]) ∧ Below w.heap.size w w' := by
  have hz : s.size ≤ 1048576 := by have := vld_size hv; omega
  go_enter Tryd.func10, Tryd.ntmps10
  go_wp2_with fail
  refine (valid_any s _ hT hw0).mono ?_
  rintro e w1 ⟨rfl, d⟩
  rw [hv]
  have H1 := hide (h.out.below d)
  obtain ⟨ao, cp, hvv, _⟩ := H1.out.own.str
  have c0 := H1.out.c0
  have c1 := H1.out.c1
  have c2 := H1.out.c2
  rw [hvv] at c1
  clear hT
  go_wp2_with (at_lookup; refine lookup_out _ rfl _ _ rfl bm l.length l s H1.out.pl hs.out hz rfl rfl ?_; intro c)
  go_quiet (fail)
  go_wp2
  go_ret2
  exact ⟨rfl, by first | exact d | exact below_drewN' d _⟩

/-- What a table is behind Add of a new name. -/
theorem tbl_add {w w3 w5 : World} {t bm : Nat} {most : Int} {v v' : Value} {l : List ByteArray} {s : ByteArray} (h : Tbl w t most v bm l) (hv : vld s = true) (hs : s ∉ l) (hf : (l.length : Int) < most) (hl : l.length < 2097152)
    (ho : w3.ownsRow 0 9 1 v' (l.length + 1) (strV l ++ [.string s])) (hg : w.grownBy w3 v.ownBlock) (hloc : v'.ownBlock = v.ownBlock ∨ ∃ k, v'.ownBlock = some k ∧ w.heap.size ≤ k)
    (D : DataW Unit) (hp : IsPl D l) (hm : w5.ownsMap Tryd.prog 9 (plainElem Tryd.prog 3) bm (l.length + 1) (D.put (kOf s) (.lit (.int .i64 (l.length : Nat)))))
    (hg5 : (w3.setCell ⟨t, 1, none⟩ v').grownBy w5 (some bm)) : Tbl w5 t most v' bm (l ++ [s]) ∧ Only w w5 (TB t v bm) := by
  have hlt := h.lt
  have ht := hlt t (.inl rfl)
  have hb := hlt bm (.inr (.inr rfl))
  have n1' : v'.ownBlock ≠ some t := by
    rcases hloc with e | ⟨k, e, hk⟩
    · rw [e]; exact h.n1
    · rw [e]; simp; omega
  have n2' : v'.ownBlock ≠ some bm := by
    rcases hloc with e | ⟨k, e, hk⟩
    · rw [e]; exact h.n2
    · rw [e]; simp; omega
  have o1 : Only w w3 (TB t v bm) := Only.grown hg (fun k hk => .inr (.inl hk))
  have o2 : Only w (w3.setCell ⟨t, 1, none⟩ v') (TB t v bm) := o1.set (.inl rfl) 1 v'
  have o3 : Only w w5 (TB t v bm) := o2.trans (Only.grown hg5 (fun k hk => by cases hk; exact .inr (.inr rfl)))
  have hs3 : w3.heap.size ≤ (w3.setCell ⟨t, 1, none⟩ v').heap.size := by simp [World.setCell]
  have b3 : w3.heap[t]? = some (.cells #[.int .i64 most, v, .map (some bm)] 73 (0, 0)) := (hg.block t ht (fun e => h.n1 e.symm)).trans h.blk
  have b4 : (w3.setCell ⟨t, 1, none⟩ v').heap[t]? = some (.cells #[.int .i64 most, v', .map (some bm)] 73 (0, 0)) := by
    rw [heap_setCell_same w3 t 1 _ 73 v' b3]; simp
  have b5 : w5.heap[t]? = some (.cells #[.int .i64 most, v', .map (some bm)] 73 (0, 0)) := (hg5.block t (by have := hg.size; omega) (by simp; exact Ne.symm h.n3)).trans b4
  refine ⟨⟨b5, ?_, ?_, n1', n2', h.n3, ?_, ?_, ?_, ?_⟩, o3⟩
  · have r4 : (w3.setCell ⟨t, 1, none⟩ v').ownsRow 0 9 1 v' (l.length + 1) (strV l ++ [.string s]) :=
      row_only (R := fun k => k = t) ho ⟨rfl, rfl, rfl, hs3, fun k _ hn => Below.heap_setCell _ _ _ _ hn⟩ (fun k hk e => n1' (by rw [hk, e]))
    have r5 := World.ownsRow.kept r4 hg5 (.inr n2')
    show w5.ownsRow 0 9 1 v' (l ++ [s]).length (strV (l ++ [s]))
    rw [List.length_append, List.length_singleton]
    simpa [strV] using r5
  · rw [List.length_append, List.length_singleton]
    exact ⟨_, hm, hp.new hs⟩
  · rw [List.nodup_append]
    exact ⟨h.nod, by simp, fun a ha b hb he => by simp at hb; subst hb; subst he; exact hs ha⟩
  · intro x hx
    rcases List.mem_append.1 hx with hx | hx
    · exact h.val x hx
    · simp at hx; subst hx; exact hv
  · rw [List.length_append, List.length_singleton]; omega
  · rw [List.length_append, List.length_singleton]; omega

set_option maxRecDepth 100000 in
set_option maxHeartbeats 1000000 in
theorem add_new (t bm : Nat) (most : Int) (v : Value) (l : List ByteArray) (s : ByteArray) (w : World) (h : Hid (Tbl w t most v bm l)) (hv : vld s = true) (hs : Hid (s ∉ l)) (hf : (l.length : Int) < most) (hl : l.length < 2097152) (hT : BytesAt w) (hw0 : 0 < w.heap.size) :
    Calls Tryd.prog 10 #[.pointer (some ⟨t, 0, none⟩), .string s] w fun e w' => ∃ v', e = .returned (.tuple #[.int .i64 (l.length : Nat), .int .i64 0]) ∧ Tbl w' t most v' bm (l ++ [s]) ∧ Only w w' (TB t v bm) ∧ (v'.ownBlock = v.ownBlock ∨ ∃ k, v'.ownBlock = some k ∧ w.heap.size ≤ k) := by
  obtain ⟨i9, hi9, hz90, hz91, hz92⟩ := info_parts info9
  have hz : s.size ≤ 1048576 := by have := vld_size hv; omega
  have h0 : s.size ≠ 0 := by have := vld_size hv; omega
  have HF := hide hf
  have hfn : ¬ (l.length : Int) ≥ most := by omega
  clear hf
  go_enter Tryd.func10, Tryd.ntmps10
  go_wp2_with fail
  refine (valid_any s _ hT hw0).mono ?_
  rintro e w1 ⟨rfl, d⟩
  rw [hv]
  have H1 := hide (h.out.below d)
  obtain ⟨ao, cp, hvv, _⟩ := H1.out.own.str
  have c0 := H1.out.c0
  have c1 := H1.out.c1
  have c2 := H1.out.c2
  rw [hvv] at c1
  have HVV := hide hvv
  clear hT hvv
  go_wp2_with (at_lookup; refine lookup_out _ rfl _ _ rfl bm l.length l s H1.out.pl hs.out hz rfl rfl ?_; intro c)
  go_quiet (fail)
  go_wp2_with fail
  refine (copy_str s _ h0 hz).mono ?_
  rintro e w2 ⟨rfl, d2⟩
  have D2 : Below w1.heap.size w1 w2 := (below_drewN' (Below.refl _ _) _).trans d2
  have H2 := hide (H1.out.below D2)
  have D := d.trans (D2.mono d.size)
  clear c0 c1 c2 d d2 D2
  have c1 := H2.out.c1
  have c2 := H2.out.c2
  rw [HVV.out] at c1
  have hov : w2.ownsRow 0 9 1 (.slice ao l.length cp) l.length (strV l) := by have := H2.out.own; rw [HVV.out] at this; exact this
  have hlt := H2.out.lt
  have ht2 := hlt t (.inl rfl)
  have HLT := hide hlt
  clear hlt
  go_wp2_with (at_builtin; refine wpList_append_own_at _ rfl _ _ _ rfl 0 9 i9 _ 1 16 Tryd.underlying22 hi9 hz90 hz91 hz92 rfl (by omega) (.slice ao l.length cp) l.length (strV l) rfl (hov.alloc _) ⟨w2.heap.size, 0, none⟩ 1 1 [.string s] rfl rfl (cell_one_new _ _ _) (strV_one [s]) (by unfold maxLen; omega) (by omega) (Nat.zero_le _) ?_)
  intro v' w3 ho hgr hnil hloc
  obtain ⟨gv, cv, rfl, _, _⟩ := ho.form (by omega)
  obtain ⟨Dm, om, hpm⟩ := H2.out.pl
  have hgr2 : w2.grownBy w3 v.ownBlock := by rw [HVV.out]; exact (World.grownBy_alloc _ _ _).trans hgr
  have b3 : w3.heap[t]? = some (.cells #[.int .i64 most, v, .map (some bm)] 73 (0, 0)) := (hgr2.block t ht2 (fun e => H2.out.n1 e.symm)).trans H2.out.blk
  have hu : w3.cell? ⟨t, 1, none⟩ = some v := by simp [World.cell?, b3]
  have hu2 : w3.cell? ⟨t, 2, none⟩ = some (.map (some bm)) := by simp [World.cell?, b3]
  have hfz : w3.frozen? ⟨t, 1, none⟩ = false := by simp [World.frozen?, b3]
  have hloc2 : (Value.slice (some ⟨gv, 0, none⟩) (l.length + 1) cv).ownBlock = v.ownBlock ∨ ∃ k, (Value.slice (some ⟨gv, 0, none⟩) (l.length + 1) cv).ownBlock = some k ∧ w2.heap.size ≤ k := by
    rcases hloc with e | e
    · exact .inl (by rw [e, HVV.out])
    · exact .inr ⟨_, e, by simp⟩
  have om4 : (w3.setCell ⟨t, 1, none⟩ (.slice (some ⟨gv, 0, none⟩) (l.length + 1) cv)).ownsMap Tryd.prog 9 (plainElem Tryd.prog 3) bm l.length Dm := (om.kept hgr2 (fun e => H2.out.n2 e.symm)).setCell H2.out.n3 _
  have hkey := key_mk hz
  have HX := hide (And.intro ho (And.intro hgr2 (And.intro hloc2 hpm)))
  clear ho hgr hgr2 hnil hloc hloc2 hpm b3 om hov c1 c2
  go_wp2_with (at_mapUpdate; refine wpList_mapUpdate_own _ rfl _ _ _ 71 rfl 9 3 law Tryd.underlying71 _ bm l.length Dm rfl om4 (by unfold maxLen; omega) _ _ _ rfl rfl hkey _ [] (plainElem_int Tryd.underlying3 (WalkArith.wf_i64 (by omega))) ?_; intro w5 hm5 hg5)
  go_ret2
  obtain ⟨ho, hgr2, hloc2, hpm⟩ := HX.out
  obtain ⟨T5, O5⟩ := tbl_add H2.out hv hs.out HF.out hl ho hgr2 hloc2 Dm hpm hm5 hg5
  exact ⟨_, rfl, T5, (Only.ofBelow D).trans O5, hloc2.imp id (fun ⟨k, e, hk⟩ => ⟨k, e, Nat.le_trans D.size hk⟩)⟩

end Go.Proofs.YtnfdifkcchciaaaDoor
