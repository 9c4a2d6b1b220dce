import Derived.Test.YtmagchclmmphaaaGreatDoorSr
namespace Go.Proofs.YtmagchclmmphaaaGreatDoor
open Go.RowKit Go.Maps

/-- What add says of a new item. -/
def AddsTo {α : Type} (K : Kd α) (n0 : Nat) (w : World) (b o : Nat) (C : Array Value) (v m : Value) (l : List α) (s : α) (t : Nat) (w' : World) : Prop :=
  ∃ v' m', w'.heap[b]? = some (.cells ((C.setIfInBounds (o + 1) m').setIfInBounds o v') t (0, 0)) ∧ Ser K n0 w' v' m' (l ++ [s]) ∧ Only w w' (fun k => k = b ∨ SB v m k) ∧ (∀ k, SB v' m' k → SB v m k ∨ w.heap.size ≤ k)
theorem set_same {C : Array Value} {o : Nat} {v : Value} (h : C[o]? = some v) : C.setIfInBounds o v = C := by
  apply Array.ext_getElem?
  intro j
  by_cases e : o = j
  · subst e; rw [Array.getElem?_setIfInBounds_self_of_lt (Array.getElem?_eq_some_iff.1 h).1, h]
  · rw [Array.getElem?_setIfInBounds_ne e]

theorem teql_some (bm : Nat) (W : World) : (binOp .eql 73 (.map (some bm)) (.map none)).run Tryz.prog W = .ok (.bool false) W := by kernel_rfl
theorem teql_none (W : World) : (binOp .eql 73 (.map none) (.map none)).run Tryz.prog W = .ok (.bool true) W := by kernel_rfl
theorem tcells_new (w : World) (s : ByteArray) : ∀ (j : Nat) (u : Value), ([Value.string s])[j]? = some u → (w.alloc (.cells #[Value.string s] 9)).cell? ((⟨w.heap.size, 0, none⟩ : Addr).add j) = some u := by
  intro j u hu
  rw [Addr.add_lit, Nat.zero_add]
  refine cell_of (World.alloc_heap_new _ _) ?_
  rw [← hu]
  rw [List.getElem?_toArray]

set_option maxRecDepth 100000 in
set_option maxHeartbeats 1000000 in
theorem tadd_old (b o bm i : Nat) (v : Value) (l : List (ByteArray)) (n0 : Nat) (w : World) (h : Hid (Ser kText n0 w v (.map (some bm)) l)) (hi : i < l.length) (s : ByteArray) (HS : Hid (s = l[i])) (c1 : w.cell? ⟨b, o + 1, none⟩ = some (.map (some bm))) :
    Calls Tryz.prog 90 #[.pointer (some ⟨b, o, none⟩), .string s] w fun e w' => e = .returned (.int .i64 (i : Nat)) ∧ Below w.heap.size w w' := by
  obtain ⟨D, hm, hp⟩ : ∃ D, w.ownsMap Tryz.prog 9 (plainElem Tryz.prog 3) bm l.length D ∧ IsPl kText D l := by
    rcases h.out.map with ⟨e, _⟩ | ⟨bm', D, e, _, o, hp⟩
    · cases e
    · cases e; exact ⟨D, o, hp⟩
  have HX := hide (And.intro hm hp)
  have HO := hide (h.out.ok _ (List.getElem_mem hi))
  clear hm hp
  go_enter Tryz.func90, Tryz.ntmps90
  go_wp2_with (at_lookup; refine lookup_at (K := kText) _ rfl _ _ 73 rfl Tryz.underlying73 bm l i hi D HX.out.1 HX.out.2 HO.out rfl (by rw [← HS.out]; rfl) ?_)
  go_ret
  exact ⟨rfl, Below.refl _ _⟩

set_option maxRecDepth 100000 in
set_option maxHeartbeats 1000000 in
theorem tadd_new (b o bm : Nat) (v : Value) (l : List (ByteArray)) (s : ByteArray) (n0 : Nat) (C : Array Value) (w : World) (h : Hid (Ser kText n0 w v (.map (some bm)) l)) (hs : Hid (s ∉ l)) (hok : Hid (kText.ok s)) (hl : l.length ≤ 67108864)
    (hb : Hid (w.heap[b]? = some (.cells C 81 (0, 0)) ∧ C[o]? = some v ∧ C[o + 1]? = some (.map (some bm)))) (hbn : b < n0) :
    Calls Tryz.prog 90 #[.pointer (some ⟨b, o, none⟩), .string s] w fun e w' => e = .returned (.int .i64 (l.length : Nat)) ∧ AddsTo kText n0 w b o C v (.map (some bm)) l s 81 w' := by
  obtain ⟨i0, hi, hz0, hz1, hz2⟩ := info_parts info9
  obtain ⟨D, hbm, hm, hp⟩ : ∃ D, n0 ≤ bm ∧ w.ownsMap Tryz.prog 9 (plainElem Tryz.prog 3) bm l.length D ∧ IsPl kText D l := by
    rcases h.out.map with ⟨e, _⟩ | ⟨bm', D, e, hb, o, hp⟩
    · cases e
    · cases e; exact ⟨D, hb, o, hp⟩
  have hn0 : n0 ≤ w.heap.size := by have := hm.lt; omega
  have HX := hide (And.intro hm hp)
  have hblt : b < w.heap.size := (Array.getElem?_eq_some_iff.1 hb.out.1).1
  have c0 : w.cell? ⟨b, o, none⟩ = some v := cell_of hb.out.1 hb.out.2.1
  have c1 : w.cell? ⟨b, o + 1, none⟩ = some (.map (some bm)) := cell_of hb.out.1 hb.out.2.2
  obtain ⟨ao, cp, hv⟩ : ∃ ao cp, v = .slice ao l.length cp := by
    rcases h.out.own.2 with ⟨e, e2⟩ | ⟨g, cap, cur, e, _⟩
    · exact ⟨none, 0, by rw [e, e2]⟩
    · exact ⟨_, _, e⟩
  have HV := hide hv
  rw [hv] at c0
  have he := teql_some bm
  have hkey := kText.kmk s hok.out
  have HC := hide (fun (w5 : World) (hg5 : w.grownBy w5 (some bm)) => show w5.cell? ⟨b, o, none⟩ = some (.slice ao l.length cp) by
    rw [← HV.out]; exact cell_of ((hg5.block b hblt (by simp; omega)).trans hb.out.1) hb.out.2.1)
  have HOV := hide (fun (w5 : World) (hg5 : w.grownBy w5 (some bm)) => show w5.ownsRow n0 9 1 (.slice ao l.length cp) l.length (l.flatMap kText.cs) by
    rw [← HV.out]
    refine row_only (R := fun k => k = bm) h.out.own (Only.grown hg5 (fun k hk => by cases hk; rfl)) (fun k hk e => ?_)
    subst e
    obtain ⟨es, ck, q1, _⟩ := HX.out.1
    rcases h.out.own.2 with ⟨e, _⟩ | ⟨g, cap, cur, e, _, hg, _⟩
    · rw [e] at hk; cases hk
    · rw [e] at hk
      obtain rfl : g = k := by simpa [Value.ownBlock] using hk
      rw [hg] at q1; cases q1)
  clear hm hp hv
  go_enter Tryz.func90, Tryz.ntmps90
  go_wp2_with (first
    | (at_lookup; refine lookup_not (K := kText) _ rfl _ _ 73 rfl Tryz.underlying73 bm l s hs.out D HX.out.1 HX.out.2 hok.out rfl rfl ?_; intro c)
    | (at_mapUpdate; refine wpList_mapUpdate_own _ rfl _ _ _ 73 rfl 9 3 kText.law Tryz.underlying73 _ bm l.length D rfl HX.out.1 (by unfold maxLen; omega) _ _ _ rfl rfl hkey _ [] (plainElem_int Tryz.underlying3 (WalkArith.wf_i64 (by omega))) ?_; intro w5 hm5 hg5; have c05 := HC.out w5 hg5; have HG5 := hide (And.intro hm5 hg5); clear hm5 hg5)
    | (at_builtin; refine wpList_append_own_at _ rfl _ _ _ rfl n0 9 i0 _ 1 16 Tryz.underlying23 hi hz0 hz1 hz2 rfl (by omega) (.slice ao l.length cp) l.length (l.flatMap kText.cs) rfl ((HOV.out w5 HG5.out.2).alloc _) ⟨w5.heap.size, 0, none⟩ 1 1 ([Value.string s]) rfl rfl (tcells_new _ s) (kText.one s) (by unfold maxLen; omega) (by omega) (by have := HG5.out.2.size; simp; omega) ?_))
  have hs5 := HG5.out.2.size
  have hb5 : w5.heap[b]? = some (.cells C 81 (0, 0)) := (HG5.out.2.block b hblt (by simp; omega)).trans hb.out.1
  have HM := hide (And.intro HG5.out.1 (And.intro HG5.out.2 hb5))
  intro v' w6 ho hgr hnil hloc
  obtain ⟨gv, cv, rfl, _, _⟩ := ho.form (by omega)
  have hgr2 : w5.grownBy w6 v.ownBlock := by rw [HV.out]; exact (World.grownBy_alloc _ _ _).trans hgr
  have hvb : some b ≠ v.ownBlock := fun e => by have := (h.out.own.lt b e.symm).1; omega
  have hb6 : w6.heap[b]? = some (.cells C 81 (0, 0)) := (hgr2.block b (by omega) hvb).trans HM.out.2.2
  have hu : w6.cell? ⟨b, o, none⟩ = some v := cell_of hb6 hb.out.2.1
  have hfz : w6.frozen? ⟨b, o, none⟩ = false := by simp [World.frozen?, hb6]
  have HF := hide (And.intro ho (And.intro hgr2 hloc))
  clear ho hgr hgr2 hnil hloc hb6 c05 hb5
  go_wp2
  go_ret
  obtain ⟨ho, hgr2, hloc⟩ := HF.out
  obtain ⟨p1, p2, p3⟩ := Ser.put (o := o) h.out HX.out.2 hbm HX.out.1 hs.out hok.out hb.out.1 hbn HM.out.1 HM.out.2.1 hgr2 ho
  refine ⟨rfl, _, .map (some bm), ?_, p1, p3, ?_⟩
  · rw [set_same hb.out.2.2]; exact p2
  · rintro k (hk | hk)
    · rcases hloc with e | e
      · exact .inl (.inl (by rw [HV.out, ← e]; exact hk))
      · right
        rw [e] at hk
        simp at hk
        omega
    · exact .inl (.inr hk)

set_option maxRecDepth 100000 in
set_option maxHeartbeats 1000000 in
theorem tadd_first (b o : Nat) (v : Value) (s : ByteArray) (n0 : Nat) (C : Array Value) (w : World) (h : Hid (Ser kText n0 w v (.map none) [])) (hok : Hid (kText.ok s))
    (hb : Hid (w.heap[b]? = some (.cells C 81 (0, 0)) ∧ C[o]? = some v ∧ C[o + 1]? = some (.map none))) (hbn : b < n0) (hn0 : n0 ≤ w.heap.size) :
    Calls Tryz.prog 90 #[.pointer (some ⟨b, o, none⟩), .string s] w fun e w' => e = .returned (.int .i64 0) ∧ AddsTo kText n0 w b o C v (.map none) [] s 81 w' := by
  obtain ⟨i0, hi, hz0, hz1, hz2⟩ := info_parts info9
  have hblt : b < w.heap.size := (Array.getElem?_eq_some_iff.1 hb.out.1).1
  have c0 : w.cell? ⟨b, o, none⟩ = some v := cell_of hb.out.1 hb.out.2.1
  have c1 : w.cell? ⟨b, o + 1, none⟩ = some (.map none) := cell_of hb.out.1 hb.out.2.2
  have f1 : w.frozen? ⟨b, o + 1, none⟩ = false := by simp [World.frozen?, hb.out.1]
  obtain ⟨ao, cp, hv⟩ : ∃ ao cp, v = .slice ao 0 cp := by
    rcases h.out.own.2 with ⟨e, e2⟩ | ⟨g, cap, cur, e, _⟩
    · exact ⟨none, 0, by rw [e]⟩
    · exact ⟨_, _, e⟩
  have HV := hide hv
  have hkey := kText.kmk s hok.out
  have hlook : ∀ W : World, (Instr.lookup 73 (.map none) (.string s) true).run Tryz.prog W = .ok (.tuple #[.int .i64 0, .bool false]) W := fun W => Maps.look_nil true kText.law Tryz.underlying73 (z := .int .i64 0) (by kernel_rfl) hkey
  have he := teql_none
  rw [hv] at c0
  clear hv
  have hzs : (w.setCell ⟨b, o + 1, none⟩ (.map (some w.heap.size))).heap.size = w.heap.size := by simp [World.setCell]
  obtain ⟨W1, hW1⟩ : ∃ W1, (w.setCell ⟨b, o + 1, none⟩ (.map (some w.heap.size))).alloc (.map #[] 0) = W1 := ⟨_, rfl⟩
  have hA : Below w.heap.size w (w.alloc (.map #[] 0)) := (Below.refl _ _).alloc (Nat.le_refl _) _
  have hbA : (w.alloc (.map #[] 0)).heap[b]? = some (.cells C 81 (0, 0)) := (hA.block b hblt).trans hb.out.1
  have hb1 : W1.heap[b]? = some (.cells (C.setIfInBounds (o + 1) (.map (some w.heap.size))) 81 (0, 0)) := by rw [← hW1]; exact (Below.heap_alloc _ _ b (by omega)).trans (heap_setCell_same _ b (o + 1) C 81 _ hb.out.1)
  have hC0 : (C.setIfInBounds (o + 1) (.map (some w.heap.size)))[o]? = some v := by rw [Array.getElem?_setIfInBounds_ne (by omega)]; exact hb.out.2.1
  have hC1 : (C.setIfInBounds (o + 1) (.map (some w.heap.size)))[o + 1]? = some (.map (some w.heap.size)) := by
    rw [Array.getElem?_setIfInBounds_self_of_lt]
    exact (Array.getElem?_eq_some_iff.1 hb.out.2.2).1
  have d01 : W1.cell? ⟨b, o, none⟩ = some (.slice ao 0 cp) := by rw [← HV.out]; exact cell_of hb1 hC0
  have d11 : W1.cell? ⟨b, o + 1, none⟩ = some (.map (some w.heap.size)) := cell_of hb1 hC1
  have hO1 : Only w W1 (fun k => k = b) := by rw [← hW1]; exact (only_set w b (o + 1) _).trans (Only.ofBelow ((Below.refl _ _).alloc (Nat.le_refl _) _))
  have hz1' : W1.heap.size = w.heap.size + 1 := by rw [← hW1]; simp [World.setCell]
  have hm1 : W1.ownsMap Tryz.prog 9 (plainElem (H := Unit) Tryz.prog 3) w.heap.size 0 (.map []) := by
    rw [← hW1]
    have := World.ownsMap_made (w.setCell ⟨b, o + 1, none⟩ (.map (some w.heap.size))) Tryz.prog 9 (plainElem (H := Unit) Tryz.prog 3)
    rwa [hzs] at this
  have hS1 : Ser kText n0 W1 v (.map (some w.heap.size)) [] := ⟨row_only h.out.own hO1 (fun k hk e => by have := (h.out.own.lt k hk).1; omega), .inr ⟨_, _, rfl, hn0, hm1, isPl_nil kText⟩, by simp, List.nodup_nil⟩
  have HM1 := hide hm1
  have HS1 := hide hS1
  have HB1 := hide (And.intro hb1 (And.intro hC0 hC1))
  have HO1 := hide hO1
  have HA := hide hbA
  have hlt1 : b < W1.heap.size := by omega
  have HC := hide (fun (w5 : World) (hg5 : W1.grownBy w5 (some w.heap.size)) => show w5.cell? ⟨b, o, none⟩ = some (.slice ao 0 cp) by
    rw [← HV.out]; exact cell_of ((hg5.block b hlt1 (by simp; omega)).trans hb1) hC0)
  have HOV := hide (fun (w5 : World) (hg5 : W1.grownBy w5 (some w.heap.size)) => show w5.ownsRow n0 9 1 (.slice ao 0 cp) 0 [] by
    rw [← HV.out]
    exact row_only (R := fun k => k = w.heap.size) HS1.out.own (Only.grown hg5 (fun k hk => by cases hk; rfl)) (fun k hk e => by have := (h.out.own.lt k hk).2; omega))
  clear hm1 hS1 hb1 hC0 hC1 hO1 hA hbA
  have hmk : ∀ W : World, (Instr.makeMap 73 none).run Tryz.prog W = .ok (.map (some W.heap.size)) (W.alloc (.map #[] 0)) := fun W => by simp [Instr.makeMap]
  have fA : (w.alloc (.map #[] 0)).frozen? ⟨b, o + 1, none⟩ = false := by simp [World.frozen?, HA.out]
  have cA : (w.alloc (.map #[] 0)).cell? ⟨b, o + 1, none⟩ = some (.map none) := cell_of HA.out hb.out.2.2
  subst hW1
  clear c0
  go_enter Tryz.func90, Tryz.ntmps90
  go_wp2_with (first
    | (at_mapUpdate; refine wpList_mapUpdate_own _ rfl _ _ _ 73 rfl 9 3 kText.law Tryz.underlying73 _ w.heap.size 0 (.map []) rfl HM1.out (by unfold maxLen; omega) _ _ _ rfl rfl hkey _ [] (plainElem_int Tryz.underlying3 (WalkArith.wf_i64 (by omega))) ?_; intro w5 hm5 hg5; have c05 := HC.out w5 hg5; have HG5 := hide (And.intro hm5 hg5); clear hm5 hg5)
    | (at_builtin; refine wpList_append_own_at _ rfl _ _ _ rfl n0 9 i0 _ 1 16 Tryz.underlying23 hi hz0 hz1 hz2 rfl (by omega) (.slice ao 0 cp) 0 [] rfl ((HOV.out w5 HG5.out.2).alloc _) ⟨w5.heap.size, 0, none⟩ 1 1 ([Value.string s]) rfl rfl (tcells_new _ s) (kText.one s) (by unfold maxLen; omega) (by omega) (by have := HG5.out.2.size; simp at this ⊢; omega) ?_))
  have hs5 := HG5.out.2.size
  have hb5 : w5.heap[b]? = some (.cells (C.setIfInBounds (o + 1) (.map (some w.heap.size))) 81 (0, 0)) := (HG5.out.2.block b hlt1 (by simp; omega)).trans HB1.out.1
  have HM := hide hb5
  intro v' w6 ho hgr hnil hloc
  obtain ⟨gv, cv, rfl, _, _⟩ := ho.form (by omega)
  have hgr2 : w5.grownBy w6 v.ownBlock := by rw [HV.out]; exact (World.grownBy_alloc _ _ _).trans hgr
  have hvb : some b ≠ v.ownBlock := fun e => by have := (h.out.own.lt b e.symm).1; omega
  have hb6 : w6.heap[b]? = some (.cells (C.setIfInBounds (o + 1) (.map (some w.heap.size))) 81 (0, 0)) := (hgr2.block b (by omega) hvb).trans HM.out
  have hu : w6.cell? ⟨b, o, none⟩ = some v := cell_of hb6 HB1.out.2.1
  have hfz : w6.frozen? ⟨b, o, none⟩ = false := by simp [World.frozen?, hb6]
  have HF := hide (And.intro ho (And.intro hgr2 hloc))
  clear ho hgr hgr2 hnil hloc hb6 c05 hb5
  go_wp2
  go_ret
  obtain ⟨ho, hgr2, hloc⟩ := HF.out
  obtain ⟨p1, p2, p3⟩ := Ser.put (o := o) HS1.out (isPl_nil kText) hn0 HM1.out (by simp) hok.out HB1.out.1 hbn HG5.out.1 HG5.out.2 hgr2 ho
  refine ⟨rfl, _, .map (some w.heap.size), p2, p1, ?_, ?_⟩
  · refine (HO1.out.mono (fun k _ e => .inl e)).andNew p3 (fun k hk e => ?_)
    rcases e with e | e | e
    · exact .inl e
    · exact .inr (.inl e)
    · simp at e; omega
  · rintro k (hk | hk)
    · rcases hloc with e | e
      · exact .inl (.inl (by rw [HV.out, ← e]; exact hk))
      · right
        rw [e] at hk
        simp at hk hs5
        omega
    · right; simp at hk; omega
end Go.Proofs.YtmagchclmmphaaaGreatDoor
