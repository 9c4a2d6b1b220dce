import Derived.Test.YtmagchclmmphaabGreatDoorSR
import Derived.Deep.RegionLaw
import Derived.Deep.AppendLies
namespace Go.Proofs.YtmagchclmmphaabGreatDoor
open Go.RowKit Go.Maps
theorem look_in_run {α : Type} (K : Kd α) (w : World) (mt : TypeId) (ht : Tryz.prog.underlying mt = some (.map K.ty 3)) (b : Nat) (l : List α) (i : Nat) (hi : i < l.length) (D : DataW Unit) (hown : w.ownsMap Tryz.prog K.ty (plainElem Tryz.prog 3) b l.length D) (hp : IsPl K D l) (ho : K.ok l[i]) :
    (Instr.lookup mt (.map (some b)) (K.val l[i]) true).run Tryz.prog w = .ok (.tuple #[.int .i64 (i : Nat), .bool true]) w := by
  obtain ⟨v, ps, hrun, hv⟩ := hown.look_ok K.law ht (z := .int .i64 0) (by kernel_rfl) (plainElem_int Tryz.underlying3 (by decide)) (K.kmk _ ho)
  obtain ⟨c, rfl, hc, _⟩ := plainElem_int_inv Tryz.underlying3 hv
  have e : D.atKey (K.key l[i]) (.lit (.int .i64 0)) = .lit (.int .i64 c) := congrArg Prod.fst hc
  rw [hp.at_ i hi] at e
  simp only [DataW.lit.injEq, Lit.int.injEq, true_and] at e
  rw [hrun, (hp.has _ ho).2 (List.getElem_mem hi), ← e]
theorem look_out_run {α : Type} (K : Kd α) (w : World) (mt : TypeId) (ht : Tryz.prog.underlying mt = some (.map K.ty 3)) (b : Nat) (l : List α) (s : α) (hs : s ∉ l) (D : DataW Unit) (hown : w.ownsMap Tryz.prog K.ty (plainElem Tryz.prog 3) b l.length D) (hp : IsPl K D l) (ho : K.ok s) :
    ∃ c : Int, (Instr.lookup mt (.map (some b)) (K.val s) true).run Tryz.prog w = .ok (.tuple #[.int .i64 c, .bool false]) w := by
  obtain ⟨v, ps, hrun, hv⟩ := hown.look_ok K.law ht (z := .int .i64 0) (by kernel_rfl) (plainElem_int Tryz.underlying3 (by decide)) (K.kmk _ ho)
  obtain ⟨c, rfl, hc, _⟩ := plainElem_int_inv Tryz.underlying3 hv
  have : Maps.has D (K.key s) = false := by
    rw [Bool.eq_false_iff]; intro e; exact hs ((hp.has s ho).1 e)
  rw [this] at hrun
  exact ⟨c, hrun⟩

theorem oeql_some (bm : Nat) (W : World) : (binOp .eql 112 (.map (some bm)) (.map none)).run Tryz.prog W = .ok (.bool false) W := by kernel_rfl
theorem oeql_none (W : World) : (binOp .eql 112 (.map none) (.map none)).run Tryz.prog W = .ok (.bool true) W := by kernel_rfl
theorem ocells_new (w : World) (s : OpT) : ∀ (j : Nat) (u : Value), ([Value.string s.1, Value.int .i64 (s.2 : Nat)])[j]? = some u → (w.alloc (.cells #[Value.string s.1, Value.int .i64 (s.2 : Nat)] 66)).cell? ((⟨w.heap.size, 0, none⟩ : Addr).add j) = some u := by
  intro j u hu
  rw [Addr.add_lit, Nat.zero_add]
  refine cell_of (World.alloc_heap_new _ _) ?_
  rw [← hu]
  rw [List.getElem?_toArray]

set_option maxRecDepth 100000 in
set_option maxHeartbeats 1000000 in
theorem oadd_old (b o bm i : Nat) (v : Value) (l : List (OpT)) (n0 : Nat) (w : World) (h : Hid (Ser kOps n0 w v (.map (some bm)) l)) (hi : i < l.length) (s : OpT) (HS : Hid (s = l[i])) (c1 : w.cell? ⟨b, o + 1, none⟩ = some (.map (some bm))) :
    Calls Tryz.prog 133 #[.pointer (some ⟨b, o, none⟩), .agg #[.string s.1, .int .i64 (s.2 : Nat)]] w fun e w' => e = .returned (.int .i64 (i : Nat)) ∧ Below w.heap.size w w' := by
  have hA : Below w.heap.size w (w.alloc (.cells #[Value.string s.1, Value.int .i64 (s.2 : Nat)] 66)) := (Below.refl _ _).alloc (Nat.le_refl _) _
  obtain ⟨D, hm, hp⟩ : ∃ D, (w.alloc (.cells #[Value.string s.1, Value.int .i64 (s.2 : Nat)] 66)).ownsMap Tryz.prog 66 (plainElem Tryz.prog 3) bm l.length D ∧ IsPl kOps D l := by
    rcases h.out.map with ⟨e, _⟩ | ⟨bm', D, e, _, o, hp⟩
    · cases e
    · cases e; exact ⟨D, o.alloc _, hp⟩
  have hlook := look_in_run kOps (w.alloc (.cells #[Value.string s.1, Value.int .i64 (s.2 : Nat)] 66)).drew 112 Tryz.underlying112 bm l i hi D hm.drew hp (h.out.ok _ (List.getElem_mem hi))
  rw [← HS.out] at hlook
  have hlook' : (Instr.lookup 112 (.map (some bm)) (.agg #[.string s.1, .int .i64 (s.2 : Nat)]) true).run Tryz.prog (w.alloc (.cells #[Value.string s.1, Value.int .i64 (s.2 : Nat)] 66)).drew = _ := hlook
  have cA : (w.alloc (.cells #[Value.string s.1, Value.int .i64 (s.2 : Nat)] 66)).cell? ⟨b, o + 1, none⟩ = some (.map (some bm)) := (hA.cell (p := ⟨b, o + 1, none⟩) (World.block_lt_of_cell? w _ c1)).trans c1
  clear hm hp hlook
  go_enter Tryz.func133, Tryz.ntmps133
  go_wp2_with fail
  go_region
  go_wp2
  go_ret
  exact ⟨rfl, hA.drew⟩

set_option maxRecDepth 100000 in
set_option maxHeartbeats 2000000 in
theorem oadd_new (b o bm : Nat) (v : Value) (l : List (OpT)) (s : OpT) (n0 : Nat) (C : Array Value) (w : World) (h : Hid (Ser kOps n0 w v (.map (some bm)) l)) (hs : Hid (s ∉ l)) (hok : Hid (kOps.ok s)) (hl : l.length ≤ 67108864)
    (hb : Hid (w.heap[b]? = some (.cells C 121 (0, 0)) ∧ C[o]? = some v ∧ C[o + 1]? = some (.map (some bm)))) (hbn : b < n0) :
    Calls Tryz.prog 133 #[.pointer (some ⟨b, o, none⟩), .agg #[.string s.1, .int .i64 (s.2 : Nat)]] w fun e w' => e = .returned (.int .i64 (l.length : Nat)) ∧ AddsTo kOps n0 w b o C v (.map (some bm)) l s 121 w' := by
  obtain ⟨i0, hi, hz0, hz1, hz2⟩ := info_parts info51
  obtain ⟨X, hX⟩ : ∃ X, w.alloc (.cells #[Value.string s.1, Value.int .i64 (s.2 : Nat)] 66) = X := ⟨_, rfl⟩
  have hA : Below w.heap.size w X := by rw [← hX]; exact (Below.refl _ _).alloc (Nat.le_refl _) _
  have hzX : X.heap.size = w.heap.size + 1 := by rw [← hX]; simp
  have hbx : X.heap[w.heap.size]? = some (.cells #[Value.string s.1, Value.int .i64 (s.2 : Nat)] 66 (0, 0)) := by rw [← hX]; exact World.alloc_heap_new _ _
  have hSX := h.out.below hA
  obtain ⟨D, hbm, hm, hp⟩ : ∃ D, n0 ≤ bm ∧ X.ownsMap Tryz.prog 66 (plainElem Tryz.prog 3) bm l.length D ∧ IsPl kOps D l := by
    rcases hSX.map with ⟨e, _⟩ | ⟨bm', D, e, hb, o, hp⟩
    · cases e
    · cases e; exact ⟨D, hb, o, hp⟩
  have hbw : bm < w.heap.size := (h.out.lt bm (.inr rfl)).2
  have hn0 : n0 ≤ w.heap.size := by omega
  have hblt : b < w.heap.size := (Array.getElem?_eq_some_iff.1 hb.out.1).1
  have hbX : X.heap[b]? = some (.cells C 121 (0, 0)) := (hA.block b hblt).trans hb.out.1
  obtain ⟨ao, cp, hv⟩ : ∃ ao cp, v = .slice ao l.length cp := by
    rcases h.out.own.2 with ⟨e, e2⟩ | ⟨g, cap, cur, e, _⟩
    · exact ⟨none, 0, by rw [e, e2]⟩
    · exact ⟨_, _, e⟩
  have HV := hide hv
  have c0 : X.cell? ⟨b, o, none⟩ = some (.slice ao l.length cp) := by rw [← hv]; exact cell_of hbX hb.out.2.1
  have c1 : X.cell? ⟨b, o + 1, none⟩ = some (.map (some bm)) := cell_of hbX hb.out.2.2
  have he := oeql_some bm
  have hkey := kOps.kmk s hok.out
  obtain ⟨c, hlook⟩ := look_out_run kOps X.drew 112 Tryz.underlying112 bm l s hs.out D hm.drew hp hok.out
  have hlook' : (Instr.lookup 112 (.map (some bm)) (.agg #[.string s.1, .int .i64 (s.2 : Nat)]) true).run Tryz.prog X.drew = _ := hlook
  obtain ⟨w5, hrun5, hm5, hg5⟩ := World.ownsMap.update (w := X.drew.drew) (t := 112) (e := 3) (show X.drew.drew.ownsMap Tryz.prog 66 (plainElem Tryz.prog 3) bm l.length D from hm) kOps.law Tryz.underlying112 (by unfold maxLen; omega) (val := .int .i64 (l.length : Nat)) hkey (plainElem_int Tryz.underlying3 (WalkArith.wf_i64 (by omega)))
  have hrun5' : (Instr.mapUpdate 112 (.map (some bm)) (.agg #[.string s.1, .int .i64 (s.2 : Nat)]) (.int .i64 (l.length : Nat))).run Tryz.prog X.drew.drew = .ok () w5 := hrun5
  have hgX : X.grownBy w5 (some bm) := ⟨hg5.os, hg5.tape, hg5.output, hg5.size, hg5.block⟩
  have hs5 : X.heap.size ≤ w5.heap.size := hgX.size
  have hb5 : w5.heap[b]? = some (.cells C 121 (0, 0)) := (hgX.block b (by omega) (by simp; omega)).trans hbX
  have hx5 : w5.heap[w.heap.size]? = some (.cells #[Value.string s.1, Value.int .i64 (s.2 : Nat)] 66 (0, 0)) := (hgX.block _ (by omega) (by simp; omega)).trans hbx
  have c05 : w5.cell? ⟨b, o, none⟩ = some (.slice ao l.length cp) := by rw [← hv]; exact cell_of hb5 hb.out.2.1
  have x0 : X.cell? ⟨w.heap.size, 0, none⟩ = some (.string s.1) := cell_of hbx rfl
  have x1 : X.cell? ⟨w.heap.size, 1, none⟩ = some (.int .i64 (s.2 : Nat)) := cell_of hbx rfl
  have y0 : w5.cell? ⟨w.heap.size, 0, none⟩ = some (.string s.1) := cell_of hx5 rfl
  have y1 : w5.cell? ⟨w.heap.size, 1, none⟩ = some (.int .i64 (s.2 : Nat)) := cell_of hx5 rfl
  have hov : w5.ownsRow n0 66 2 (.slice ao l.length cp) l.length (l.flatMap kOps.cs) := by
    rw [← hv]
    refine row_only (R := fun k => k = bm) hSX.own (Only.grown hgX (fun k hk => by cases hk; rfl)) (fun k hk e => ?_)
    subst e
    obtain ⟨es, ck, q1, _⟩ := hm
    rcases hSX.own.2 with ⟨e, _⟩ | ⟨g, cap, cur, e, _, hg, _⟩
    · rw [e] at hk; cases hk
    · rw [e] at hk
      obtain rfl : g = k := by simpa [Value.ownBlock] using hk
      rw [hg] at q1; cases q1
  have HS6 := hide (fun (w6 : World) (hg : (w5.alloc (.cells #[Value.string s.1, Value.int .i64 (s.2 : Nat)] 66)).drew.grownBy w6 (Value.slice ao l.length cp).ownBlock) => show (w6.cell? ⟨b, o, none⟩ = some (.slice ao l.length cp) ∧ w6.cell? ⟨w.heap.size, 0, none⟩ = some (.string s.1) ∧ w6.cell? ⟨w.heap.size, 1, none⟩ = some (.int .i64 (s.2 : Nat))) ∧ w6.frozen? ⟨b, o, none⟩ = false ∧ w6.heap[b]? = some (.cells C 121 (0, 0)) by
    rw [← hv] at hg
    have q1 : w6.heap[b]? = some (.cells C 121 (0, 0)) := (hg.block b (by simp; omega) (fun e => by have := (h.out.own.lt b e.symm).1; omega)).trans ((Below.heap_alloc _ _ b (by omega)).trans hb5)
    have q2 : w6.heap[w.heap.size]? = some (.cells #[Value.string s.1, Value.int .i64 (s.2 : Nat)] 66 (0, 0)) := (hg.block _ (by simp; omega) (fun e => by have := (h.out.own.lt _ e.symm).2; omega)).trans ((Below.heap_alloc _ _ _ (by omega)).trans hx5)
    exact ⟨⟨by rw [← hv]; exact cell_of q1 hb.out.2.1, cell_of q2 rfl, cell_of q2 rfl⟩, by simp [World.frozen?, q1], q1⟩)
  have HX := hide (And.intro hm (And.intro hp (And.intro hm5 (And.intro hgX (And.intro hb5 (And.intro hSX (And.intro hbX (And.intro hA hov))))))))
  clear hm hp hlook hrun5 hg5 hgX hm5 hb5 hSX hbX hA hv hbx hx5 hov
  go_enter Tryz.func133, Tryz.ntmps133
  go_wp2_with fail
  go_region
  go_wp2_with fail
  go_region
  go_wp2_with fail
  have hov := HX.out.2.2.2.2.2.2.2.2
  have cA5 : (w5.alloc (.cells #[Value.string s.1, Value.int .i64 (s.2 : Nat)] 66)).cell? ⟨b, o, none⟩ = some (.slice ao l.length cp) := (World.cell?_of_block (a := ⟨b, o, none⟩) (Below.heap_alloc _ _ b (by omega))).trans c05
  go_region_law (refine step_append_lies _ (by rfl) _ _ _ (by rfl) n0 66 i0 _ 2 24 Tryz.underlying29 hi hz0 hz1 hz2 rfl (by omega) (.slice ao l.length cp) l.length (l.flatMap kOps.cs) (by rfl) (by exact hov.alloc _) ⟨w5.heap.size, 0, none⟩ 1 1 ([Value.string s.1, Value.int .i64 (s.2 : Nat)]) (by rfl) (by rfl) (by exact ocells_new w5 s) (kOps.one s) (by omega) (by unfold maxLen; omega) (by omega) (by simp; omega) (w5.heap.size + 1) (by simp) ?_; intro gg cap2 w6 hown6 hgr6 hat hlt; have S6 := (HS6.out w6 hgr6).1; have F6 := (HS6.out w6 hgr6).2.1; have C6 := S6.1; have HF := hide (And.intro hown6 (And.intro hgr6 hat)); clear hown6 hgr6 hat)
  all_goals
    go_wp2
    go_ret
    obtain ⟨ho, hgr, hat⟩ := HF.out
    obtain ⟨hm, hp, hm5, hgX, hb5, hSX, hbX, hA, _⟩ := HX.out
    have hgr2 : w5.grownBy w6 v.ownBlock := by rw [HV.out]; exact (World.grownBy_alloc w5 (.cells #[Value.string s.1, Value.int .i64 (s.2 : Nat)] 66) _).trans ⟨hgr.os, hgr.tape, hgr.output, hgr.size, hgr.block⟩
    obtain ⟨p1, p2, p3⟩ := Ser.put (o := o) hSX hp hbm hm hs.out hok.out hbX hbn hm5 hgX hgr2 ho
    refine ⟨rfl, _, .map (some bm), ?_, p1, ?_, ?_⟩
    · rw [set_same hb.out.2.2]; exact p2
    · exact (Only.ofBelow hA).andNew p3 (fun _ _ e => e)
    · rintro k (hk | hk)
      · rcases hat with e | e
        · exact .inl (.inl (by rw [HV.out, e]; exact hk))
        · right
          simp [Value.ownBlock] at hk
          omega
      · exact .inl (.inr hk)

set_option maxRecDepth 100000 in
set_option maxHeartbeats 2000000 in
theorem oadd_first (b o : Nat) (v : Value) (s : OpT) (n0 : Nat) (C : Array Value) (w : World) (h : Hid (Ser kOps n0 w v (.map none) [])) (hok : Hid (kOps.ok s))
    (hb : Hid (w.heap[b]? = some (.cells C 121 (0, 0)) ∧ C[o]? = some v ∧ C[o + 1]? = some (.map none))) (hbn : b < n0) (hn0 : n0 ≤ w.heap.size) :
    Calls Tryz.prog 133 #[.pointer (some ⟨b, o, none⟩), .agg #[.string s.1, .int .i64 (s.2 : Nat)]] w fun e w' => e = .returned (.int .i64 0) ∧ AddsTo kOps n0 w b o C v (.map none) [] s 121 w' := by
  obtain ⟨i0, hi, hz0, hz1, hz2⟩ := info_parts info51
  obtain ⟨X, hX⟩ : ∃ X, w.alloc (.cells #[Value.string s.1, Value.int .i64 (s.2 : Nat)] 66) = X := ⟨_, rfl⟩
  have hA : Below w.heap.size w X := by rw [← hX]; exact (Below.refl _ _).alloc (Nat.le_refl _) _
  have hzX : X.heap.size = w.heap.size + 1 := by rw [← hX]; simp
  have hbx : X.heap[w.heap.size]? = some (.cells #[Value.string s.1, Value.int .i64 (s.2 : Nat)] 66 (0, 0)) := by rw [← hX]; exact World.alloc_heap_new _ _
  have hSX := h.out.below hA
  have hblt : b < w.heap.size := (Array.getElem?_eq_some_iff.1 hb.out.1).1
  have hbX : X.heap[b]? = some (.cells C 121 (0, 0)) := (hA.block b hblt).trans hb.out.1
  obtain ⟨ao, cp, hv⟩ : ∃ ao cp, v = .slice ao 0 cp := by
    rcases h.out.own.2 with ⟨e, e2⟩ | ⟨g, cap, cur, e, _⟩
    · exact ⟨none, 0, by rw [e]⟩
    · exact ⟨_, _, e⟩
  have HV := hide hv
  have c1 : X.cell? ⟨b, o + 1, none⟩ = some (.map none) := cell_of hbX hb.out.2.2
  have f1 : X.frozen? ⟨b, o + 1, none⟩ = false := by simp [World.frozen?, hbX]
  have hkey := kOps.kmk s hok.out
  have hlook : ∀ W : World, (Instr.lookup 112 (.map none) (.agg #[.string s.1, .int .i64 (s.2 : Nat)]) true).run Tryz.prog W = .ok (.tuple #[.int .i64 0, .bool false]) W := fun W => Maps.look_nil true kOps.law Tryz.underlying112 (z := .int .i64 0) (by kernel_rfl) hkey
  have he := oeql_none
  have hmk : ∀ W : World, (Instr.makeMap 112 none).run Tryz.prog W = .ok (.map (some W.heap.size)) (W.alloc (.map #[] 0)) := fun W => by simp [Instr.makeMap]
  have hzs : (X.setCell ⟨b, o + 1, none⟩ (.map (some X.heap.size))).heap.size = X.heap.size := by simp [World.setCell]
  have hO0 := only_set X b (o + 1) (.map (some X.heap.size))
  obtain ⟨W1, hW1⟩ : ∃ W1, (X.setCell ⟨b, o + 1, none⟩ (.map (some X.heap.size))).alloc (.map #[] 0) = W1 := ⟨_, rfl⟩
  have hb1 : W1.heap[b]? = some (.cells (C.setIfInBounds (o + 1) (.map (some X.heap.size))) 121 (0, 0)) := by rw [← hW1]; exact (Below.heap_alloc _ _ b (by omega)).trans (heap_setCell_same _ b (o + 1) C 121 _ hbX)
  have hbx1 : W1.heap[w.heap.size]? = some (.cells #[Value.string s.1, Value.int .i64 (s.2 : Nat)] 66 (0, 0)) := by rw [← hW1]; exact (Below.heap_alloc _ _ _ (by omega)).trans ((hO0.block _ (by omega) (by omega)).trans hbx)
  have hC0 : (C.setIfInBounds (o + 1) (.map (some X.heap.size)))[o]? = some v := by rw [Array.getElem?_setIfInBounds_ne (by omega)]; exact hb.out.2.1
  have hC1 : (C.setIfInBounds (o + 1) (.map (some X.heap.size)))[o + 1]? = some (.map (some X.heap.size)) := by
    rw [Array.getElem?_setIfInBounds_self_of_lt]
    exact (Array.getElem?_eq_some_iff.1 hb.out.2.2).1
  have hO1 : Only X W1 (fun k => k = b) := by rw [← hW1]; exact hO0.trans (Only.ofBelow ((Below.refl _ _).alloc (Nat.le_refl _) _))
  have hz1' : W1.heap.size = X.heap.size + 1 := by rw [← hW1]; simp [World.setCell]
  have hm1 : W1.ownsMap Tryz.prog 66 (plainElem (H := Unit) Tryz.prog 3) X.heap.size 0 (.map []) := by
    rw [← hW1]
    have := World.ownsMap_made (X.setCell ⟨b, o + 1, none⟩ (.map (some X.heap.size))) Tryz.prog 66 (plainElem (H := Unit) Tryz.prog 3)
    rwa [hzs] at this
  have hS1 : Ser kOps n0 W1 v (.map (some X.heap.size)) [] := ⟨row_only hSX.own hO1 (fun k hk e => by have := (h.out.own.lt k hk).1; omega), .inr ⟨_, _, rfl, by omega, hm1, isPl_nil kOps⟩, by simp, List.nodup_nil⟩
  have d01 : W1.cell? ⟨b, o, none⟩ = some (.slice ao 0 cp) := by rw [← hv]; exact cell_of hb1 hC0
  have d11 : W1.cell? ⟨b, o + 1, none⟩ = some (.map (some X.heap.size)) := cell_of hb1 hC1
  have x0 : X.cell? ⟨w.heap.size, 0, none⟩ = some (.string s.1) := cell_of hbx rfl
  have x1 : X.cell? ⟨w.heap.size, 1, none⟩ = some (.int .i64 (s.2 : Nat)) := cell_of hbx rfl
  have z0 : W1.cell? ⟨w.heap.size, 0, none⟩ = some (.string s.1) := cell_of hbx1 rfl
  have z1 : W1.cell? ⟨w.heap.size, 1, none⟩ = some (.int .i64 (s.2 : Nat)) := cell_of hbx1 rfl
  obtain ⟨w5, hrun5, hm5, hg5⟩ := World.ownsMap.update (w := W1.drew.drew) (t := 112) (e := 3) (show W1.drew.drew.ownsMap Tryz.prog 66 (plainElem (H := Unit) Tryz.prog 3) X.heap.size 0 (.map []) from hm1) kOps.law Tryz.underlying112 (by unfold maxLen; omega) (val := .int .i64 0) hkey (plainElem_int Tryz.underlying3 (WalkArith.wf_i64 (by omega)))
  have hrun5' : (Instr.mapUpdate 112 (.map (some X.heap.size)) (.agg #[.string s.1, .int .i64 (s.2 : Nat)]) (.int .i64 0)).run Tryz.prog W1.drew.drew = .ok () w5 := hrun5
  have hgX : W1.grownBy w5 (some X.heap.size) := ⟨hg5.os, hg5.tape, hg5.output, hg5.size, hg5.block⟩
  have hs5 : W1.heap.size ≤ w5.heap.size := hgX.size
  have hb5 : w5.heap[b]? = some (.cells (C.setIfInBounds (o + 1) (.map (some X.heap.size))) 121 (0, 0)) := (hgX.block b (by omega) (by simp; omega)).trans hb1
  have hx5 : w5.heap[w.heap.size]? = some (.cells #[Value.string s.1, Value.int .i64 (s.2 : Nat)] 66 (0, 0)) := (hgX.block _ (by omega) (by simp; omega)).trans hbx1
  have c05 : w5.cell? ⟨b, o, none⟩ = some (.slice ao 0 cp) := by rw [← hv]; exact cell_of hb5 hC0
  have y0 : w5.cell? ⟨w.heap.size, 0, none⟩ = some (.string s.1) := cell_of hx5 rfl
  have y1 : w5.cell? ⟨w.heap.size, 1, none⟩ = some (.int .i64 (s.2 : Nat)) := cell_of hx5 rfl
  have hov : w5.ownsRow n0 66 2 (.slice ao 0 cp) 0 [] := by
    rw [← hv]
    exact row_only (R := fun k => k = X.heap.size) hS1.own (Only.grown hgX (fun k hk => by cases hk; rfl)) (fun k hk e => by have := (h.out.own.lt k hk).2; omega)
  have HS6 := hide (fun (w6 : World) (hg : (w5.alloc (.cells #[Value.string s.1, Value.int .i64 (s.2 : Nat)] 66)).drew.grownBy w6 (Value.slice ao 0 cp).ownBlock) => show w6.cell? ⟨b, o, none⟩ = some (.slice ao 0 cp) ∧ w6.frozen? ⟨b, o, none⟩ = false by
    rw [← hv] at hg
    have q1 : w6.heap[b]? = some (.cells (C.setIfInBounds (o + 1) (.map (some X.heap.size))) 121 (0, 0)) := (hg.block b (by simp; omega) (fun e => by have := (h.out.own.lt b e.symm).1; omega)).trans ((Below.heap_alloc _ _ b (by omega)).trans hb5)
    exact ⟨by rw [← hv]; exact cell_of q1 hC0, by simp [World.frozen?, q1]⟩)
  have cA5 : (w5.alloc (.cells #[Value.string s.1, Value.int .i64 (s.2 : Nat)] 66)).cell? ⟨b, o, none⟩ = some (.slice ao 0 cp) := (World.cell?_of_block (a := ⟨b, o, none⟩) (Below.heap_alloc _ _ b (by omega))).trans c05
  have HX := hide (And.intro hm1 (And.intro hm5 (And.intro hgX (And.intro hb5 (And.intro hS1 (And.intro hb1 (And.intro hA (And.intro hO1 (And.intro hov (And.intro hzX hs5))))))))))
  have hz5 : n0 ≤ w5.heap.size + 1 := by omega
  have hbltX : b < X.heap.size := by omega
  have qA : (X.alloc (.map #[] 0)).heap[b]? = some (.cells C 121 (0, 0)) := (Below.heap_alloc _ _ b hbltX).trans hbX
  have cA : (X.alloc (.map #[] 0)).cell? ⟨b, o + 1, none⟩ = some (.map none) := cell_of qA hb.out.2.2
  have fA : (X.alloc (.map #[] 0)).frozen? ⟨b, o + 1, none⟩ = false := by simp [World.frozen?, qA]
  clear qA
  clear hrun5 hg5 hgX hm5 hb5 hSX hbX hA hv hbx hx5 hov hm1 hS1 hb1 hC0 hC1 hO1 hzX hs5 hbx1 hO0 hzs hz1'
  go_enter Tryz.func133, Tryz.ntmps133
  go_wp2_with fail
  go_region
  go_wp2_with fail
  go_region
  go_wp2_with fail
  have hov := HX.out.2.2.2.2.2.2.2.2.1
  go_region_law (refine step_append_lies _ (by rfl) _ _ _ (by rfl) n0 66 i0 _ 2 24 Tryz.underlying29 hi hz0 hz1 hz2 rfl (by omega) (.slice ao 0 cp) 0 [] (by rfl) (by exact hov.alloc _) ⟨w5.heap.size, 0, none⟩ 1 1 ([Value.string s.1, Value.int .i64 (s.2 : Nat)]) (by rfl) (by rfl) (by exact ocells_new w5 s) (kOps.one s) (by omega) (by unfold maxLen; omega) (by omega) (by simp; omega) (w5.heap.size + 1) (by simp) ?_; intro gg cap2 w6 hown6 hgr6 hat hlt; have F6 := (HS6.out w6 hgr6).2; have C6 := (HS6.out w6 hgr6).1; have HF := hide (And.intro hown6 (And.intro hgr6 hat)); clear hown6 hgr6 hat)
  all_goals
    go_wp2
    go_ret
    obtain ⟨ho, hgr, hat⟩ := HF.out
    obtain ⟨hm1, hm5, hgX, hb5, hS1, hb1, hA, hO1, _, hzX, hs5⟩ := HX.out
    have hgr2 : w5.grownBy w6 v.ownBlock := by rw [HV.out]; exact (World.grownBy_alloc w5 (.cells #[Value.string s.1, Value.int .i64 (s.2 : Nat)] 66) _).trans ⟨hgr.os, hgr.tape, hgr.output, hgr.size, hgr.block⟩
    obtain ⟨p1, p2, p3⟩ := Ser.put (o := o) hS1 (isPl_nil kOps) (by omega) hm1 (by simp) hok.out hb1 hbn hm5 hgX hgr2 ho
    have hsX := hO1.size
    refine ⟨rfl, _, .map (some X.heap.size), p2, p1, ?_, ?_⟩
    · refine (((Only.ofBelow hA).andNew hO1 (fun _ _ e => e)).mono (fun k _ e => .inl e)).andNew p3 (fun k hk e => ?_)
      rcases e with e | e | e
      · exact .inl e
      · exact .inr (.inl e)
      · simp at e; omega
    · rintro k (hk | hk)
      · rcases hat with e | e
        · exact .inl (.inl (by rw [HV.out, e]; exact hk))
        · right
          simp [Value.ownBlock] at hk
          omega
      · right; simp at hk; omega
end Go.Proofs.YtmagchclmmphaabGreatDoor
namespace Go.Proofs.YtmagchclmmphaabGreatDoor
open Go.RowKit Go.Maps

theorem reql_some (bm : Nat) (W : World) : (binOp .eql 117 (.map (some bm)) (.map none)).run Tryz.prog W = .ok (.bool false) W := by kernel_rfl
theorem reql_none (W : World) : (binOp .eql 117 (.map none) (.map none)).run Tryz.prog W = .ok (.bool true) W := by kernel_rfl
theorem rcells_new (w : World) (s : RuT) : ∀ (j : Nat) (u : Value), ([Value.string s.1, Value.string s.2.1, Value.string s.2.2])[j]? = some u → (w.alloc (.cells #[Value.string s.1, Value.string s.2.1, Value.string s.2.2] 68)).cell? ((⟨w.heap.size, 0, none⟩ : Addr).add j) = some u := by
  intro j u hu
  rw [Addr.add_lit, Nat.zero_add]
  refine cell_of (World.alloc_heap_new _ _) ?_
  rw [← hu]
  rw [List.getElem?_toArray]

set_option maxRecDepth 100000 in
set_option maxHeartbeats 1000000 in
theorem radd_old (b o bm i : Nat) (v : Value) (l : List (RuT)) (n0 : Nat) (w : World) (h : Hid (Ser kRules n0 w v (.map (some bm)) l)) (hi : i < l.length) (s : RuT) (HS : Hid (s = l[i])) (c1 : w.cell? ⟨b, o + 1, none⟩ = some (.map (some bm))) :
    Calls Tryz.prog 135 #[.pointer (some ⟨b, o, none⟩), .agg #[.string s.1, .string s.2.1, .string s.2.2]] w fun e w' => e = .returned (.int .i64 (i : Nat)) ∧ Below w.heap.size w w' := by
  have hA : Below w.heap.size w (w.alloc (.cells #[Value.string s.1, Value.string s.2.1, Value.string s.2.2] 68)) := (Below.refl _ _).alloc (Nat.le_refl _) _
  obtain ⟨D, hm, hp⟩ : ∃ D, (w.alloc (.cells #[Value.string s.1, Value.string s.2.1, Value.string s.2.2] 68)).ownsMap Tryz.prog 68 (plainElem Tryz.prog 3) bm l.length D ∧ IsPl kRules D l := by
    rcases h.out.map with ⟨e, _⟩ | ⟨bm', D, e, _, o, hp⟩
    · cases e
    · cases e; exact ⟨D, o.alloc _, hp⟩
  have hlook := look_in_run kRules (w.alloc (.cells #[Value.string s.1, Value.string s.2.1, Value.string s.2.2] 68)).drew 117 Tryz.underlying117 bm l i hi D hm.drew hp (h.out.ok _ (List.getElem_mem hi))
  rw [← HS.out] at hlook
  have hlook' : (Instr.lookup 117 (.map (some bm)) (.agg #[.string s.1, .string s.2.1, .string s.2.2]) true).run Tryz.prog (w.alloc (.cells #[Value.string s.1, Value.string s.2.1, Value.string s.2.2] 68)).drew = _ := hlook
  have cA : (w.alloc (.cells #[Value.string s.1, Value.string s.2.1, Value.string s.2.2] 68)).cell? ⟨b, o + 1, none⟩ = some (.map (some bm)) := (hA.cell (p := ⟨b, o + 1, none⟩) (World.block_lt_of_cell? w _ c1)).trans c1
  clear hm hp hlook
  go_enter Tryz.func135, Tryz.ntmps135
  go_wp2_with fail
  go_region
  go_wp2
  go_ret
  exact ⟨rfl, hA.drew⟩

set_option maxRecDepth 100000 in
set_option maxHeartbeats 2000000 in
theorem radd_new (b o bm : Nat) (v : Value) (l : List (RuT)) (s : RuT) (n0 : Nat) (C : Array Value) (w : World) (h : Hid (Ser kRules n0 w v (.map (some bm)) l)) (hs : Hid (s ∉ l)) (hok : Hid (kRules.ok s)) (hl : l.length ≤ 67108864)
    (hb : Hid (w.heap[b]? = some (.cells C 121 (0, 0)) ∧ C[o]? = some v ∧ C[o + 1]? = some (.map (some bm)))) (hbn : b < n0) :
    Calls Tryz.prog 135 #[.pointer (some ⟨b, o, none⟩), .agg #[.string s.1, .string s.2.1, .string s.2.2]] w fun e w' => e = .returned (.int .i64 (l.length : Nat)) ∧ AddsTo kRules n0 w b o C v (.map (some bm)) l s 121 w' := by
  obtain ⟨i0, hi, hz0, hz1, hz2⟩ := info_parts info53
  obtain ⟨X, hX⟩ : ∃ X, w.alloc (.cells #[Value.string s.1, Value.string s.2.1, Value.string s.2.2] 68) = X := ⟨_, rfl⟩
  have hA : Below w.heap.size w X := by rw [← hX]; exact (Below.refl _ _).alloc (Nat.le_refl _) _
  have hzX : X.heap.size = w.heap.size + 1 := by rw [← hX]; simp
  have hbx : X.heap[w.heap.size]? = some (.cells #[Value.string s.1, Value.string s.2.1, Value.string s.2.2] 68 (0, 0)) := by rw [← hX]; exact World.alloc_heap_new _ _
  have hSX := h.out.below hA
  obtain ⟨D, hbm, hm, hp⟩ : ∃ D, n0 ≤ bm ∧ X.ownsMap Tryz.prog 68 (plainElem Tryz.prog 3) bm l.length D ∧ IsPl kRules D l := by
    rcases hSX.map with ⟨e, _⟩ | ⟨bm', D, e, hb, o, hp⟩
    · cases e
    · cases e; exact ⟨D, hb, o, hp⟩
  have hbw : bm < w.heap.size := (h.out.lt bm (.inr rfl)).2
  have hn0 : n0 ≤ w.heap.size := by omega
  have hblt : b < w.heap.size := (Array.getElem?_eq_some_iff.1 hb.out.1).1
  have hbX : X.heap[b]? = some (.cells C 121 (0, 0)) := (hA.block b hblt).trans hb.out.1
  obtain ⟨ao, cp, hv⟩ : ∃ ao cp, v = .slice ao l.length cp := by
    rcases h.out.own.2 with ⟨e, e2⟩ | ⟨g, cap, cur, e, _⟩
    · exact ⟨none, 0, by rw [e, e2]⟩
    · exact ⟨_, _, e⟩
  have HV := hide hv
  have c0 : X.cell? ⟨b, o, none⟩ = some (.slice ao l.length cp) := by rw [← hv]; exact cell_of hbX hb.out.2.1
  have c1 : X.cell? ⟨b, o + 1, none⟩ = some (.map (some bm)) := cell_of hbX hb.out.2.2
  have he := reql_some bm
  have hkey := kRules.kmk s hok.out
  obtain ⟨c, hlook⟩ := look_out_run kRules X.drew 117 Tryz.underlying117 bm l s hs.out D hm.drew hp hok.out
  have hlook' : (Instr.lookup 117 (.map (some bm)) (.agg #[.string s.1, .string s.2.1, .string s.2.2]) true).run Tryz.prog X.drew = _ := hlook
  obtain ⟨w5, hrun5, hm5, hg5⟩ := World.ownsMap.update (w := X.drew.drew) (t := 117) (e := 3) (show X.drew.drew.ownsMap Tryz.prog 68 (plainElem Tryz.prog 3) bm l.length D from hm) kRules.law Tryz.underlying117 (by unfold maxLen; omega) (val := .int .i64 (l.length : Nat)) hkey (plainElem_int Tryz.underlying3 (WalkArith.wf_i64 (by omega)))
  have hrun5' : (Instr.mapUpdate 117 (.map (some bm)) (.agg #[.string s.1, .string s.2.1, .string s.2.2]) (.int .i64 (l.length : Nat))).run Tryz.prog X.drew.drew = .ok () w5 := hrun5
  have hgX : X.grownBy w5 (some bm) := ⟨hg5.os, hg5.tape, hg5.output, hg5.size, hg5.block⟩
  have hs5 : X.heap.size ≤ w5.heap.size := hgX.size
  have hb5 : w5.heap[b]? = some (.cells C 121 (0, 0)) := (hgX.block b (by omega) (by simp; omega)).trans hbX
  have hx5 : w5.heap[w.heap.size]? = some (.cells #[Value.string s.1, Value.string s.2.1, Value.string s.2.2] 68 (0, 0)) := (hgX.block _ (by omega) (by simp; omega)).trans hbx
  have c05 : w5.cell? ⟨b, o, none⟩ = some (.slice ao l.length cp) := by rw [← hv]; exact cell_of hb5 hb.out.2.1
  have x0 : X.cell? ⟨w.heap.size, 0, none⟩ = some (.string s.1) := cell_of hbx rfl
  have x1 : X.cell? ⟨w.heap.size, 1, none⟩ = some (.string s.2.1) := cell_of hbx rfl
  have x2 : X.cell? ⟨w.heap.size, 2, none⟩ = some (.string s.2.2) := cell_of hbx rfl
  have y0 : w5.cell? ⟨w.heap.size, 0, none⟩ = some (.string s.1) := cell_of hx5 rfl
  have y1 : w5.cell? ⟨w.heap.size, 1, none⟩ = some (.string s.2.1) := cell_of hx5 rfl
  have y2 : w5.cell? ⟨w.heap.size, 2, none⟩ = some (.string s.2.2) := cell_of hx5 rfl
  have hov : w5.ownsRow n0 68 3 (.slice ao l.length cp) l.length (l.flatMap kRules.cs) := by
    rw [← hv]
    refine row_only (R := fun k => k = bm) hSX.own (Only.grown hgX (fun k hk => by cases hk; rfl)) (fun k hk e => ?_)
    subst e
    obtain ⟨es, ck, q1, _⟩ := hm
    rcases hSX.own.2 with ⟨e, _⟩ | ⟨g, cap, cur, e, _, hg, _⟩
    · rw [e] at hk; cases hk
    · rw [e] at hk
      obtain rfl : g = k := by simpa [Value.ownBlock] using hk
      rw [hg] at q1; cases q1
  have HS6 := hide (fun (w6 : World) (hg : (w5.alloc (.cells #[Value.string s.1, Value.string s.2.1, Value.string s.2.2] 68)).drew.grownBy w6 (Value.slice ao l.length cp).ownBlock) => show (w6.cell? ⟨b, o, none⟩ = some (.slice ao l.length cp) ∧ w6.cell? ⟨w.heap.size, 0, none⟩ = some (.string s.1) ∧ w6.cell? ⟨w.heap.size, 1, none⟩ = some (.string s.2.1) ∧ w6.cell? ⟨w.heap.size, 2, none⟩ = some (.string s.2.2)) ∧ w6.frozen? ⟨b, o, none⟩ = false ∧ w6.heap[b]? = some (.cells C 121 (0, 0)) by
    rw [← hv] at hg
    have q1 : w6.heap[b]? = some (.cells C 121 (0, 0)) := (hg.block b (by simp; omega) (fun e => by have := (h.out.own.lt b e.symm).1; omega)).trans ((Below.heap_alloc _ _ b (by omega)).trans hb5)
    have q2 : w6.heap[w.heap.size]? = some (.cells #[Value.string s.1, Value.string s.2.1, Value.string s.2.2] 68 (0, 0)) := (hg.block _ (by simp; omega) (fun e => by have := (h.out.own.lt _ e.symm).2; omega)).trans ((Below.heap_alloc _ _ _ (by omega)).trans hx5)
    exact ⟨⟨by rw [← hv]; exact cell_of q1 hb.out.2.1, cell_of q2 rfl, cell_of q2 rfl, cell_of q2 rfl⟩, by simp [World.frozen?, q1], q1⟩)
  have HX := hide (And.intro hm (And.intro hp (And.intro hm5 (And.intro hgX (And.intro hb5 (And.intro hSX (And.intro hbX (And.intro hA hov))))))))
  clear hm hp hlook hrun5 hg5 hgX hm5 hb5 hSX hbX hA hv hbx hx5 hov
  go_enter Tryz.func135, Tryz.ntmps135
  go_wp2_with fail
  go_region
  go_wp2_with fail
  go_region
  go_wp2_with fail
  have hov := HX.out.2.2.2.2.2.2.2.2
  have cA5 : (w5.alloc (.cells #[Value.string s.1, Value.string s.2.1, Value.string s.2.2] 68)).cell? ⟨b, o, none⟩ = some (.slice ao l.length cp) := (World.cell?_of_block (a := ⟨b, o, none⟩) (Below.heap_alloc _ _ b (by omega))).trans c05
  go_region_law (refine step_append_lies _ (by rfl) _ _ _ (by rfl) n0 68 i0 _ 3 48 Tryz.underlying30 hi hz0 hz1 hz2 rfl (by omega) (.slice ao l.length cp) l.length (l.flatMap kRules.cs) (by rfl) (by exact hov.alloc _) ⟨w5.heap.size, 0, none⟩ 1 1 ([Value.string s.1, Value.string s.2.1, Value.string s.2.2]) (by rfl) (by rfl) (by exact rcells_new w5 s) (kRules.one s) (by omega) (by unfold maxLen; omega) (by omega) (by simp; omega) (w5.heap.size + 1) (by simp) ?_; intro gg cap2 w6 hown6 hgr6 hat hlt; have S6 := (HS6.out w6 hgr6).1; have F6 := (HS6.out w6 hgr6).2.1; have C6 := S6.1; have HF := hide (And.intro hown6 (And.intro hgr6 hat)); clear hown6 hgr6 hat)
  all_goals
    go_wp2
    go_ret
    obtain ⟨ho, hgr, hat⟩ := HF.out
    obtain ⟨hm, hp, hm5, hgX, hb5, hSX, hbX, hA, _⟩ := HX.out
    have hgr2 : w5.grownBy w6 v.ownBlock := by rw [HV.out]; exact (World.grownBy_alloc w5 (.cells #[Value.string s.1, Value.string s.2.1, Value.string s.2.2] 68) _).trans ⟨hgr.os, hgr.tape, hgr.output, hgr.size, hgr.block⟩
    obtain ⟨p1, p2, p3⟩ := Ser.put (o := o) hSX hp hbm hm hs.out hok.out hbX hbn hm5 hgX hgr2 ho
    refine ⟨rfl, _, .map (some bm), ?_, p1, ?_, ?_⟩
    · rw [set_same hb.out.2.2]; exact p2
    · exact (Only.ofBelow hA).andNew p3 (fun _ _ e => e)
    · rintro k (hk | hk)
      · rcases hat with e | e
        · exact .inl (.inl (by rw [HV.out, e]; exact hk))
        · right
          simp [Value.ownBlock] at hk
          omega
      · exact .inl (.inr hk)

set_option maxRecDepth 100000 in
set_option maxHeartbeats 2000000 in
theorem radd_first (b o : Nat) (v : Value) (s : RuT) (n0 : Nat) (C : Array Value) (w : World) (h : Hid (Ser kRules n0 w v (.map none) [])) (hok : Hid (kRules.ok s))
    (hb : Hid (w.heap[b]? = some (.cells C 121 (0, 0)) ∧ C[o]? = some v ∧ C[o + 1]? = some (.map none))) (hbn : b < n0) (hn0 : n0 ≤ w.heap.size) :
    Calls Tryz.prog 135 #[.pointer (some ⟨b, o, none⟩), .agg #[.string s.1, .string s.2.1, .string s.2.2]] w fun e w' => e = .returned (.int .i64 0) ∧ AddsTo kRules n0 w b o C v (.map none) [] s 121 w' := by
  obtain ⟨i0, hi, hz0, hz1, hz2⟩ := info_parts info53
  obtain ⟨X, hX⟩ : ∃ X, w.alloc (.cells #[Value.string s.1, Value.string s.2.1, Value.string s.2.2] 68) = X := ⟨_, rfl⟩
  have hA : Below w.heap.size w X := by rw [← hX]; exact (Below.refl _ _).alloc (Nat.le_refl _) _
  have hzX : X.heap.size = w.heap.size + 1 := by rw [← hX]; simp
  have hbx : X.heap[w.heap.size]? = some (.cells #[Value.string s.1, Value.string s.2.1, Value.string s.2.2] 68 (0, 0)) := by rw [← hX]; exact World.alloc_heap_new _ _
  have hSX := h.out.below hA
  have hblt : b < w.heap.size := (Array.getElem?_eq_some_iff.1 hb.out.1).1
  have hbX : X.heap[b]? = some (.cells C 121 (0, 0)) := (hA.block b hblt).trans hb.out.1
  obtain ⟨ao, cp, hv⟩ : ∃ ao cp, v = .slice ao 0 cp := by
    rcases h.out.own.2 with ⟨e, e2⟩ | ⟨g, cap, cur, e, _⟩
    · exact ⟨none, 0, by rw [e]⟩
    · exact ⟨_, _, e⟩
  have HV := hide hv
  have c1 : X.cell? ⟨b, o + 1, none⟩ = some (.map none) := cell_of hbX hb.out.2.2
  have f1 : X.frozen? ⟨b, o + 1, none⟩ = false := by simp [World.frozen?, hbX]
  have hkey := kRules.kmk s hok.out
  have hlook : ∀ W : World, (Instr.lookup 117 (.map none) (.agg #[.string s.1, .string s.2.1, .string s.2.2]) true).run Tryz.prog W = .ok (.tuple #[.int .i64 0, .bool false]) W := fun W => Maps.look_nil true kRules.law Tryz.underlying117 (z := .int .i64 0) (by kernel_rfl) hkey
  have he := reql_none
  have hmk : ∀ W : World, (Instr.makeMap 117 none).run Tryz.prog W = .ok (.map (some W.heap.size)) (W.alloc (.map #[] 0)) := fun W => by simp [Instr.makeMap]
  have hzs : (X.setCell ⟨b, o + 1, none⟩ (.map (some X.heap.size))).heap.size = X.heap.size := by simp [World.setCell]
  have hO0 := only_set X b (o + 1) (.map (some X.heap.size))
  obtain ⟨W1, hW1⟩ : ∃ W1, (X.setCell ⟨b, o + 1, none⟩ (.map (some X.heap.size))).alloc (.map #[] 0) = W1 := ⟨_, rfl⟩
  have hb1 : W1.heap[b]? = some (.cells (C.setIfInBounds (o + 1) (.map (some X.heap.size))) 121 (0, 0)) := by rw [← hW1]; exact (Below.heap_alloc _ _ b (by omega)).trans (heap_setCell_same _ b (o + 1) C 121 _ hbX)
  have hbx1 : W1.heap[w.heap.size]? = some (.cells #[Value.string s.1, Value.string s.2.1, Value.string s.2.2] 68 (0, 0)) := by rw [← hW1]; exact (Below.heap_alloc _ _ _ (by omega)).trans ((hO0.block _ (by omega) (by omega)).trans hbx)
  have hC0 : (C.setIfInBounds (o + 1) (.map (some X.heap.size)))[o]? = some v := by rw [Array.getElem?_setIfInBounds_ne (by omega)]; exact hb.out.2.1
  have hC1 : (C.setIfInBounds (o + 1) (.map (some X.heap.size)))[o + 1]? = some (.map (some X.heap.size)) := by
    rw [Array.getElem?_setIfInBounds_self_of_lt]
    exact (Array.getElem?_eq_some_iff.1 hb.out.2.2).1
  have hO1 : Only X W1 (fun k => k = b) := by rw [← hW1]; exact hO0.trans (Only.ofBelow ((Below.refl _ _).alloc (Nat.le_refl _) _))
  have hz1' : W1.heap.size = X.heap.size + 1 := by rw [← hW1]; simp [World.setCell]
  have hm1 : W1.ownsMap Tryz.prog 68 (plainElem (H := Unit) Tryz.prog 3) X.heap.size 0 (.map []) := by
    rw [← hW1]
    have := World.ownsMap_made (X.setCell ⟨b, o + 1, none⟩ (.map (some X.heap.size))) Tryz.prog 68 (plainElem (H := Unit) Tryz.prog 3)
    rwa [hzs] at this
  have hS1 : Ser kRules n0 W1 v (.map (some X.heap.size)) [] := ⟨row_only hSX.own hO1 (fun k hk e => by have := (h.out.own.lt k hk).1; omega), .inr ⟨_, _, rfl, by omega, hm1, isPl_nil kRules⟩, by simp, List.nodup_nil⟩
  have d01 : W1.cell? ⟨b, o, none⟩ = some (.slice ao 0 cp) := by rw [← hv]; exact cell_of hb1 hC0
  have d11 : W1.cell? ⟨b, o + 1, none⟩ = some (.map (some X.heap.size)) := cell_of hb1 hC1
  have x0 : X.cell? ⟨w.heap.size, 0, none⟩ = some (.string s.1) := cell_of hbx rfl
  have x1 : X.cell? ⟨w.heap.size, 1, none⟩ = some (.string s.2.1) := cell_of hbx rfl
  have x2 : X.cell? ⟨w.heap.size, 2, none⟩ = some (.string s.2.2) := cell_of hbx rfl
  have z0 : W1.cell? ⟨w.heap.size, 0, none⟩ = some (.string s.1) := cell_of hbx1 rfl
  have z1 : W1.cell? ⟨w.heap.size, 1, none⟩ = some (.string s.2.1) := cell_of hbx1 rfl
  have z2 : W1.cell? ⟨w.heap.size, 2, none⟩ = some (.string s.2.2) := cell_of hbx1 rfl
  obtain ⟨w5, hrun5, hm5, hg5⟩ := World.ownsMap.update (w := W1.drew.drew) (t := 117) (e := 3) (show W1.drew.drew.ownsMap Tryz.prog 68 (plainElem (H := Unit) Tryz.prog 3) X.heap.size 0 (.map []) from hm1) kRules.law Tryz.underlying117 (by unfold maxLen; omega) (val := .int .i64 0) hkey (plainElem_int Tryz.underlying3 (WalkArith.wf_i64 (by omega)))
  have hrun5' : (Instr.mapUpdate 117 (.map (some X.heap.size)) (.agg #[.string s.1, .string s.2.1, .string s.2.2]) (.int .i64 0)).run Tryz.prog W1.drew.drew = .ok () w5 := hrun5
  have hgX : W1.grownBy w5 (some X.heap.size) := ⟨hg5.os, hg5.tape, hg5.output, hg5.size, hg5.block⟩
  have hs5 : W1.heap.size ≤ w5.heap.size := hgX.size
  have hb5 : w5.heap[b]? = some (.cells (C.setIfInBounds (o + 1) (.map (some X.heap.size))) 121 (0, 0)) := (hgX.block b (by omega) (by simp; omega)).trans hb1
  have hx5 : w5.heap[w.heap.size]? = some (.cells #[Value.string s.1, Value.string s.2.1, Value.string s.2.2] 68 (0, 0)) := (hgX.block _ (by omega) (by simp; omega)).trans hbx1
  have c05 : w5.cell? ⟨b, o, none⟩ = some (.slice ao 0 cp) := by rw [← hv]; exact cell_of hb5 hC0
  have y0 : w5.cell? ⟨w.heap.size, 0, none⟩ = some (.string s.1) := cell_of hx5 rfl
  have y1 : w5.cell? ⟨w.heap.size, 1, none⟩ = some (.string s.2.1) := cell_of hx5 rfl
  have y2 : w5.cell? ⟨w.heap.size, 2, none⟩ = some (.string s.2.2) := cell_of hx5 rfl
  have hov : w5.ownsRow n0 68 3 (.slice ao 0 cp) 0 [] := by
    rw [← hv]
    exact row_only (R := fun k => k = X.heap.size) hS1.own (Only.grown hgX (fun k hk => by cases hk; rfl)) (fun k hk e => by have := (h.out.own.lt k hk).2; omega)
  have HS6 := hide (fun (w6 : World) (hg : (w5.alloc (.cells #[Value.string s.1, Value.string s.2.1, Value.string s.2.2] 68)).drew.grownBy w6 (Value.slice ao 0 cp).ownBlock) => show w6.cell? ⟨b, o, none⟩ = some (.slice ao 0 cp) ∧ w6.frozen? ⟨b, o, none⟩ = false by
    rw [← hv] at hg
    have q1 : w6.heap[b]? = some (.cells (C.setIfInBounds (o + 1) (.map (some X.heap.size))) 121 (0, 0)) := (hg.block b (by simp; omega) (fun e => by have := (h.out.own.lt b e.symm).1; omega)).trans ((Below.heap_alloc _ _ b (by omega)).trans hb5)
    exact ⟨by rw [← hv]; exact cell_of q1 hC0, by simp [World.frozen?, q1]⟩)
  have cA5 : (w5.alloc (.cells #[Value.string s.1, Value.string s.2.1, Value.string s.2.2] 68)).cell? ⟨b, o, none⟩ = some (.slice ao 0 cp) := (World.cell?_of_block (a := ⟨b, o, none⟩) (Below.heap_alloc _ _ b (by omega))).trans c05
  have HX := hide (And.intro hm1 (And.intro hm5 (And.intro hgX (And.intro hb5 (And.intro hS1 (And.intro hb1 (And.intro hA (And.intro hO1 (And.intro hov (And.intro hzX hs5))))))))))
  have hz5 : n0 ≤ w5.heap.size + 1 := by omega
  have hbltX : b < X.heap.size := by omega
  have qA : (X.alloc (.map #[] 0)).heap[b]? = some (.cells C 121 (0, 0)) := (Below.heap_alloc _ _ b hbltX).trans hbX
  have cA : (X.alloc (.map #[] 0)).cell? ⟨b, o + 1, none⟩ = some (.map none) := cell_of qA hb.out.2.2
  have fA : (X.alloc (.map #[] 0)).frozen? ⟨b, o + 1, none⟩ = false := by simp [World.frozen?, qA]
  clear qA
  clear hrun5 hg5 hgX hm5 hb5 hSX hbX hA hv hbx hx5 hov hm1 hS1 hb1 hC0 hC1 hO1 hzX hs5 hbx1 hO0 hzs hz1'
  go_enter Tryz.func135, Tryz.ntmps135
  go_wp2_with fail
  go_region
  go_wp2_with fail
  go_region
  go_wp2_with fail
  have hov := HX.out.2.2.2.2.2.2.2.2.1
  go_region_law (refine step_append_lies _ (by rfl) _ _ _ (by rfl) n0 68 i0 _ 3 48 Tryz.underlying30 hi hz0 hz1 hz2 rfl (by omega) (.slice ao 0 cp) 0 [] (by rfl) (by exact hov.alloc _) ⟨w5.heap.size, 0, none⟩ 1 1 ([Value.string s.1, Value.string s.2.1, Value.string s.2.2]) (by rfl) (by rfl) (by exact rcells_new w5 s) (kRules.one s) (by omega) (by unfold maxLen; omega) (by omega) (by simp; omega) (w5.heap.size + 1) (by simp) ?_; intro gg cap2 w6 hown6 hgr6 hat hlt; have F6 := (HS6.out w6 hgr6).2; have C6 := (HS6.out w6 hgr6).1; have HF := hide (And.intro hown6 (And.intro hgr6 hat)); clear hown6 hgr6 hat)
  all_goals
    go_wp2
    go_ret
    obtain ⟨ho, hgr, hat⟩ := HF.out
    obtain ⟨hm1, hm5, hgX, hb5, hS1, hb1, hA, hO1, _, hzX, hs5⟩ := HX.out
    have hgr2 : w5.grownBy w6 v.ownBlock := by rw [HV.out]; exact (World.grownBy_alloc w5 (.cells #[Value.string s.1, Value.string s.2.1, Value.string s.2.2] 68) _).trans ⟨hgr.os, hgr.tape, hgr.output, hgr.size, hgr.block⟩
    obtain ⟨p1, p2, p3⟩ := Ser.put (o := o) hS1 (isPl_nil kRules) (by omega) hm1 (by simp) hok.out hb1 hbn hm5 hgX hgr2 ho
    have hsX := hO1.size
    refine ⟨rfl, _, .map (some X.heap.size), p2, p1, ?_, ?_⟩
    · refine (((Only.ofBelow hA).andNew hO1 (fun _ _ e => e)).mono (fun k _ e => .inl e)).andNew p3 (fun k hk e => ?_)
      rcases e with e | e | e
      · exact .inl e
      · exact .inr (.inl e)
      · simp at e; omega
    · rintro k (hk | hk)
      · rcases hat with e | e
        · exact .inl (.inl (by rw [HV.out, e]; exact hk))
        · right
          simp [Value.ownBlock] at hk
          omega
      · right; simp at hk; omega
end Go.Proofs.YtmagchclmmphaabGreatDoor
