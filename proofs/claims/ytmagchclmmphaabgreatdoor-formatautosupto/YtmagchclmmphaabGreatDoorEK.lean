import Derived.Test.YtmagchclmmphaabGreatDoorEG
import Derived.Test.YtmagchclmmphaabGreatDoorRJ
import Derived.Test.YtmagchclmmphaabGreatDoorAP
import Derived.Test.YtmagchclmmphaabGreatDoorUS
import Derived.Test.YtmagchclmmphaabGreatDoorVG
namespace Go.Proofs.YtmagchclmmphaabGreatDoor
open Go.RowKit Go.Maps
attribute [local go_sem] Oper.semAt_some

/-! ### Edges in order, each once: there is one such list -/
theorem ltE_ir (x : EdT) : ltE x x = false := swoE.irrefl x
theorem ltE_as {x y : EdT} (h : ltE x y = true) (k : ltE y x = true) : False := by rw [ltE_iff] at h k; omega
theorem ss_eq : ∀ (A B : List EdT), SsE A → SsE B → (∀ x, x ∈ A ↔ x ∈ B) → A = B
  | [], [], _, _, _ => rfl
  | [], b :: B, _, _, h => absurd ((h b).2 (by simp)) (by simp)
  | a :: A, [], _, _, h => absurd ((h a).1 (by simp)) (by simp)
  | a :: A, b :: B, hA, hB, h => by
    unfold SsE at hA hB
    rw [List.pairwise_cons] at hA hB
    have e : a = b := by
      rcases List.mem_cons.1 ((h a).1 (by simp)) with q | q
      · exact q
      · rcases List.mem_cons.1 ((h b).2 (by simp)) with r | r
        · exact r.symm
        · exact (ltE_as (hB.1 a q) (hA.1 b r)).elim
    subst e
    congr 1
    refine ss_eq A B hA.2 hB.2 fun x => ⟨fun q => ?_, fun q => ?_⟩
    · rcases List.mem_cons.1 ((h x).1 (by simp [q])) with r | r
      · subst r; have := hA.1 x q; rw [ltE_ir] at this; cases this
      · exact r
    · rcases List.mem_cons.1 ((h x).2 (by simp [q])) with r | r
      · subst r; have := hB.1 x q; rw [ltE_ir] at this; cases this
      · exact r
theorem sort_ss {L : List EdT} (h : L.Nodup) : SsE (sortE L) := by
  have hp : (sortE L).Pairwise fun a b => (!ltE b a) = true := List.pairwise_mergeSort (le := fun x y => !ltE y x) (fun a b c h1 h2 => by
    simp only [Bool.not_eq_true', ltE_not] at *
    omega) (fun a b => by
    cases h1 : ltE b a
    · simp
    · cases h2 : ltE a b
      · simp
      · exact (ltE_as h1 h2).elim) L
  have hn : (sortE L).Nodup := (List.mergeSort_perm L _).nodup_iff.2 h
  unfold SsE
  refine (hp.and hn).imp fun {a b} q => ?_
  cases hab : ltE a b
  · exact absurd (totE a b hab (by simpa using q.1)) q.2
  · rfl
theorem sort_is {L O : List EdT} (h : L.Nodup) (hO : SsE O) (hm : ∀ y, y ∈ O ↔ y ∈ L) : O = sortE L := ss_eq O _ hO (sort_ss h) fun x => by rw [hm]; unfold sortE; exact List.mem_mergeSort.symm
theorem plc_pos {S : List ByteArray} {x : ByteArray} (h : x ∈ S) : plcF S x = (posOf S x : Nat) := by
  unfold plcF posOf
  rw [if_pos h]

/-! ### While the document makes its automaton -/
structure AtJ (w : World) (g : Nat) (c : Array Value) (n m : Nat) (vy : Value) (Y : List ByteArray) (W : World) (v1 v2 v3 : Value) (St Fi : List Int) (Ed : List EdT) : Prop where
  tri : Tri (g + 1) g 25 (.int .i64 (n : Nat)) (.int .i64 (m : Nat)) W v1 v2 v3 (rI St) (rI Fi) (rE Ed)
  bf : W.heap[w.heap.size]? = some (.cells c 32 (0, 0))
  br : W.heap[w.heap.size + 1]? = some (.cells #[.int .i64 0, .int .i64 0, .slice none 0 0, .slice none 0 0, .slice none 0 0] 25 (0, 0))
  oy : W.ownsRow (w.heap.size + 2) 9 1 vy Y.length (strV Y)
  hy : ∀ k, vy.ownBlock = some k → k < g
  hg : w.heap.size + 2 ≤ g
  dw : Below w.heap.size w W
section
variable {w W W' : World} {g n m : Nat} {c : Array Value} {Y : List ByteArray} {vy v1 v2 v3 v1' v2' v3' : Value} {St St' Fi Fi' : List Int} {Ed Ed' : List EdT}
theorem AtJ.step (h : AtJ w g c n m vy Y W v1 v2 v3 St Fi Ed) (k : Tri (g + 1) g 25 (.int .i64 (n : Nat)) (.int .i64 (m : Nat)) W' v1' v2' v3' (rI St') (rI Fi') (rE Ed') ∧ Cs g W W' (RB3 v1 v2 v3) (RB3 v1' v2' v3')) : AtJ w g c n m vy Y W' v1' v2' v3' St' Fi' Ed' := by
  have hg := h.hg
  have hl := h.tri.glt
  have hn : ∀ i, i < g → ¬ (i = g ∨ RB3 v1 v2 v3 i) := fun i hi z => by
    rcases z with z | z
    · omega
    · have := (h.tri.lt i z).1; omega
  exact ⟨k.1, (k.2.only.block _ (by omega) (hn _ (by omega))).trans h.bf, (k.2.only.block _ (by omega) (hn _ (by omega))).trans h.br, row_only h.oy k.2.only fun i q => hn i (h.hy i q), h.hy, h.hg,
    h.dw.trans (k.2.only.toBelow (by omega) fun i z => by
      rcases z with z | z
      · omega
      · have := (h.tri.lt i z).1; omega)⟩
theorem AtJ.below (h : AtJ w g c n m vy Y W v1 v2 v3 St Fi Ed) (d : Below W.heap.size W W') : AtJ w g c n m vy Y W' v1 v2 v3 St Fi Ed := h.step ⟨h.tri.below d, Cs.same d⟩
theorem AtJ.drewN (h : AtJ w g c n m vy Y W v1 v2 v3 St Fi Ed) (k : Nat) : AtJ w g c n m vy Y (W.drewN k) v1 v2 v3 St Fi Ed := h.below (below_drewN2 (Below.refl _ _) k)
end
theorem AtJ.new {w w2 X : World} {n m : Nat} {c : Array Value} {vy : Value} {Y : List ByteArray} (bf : w2.heap[w.heap.size]? = some (.cells c 32 (0, 0))) (br : w2.heap[w.heap.size + 1]? = some (.cells #[.int .i64 0, .int .i64 0, .slice none 0 0, .slice none 0 0, .slice none 0 0] 25 (0, 0))) (oy : w2.ownsRow (w.heap.size + 2) 9 1 vy Y.length (strV Y)) (dw : Below w.heap.size w w2)
    (hb : X.heap[w2.heap.size]? = some (.cells #[.int .i64 (n : Nat), .int .i64 (m : Nat), .slice none 0 0, .slice none 0 0, .slice none 0 0] 25 (0, 0))) (dX : Below w2.heap.size w2 X) :
    AtJ w w2.heap.size c n m vy Y X (.slice none 0 0) (.slice none 0 0) (.slice none 0 0) [] [] [] := by
  have nr : ∀ k, ¬ RB3 (.slice none 0 0) (.slice none 0 0) (.slice none 0 0) k := fun k z => by rcases z with z | z | z <;> cases z
  have l1 := (Array.getElem?_eq_some_iff.1 br).1
  exact ⟨⟨⟨rfl, .inl ⟨rfl, rfl⟩⟩, ⟨rfl, .inl ⟨rfl, rfl⟩⟩, ⟨rfl, .inl ⟨rfl, rfl⟩⟩, fun _ q => (by cases q), fun _ q => (by cases q), fun _ q => (by cases q), hb, fun k z => absurd z (nr k)⟩, (dX.block _ (by omega)).trans bf, (dX.block _ (by omega)).trans br, owns_below oy dX, fun k q => (oy.lt k q).2, by omega, dw.trans (dX.mono dw.size)⟩
theorem japp_row1 {w W : World} {g n m : Nat} {c : Array Value} {vy : Value} {Y : List ByteArray} {v1 v2 v3 : Value} {St Fi : List Int} {Ed : List EdT} (h : AtJ w g c n m vy Y W v1 v2 v3 St Fi Ed) (x : Int) {ops : Array Oper} {rest : List Oper} {o : Oper} {a : Act} {Q : Exit → Act → World → Prop} (hgd : o.guard = none) (s y : Operand)
    (ho : o.op = .call { callee := .builtin .append, args := #[s, y], argTypes := #[22, 22] }) (hs : a.eval s = v1) (hy : a.eval y = .slice (some ⟨W.heap.size, 0, none⟩) 1 1) (hl : St.length ≤ 8388608)
    (hK : ∀ a5 c5 w3, w3.cell? ⟨g, 2, none⟩ = some v1 → w3.frozen? ⟨g, 2, none⟩ = false → Hid (AtJ w g c n m vy Y (w3.setCell ⟨g, 2, none⟩ (.slice a5 (St.length + 1) c5)) (.slice a5 (St.length + 1) c5) v2 v3 (St ++ [x]) Fi Ed) → wpList Tryz.prog ops Q rest (a.put o.dst (.slice a5 (St.length + 1) c5)) w3) :
    wpList Tryz.prog ops Q (o :: rest) a (W.alloc (.cells #[.int .i64 x] 3)) := by
  obtain ⟨i3, hi3, hz30, hz31, hz32⟩ := info_parts info3
  have hgl := h.tri.glt
  refine wpList_append_own_at _ hgd s y _ ho (g + 1) 3 i3 _ 1 8 Tryz.underlying22 hi3 hz30 hz31 hz32 rfl (by omega) v1 St.length (St.map (Value.int .i64)) hs (owns_below h.tri.o1 ((Below.refl _ W).alloc (Nat.le_refl _) _)) ⟨W.heap.size, 0, none⟩ 1 1 [.int .i64 x] hy rfl (cnewI W x) (fun u hu => by obtain rfl := List.mem_singleton.1 hu; rfl) (by unfold maxLen; omega) (by omega) (by simp; omega) ?_
  intro v' w3 how hgr _ hloc
  have hG := grw_append hgr hloc
  have ho2 : w3.ownsRow (g + 1) (rI (St ++ [x])).e (rI (St ++ [x])).sz v' (rI (St ++ [x])).n (rI (St ++ [x])).xs := by simpa [rI] using how
  obtain ⟨a5, c5, rfl⟩ := rowForm how
  have hbx := h.tri.box hG.1 (fun k z => .inl z)
  exact hK a5 c5 w3 (cell_of hbx rfl) (fz_of hbx) (hide (h.step (h.tri.row1 hG ho2)))
theorem japp_row2 {w W : World} {g n m : Nat} {c : Array Value} {vy : Value} {Y : List ByteArray} {v1 v2 v3 : Value} {St Fi : List Int} {Ed : List EdT} (h : AtJ w g c n m vy Y W v1 v2 v3 St Fi Ed) (x : Int) {ops : Array Oper} {rest : List Oper} {o : Oper} {a : Act} {Q : Exit → Act → World → Prop} (hgd : o.guard = none) (s y : Operand)
    (ho : o.op = .call { callee := .builtin .append, args := #[s, y], argTypes := #[22, 22] }) (hs : a.eval s = v2) (hy : a.eval y = .slice (some ⟨W.heap.size, 0, none⟩) 1 1) (hl : Fi.length ≤ 8388608)
    (hK : ∀ a5 c5 w3, w3.cell? ⟨g, 3, none⟩ = some v2 → w3.frozen? ⟨g, 3, none⟩ = false → Hid (AtJ w g c n m vy Y (w3.setCell ⟨g, 3, none⟩ (.slice a5 (Fi.length + 1) c5)) v1 (.slice a5 (Fi.length + 1) c5) v3 St (Fi ++ [x]) Ed) → wpList Tryz.prog ops Q rest (a.put o.dst (.slice a5 (Fi.length + 1) c5)) w3) :
    wpList Tryz.prog ops Q (o :: rest) a (W.alloc (.cells #[.int .i64 x] 3)) := by
  obtain ⟨i3, hi3, hz30, hz31, hz32⟩ := info_parts info3
  have hgl := h.tri.glt
  refine wpList_append_own_at _ hgd s y _ ho (g + 1) 3 i3 _ 1 8 Tryz.underlying22 hi3 hz30 hz31 hz32 rfl (by omega) v2 Fi.length (Fi.map (Value.int .i64)) hs (owns_below h.tri.o2 ((Below.refl _ W).alloc (Nat.le_refl _) _)) ⟨W.heap.size, 0, none⟩ 1 1 [.int .i64 x] hy rfl (cnewI W x) (fun u hu => by obtain rfl := List.mem_singleton.1 hu; rfl) (by unfold maxLen; omega) (by omega) (by simp; omega) ?_
  intro v' w3 how hgr _ hloc
  have hG := grw_append hgr hloc
  have ho2 : w3.ownsRow (g + 1) (rI (Fi ++ [x])).e (rI (Fi ++ [x])).sz v' (rI (Fi ++ [x])).n (rI (Fi ++ [x])).xs := by simpa [rI] using how
  obtain ⟨a5, c5, rfl⟩ := rowForm how
  have hbx := h.tri.box hG.1 (fun k z => .inr (.inl z))
  exact hK a5 c5 w3 (cell_of hbx rfl) (fz_of hbx) (hide (h.step (h.tri.row2 hG ho2)))
theorem japp_row3 {w W : World} {g n m : Nat} {c : Array Value} {vy : Value} {Y : List ByteArray} {v1 v2 v3 : Value} {St Fi : List Int} {Ed : List EdT} (h : AtJ w g c n m vy Y W v1 v2 v3 St Fi Ed) (x : EdT) {ops : Array Oper} {rest : List Oper} {o : Oper} {a : Act} {Q : Exit → Act → World → Prop} (hgd : o.guard = none) (s y : Operand)
    (ho : o.op = .call { callee := .builtin .append, args := #[s, y], argTypes := #[23, 23] }) (hs : a.eval s = v3) (hy : a.eval y = .slice (some ⟨W.heap.size, 0, none⟩) 1 1) (hl : Ed.length ≤ 8388608)
    (hK : ∀ a5 c5 w3, w3.cell? ⟨g, 4, none⟩ = some v3 → w3.frozen? ⟨g, 4, none⟩ = false → Hid (AtJ w g c n m vy Y (w3.setCell ⟨g, 4, none⟩ (.slice a5 (Ed.length + 1) c5)) v1 v2 (.slice a5 (Ed.length + 1) c5) St Fi (Ed ++ [x])) → wpList Tryz.prog ops Q rest (a.put o.dst (.slice a5 (Ed.length + 1) c5)) w3) :
    wpList Tryz.prog ops Q (o :: rest) a (W.alloc (.cells #[.int .i64 x.1, .int .i64 x.2.1, .int .i64 x.2.2] 64)) := by
  obtain ⟨i3, hi3, hz30, hz31, hz32⟩ := info_parts infoE
  have hgl := h.tri.glt
  refine wpList_append_own_at _ hgd s y _ ho (g + 1) 64 i3 _ 3 24 Tryz.underlying23 hi3 hz30 hz31 hz32 rfl (by omega) v3 Ed.length (Ed.flatMap encE) hs (owns_below h.tri.o3 ((Below.refl _ W).alloc (Nat.le_refl _) _)) ⟨W.heap.size, 0, none⟩ 1 1 (encE x) hy rfl (cnewE W x) (fun u hu => by simp only [encE, List.mem_cons, List.not_mem_nil, or_false] at hu; rcases hu with rfl | rfl | rfl <;> rfl) (by unfold maxLen; omega) (by omega) (by simp; omega) ?_
  intro v' w3 how hgr _ hloc
  have hG := grw_append hgr hloc
  have ho2 : w3.ownsRow (g + 1) (rE (Ed ++ [x])).e (rE (Ed ++ [x])).sz v' (rE (Ed ++ [x])).n (rE (Ed ++ [x])).xs := by simpa [rE] using how
  obtain ⟨a5, c5, rfl⟩ := rowForm how
  have hbx := h.tri.box hG.1 (fun k z => .inr (.inr z))
  exact hK a5 c5 w3 (cell_of hbx rfl) (fz_of hbx) (hide (h.step (h.tri.row3 hG ho2)))
/-- A world behind some draws and a block is the one that it was, and more. -/
theorem tw_below (w : World) (b : Obj) (d : Nat) (q : Bool) : Below w.heap.size w (tw w b d q) := by
  cases q
  · exact below_drewN2 (Below.refl _ _) d
  · exact (below_drewN2 (Below.refl _ _) d).alloc (Nat.le_refl _) _
end Go.Proofs.YtmagchclmmphaabGreatDoor
namespace Go.Proofs.YtmagchclmmphaabGreatDoor
open Go.RowKit Go.Maps
attribute [local go_sem] Oper.semAt_some

set_option maxRecDepth 100000 in
set_option maxHeartbeats 4000000 in
theorem rauto_bad (w : World) (ti : ByteArray) (ao asx af ar : Option Addr) (co cs cf cr : Nat) (O : List OpI) (S F : List ByteArray) (R : List RuT) (hO : Hid (RdO w ao O)) (hS : Hid (ReadsS w asx S)) (hF : Hid (ReadsS w af F)) (hR : Hid (RdRu w ar R))
    (hlo : O.length ≤ 4194304) (hls : S.length ≤ 4194304) (hlf : F.length ≤ 4194304) (hlr : R.length ≤ 4194304) (hco : Hid (O.length ≤ co)) (hcs : Hid (S.length ≤ cs)) (hv : valF ti O S F R = false) :
    Calls Tryz.prog 27 #[.agg #[.string ti, .slice ao O.length co, .slice asx S.length cs, .slice af F.length cf, .slice ar R.length cr]] w fun e w' => e = .returned (.tuple #[.agg #[.int .i64 0, .int .i64 0, .slice none 0 0, .slice none 0 0, .slice none 0 0], .slice none 0 0, .slice none 0 0, .int .i64 5]) ∧ Below w.heap.size w w' := by
  obtain ⟨W0, hW0⟩ : ∃ W0, (w.alloc (.cells #[.string ti, .slice ao O.length co, .slice asx S.length cs, .slice af F.length cf, .slice ar R.length cr] 32)).alloc (.cells #[.int .i64 0, .int .i64 0, .slice none 0 0, .slice none 0 0, .slice none 0 0] 25) = W0 := ⟨_, rfl⟩
  have d0 : Below w.heap.size w W0 := by rw [← hW0]; exact ((Below.refl _ _).alloc (Nat.le_refl _) _).alloc (by simp) _
  have b0 : W0.heap[w.heap.size]? = some (.cells #[.string ti, .slice ao O.length co, .slice asx S.length cs, .slice af F.length cf, .slice ar R.length cr] 32 (0, 0)) := by rw [← hW0]; exact (Below.heap_alloc _ _ _ (by simp)).trans (World.alloc_heap_new _ _)
  have b1 : W0.heap[w.heap.size + 1]? = some (.cells #[.int .i64 0, .int .i64 0, .slice none 0 0, .slice none 0 0, .slice none 0 0] 25 (0, 0)) := by rw [← hW0]; exact heap_alloc2_new w _ _
  have z0 : W0.heap.size = w.heap.size + 2 := by rw [← hW0]; simp
  have T1 := rvalid_any W0 ti ao asx af ar co cs cf cr O S F R (hide (hO.out.on d0)) (hide (hS.out.below d0)) (hide (hF.out.below d0)) (hide (hR.out.on d0)) hlo hls hlf hlr hco hcs
  rw [rvalF_eq, hv] at T1
  have HD := hide (And.intro d0 (And.intro b0 (And.intro b1 z0)))
  have c0 : W0.cell? ⟨w.heap.size, 0, none⟩ = some (.string ti) := cell_of b0 rfl
  have c1 : W0.cell? ⟨w.heap.size, 1, none⟩ = some (.slice ao O.length co) := cell_of b0 rfl
  have c2 : W0.cell? ⟨w.heap.size, 2, none⟩ = some (.slice asx S.length cs) := cell_of b0 rfl
  have c3 : W0.cell? ⟨w.heap.size, 3, none⟩ = some (.slice af F.length cf) := cell_of b0 rfl
  have c4 : W0.cell? ⟨w.heap.size, 4, none⟩ = some (.slice ar R.length cr) := cell_of b0 rfl
  clear d0 b0 b1 z0
  go_enter Tryz.func27, Tryz.ntmps27
  go_upto_region 3 with (go_at_call 52; refine T1.mono ?_; rintro e w1 ⟨rfl, d1⟩)
  have hbx : w1.heap[w.heap.size + 1]? = _ := (d1.block _ (by have := HD.out.2.2.2; omega)).trans HD.out.2.2.1
  have HW := hide (HD.out.1.trans (d1.mono HD.out.1.size))
  have HX := hide hbx
  clear hbx d1 T1 c0 c1 c2 c3 c4
  have z0 : w1.cell? ⟨w.heap.size + 1, 0, none⟩ = some (.int .i64 0) := cell_of HX.out rfl
  have z1 : w1.cell? ⟨w.heap.size + 1, 1, none⟩ = some (.int .i64 0) := cell_of HX.out rfl
  have z2 : w1.cell? ⟨w.heap.size + 1, 2, none⟩ = some (.slice none 0 0) := cell_of HX.out rfl
  have z3 : w1.cell? ⟨w.heap.size + 1, 3, none⟩ = some (.slice none 0 0) := cell_of HX.out rfl
  have z4 : w1.cell? ⟨w.heap.size + 1, 4, none⟩ = some (.slice none 0 0) := cell_of HX.out rfl
  have f0 : w1.frozen? ⟨w.heap.size + 1, 0, none⟩ = false := fz_of HX.out
  have f1 : w1.frozen? ⟨w.heap.size + 1, 1, none⟩ = false := fz_of HX.out
  have f2 : w1.frozen? ⟨w.heap.size + 1, 2, none⟩ = false := fz_of HX.out
  have f3 : w1.frozen? ⟨w.heap.size + 1, 3, none⟩ = false := fz_of HX.out
  have f4 : w1.frozen? ⟨w.heap.size + 1, 4, none⟩ = false := fz_of HX.out
  have HZ := hide (set5 w1 (w.heap.size + 1) _ _ _ _ _ (.int .i64 0) (.int .i64 0) (.slice none 0 0) (.slice none 0 0) (.slice none 0 0) 25 HX.out)
  go_wp2
  refine bodyPost_ret (results_c4 (p := 2) (q := 3) (r := 4) (s := 5) (ty := 25) rfl _ _ (w.heap.size + 1) 25 _ (0, 0) _ _ _ _ rfl rfl rfl rfl HZ.out.1 Tryz.underlying25 rfl (by kernel_rfl)) rfl ?_
  exact ⟨rfl, HW.out.trans (HZ.out.2.toBelow HW.out.size fun k z => by omega)⟩
end Go.Proofs.YtmagchclmmphaabGreatDoor
namespace Go.Proofs.YtmagchclmmphaabGreatDoor
open Go.RowKit Go.Maps

/-- All of a list of texts, put into a row that is new. -/
theorem app_all {w : World} {ao : Option Addr} {c : Nat} {S : List ByteArray} (hA : ReadsS w ao S) (hl : S.length ≤ 4194304) {ops : Array Oper} {rest : List Oper} {o : Oper} {a : Act} {Q : Exit → Act → World → Prop} (hgd : o.guard = none) (s y : Operand)
    (ho : o.op = .call { callee := .builtin .append, args := #[s, y], argTypes := #[26, 26] }) (hs : a.eval s = .slice none 0 0) (hy : a.eval y = .slice ao S.length c)
    (hK : ∀ v w', w'.ownsRow w.heap.size 9 1 v S.length (strV S) → Below w.heap.size w w' → wpList Tryz.prog ops Q rest (a.put o.dst v) w') :
    wpList Tryz.prog ops Q (o :: rest) a w := by
  obtain ⟨i9, hi9, hz90, hz91, hz92⟩ := info_parts info9
  by_cases h0 : S.length = 0
  · obtain rfl : S = [] := List.eq_nil_of_length_eq_zero h0
    refine wpList_plain hgd fun K hKK => ?_
    have hrun : (Builtin.append_ #[26, 26] o.type #[.slice none 0 0, .slice ao 0 c]).run Tryz.prog w = .ok (.slice none 0 0) w := by
      cases ao <;> simp [Builtin.append_, run_underlying Tryz.underlying26, sizeOf, typeInfo, hi9, Builtin.lenOf, Builtin.firstCells, loadCells, loadCellsFrom]
    unfold Oper.wp
    simp [execOp, ho, resolve, invoke, builtin, hs, hy, hrun, Result.andThen]
    exact hKK _ _ (hK _ _ ⟨rfl, .inl ⟨rfl, rfl⟩⟩ (Below.refl _ _))
  · obtain ⟨g, of, rfl, _⟩ := hA 0 (by omega)
    refine wpList_append_own_at _ hgd s y _ ho w.heap.size 9 i9 _ 1 16 Tryz.underlying26 hi9 hz90 hz91 hz92 rfl (by omega) (.slice none 0 0) 0 [] hs ⟨rfl, .inl ⟨rfl, rfl⟩⟩ ⟨g, of, none⟩ S.length c (strV S) hy (by simp [strV]) (fun j u hu => ?_) (rf.strV_one S) (by unfold maxLen; omega) (by omega) (Nat.le_refl _) ?_
    · have hj : j < S.length := by have := (List.getElem?_eq_some_iff.1 hu).1; simpa [strV] using this
      obtain ⟨g', o', e, hc⟩ := hA j hj
      cases e
      have hu2 : u = .string S[j] := by simpa [strV, hj] using hu.symm
      rw [hu2, Addr.add_lit]
      exact hc
    · intro v' w' how hgr _ _
      exact hK v' w' (by simpa using how) ((Below.refl _ w).grown hgr (Nat.le_refl _) (by intro k hk; cases hk))
end Go.Proofs.YtmagchclmmphaabGreatDoor
namespace Go.Proofs.YtmagchclmmphaabGreatDoor
open Go.RowKit Go.Maps
attribute [local go_sem] Oper.semAt_some

def bigF (O : List OpI) (S : List ByteArray) (R : List RuT) : Prop := 4096 < S.length ∨ 128 < (symF O).length ∨ 65536 < (R.filter fun r => !isSt r).length
/-- What the document's Auto answers of a content that may be. -/
def RaP (w w' : World) (O : List OpI) (S F : List ByteArray) (R : List RuT) (e : Ending) : Prop :=
  (bigF O S R → e = .returned (.tuple #[.agg #[.int .i64 0, .int .i64 0, .slice none 0 0, .slice none 0 0, .slice none 0 0], .slice none 0 0, .slice none 0 0, .int .i64 8]) ∧ Below w.heap.size w w') ∧
  (¬ bigF O S R → ∃ v1 v2 v3 vs vy, e = .returned (.tuple #[.agg #[.int .i64 (S.length : Nat), .int .i64 ((symF O).length : Nat), v1, v2, v3], vs, vy, .int .i64 0]) ∧ AtR w w' v1 v2 v3 (riseL (stF S R)) (fiF S F) (sortE (edF S (symF O) R)) ∧ w'.ownsRow w.heap.size 9 1 vs S.length (strV S) ∧ w'.ownsRow w.heap.size 9 1 vy (symF O).length (strV (symF O)))
theorem cnewS (w : World) (s : ByteArray) : ∀ j u, [Value.string s][j]? = some u → (w.alloc (.cells #[.string s] 9)).cell? ((⟨w.heap.size, 0, none⟩ : Addr).add j) = some u := cell_one_new w (.string s) 9
theorem ed_lenE (S Y : List ByteArray) (R : List RuT) : (edF S Y R).length = (R.filter fun r => !isSt r).length := by unfold edF; rw [List.length_map]
theorem raj_end {w Z2 w7 W : World} {g n m : Nat} {c : Array Value} {vy v1 v2 v3 vs : Value} {S Y : List ByteArray} {St Fi : List Int} {Ed : List EdT} (NT : AtJ w g c n m vy Y Z2 v1 v2 v3 St Fi Ed) (hvs : w7.ownsRow Z2.heap.size 9 1 vs S.length (strV S)) (d8 : Below Z2.heap.size Z2 w7) (hlo : Only w7 W (fun k => k = w.heap.size + 1)) :
    AtR w W v1 v2 v3 St Fi Ed ∧ W.ownsRow w.heap.size 9 1 vs S.length (strV S) ∧ W.ownsRow w.heap.size 9 1 vy Y.length (strV Y) := by
  have NF := NT.below d8
  have hg := NT.hg
  have hl := NT.tri.glt
  have nr : ∀ k, g + 1 ≤ k → ¬ k = w.heap.size + 1 := fun k hk => by omega
  refine ⟨⟨own_wide (row_only NF.tri.o1 hlo fun k q => nr k (NF.tri.o1.lt k q).1) (by omega), own_wide (row_only NF.tri.o2 hlo fun k q => nr k (NF.tri.o2.lt k q).1) (by omega), own_wide (row_only NF.tri.o3 hlo fun k q => nr k (NF.tri.o3.lt k q).1) (by omega), NF.tri.a12, NF.tri.a13, NF.tri.a23, NF.dw.trans (hlo.toBelow NF.dw.size fun k z => by omega)⟩, ?_, ?_⟩
  · exact own_wide (row_only hvs hlo fun k q => by have := (hvs.lt k q).1; omega) (by omega)
  · exact own_wide (row_only NF.oy hlo fun k q => by have := (NF.oy.lt k q).1; omega) (by omega)
set_option maxRecDepth 100000 in
set_option maxHeartbeats 16000000 in
theorem rauto_any (w : World) (ti : ByteArray) (ao asx af ar : Option Addr) (co cs cf cr : Nat) (O : List OpI) (S F : List ByteArray) (R : List RuT) (hO : Hid (RdO w ao O)) (hS : Hid (ReadsS w asx S)) (hF : Hid (ReadsS w af F)) (hR : Hid (RdRu w ar R))
    (hlo : O.length ≤ 4194304) (hls : S.length ≤ 4194304) (hlf : F.length ≤ 4194304) (hlr : R.length ≤ 4194304) (hco : Hid (O.length ≤ co)) (hcs : Hid (S.length ≤ cs)) (hv : valF ti O S F R = true) :
    Calls Tryz.prog 27 #[.agg #[.string ti, .slice ao O.length co, .slice asx S.length cs, .slice af F.length cf, .slice ar R.length cr]] w fun e w' => RaP w w' O S F R e := by
  obtain ⟨i9, hi9, hz90, hz91, hz92⟩ := info_parts info9
  obtain ⟨W0, hW0⟩ : ∃ W0, (w.alloc (.cells #[.string ti, .slice ao O.length co, .slice asx S.length cs, .slice af F.length cf, .slice ar R.length cr] 32)).alloc (.cells #[.int .i64 0, .int .i64 0, .slice none 0 0, .slice none 0 0, .slice none 0 0] 25) = W0 := ⟨_, rfl⟩
  have d0 : Below w.heap.size w W0 := by rw [← hW0]; exact ((Below.refl _ _).alloc (Nat.le_refl _) _).alloc (by simp) _
  have b0 : W0.heap[w.heap.size]? = some (.cells #[.string ti, .slice ao O.length co, .slice asx S.length cs, .slice af F.length cf, .slice ar R.length cr] 32 (0, 0)) := by rw [← hW0]; exact (Below.heap_alloc _ _ _ (by simp)).trans (World.alloc_heap_new _ _)
  have b1 : W0.heap[w.heap.size + 1]? = some (.cells #[.int .i64 0, .int .i64 0, .slice none 0 0, .slice none 0 0, .slice none 0 0] 25 (0, 0)) := by rw [← hW0]; exact heap_alloc2_new w _ _
  have z0 : W0.heap.size = w.heap.size + 2 := by rw [← hW0]; simp
  have T1 := rvalid_any W0 ti ao asx af ar co cs cf cr O S F R (hide (hO.out.on d0)) (hide (hS.out.below d0)) (hide (hF.out.below d0)) (hide (hR.out.on d0)) hlo hls hlf hlr hco hcs
  rw [rvalF_eq, hv] at T1
  have HD := hide (And.intro d0 (And.intro b0 (And.intro b1 z0)))
  have c0 : W0.cell? ⟨w.heap.size, 0, none⟩ = some (.string ti) := cell_of b0 rfl
  have c1 : W0.cell? ⟨w.heap.size, 1, none⟩ = some (.slice ao O.length co) := cell_of b0 rfl
  have c2 : W0.cell? ⟨w.heap.size, 2, none⟩ = some (.slice asx S.length cs) := cell_of b0 rfl
  have c3 : W0.cell? ⟨w.heap.size, 3, none⟩ = some (.slice af F.length cf) := cell_of b0 rfl
  have c4 : W0.cell? ⟨w.heap.size, 4, none⟩ = some (.slice ar R.length cr) := cell_of b0 rfl
  clear d0 b0 b1 z0
  go_enter Tryz.func27, Tryz.ntmps27
  go_wp2_with (go_at_call 52; refine T1.mono ?_; rintro e w1 ⟨rfl, d1⟩)
  have DW := hide (HD.out.1.trans (d1.mono HD.out.1.size))
  have HB := hide (And.intro ((d1.block _ (by have := HD.out.2.2.2; omega)).trans HD.out.2.1) (And.intro ((d1.block _ (by have := HD.out.2.2.2; omega)).trans HD.out.2.2.1) (show w.heap.size + 2 ≤ w1.heap.size by have := HD.out.2.2.2; have := d1.size; omega)))
  clear d1 T1 HD c0 c1 c2 c3 c4 hW0
  go_loopw [7, 8] (fun v i wr => ∃ k : Nat, k ≤ O.length ∧ i = .int .i64 k ∧ Hid (wr.ownsRow w1.heap.size 9 1 v (symF (O.take k)).length (strV (symF (O.take k))) ∧ Below w1.heap.size w1 wr)) (fun _ i _ => O.length - (intOf i).toNat)
  case atStart => exact ⟨0, Nat.zero_le _, rfl, hide ⟨⟨rfl, .inl ⟨rfl, rfl⟩⟩, Below.refl _ _⟩⟩
  case round =>
    obtain ⟨k, hk, rfl, HH⟩ := hrel
    have c1 : wr.cell? ⟨w.heap.size, 1, none⟩ = some (.slice ao O.length co) := cell_of ((HH.out.2.block _ (by have := HB.out.2.2; omega)).trans HB.out.1) rfl
    by_cases hlt : k < O.length
    · obtain ⟨g1, o1, rfl, q0, q1⟩ := (hO.out.on (DW.out.trans (HH.out.2.mono DW.out.size))) k hlt
      have i2 : (k : Int) < (O.length : Int) := by omega
      have i3 : (0 : Int) ≤ (k : Int) := by omega
      have hn := symF_next hlt
      obtain ⟨s, hs⟩ : ∃ s, O[k].1 = s := ⟨_, rfl⟩
      obtain ⟨x, hx⟩ : ∃ x, O[k].2 = x := ⟨_, rfl⟩
      rw [hs] at q0 hn
      rw [hx] at q1 hn
      have HN := hide hn
      have hb : (symF (O.take k)).length ≤ 4194304 := by
        rw [symF_len]; unfold cntF
        have := List.countP_le_length (p := fun x : OpI => x.2 == 1) (l := O.take k)
        rw [List.length_take] at this
        omega
      obtain ⟨L, hL⟩ : ∃ L, symF (O.take k) = L := ⟨_, rfl⟩
      rw [hL] at HH HN hb
      clear hn hs hx hL
      have hsz := HH.out.2.size
      by_cases h1 : x = 1
      · subst h1
        go_wp2_with (at_builtin; refine wpList_append_own_at _ rfl _ _ _ rfl w1.heap.size 9 i9 _ 1 16 Tryz.underlying26 hi9 hz90 hz91 hz92 rfl (by omega) u7 L.length (strV L) rfl (owns_below HH.out.1 ((Below.refl _ wr).alloc (Nat.le_refl _) _)) ⟨wr.heap.size, 0, none⟩ 1 1 [.string s] rfl rfl (cnewS wr s) (rf.strV_one [s]) (by unfold maxLen; omega) (by omega) (by simp; omega) ?_; intro v' w2 ho hgr hnil hloc)
        have hb0 := HH.out.1.lt
        refine ⟨⟨k + 1, by omega, by go_num, hide ?_⟩, by simp [intOf]; omega⟩
        rw [HN.out, if_pos rfl]
        refine ⟨by simpa [strV] using ho, ?_⟩
        exact ((HH.out.2.alloc hsz _).grown hgr (by simp; omega) (fun k hk => (hb0 k hk).1))
      · have e1 : (x == 1) = false := by rw [beq_eq_false_iff_ne]; exact h1
        go_wp2
        refine ⟨⟨k + 1, by omega, by go_num, hide ?_⟩, by simp [intOf]; omega⟩
        rw [HN.out, if_neg h1, List.append_nil]
        exact HH.out
    · obtain rfl : k = O.length := by omega
      have i2 : ¬ (O.length : Int) < (O.length : Int) := by omega
      rw [List.take_length] at HH
      have hly : (symF O).length ≤ 4194304 := by unfold symF; rw [List.length_map]; exact Nat.le_trans (List.length_filter_le _ _) hlo
      obtain ⟨Y, hY⟩ : ∃ Y, symF O = Y := ⟨_, rfl⟩
      rw [hY] at HH hly
      have HY := hide hY
      obtain ⟨ay, cy, rfl⟩ := rowForm HH.out.1
      have c2 : wr.cell? ⟨w.heap.size, 2, none⟩ = some (.slice asx S.length cs) := cell_of ((HH.out.2.block _ (by have := HB.out.2.2; omega)).trans HB.out.1) rfl
      have HAO : Hid ((∀ x ∈ F, x ∈ S) ∧ (∀ r ∈ R, r.2.2 ∈ S ∧ (isSt r = false → r.2.1 ∈ S ∧ r.1 ∈ Y)) ∧ (edF S Y R).Nodup) := hide (by rw [← hY]; have q := aok_of hv; exact ⟨q.fm, q.rm, q.en⟩)
      clear hY
      go_upto_region 11 with fail
      obtain ⟨wo, rfl⟩ : ∃ z, z = wr := ⟨_, rfl⟩
      obtain ⟨X, hX⟩ : ∃ X, wo.alloc (.cells #[.int .i64 (S.length : Nat), .int .i64 (Y.length : Nat), .slice none 0 0, .slice none 0 0, .slice none 0 0] 25) = X := ⟨_, rfl⟩
      rw [hX]
      have TA : Hid (AtJ w wo.heap.size #[.string ti, .slice ao O.length co, .slice asx S.length cs, .slice af F.length cf, .slice ar R.length cr] S.length Y.length (.slice ay Y.length cy) Y X (.slice none 0 0) (.slice none 0 0) (.slice none 0 0) [] [] []) := hide (by
        have q2 := HB.out.2.2
        exact AtJ.new ((HH.out.2.block _ (by omega)).trans HB.out.1) ((HH.out.2.block _ (by omega)).trans HB.out.2.1) (own_wide HH.out.1 q2) (DW.out.trans (HH.out.2.mono DW.out.size)) (by rw [← hX]; exact World.alloc_heap_new _ _) (by rw [← hX]; exact (Below.refl _ _).alloc (Nat.le_refl _) _))
      obtain ⟨g, hg⟩ : ∃ g, wo.heap.size = g := ⟨_, rfl⟩
      rw [hg] at TA
      rw [hg]
      clear hX hg HH c1 c2 DW HB
      have k3 : X.cell? ⟨w.heap.size, 3, none⟩ = some (.slice af F.length cf) := cell_of TA.out.bf rfl
      go_wp2_with fail
      clear k3
      go_loopw [10] (fun i wr => ∃ (k : Nat) (v2 : Value), k ≤ F.length ∧ i = .int .i64 k ∧ Hid (AtJ w g #[.string ti, .slice ao O.length co, .slice asx S.length cs, .slice af F.length cf, .slice ar R.length cr] S.length Y.length (.slice ay Y.length cy) Y wr (.slice none 0 0) v2 (.slice none 0 0) [] (fiF S (F.take k)) [])) (fun i _ => F.length - (intOf i).toNat)
      case atStart => exact ⟨0, _, Nat.zero_le _, rfl, hide (by simpa [fiF] using TA.out)⟩
      case round =>
        obtain ⟨k, v2, hk, rfl, HH⟩ := hrel
        have k3 : wr.cell? ⟨w.heap.size, 3, none⟩ = some (.slice af F.length cf) := cell_of HH.out.bf rfl
        by_cases hlt : k < F.length
        · have i2 : (k : Int) < (F.length : Int) := by omega
          have i3' : (0 : Int) ≤ (k : Int) := by omega
          obtain ⟨bF, oF, rfl, q0⟩ := (hF.out.below (hide HH.out.dw).out) k hlt
          have HN := hide (fi_next (S := S) (List.getElem?_eq_getElem hlt))
          have hxS := HAO.out.1 _ (List.getElem_mem hlt)
          obtain ⟨x, hxx⟩ : ∃ x, F[k] = x := ⟨_, rfl⟩
          rw [hxx] at q0 HN hxS
          have HP := hide (plc_pos hxS)
          obtain ⟨pp, hp⟩ : ∃ p, posOf S x = p := ⟨_, rfl⟩
          rw [hp] at HN HP
          obtain ⟨Fi, hFi⟩ : ∃ Fi, fiF S (F.take k) = Fi := ⟨_, rfl⟩
          have hFl : Fi.length ≤ k := by rw [← hFi, fi_len, List.length_take]; omega
          rw [hFi] at HH HN
          obtain ⟨a2, c2, rfl⟩ := rowForm HH.out.tri.o2
          clear hp hFi hxS hxx
          go_upto_region 14 with fail
          have t1 := tw_cell (show wr.cell? ⟨g, 3, none⟩ = some (.slice a2 Fi.length c2) from cell_of HH.out.tri.blk rfl) (.cells #[.int .i64 (pp : Nat)] 3)
          have t2 := tw_cell (show wr.cell? ⟨w.heap.size, 2, none⟩ = some (.slice asx S.length cs) from cell_of HH.out.bf rfl) (.cells #[.int .i64 (pp : Nat)] 3)
          have t3 := tw_cell k3 (.cells #[.int .i64 (pp : Nat)] 3)
          have t4 := tw_cell q0 (.cells #[.int .i64 (pp : Nat)] 3)
          clear k3 q0 TA
          refine wp_region_alloc 10 #[true, true, true, true, true, true, true, true, true, true, true, false, false, false] _ (.cells #[.int .i64 (pp : Nat)] 3) (by kernel_rfl) (by kernel_rfl) rfl ?_
          simp only [List.take_succ_cons, List.take_zero, List.drop_succ_cons, List.drop_zero]
          refine mix_take 9 (by kernel_rfl) ?_
          simp only [List.take_succ_cons, List.take_zero, List.drop_succ_cons, List.drop_zero]
          repeat (go_big_quiet_step (fail))
          refine wpQuiet_nil ?_
          refine mix_call 53 #[.slice asx S.length cs, .string x] (.int .i64 (pp : Nat)) rfl (fun w' hw => ?_) (fun w' hw => ?_) ?_
          · go_simp
          · obtain ⟨pq, rfl⟩ := hw
            have T := rplace_any (tw wr (.cells #[.int .i64 (pp : Nat)] 3) pq.d pq.q) asx cs S x (hide ((hS.out.below HH.out.dw).below (tw_below wr _ _ _))) hls
            rw [HP.out] at T
            exact T
          refine mix_nil ?_
          refine ⟨rfl, .slice (some ⟨wr.heap.size, 0, none⟩) 1 1, fun d => ?_, fun d => ?_⟩
          · go_simp
          · refine japp_row2 (HH.out.drewN d) (pp : Nat) rfl _ _ rfl rfl rfl (by omega) ?_
            intro a5 c5 w3 kc fc NS
            go_wp2_with fail
            exact ⟨⟨k + 1, _, by omega, by go_num, hide (by rw [HN.out]; exact NS.out)⟩, by simp [intOf]; omega⟩
        · have i2 : ¬ (k : Int) < (F.length : Int) := by omega
          obtain rfl : k = F.length := by omega
          rw [List.take_length] at HH
          have hFl : (fiF S F).length = F.length := fi_len S F
          obtain ⟨Fi, hFi⟩ : ∃ Fi, fiF S F = Fi := ⟨_, rfl⟩
          rw [hFi] at HH hFl
          have HFI := hide hFi
          have k4 : wr.cell? ⟨w.heap.size, 4, none⟩ = some (.slice ar R.length cr) := cell_of HH.out.bf rfl
          clear TA hFi hFl
          go_wp2_with fail
          clear k4 k3
          go_loopw [11] (fun i wr => ∃ (k : Nat) (v1 v3 : Value), k ≤ R.length ∧ i = .int .i64 k ∧ Hid (AtJ w g #[.string ti, .slice ao O.length co, .slice asx S.length cs, .slice af F.length cf, .slice ar R.length cr] S.length Y.length (.slice ay Y.length cy) Y wr v1 v2 v3 (stF S (R.take k)) Fi (edF S Y (R.take k)))) (fun i _ => R.length - (intOf i).toNat)
          case atStart => exact ⟨0, _, _, Nat.zero_le _, rfl, hide (by simpa [stF, edF] using HH.out)⟩
          case round =>
            obtain ⟨k, v1, v3, hk, rfl, HI⟩ := hrel
            clear HH
            have hsl := st_len S (R.take k)
            have hel := ed_len S Y (R.take k)
            rw [List.length_take] at hsl hel
            obtain ⟨St, hSt⟩ : ∃ St, stF S (R.take k) = St := ⟨_, rfl⟩
            obtain ⟨Ed, hEd⟩ : ∃ Ed, edF S Y (R.take k) = Ed := ⟨_, rfl⟩
            rw [hSt] at hsl HI
            rw [hEd] at hel HI
            have k4 : wr.cell? ⟨w.heap.size, 4, none⟩ = some (.slice ar R.length cr) := cell_of HI.out.bf rfl
            by_cases hlt : k < R.length
            · have i2 : (k : Int) < (R.length : Int) := by omega
              have i3' : (0 : Int) ≤ (k : Int) := by omega
              obtain ⟨bR, oR, rfl, q0, q1, q2⟩ := (hR.out.on (hide HI.out.dw).out) k hlt
              have HN1 := hide (st_next (S := S) (List.getElem?_eq_getElem hlt))
              have HN2 := hide (ed_next (S := S) (Y := Y) (List.getElem?_eq_getElem hlt))
              rw [hSt] at HN1
              rw [hEd] at HN2
              have hmo := HAO.out.2.1 _ (List.getElem_mem hlt)
              obtain ⟨r, hr⟩ : ∃ r, R[k] = r := ⟨_, rfl⟩
              rw [hr] at q0 q1 q2 HN1 HN2 hmo
              obtain ⟨a, x, y⟩ := r
              simp only at q0 q1 q2 hmo
              have HPY := hide (plc_pos hmo.1)
              obtain ⟨py, hpy⟩ : ∃ p, posOf S y = p := ⟨_, rfl⟩
              rw [hpy] at HPY
              have hmp := hide hmo.2
              obtain ⟨a1, d1, rfl⟩ := rowForm HI.out.tri.o1
              obtain ⟨a3, d3, rfl⟩ := rowForm HI.out.tri.o3
              clear hmo hr hSt hEd
              go_upto_region 19 with fail
              obtain ⟨X1, hX1⟩ : ∃ X1, wr.alloc (.cells #[.string a, .string x, .string y] 68) = X1 := ⟨_, rfl⟩
              rw [hX1]
              have HA1 : Hid (AtJ w g #[.string ti, .slice ao O.length co, .slice asx S.length cs, .slice af F.length cf, .slice (some ⟨bR, oR, none⟩) R.length cr] S.length Y.length (.slice ay Y.length cy) Y X1 (.slice a1 St.length d1) v2 (.slice a3 Ed.length d3) St Fi Ed) := hide (by rw [← hX1]; exact HI.out.below ((Below.refl _ wr).alloc (Nat.le_refl _) _))
              have hrb : X1.heap[wr.heap.size]? = some (.cells #[.string a, .string x, .string y] 68 (0, 0)) := by rw [← hX1]; exact World.alloc_heap_new _ _
              have e0 : X1.cell? ⟨wr.heap.size, 0, none⟩ = some (.string a) := cell_of hrb rfl
              have e1 : X1.cell? ⟨wr.heap.size, 1, none⟩ = some (.string x) := cell_of hrb rfl
              have e2 : X1.cell? ⟨wr.heap.size, 2, none⟩ = some (.string y) := cell_of hrb rfl
              obtain ⟨bX, hbX⟩ : ∃ b, wr.heap.size = b := ⟨_, rfl⟩
              rw [hbX] at e0 e1 e2
              rw [hbX]
              clear hrb hX1 q0 q1 q2 hbX k4 HI
              by_cases hx : x = ⟨#[]⟩
              · subst hx
                have HS : Hid (isSt (a, ⟨#[]⟩, y) = true) := hide rfl
                rw [HS.out] at HN1 HN2
                simp only [if_true, hpy, List.append_nil] at HN1 HN2
                clear hpy
                go_upto_region 20 with fail
                have t1 := tw_cell (show X1.cell? ⟨g, 2, none⟩ = some (.slice a1 St.length d1) from cell_of HA1.out.tri.blk rfl) (.cells #[.int .i64 (py : Nat)] 3)
                have t2 := tw_cell (show X1.cell? ⟨w.heap.size, 2, none⟩ = some (.slice asx S.length cs) from cell_of HA1.out.bf rfl) (.cells #[.int .i64 (py : Nat)] 3)
                have t3 := tw_cell e2 (.cells #[.int .i64 (py : Nat)] 3)
                clear e0 e1 e2
                refine wp_region_alloc 7 #[true, true, true, true, true, true, true, true, false, false, false] _ (.cells #[.int .i64 (py : Nat)] 3) (by kernel_rfl) (by kernel_rfl) rfl ?_
                simp only [List.take_succ_cons, List.take_zero, List.drop_succ_cons, List.drop_zero]
                refine mix_take 6 (by kernel_rfl) ?_
                simp only [List.take_succ_cons, List.take_zero, List.drop_succ_cons, List.drop_zero]
                repeat (go_big_quiet_step (fail))
                refine wpQuiet_nil ?_
                refine mix_call 53 #[.slice asx S.length cs, .string y] (.int .i64 (py : Nat)) rfl (fun w' hw => ?_) (fun w' hw => ?_) ?_
                · go_simp
                · obtain ⟨pq, rfl⟩ := hw
                  have T := rplace_any (tw X1 (.cells #[.int .i64 (py : Nat)] 3) pq.d pq.q) asx cs S y (hide ((hS.out.below HA1.out.dw).below (tw_below X1 _ _ _))) hls
                  rw [HPY.out] at T
                  exact T
                refine mix_nil ?_
                refine ⟨rfl, .slice (some ⟨X1.heap.size, 0, none⟩) 1 1, fun d => ?_, fun d => ?_⟩
                · go_simp
                · refine japp_row1 (HA1.out.drewN d) (py : Nat) rfl _ _ rfl rfl rfl (by omega) ?_
                  intro a5 c5 w3 kc fc NS
                  go_wp2_with fail
                  exact ⟨⟨k + 1, _, _, by omega, by go_num, hide (by rw [HN1.out, HN2.out]; exact NS.out)⟩, by simp [intOf]; omega⟩
              · have e3 : (x.toList.isEmpty) = false := by have := str_empty x; rw [decide_eq_false hx] at this; simpa using this
                have HS : Hid (isSt (a, x, y) = false) := hide (by simp [isSt, hx])
                have HPX := hide (plc_pos (hmp.out HS.out).1)
                have HPA := hide (plc_pos (hmp.out HS.out).2)
                obtain ⟨px, hpx⟩ : ∃ p, posOf S x = p := ⟨_, rfl⟩
                obtain ⟨pa, hpa⟩ : ∃ p, posOf Y a = p := ⟨_, rfl⟩
                rw [hpx] at HPX
                rw [hpa] at HPA
                rw [HS.out] at HN1 HN2
                simp only [Bool.false_eq_true, if_false, hpy, hpx, hpa, List.append_nil] at HN1 HN2
                clear hpy hpx hpa
                go_upto_region 21 with fail
                have HB6 : Hid (∃ b : Obj, Obj.cells #[.int .i64 (px : Nat), .int .i64 (pa : Nat), .int .i64 (py : Nat)] 64 = b) := hide ⟨_, rfl⟩
                have t1 := tw_cell (show X1.cell? ⟨g, 4, none⟩ = some (.slice a3 Ed.length d3) from cell_of HA1.out.tri.blk rfl) (.cells #[.int .i64 (px : Nat), .int .i64 (pa : Nat), .int .i64 (py : Nat)] 64)
                have t2 := tw_cell (show X1.cell? ⟨w.heap.size, 2, none⟩ = some (.slice asx S.length cs) from cell_of HA1.out.bf rfl) (.cells #[.int .i64 (px : Nat), .int .i64 (pa : Nat), .int .i64 (py : Nat)] 64)
                have t3 := tw_cell e0 (.cells #[.int .i64 (px : Nat), .int .i64 (pa : Nat), .int .i64 (py : Nat)] 64)
                have t4 := tw_cell e1 (.cells #[.int .i64 (px : Nat), .int .i64 (pa : Nat), .int .i64 (py : Nat)] 64)
                have t5 := tw_cell e2 (.cells #[.int .i64 (px : Nat), .int .i64 (pa : Nat), .int .i64 (py : Nat)] 64)
                obtain ⟨_, _, eqy, hry⟩ := rdS_of HA1.out.oy
                cases eqy
                have HRY := hide hry
                clear e0 e1 e2 HB6 hry
                refine wp_region_alloc 17 #[true, true, true, true, true, true, true, true, true, true, true, true, true, true, true, true, true, true, false, false, false] _ (.cells #[.int .i64 (px : Nat), .int .i64 (pa : Nat), .int .i64 (py : Nat)] 64) (by kernel_rfl) (by kernel_rfl) rfl ?_
                simp only [List.take_succ_cons, List.take_zero, List.drop_succ_cons, List.drop_zero]
                refine mix_take 6 (by kernel_rfl) ?_
                simp only [List.take_succ_cons, List.take_zero, List.drop_succ_cons, List.drop_zero]
                repeat (go_big_quiet_step (fail))
                refine wpQuiet_nil ?_
                refine mix_call 53 #[.slice asx S.length cs, .string x] (.int .i64 (px : Nat)) rfl (fun w' hw => ?_) (fun w' hw => ?_) ?_
                · go_simp
                · obtain ⟨pq, rfl⟩ := hw
                  have T := rplace_any (tw X1 (.cells #[.int .i64 (px : Nat), .int .i64 (pa : Nat), .int .i64 (py : Nat)] 64) pq.d pq.q) asx cs S x (hide ((hS.out.below HA1.out.dw).below (tw_below X1 _ _ _))) hls
                  rw [HPX.out] at T
                  exact T
                simp only [Act.put, List.setIfInBounds_toArray, List.set_cons_succ, List.set_cons_zero]
                refine mix_take 3 (by kernel_rfl) ?_
                simp only [List.take_succ_cons, List.take_zero, List.drop_succ_cons, List.drop_zero]
                repeat (go_big_quiet_step (fail))
                refine wpQuiet_nil ?_
                refine mix_call 53 #[.slice ay Y.length cy, .string a] (.int .i64 (pa : Nat)) rfl (fun w' hw => ?_) (fun w' hw => ?_) ?_
                · go_simp
                · obtain ⟨pq, rfl⟩ := hw
                  have T := rplace_any (tw X1 (.cells #[.int .i64 (px : Nat), .int .i64 (pa : Nat), .int .i64 (py : Nat)] 64) pq.d pq.q) ay cy Y a (hide (HRY.out.below (tw_below X1 _ _ _))) hly
                  rw [HPA.out] at T
                  exact T
                simp only [Act.put, List.setIfInBounds_toArray, List.set_cons_succ, List.set_cons_zero]
                refine mix_take 4 (by kernel_rfl) ?_
                simp only [List.take_succ_cons, List.take_zero, List.drop_succ_cons, List.drop_zero]
                repeat (go_big_quiet_step (fail))
                refine wpQuiet_nil ?_
                refine mix_call 53 #[.slice asx S.length cs, .string y] (.int .i64 (py : Nat)) rfl (fun w' hw => ?_) (fun w' hw => ?_) ?_
                · go_simp
                · obtain ⟨pq, rfl⟩ := hw
                  have T := rplace_any (tw X1 (.cells #[.int .i64 (px : Nat), .int .i64 (pa : Nat), .int .i64 (py : Nat)] 64) pq.d pq.q) asx cs S y (hide ((hS.out.below HA1.out.dw).below (tw_below X1 _ _ _))) hls
                  rw [HPY.out] at T
                  exact T
                simp only [Act.put, List.setIfInBounds_toArray, List.set_cons_succ, List.set_cons_zero]
                refine mix_take 1 (by kernel_rfl) ?_
                simp only [List.take_succ_cons, List.take_zero, List.drop_succ_cons, List.drop_zero]
                repeat (go_big_quiet_step (fail))
                refine wpQuiet_nil ?_
                refine mix_nil ?_
                refine ⟨rfl, .slice (some ⟨X1.heap.size, 0, none⟩) 1 1, fun d => ?_, fun d => ?_⟩
                · go_simp
                · refine japp_row3 (HA1.out.drewN d) ((px : Nat), (pa : Nat), (py : Nat)) rfl _ _ rfl rfl rfl (by omega) ?_
                  intro a5 c5 w3 kc fc NS
                  go_wp2_with fail
                  exact ⟨⟨k + 1, _, _, by omega, by go_num, hide (by rw [HN1.out, HN2.out]; exact NS.out)⟩, by simp [intOf]; omega⟩
            · have i2 : ¬ (k : Int) < (R.length : Int) := by omega
              obtain rfl : k = R.length := by omega
              rw [List.take_length] at hSt hEd
              have HSE := hide (And.intro hSt hEd)
              obtain ⟨a2, d2, rfl, _⟩ := rdN_of (X := Fi) HI.out.tri.o2
              obtain ⟨a1, d1, rfl, RN⟩ := rdN_of (X := St) HI.out.tri.o1
              obtain ⟨a3, d3, rfl, _⟩ := rdE_of (X := Ed) HI.out.tri.o3
              have HSB : Hid (∀ z ∈ St, 0 ≤ z ∧ z < (S.length : Int)) := hide (by
                intro z hz
                rw [← hSt] at hz
                obtain ⟨r, hr, rfl⟩ := List.mem_map.1 hz
                obtain ⟨p, hi, _, hp⟩ := posAt (HAO.out.2.1 r (List.mem_filter.1 hr).1).1
                rw [hp]
                omega)
              have HED : Hid (Ed.Nodup) := hide (by rw [← hEd]; exact HAO.out.2.2)
              have HEL : Hid (Ed.length = (R.filter fun r => !isSt r).length) := hide (by rw [← hEd, ed_lenE])
              have c2 : wr.cell? ⟨g, 2, none⟩ = some (.slice a1 St.length d1) := cell_of HI.out.tri.blk rfl
              have c0 : wr.cell? ⟨g, 0, none⟩ = some (.int .i64 (S.length : Nat)) := cell_of HI.out.tri.blk rfl
              have T48 := rrising_any wr a1 d1 S.length St (hide RN) HSB (by omega) hls
              rw [up_rise HSB.out] at T48
              clear hSt hEd RN
              go_upto_region 23 with (go_at_call 48; refine T48.mono ?_; rintro e w5 ⟨v', rfl, ho, d5⟩; obtain ⟨a6, d6, rfl⟩ := rowForm ho; have hG : Grw wr w5 (.slice a1 St.length d1) (.slice a6 (riseL St).length d6) := ⟨Only.ofBelow d5, fun k q => .inr (ho.lt k q).1⟩; have ho2 : w5.ownsRow (g + 1) (rI (riseL St)).e (rI (riseL St)).sz (.slice a6 (riseL St).length d6) (rI (riseL St)).n (rI (riseL St)).xs := own_wide ho (by have := HI.out.tri.glt; omega); have hbx := HI.out.tri.box hG.1 (fun k z => .inl z); have NS := hide (HI.out.step (HI.out.tri.row1 hG ho2)); have kc : w5.cell? ⟨g, 2, none⟩ = some (.slice a1 St.length d1) := cell_of hbx rfl; have fc : w5.frozen? ⟨g, 2, none⟩ = false := fz_of hbx; clear hbx ho ho2 hG d5)
              obtain ⟨Z, hZ⟩ : ∃ Z, w5.setCell ⟨g, 2, none⟩ (.slice a6 (riseL St).length d6) = Z := ⟨_, rfl⟩
              rw [hZ] at NS ⊢
              have c4 : Z.cell? ⟨g, 4, none⟩ = some (.slice a3 Ed.length d3) := cell_of NS.out.tri.blk rfl
              obtain ⟨_, _, eqe, hre⟩ := rdE_of (X := Ed) NS.out.tri.o3
              cases eqe
              have T49 := redges_any Z a3 d3 Ed (hide hre) (by omega)
              clear hZ kc fc c2 c0 HI T48 hre
              go_upto_region 24 with (go_at_call 49; refine T49.mono ?_; rintro e w6 ⟨v', rfl, hE⟩; obtain ⟨Oe, ho, hss, hmm, hlen, d6'⟩ := hE; obtain rfl : Oe = sortE Ed := sort_is HED.out hss hmm; obtain ⟨a7, d7, rfl⟩ := rowForm ho; have hG : Grw Z w6 (.slice a3 Ed.length d3) (.slice a7 (sortE Ed).length d7) := ⟨Only.ofBelow d6', fun k q => .inr (ho.lt k q).1⟩; have ho2 : w6.ownsRow (g + 1) (rE (sortE Ed)).e (rE (sortE Ed)).sz (.slice a7 (sortE Ed).length d7) (rE (sortE Ed)).n (rE (sortE Ed)).xs := own_wide ho (by have := NS.out.tri.glt; omega); have hbx := NS.out.tri.box hG.1 (fun k z => .inr (.inr z)); have NT := hide (NS.out.step (NS.out.tri.row3 hG ho2)); have kc : w6.cell? ⟨g, 4, none⟩ = some (.slice a3 Ed.length d3) := cell_of hbx rfl; have fc : w6.frozen? ⟨g, 4, none⟩ = false := fz_of hbx; clear hbx ho ho2 hG d6' hss hmm hlen)
              obtain ⟨Z2, hZ2⟩ : ∃ Z, w6.setCell ⟨g, 4, none⟩ (.slice a7 (sortE Ed).length d7) = Z := ⟨_, rfl⟩
              rw [hZ2] at NT ⊢
              clear hZ2 kc fc c4 T49 NS
              have HBE : Hid (bigF O S R ↔ 4096 < S.length ∨ 128 < Y.length ∨ 65536 < (sortE Ed).length) := hide (by unfold bigF; rw [HY.out, sortE_len, HEL.out])
              have n0 : Z2.cell? ⟨g, 0, none⟩ = some (.int .i64 (S.length : Nat)) := cell_of NT.out.tri.blk rfl
              have n1 : Z2.cell? ⟨g, 1, none⟩ = some (.int .i64 (Y.length : Nat)) := cell_of NT.out.tri.blk rfl
              have n4 : Z2.cell? ⟨g, 4, none⟩ = some (.slice a7 (sortE Ed).length d7) := cell_of NT.out.tri.blk rfl
              by_cases hs : 4096 < S.length
              · have i1 : (4096 : Int) < (S.length : Int) := by omega
                have HBIG := hide (HBE.out.2 (.inl hs))
                go_upto_region 25 with fail
                have z0 : Z2.cell? ⟨w.heap.size + 1, 0, none⟩ = some (.int .i64 0) := cell_of NT.out.br rfl
                have z1 : Z2.cell? ⟨w.heap.size + 1, 1, none⟩ = some (.int .i64 0) := cell_of NT.out.br rfl
                have z2 : Z2.cell? ⟨w.heap.size + 1, 2, none⟩ = some (.slice none 0 0) := cell_of NT.out.br rfl
                have z3 : Z2.cell? ⟨w.heap.size + 1, 3, none⟩ = some (.slice none 0 0) := cell_of NT.out.br rfl
                have z4 : Z2.cell? ⟨w.heap.size + 1, 4, none⟩ = some (.slice none 0 0) := cell_of NT.out.br rfl
                have f0 : Z2.frozen? ⟨w.heap.size + 1, 0, none⟩ = false := fz_of NT.out.br
                have f1 : Z2.frozen? ⟨w.heap.size + 1, 1, none⟩ = false := fz_of NT.out.br
                have f2 : Z2.frozen? ⟨w.heap.size + 1, 2, none⟩ = false := fz_of NT.out.br
                have f3 : Z2.frozen? ⟨w.heap.size + 1, 3, none⟩ = false := fz_of NT.out.br
                have f4 : Z2.frozen? ⟨w.heap.size + 1, 4, none⟩ = false := fz_of NT.out.br
                have HZ := hide (set5 Z2 (w.heap.size + 1) _ _ _ _ _ (.int .i64 0) (.int .i64 0) (.slice none 0 0) (.slice none 0 0) (.slice none 0 0) 25 NT.out.br)
                go_wp2
                refine bodyPost_ret (results_c4 (p := 2) (q := 3) (r := 4) (s := 5) (ty := 25) rfl _ _ (w.heap.size + 1) 25 _ (0, 0) _ _ _ _ rfl rfl rfl rfl HZ.out.1 Tryz.underlying25 rfl (by kernel_rfl)) rfl ?_
                exact ⟨fun _ => ⟨rfl, NT.out.dw.trans (HZ.out.2.toBelow NT.out.dw.size fun k z => by omega)⟩, fun h => absurd HBIG.out h⟩
              · have i1 : ¬ (4096 : Int) < (S.length : Int) := by omega
                by_cases hy : 128 < Y.length
                · have i2 : (128 : Int) < (Y.length : Int) := by omega
                  have HBIG := hide (HBE.out.2 (.inr (.inl hy)))
                  go_upto_region 25 with fail
                  have z0 : Z2.cell? ⟨w.heap.size + 1, 0, none⟩ = some (.int .i64 0) := cell_of NT.out.br rfl
                  have z1 : Z2.cell? ⟨w.heap.size + 1, 1, none⟩ = some (.int .i64 0) := cell_of NT.out.br rfl
                  have z2 : Z2.cell? ⟨w.heap.size + 1, 2, none⟩ = some (.slice none 0 0) := cell_of NT.out.br rfl
                  have z3 : Z2.cell? ⟨w.heap.size + 1, 3, none⟩ = some (.slice none 0 0) := cell_of NT.out.br rfl
                  have z4 : Z2.cell? ⟨w.heap.size + 1, 4, none⟩ = some (.slice none 0 0) := cell_of NT.out.br rfl
                  have f0 : Z2.frozen? ⟨w.heap.size + 1, 0, none⟩ = false := fz_of NT.out.br
                  have f1 : Z2.frozen? ⟨w.heap.size + 1, 1, none⟩ = false := fz_of NT.out.br
                  have f2 : Z2.frozen? ⟨w.heap.size + 1, 2, none⟩ = false := fz_of NT.out.br
                  have f3 : Z2.frozen? ⟨w.heap.size + 1, 3, none⟩ = false := fz_of NT.out.br
                  have f4 : Z2.frozen? ⟨w.heap.size + 1, 4, none⟩ = false := fz_of NT.out.br
                  have HZ := hide (set5 Z2 (w.heap.size + 1) _ _ _ _ _ (.int .i64 0) (.int .i64 0) (.slice none 0 0) (.slice none 0 0) (.slice none 0 0) 25 NT.out.br)
                  go_wp2
                  refine bodyPost_ret (results_c4 (p := 2) (q := 3) (r := 4) (s := 5) (ty := 25) rfl _ _ (w.heap.size + 1) 25 _ (0, 0) _ _ _ _ rfl rfl rfl rfl HZ.out.1 Tryz.underlying25 rfl (by kernel_rfl)) rfl ?_
                  exact ⟨fun _ => ⟨rfl, NT.out.dw.trans (HZ.out.2.toBelow NT.out.dw.size fun k z => by omega)⟩, fun h => absurd HBIG.out h⟩
                · have i2 : ¬ (128 : Int) < (Y.length : Int) := by omega
                  by_cases he : 65536 < (sortE Ed).length
                  · have i3 : (65536 : Int) < ((sortE Ed).length : Int) := by omega
                    have HBIG := hide (HBE.out.2 (.inr (.inr he)))
                    go_upto_region 25 with fail
                    have z0 : Z2.cell? ⟨w.heap.size + 1, 0, none⟩ = some (.int .i64 0) := cell_of NT.out.br rfl
                    have z1 : Z2.cell? ⟨w.heap.size + 1, 1, none⟩ = some (.int .i64 0) := cell_of NT.out.br rfl
                    have z2 : Z2.cell? ⟨w.heap.size + 1, 2, none⟩ = some (.slice none 0 0) := cell_of NT.out.br rfl
                    have z3 : Z2.cell? ⟨w.heap.size + 1, 3, none⟩ = some (.slice none 0 0) := cell_of NT.out.br rfl
                    have z4 : Z2.cell? ⟨w.heap.size + 1, 4, none⟩ = some (.slice none 0 0) := cell_of NT.out.br rfl
                    have f0 : Z2.frozen? ⟨w.heap.size + 1, 0, none⟩ = false := fz_of NT.out.br
                    have f1 : Z2.frozen? ⟨w.heap.size + 1, 1, none⟩ = false := fz_of NT.out.br
                    have f2 : Z2.frozen? ⟨w.heap.size + 1, 2, none⟩ = false := fz_of NT.out.br
                    have f3 : Z2.frozen? ⟨w.heap.size + 1, 3, none⟩ = false := fz_of NT.out.br
                    have f4 : Z2.frozen? ⟨w.heap.size + 1, 4, none⟩ = false := fz_of NT.out.br
                    have HZ := hide (set5 Z2 (w.heap.size + 1) _ _ _ _ _ (.int .i64 0) (.int .i64 0) (.slice none 0 0) (.slice none 0 0) (.slice none 0 0) 25 NT.out.br)
                    go_wp2
                    refine bodyPost_ret (results_c4 (p := 2) (q := 3) (r := 4) (s := 5) (ty := 25) rfl _ _ (w.heap.size + 1) 25 _ (0, 0) _ _ _ _ rfl rfl rfl rfl HZ.out.1 Tryz.underlying25 rfl (by kernel_rfl)) rfl ?_
                    exact ⟨fun _ => ⟨rfl, NT.out.dw.trans (HZ.out.2.toBelow NT.out.dw.size fun k z => by omega)⟩, fun h => absurd HBIG.out h⟩
                  · have i3 : ¬ (65536 : Int) < ((sortE Ed).length : Int) := by omega
                    have HNB : Hid (¬ bigF O S R) := hide (fun h => by rcases HBE.out.1 h with z | z | z <;> omega)
                    have c2 : Z2.cell? ⟨w.heap.size, 2, none⟩ = some (.slice asx S.length cs) := cell_of NT.out.bf rfl
                    go_upto_region 28 with (at_builtin; refine app_all (hS.out.below NT.out.dw) hls rfl _ _ rfl rfl rfl ?_; intro vs w7 hvs d8)
                    obtain ⟨ax, dx, rfl⟩ := rowForm hvs
                    have HVD := hide (And.intro hvs d8)
                    clear n0 n1 n4 c2 hvs d8
                    have NF := hide (NT.out.below HVD.out.2)
                    have n0 : w7.cell? ⟨g, 0, none⟩ = some (.int .i64 (S.length : Nat)) := cell_of NF.out.tri.blk rfl
                    have n1 : w7.cell? ⟨g, 1, none⟩ = some (.int .i64 (Y.length : Nat)) := cell_of NF.out.tri.blk rfl
                    have n2 : w7.cell? ⟨g, 2, none⟩ = some (.slice a6 (riseL St).length d6) := cell_of NF.out.tri.blk rfl
                    have n3 : w7.cell? ⟨g, 3, none⟩ = some (.slice a2 Fi.length d2) := cell_of NF.out.tri.blk rfl
                    have n4 : w7.cell? ⟨g, 4, none⟩ = some (.slice a7 (sortE Ed).length d7) := cell_of NF.out.tri.blk rfl
                    have o0 : w7.cell? ⟨w.heap.size + 1, 0, none⟩ = some (.int .i64 0) := cell_of NF.out.br rfl
                    have o1 : w7.cell? ⟨w.heap.size + 1, 1, none⟩ = some (.int .i64 0) := cell_of NF.out.br rfl
                    have o2 : w7.cell? ⟨w.heap.size + 1, 2, none⟩ = some (.slice none 0 0) := cell_of NF.out.br rfl
                    have o3 : w7.cell? ⟨w.heap.size + 1, 3, none⟩ = some (.slice none 0 0) := cell_of NF.out.br rfl
                    have o4 : w7.cell? ⟨w.heap.size + 1, 4, none⟩ = some (.slice none 0 0) := cell_of NF.out.br rfl
                    have f0 : w7.frozen? ⟨w.heap.size + 1, 0, none⟩ = false := fz_of NF.out.br
                    have f1 : w7.frozen? ⟨w.heap.size + 1, 1, none⟩ = false := fz_of NF.out.br
                    have f2 : w7.frozen? ⟨w.heap.size + 1, 2, none⟩ = false := fz_of NF.out.br
                    have f3 : w7.frozen? ⟨w.heap.size + 1, 3, none⟩ = false := fz_of NF.out.br
                    have f4 : w7.frozen? ⟨w.heap.size + 1, 4, none⟩ = false := fz_of NF.out.br
                    have HZ := hide (set5 w7 (w.heap.size + 1) _ _ _ _ _ (.int .i64 (S.length : Nat)) (.int .i64 (Y.length : Nat)) (.slice a6 (riseL St).length d6) (.slice a2 Fi.length d2) (.slice a7 (sortE Ed).length d7) 25 NF.out.br)
                    go_wp2
                    refine bodyPost_ret (results_c4 (p := 2) (q := 3) (r := 4) (s := 5) (ty := 25) rfl _ _ (w.heap.size + 1) 25 _ (0, 0) _ (.slice ax S.length dx) (.slice ay Y.length cy) (.int .i64 0) rfl rfl rfl rfl HZ.out.1 Tryz.underlying25 rfl (by kernel_rfl)) rfl ?_
                    obtain ⟨eS, eE⟩ := HSE.out
                    have Q := raj_end NT.out HVD.out.1 HVD.out.2 HZ.out.2
                    refine ⟨fun h => absurd h HNB.out, fun _ => ?_⟩
                    rw [HY.out, eS, eE, HFI.out]
                    exact ⟨_, _, _, _, _, rfl, Q⟩
end Go.Proofs.YtmagchclmmphaabGreatDoor
