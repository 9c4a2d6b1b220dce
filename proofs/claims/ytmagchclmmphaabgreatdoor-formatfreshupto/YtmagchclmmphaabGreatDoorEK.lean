import Derived.Test.YtmagchclmmphaabGreatDoorEG
import Derived.Test.YtmagchclmmphaabGreatDoorRJ
import Derived.Test.YtmagchclmmphaabGreatDoorAP
import Derived.Test.YtmagchclmmphaabGreatDoorUS
import Derived.Test.YtmagchclmmphaabGreatDoorVG
namespace Go.Proofs.YtmagchclmmphaabGreatDoor
open Go.RowKit Go.Maps
attribute [local go_sem] Oper.semAt_some

/-! ### Edges in order, each once: there is one such list -/
theorem ltE_ir (x : EdT) : ltE x x = false := swoE.irrefl x
theorem ltE_as {x y : EdT} (h : ltE x y = true) (k : ltE y x = true) : False := by rw [ltE_iff] at h k; omega
theorem ss_eq : ∀ (A B : List EdT), SsE A → SsE B → (∀ x, x ∈ A ↔ x ∈ B) → A = B
  | [], [], _, _, _ => rfl
  | [], b :: B, _, _, h => absurd ((h b).2 (by simp)) (by simp)
  | a :: A, [], _, _, h => absurd ((h a).1 (by simp)) (by simp)
  | a :: A, b :: B, hA, hB, h => by
    unfold SsE at hA hB
    rw [List.pairwise_cons] at hA hB
    have e : a = b := by
      rcases List.mem_cons.1 ((h a).1 (by simp)) with q | q
      · exact q
      · rcases List.mem_cons.1 ((h b).2 (by simp)) with r | r
        · exact r.symm
        · exact (ltE_as (hB.1 a q) (hA.1 b r)).elim
    subst e
    congr 1
    refine ss_eq A B hA.2 hB.2 fun x => ⟨fun q => ?_, fun q => ?_⟩
    · rcases List.mem_cons.1 ((h x).1 (by simp [q])) with r | r
      · subst r; have := hA.1 x q; rw [ltE_ir] at this; cases this
      · exact r
    · rcases List.mem_cons.1 ((h x).2 (by simp [q])) with r | r
      · subst r; have := hB.1 x q; rw [ltE_ir] at this; cases this
      · exact r
theorem sort_ss {L : List EdT} (h : L.Nodup) : SsE (sortE L) := by
  have hp : (sortE L).Pairwise fun a b => (!ltE b a) = true := List.pairwise_mergeSort (le := fun x y => !ltE y x) (fun a b c h1 h2 => by
    simp only [Bool.not_eq_true', ltE_not] at *
    omega) (fun a b => by
    cases h1 : ltE b a
    · simp
    · cases h2 : ltE a b
      · simp
      · exact (ltE_as h1 h2).elim) L
  have hn : (sortE L).Nodup := (List.mergeSort_perm L _).nodup_iff.2 h
  unfold SsE
  refine (hp.and hn).imp fun {a b} q => ?_
  cases hab : ltE a b
  · exact absurd (totE a b hab (by simpa using q.1)) q.2
  · rfl
theorem sort_is {L O : List EdT} (h : L.Nodup) (hO : SsE O) (hm : ∀ y, y ∈ O ↔ y ∈ L) : O = sortE L := ss_eq O _ hO (sort_ss h) fun x => by rw [hm]; unfold sortE; exact List.mem_mergeSort.symm
theorem plc_pos {S : List ByteArray} {x : ByteArray} (h : x ∈ S) : plcF S x = (posOf S x : Nat) := by
  unfold plcF posOf
  rw [if_pos h]

/-! ### While the document makes its automaton -/
structure AtJ (w : World) (g : Nat) (c : Array Value) (n m : Nat) (vy : Value) (Y : List ByteArray) (W : World) (v1 v2 v3 : Value) (St Fi : List Int) (Ed : List EdT) : Prop where
  tri : Tri (g + 1) g 25 (.int .i64 (n : Nat)) (.int .i64 (m : Nat)) W v1 v2 v3 (rI St) (rI Fi) (rE Ed)
  bf : W.heap[w.heap.size]? = some (.cells c 32 (0, 0))
  br : W.heap[w.heap.size + 1]? = some (.cells #[.int .i64 0, .int .i64 0, .slice none 0 0, .slice none 0 0, .slice none 0 0] 25 (0, 0))
  oy : W.ownsRow (w.heap.size + 2) 9 1 vy Y.length (strV Y)
  hy : ∀ k, vy.ownBlock = some k → k < g
  hg : w.heap.size + 2 ≤ g
  dw : Below w.heap.size w W
section
variable {w W W' : World} {g n m : Nat} {c : Array Value} {Y : List ByteArray} {vy v1 v2 v3 v1' v2' v3' : Value} {St St' Fi Fi' : List Int} {Ed Ed' : List EdT}
theorem AtJ.step (h : AtJ w g c n m vy Y W v1 v2 v3 St Fi Ed) (k : Tri (g + 1) g 25 (.int .i64 (n : Nat)) (.int .i64 (m : Nat)) W' v1' v2' v3' (rI St') (rI Fi') (rE Ed') ∧ Cs g W W' (RB3 v1 v2 v3) (RB3 v1' v2' v3')) : AtJ w g c n m vy Y W' v1' v2' v3' St' Fi' Ed' := by
  have hg := h.hg
  have hl := h.tri.glt
  have hn : ∀ i, i < g → ¬ (i = g ∨ RB3 v1 v2 v3 i) := fun i hi z => by
    rcases z with z | z
    · omega
    · have := (h.tri.lt i z).1; omega
  exact ⟨k.1, (k.2.only.block _ (by omega) (hn _ (by omega))).trans h.bf, (k.2.only.block _ (by omega) (hn _ (by omega))).trans h.br, row_only h.oy k.2.only fun i q => hn i (h.hy i q), h.hy, h.hg,
    h.dw.trans (k.2.only.toBelow (by omega) fun i z => by
      rcases z with z | z
      · omega
      · have := (h.tri.lt i z).1; omega)⟩
theorem AtJ.below (h : AtJ w g c n m vy Y W v1 v2 v3 St Fi Ed) (d : Below W.heap.size W W') : AtJ w g c n m vy Y W' v1 v2 v3 St Fi Ed := h.step ⟨h.tri.below d, Cs.same d⟩
theorem AtJ.drewN (h : AtJ w g c n m vy Y W v1 v2 v3 St Fi Ed) (k : Nat) : AtJ w g c n m vy Y (W.drewN k) v1 v2 v3 St Fi Ed := h.below (below_drewN2 (Below.refl _ _) k)
end
theorem AtJ.new {w w2 X : World} {n m : Nat} {c : Array Value} {vy : Value} {Y : List ByteArray} (bf : w2.heap[w.heap.size]? = some (.cells c 32 (0, 0))) (br : w2.heap[w.heap.size + 1]? = some (.cells #[.int .i64 0, .int .i64 0, .slice none 0 0, .slice none 0 0, .slice none 0 0] 25 (0, 0))) (oy : w2.ownsRow (w.heap.size + 2) 9 1 vy Y.length (strV Y)) (dw : Below w.heap.size w w2)
    (hb : X.heap[w2.heap.size]? = some (.cells #[.int .i64 (n : Nat), .int .i64 (m : Nat), .slice none 0 0, .slice none 0 0, .slice none 0 0] 25 (0, 0))) (dX : Below w2.heap.size w2 X) :
    AtJ w w2.heap.size c n m vy Y X (.slice none 0 0) (.slice none 0 0) (.slice none 0 0) [] [] [] := by
  have nr : ∀ k, ¬ RB3 (.slice none 0 0) (.slice none 0 0) (.slice none 0 0) k := fun k z => by rcases z with z | z | z <;> cases z
  have l1 := (Array.getElem?_eq_some_iff.1 br).1
  exact ⟨⟨⟨rfl, .inl ⟨rfl, rfl⟩⟩, ⟨rfl, .inl ⟨rfl, rfl⟩⟩, ⟨rfl, .inl ⟨rfl, rfl⟩⟩, fun _ q => (by cases q), fun _ q => (by cases q), fun _ q => (by cases q), hb, fun k z => absurd z (nr k)⟩, (dX.block _ (by omega)).trans bf, (dX.block _ (by omega)).trans br, owns_below oy dX, fun k q => (oy.lt k q).2, by omega, dw.trans (dX.mono dw.size)⟩
theorem japp_row1 {w W : World} {g n m : Nat} {c : Array Value} {vy : Value} {Y : List ByteArray} {v1 v2 v3 : Value} {St Fi : List Int} {Ed : List EdT} (h : AtJ w g c n m vy Y W v1 v2 v3 St Fi Ed) (x : Int) {ops : Array Oper} {rest : List Oper} {o : Oper} {a : Act} {Q : Exit → Act → World → Prop} (hgd : o.guard = none) (s y : Operand)
    (ho : o.op = .call { callee := .builtin .append, args := #[s, y], argTypes := #[22, 22] }) (hs : a.eval s = v1) (hy : a.eval y = .slice (some ⟨W.heap.size, 0, none⟩) 1 1) (hl : St.length ≤ 8388608)
    (hK : ∀ a5 c5 w3, w3.cell? ⟨g, 2, none⟩ = some v1 → w3.frozen? ⟨g, 2, none⟩ = false → Hid (AtJ w g c n m vy Y (w3.setCell ⟨g, 2, none⟩ (.slice a5 (St.length + 1) c5)) (.slice a5 (St.length + 1) c5) v2 v3 (St ++ [x]) Fi Ed) → wpList Tryz.prog ops Q rest (a.put o.dst (.slice a5 (St.length + 1) c5)) w3) :
    wpList Tryz.prog ops Q (o :: rest) a (W.alloc (.cells #[.int .i64 x] 3)) := by
  obtain ⟨i3, hi3, hz30, hz31, hz32⟩ := info_parts info3
  have hgl := h.tri.glt
  refine wpList_append_own_at _ hgd s y _ ho (g + 1) 3 i3 _ 1 8 Tryz.underlying22 hi3 hz30 hz31 hz32 rfl (by omega) v1 St.length (St.map (Value.int .i64)) hs (owns_below h.tri.o1 ((Below.refl _ W).alloc (Nat.le_refl _) _)) ⟨W.heap.size, 0, none⟩ 1 1 [.int .i64 x] hy rfl (cnewI W x) (fun u hu => by obtain rfl := List.mem_singleton.1 hu; rfl) (by unfold maxLen; omega) (by omega) (by simp; omega) ?_
  intro v' w3 how hgr _ hloc
  have hG := grw_append hgr hloc
  have ho2 : w3.ownsRow (g + 1) (rI (St ++ [x])).e (rI (St ++ [x])).sz v' (rI (St ++ [x])).n (rI (St ++ [x])).xs := by simpa [rI] using how
  obtain ⟨a5, c5, rfl⟩ := rowForm how
  have hbx := h.tri.box hG.1 (fun k z => .inl z)
  exact hK a5 c5 w3 (cell_of hbx rfl) (fz_of hbx) (hide (h.step (h.tri.row1 hG ho2)))
theorem japp_row2 {w W : World} {g n m : Nat} {c : Array Value} {vy : Value} {Y : List ByteArray} {v1 v2 v3 : Value} {St Fi : List Int} {Ed : List EdT} (h : AtJ w g c n m vy Y W v1 v2 v3 St Fi Ed) (x : Int) {ops : Array Oper} {rest : List Oper} {o : Oper} {a : Act} {Q : Exit → Act → World → Prop} (hgd : o.guard = none) (s y : Operand)
    (ho : o.op = .call { callee := .builtin .append, args := #[s, y], argTypes := #[22, 22] }) (hs : a.eval s = v2) (hy : a.eval y = .slice (some ⟨W.heap.size, 0, none⟩) 1 1) (hl : Fi.length ≤ 8388608)
    (hK : ∀ a5 c5 w3, w3.cell? ⟨g, 3, none⟩ = some v2 → w3.frozen? ⟨g, 3, none⟩ = false → Hid (AtJ w g c n m vy Y (w3.setCell ⟨g, 3, none⟩ (.slice a5 (Fi.length + 1) c5)) v1 (.slice a5 (Fi.length + 1) c5) v3 St (Fi ++ [x]) Ed) → wpList Tryz.prog ops Q rest (a.put o.dst (.slice a5 (Fi.length + 1) c5)) w3) :
    wpList Tryz.prog ops Q (o :: rest) a (W.alloc (.cells #[.int .i64 x] 3)) := by
  obtain ⟨i3, hi3, hz30, hz31, hz32⟩ := info_parts info3
  have hgl := h.tri.glt
  refine wpList_append_own_at _ hgd s y _ ho (g + 1) 3 i3 _ 1 8 Tryz.underlying22 hi3 hz30 hz31 hz32 rfl (by omega) v2 Fi.length (Fi.map (Value.int .i64)) hs (owns_below h.tri.o2 ((Below.refl _ W).alloc (Nat.le_refl _) _)) ⟨W.heap.size, 0, none⟩ 1 1 [.int .i64 x] hy rfl (cnewI W x) (fun u hu => by obtain rfl := List.mem_singleton.1 hu; rfl) (by unfold maxLen; omega) (by omega) (by simp; omega) ?_
  intro v' w3 how hgr _ hloc
  have hG := grw_append hgr hloc
  have ho2 : w3.ownsRow (g + 1) (rI (Fi ++ [x])).e (rI (Fi ++ [x])).sz v' (rI (Fi ++ [x])).n (rI (Fi ++ [x])).xs := by simpa [rI] using how
  obtain ⟨a5, c5, rfl⟩ := rowForm how
  have hbx := h.tri.box hG.1 (fun k z => .inr (.inl z))
  exact hK a5 c5 w3 (cell_of hbx rfl) (fz_of hbx) (hide (h.step (h.tri.row2 hG ho2)))
theorem japp_row3 {w W : World} {g n m : Nat} {c : Array Value} {vy : Value} {Y : List ByteArray} {v1 v2 v3 : Value} {St Fi : List Int} {Ed : List EdT} (h : AtJ w g c n m vy Y W v1 v2 v3 St Fi Ed) (x : EdT) {ops : Array Oper} {rest : List Oper} {o : Oper} {a : Act} {Q : Exit → Act → World → Prop} (hgd : o.guard = none) (s y : Operand)
    (ho : o.op = .call { callee := .builtin .append, args := #[s, y], argTypes := #[23, 23] }) (hs : a.eval s = v3) (hy : a.eval y = .slice (some ⟨W.heap.size, 0, none⟩) 1 1) (hl : Ed.length ≤ 8388608)
    (hK : ∀ a5 c5 w3, w3.cell? ⟨g, 4, none⟩ = some v3 → w3.frozen? ⟨g, 4, none⟩ = false → Hid (AtJ w g c n m vy Y (w3.setCell ⟨g, 4, none⟩ (.slice a5 (Ed.length + 1) c5)) v1 v2 (.slice a5 (Ed.length + 1) c5) St Fi (Ed ++ [x])) → wpList Tryz.prog ops Q rest (a.put o.dst (.slice a5 (Ed.length + 1) c5)) w3) :
    wpList Tryz.prog ops Q (o :: rest) a (W.alloc (.cells #[.int .i64 x.1, .int .i64 x.2.1, .int .i64 x.2.2] 64)) := by
  obtain ⟨i3, hi3, hz30, hz31, hz32⟩ := info_parts infoE
  have hgl := h.tri.glt
  refine wpList_append_own_at _ hgd s y _ ho (g + 1) 64 i3 _ 3 24 Tryz.underlying23 hi3 hz30 hz31 hz32 rfl (by omega) v3 Ed.length (Ed.flatMap encE) hs (owns_below h.tri.o3 ((Below.refl _ W).alloc (Nat.le_refl _) _)) ⟨W.heap.size, 0, none⟩ 1 1 (encE x) hy rfl (cnewE W x) (fun u hu => by simp only [encE, List.mem_cons, List.not_mem_nil, or_false] at hu; rcases hu with rfl | rfl | rfl <;> rfl) (by unfold maxLen; omega) (by omega) (by simp; omega) ?_
  intro v' w3 how hgr _ hloc
  have hG := grw_append hgr hloc
  have ho2 : w3.ownsRow (g + 1) (rE (Ed ++ [x])).e (rE (Ed ++ [x])).sz v' (rE (Ed ++ [x])).n (rE (Ed ++ [x])).xs := by simpa [rE] using how
  obtain ⟨a5, c5, rfl⟩ := rowForm how
  have hbx := h.tri.box hG.1 (fun k z => .inr (.inr z))
  exact hK a5 c5 w3 (cell_of hbx rfl) (fz_of hbx) (hide (h.step (h.tri.row3 hG ho2)))
/-- A world behind some draws and a block is the one that it was, and more. -/
theorem tw_below (w : World) (b : Obj) (d : Nat) (q : Bool) : Below w.heap.size w (tw w b d q) := by
  cases q
  · exact below_drewN2 (Below.refl _ _) d
  · exact (below_drewN2 (Below.refl _ _) d).alloc (Nat.le_refl _) _
end Go.Proofs.YtmagchclmmphaabGreatDoor
namespace Go.Proofs.YtmagchclmmphaabGreatDoor
open Go.RowKit Go.Maps
attribute [local go_sem] Oper.semAt_some

set_option maxRecDepth 100000 in
set_option maxHeartbeats 4000000 in
theorem rauto_bad (w : World) (ti : ByteArray) (ao asx af ar : Option Addr) (co cs cf cr : Nat) (O : List OpI) (S F : List ByteArray) (R : List RuT) (hO : Hid (RdO w ao O)) (hS : Hid (ReadsS w asx S)) (hF : Hid (ReadsS w af F)) (hR : Hid (RdRu w ar R))
    (hlo : O.length ≤ 4194304) (hls : S.length ≤ 4194304) (hlf : F.length ≤ 4194304) (hlr : R.length ≤ 4194304) (hco : Hid (O.length ≤ co)) (hcs : Hid (S.length ≤ cs)) (hv : valF ti O S F R = false) :
    Calls Tryz.prog 27 #[.agg #[.string ti, .slice ao O.length co, .slice asx S.length cs, .slice af F.length cf, .slice ar R.length cr]] w fun e w' => e = .returned (.tuple #[.agg #[.int .i64 0, .int .i64 0, .slice none 0 0, .slice none 0 0, .slice none 0 0], .slice none 0 0, .slice none 0 0, .int .i64 5]) ∧ Below w.heap.size w w' := by
  obtain ⟨W0, hW0⟩ : ∃ W0, (w.alloc (.cells #[.string ti, .slice ao O.length co, .slice asx S.length cs, .slice af F.length cf, .slice ar R.length cr] 32)).alloc (.cells #[.int .i64 0, .int .i64 0, .slice none 0 0, .slice none 0 0, .slice none 0 0] 25) = W0 := ⟨_, rfl⟩
  have d0 : Below w.heap.size w W0 := by rw [← hW0]; exact ((Below.refl _ _).alloc (Nat.le_refl _) _).alloc (by simp) _
  have b0 : W0.heap[w.heap.size]? = some (.cells #[.string ti, .slice ao O.length co, .slice asx S.length cs, .slice af F.length cf, .slice ar R.length cr] 32 (0, 0)) := by rw [← hW0]; exact (Below.heap_alloc _ _ _ (by simp)).trans (World.alloc_heap_new _ _)
  have b1 : W0.heap[w.heap.size + 1]? = some (.cells #[.int .i64 0, .int .i64 0, .slice none 0 0, .slice none 0 0, .slice none 0 0] 25 (0, 0)) := by rw [← hW0]; exact heap_alloc2_new w _ _
  have z0 : W0.heap.size = w.heap.size + 2 := by rw [← hW0]; simp
  have T1 := rvalid_any W0 ti ao asx af ar co cs cf cr O S F R (hide (hO.out.on d0)) (hide (hS.out.below d0)) (hide (hF.out.below d0)) (hide (hR.out.on d0)) hlo hls hlf hlr hco hcs
  rw [rvalF_eq, hv] at T1
  have HD := hide (And.intro d0 (And.intro b0 (And.intro b1 z0)))
  have c0 : W0.cell? ⟨w.heap.size, 0, none⟩ = some (.string ti) := cell_of b0 rfl
  have c1 : W0.cell? ⟨w.heap.size, 1, none⟩ = some (.slice ao O.length co) := cell_of b0 rfl
  have c2 : W0.cell? ⟨w.heap.size, 2, none⟩ = some (.slice asx S.length cs) := cell_of b0 rfl
  have c3 : W0.cell? ⟨w.heap.size, 3, none⟩ = some (.slice af F.length cf) := cell_of b0 rfl
  have c4 : W0.cell? ⟨w.heap.size, 4, none⟩ = some (.slice ar R.length cr) := cell_of b0 rfl
  clear d0 b0 b1 z0
  go_enter Tryz.func27, Tryz.ntmps27
  go_upto_region 3 with (go_at_call 52; refine T1.mono ?_; rintro e w1 ⟨rfl, d1⟩)
  have hbx : w1.heap[w.heap.size + 1]? = _ := (d1.block _ (by have := HD.out.2.2.2; omega)).trans HD.out.2.2.1
  have HW := hide (HD.out.1.trans (d1.mono HD.out.1.size))
  have HX := hide hbx
  clear hbx d1 T1 c0 c1 c2 c3 c4
  have z0 : w1.cell? ⟨w.heap.size + 1, 0, none⟩ = some (.int .i64 0) := cell_of HX.out rfl
  have z1 : w1.cell? ⟨w.heap.size + 1, 1, none⟩ = some (.int .i64 0) := cell_of HX.out rfl
  have z2 : w1.cell? ⟨w.heap.size + 1, 2, none⟩ = some (.slice none 0 0) := cell_of HX.out rfl
  have z3 : w1.cell? ⟨w.heap.size + 1, 3, none⟩ = some (.slice none 0 0) := cell_of HX.out rfl
  have z4 : w1.cell? ⟨w.heap.size + 1, 4, none⟩ = some (.slice none 0 0) := cell_of HX.out rfl
  have f0 : w1.frozen? ⟨w.heap.size + 1, 0, none⟩ = false := fz_of HX.out
  have f1 : w1.frozen? ⟨w.heap.size + 1, 1, none⟩ = false := fz_of HX.out
  have f2 : w1.frozen? ⟨w.heap.size + 1, 2, none⟩ = false := fz_of HX.out
  have f3 : w1.frozen? ⟨w.heap.size + 1, 3, none⟩ = false := fz_of HX.out
  have f4 : w1.frozen? ⟨w.heap.size + 1, 4, none⟩ = false := fz_of HX.out
  have HZ := hide (set5 w1 (w.heap.size + 1) _ _ _ _ _ (.int .i64 0) (.int .i64 0) (.slice none 0 0) (.slice none 0 0) (.slice none 0 0) 25 HX.out)
  go_wp2
  refine bodyPost_ret (results_c4 (p := 2) (q := 3) (r := 4) (s := 5) (ty := 25) rfl _ _ (w.heap.size + 1) 25 _ (0, 0) _ _ _ _ rfl rfl rfl rfl HZ.out.1 Tryz.underlying25 rfl (by kernel_rfl)) rfl ?_
  exact ⟨rfl, HW.out.trans (HZ.out.2.toBelow HW.out.size fun k z => by omega)⟩
end Go.Proofs.YtmagchclmmphaabGreatDoor
namespace Go.Proofs.YtmagchclmmphaabGreatDoor
open Go.RowKit Go.Maps

/-- All of a list of texts, put into a row that is new. -/
theorem app_all {w : World} {ao : Option Addr} {c : Nat} {S : List ByteArray} (hA : ReadsS w ao S) (hl : S.length ≤ 4194304) {ops : Array Oper} {rest : List Oper} {o : Oper} {a : Act} {Q : Exit → Act → World → Prop} (hgd : o.guard = none) (s y : Operand)
    (ho : o.op = .call { callee := .builtin .append, args := #[s, y], argTypes := #[26, 26] }) (hs : a.eval s = .slice none 0 0) (hy : a.eval y = .slice ao S.length c)
    (hK : ∀ v w', w'.ownsRow w.heap.size 9 1 v S.length (strV S) → Below w.heap.size w w' → wpList Tryz.prog ops Q rest (a.put o.dst v) w') :
    wpList Tryz.prog ops Q (o :: rest) a w := by
  obtain ⟨i9, hi9, hz90, hz91, hz92⟩ := info_parts info9
  by_cases h0 : S.length = 0
  · obtain rfl : S = [] := List.eq_nil_of_length_eq_zero h0
    refine wpList_plain hgd fun K hKK => ?_
    have hrun : (Builtin.append_ #[26, 26] o.type #[.slice none 0 0, .slice ao 0 c]).run Tryz.prog w = .ok (.slice none 0 0) w := by
      cases ao <;> simp [Builtin.append_, run_underlying Tryz.underlying26, sizeOf, typeInfo, hi9, Builtin.lenOf, Builtin.firstCells, loadCells, loadCellsFrom]
    unfold Oper.wp
    simp [execOp, ho, resolve, invoke, builtin, hs, hy, hrun, Result.andThen]
    exact hKK _ _ (hK _ _ ⟨rfl, .inl ⟨rfl, rfl⟩⟩ (Below.refl _ _))
  · obtain ⟨g, of, rfl, _⟩ := hA 0 (by omega)
    refine wpList_append_own_at _ hgd s y _ ho w.heap.size 9 i9 _ 1 16 Tryz.underlying26 hi9 hz90 hz91 hz92 rfl (by omega) (.slice none 0 0) 0 [] hs ⟨rfl, .inl ⟨rfl, rfl⟩⟩ ⟨g, of, none⟩ S.length c (strV S) hy (by simp [strV]) (fun j u hu => ?_) (rf.strV_one S) (by unfold maxLen; omega) (by omega) (Nat.le_refl _) ?_
    · have hj : j < S.length := by have := (List.getElem?_eq_some_iff.1 hu).1; simpa [strV] using this
      obtain ⟨g', o', e, hc⟩ := hA j hj
      cases e
      have hu2 : u = .string S[j] := by simpa [strV, hj] using hu.symm
      rw [hu2, Addr.add_lit]
      exact hc
    · intro v' w' how hgr _ _
      exact hK v' w' (by simpa using how) ((Below.refl _ w).grown hgr (Nat.le_refl _) (by intro k hk; cases hk))
end Go.Proofs.YtmagchclmmphaabGreatDoor
