import Derived.Test.YtojnlpicgemlaabGreatDoorRs
import Derived.Test.YtojnlpicgemlaabGreatDoorOS
import Derived.Deep.RegionHeld3
import Derived.Deep.AppendLies
import Derived.Laws.EntriesVeiled
namespace Go.Proofs.YtojnlpicgemlaabGreatDoor
open Go.RowKit Go.Maps
attribute [local go_sem] Oper.semAt_some

/-! ### The edges by their near ends -/
theorem rdE_own {W : World} {B b cap : Nat} {X : List EdT} (h : W.ownsRow B 35 3 (.slice (some ⟨b, 0, none⟩) X.length cap) X.length (X.flatMap encE)) : RdE W (some ⟨b, 0, none⟩) X := fun j hj => by
  have := rdE_cells h j hj
  exact ⟨b, 0, rfl, by simpa using this⟩
theorem own_rdE {W : World} {B c : Nat} {b : Option Addr} {X : List EdT} (h : W.ownsRow B 35 3 (.slice b X.length c) X.length (X.flatMap encE)) : RdE W b X := by
  rcases h.2 with ⟨hv, hn⟩ | ⟨g, cap, cur, hv, _⟩
  · intro j hj; omega
  · cases hv
    exact rdE_own h
def rowI (bk : Bool) (Ed : List EdT) (q : Nat) : List EdT := Ed.filter fun e => decide ((ends bk e).1 = (q : Int))
structure GrI (B : Nat) (w : World) (H N : Nat) (row : Nat → List EdT) (F : Nat → Value) : Prop where
  tab : Mrw w H 23 N F N
  own : ∀ q, q < N → w.ownsRow B 35 3 (F q) (row q).length ((row q).flatMap encE)
  apart : ∀ q q' g, q < N → q' < N → (F q).ownBlock = some g → (F q').ownBlock = some g → q = q'
theorem GrI.below {B : Nat} {w w' : World} {H N : Nat} {row : Nat → List EdT} {F : Nat → Value} (h : GrI B w H N row F) (d : Below w.heap.size w w') : GrI B w' H N row F :=
  ⟨h.tab.below d h.tab.lt, fun q hq => row_only (h.own q hq) (Only.ofBelow (R := fun _ => False) d) (fun _ _ => id), h.apart⟩
theorem own_ne {B : Nat} {w : World} {v : Value} {n H N k : Nat} {xs : List Value} {F : Nat → Value} (h : w.ownsRow B 35 3 v n xs) (hM : Mrw w H 23 N F k) (e : v.ownBlock = some H) : False := by
  obtain ⟨cur, h1, _⟩ := hM
  rcases h.2 with ⟨hv, _⟩ | ⟨g', cap', cur', hv, hb, hg, _⟩
  · rw [hv] at e; cases e
  · rw [hv] at e
    cases e
    rw [h1] at hg
    cases hg
theorem info23 : (Tryz.prog.info? 23).map (fun i => (i.zero, i.size, i.bytes)) = some (some (.slice none 0 0), 1, 24) := by kernel_rfl
theorem gr_made {B : Nat} {w1 : World} {g N : Nat} {bk : Bool} (h : w1.ownsRow B 23 1 (.slice (some ⟨g, 0, none⟩) N N) N (madeCells #[.slice none 0 0] N).toList) : GrI B w1 g N (rowI bk (([] : List EdT).take 0)) (fun _ => .slice none 0 0) := by
  rw [toList_madeCells_one] at h
  refine ⟨?_, fun q _ => World.ownsRow_nil _ _ _ _, fun q q' g _ _ e => by cases e⟩
  rcases h.2 with ⟨hv, _⟩ | ⟨g', cap', cur, hv, hb, hg, h1, h2, h3, h4⟩
  · cases hv
  · cases hv
    refine ⟨cur, hg, by omega, fun j hj => ?_⟩
    rw [List.take_of_length_le (by simp; omega)] at h4
    have : cur.toList[j]? = some (.slice none 0 0) := by rw [h4]; simp [hj]
    simpa using this
theorem rowI_same {bk : Bool} {Ed : List EdT} {i r : Nat} (hi : i < Ed.length) (he : (ends bk Ed[i]).1 = (r : Int)) : rowI bk (Ed.take (i + 1)) r = rowI bk (Ed.take i) r ++ [Ed[i]] := by
  unfold rowI
  rw [List.take_add_one, List.getElem?_eq_getElem hi, List.filter_append]
  simp [he]
theorem rowI_else {bk : Bool} {Ed : List EdT} {i r q : Nat} (hi : i < Ed.length) (he : (ends bk Ed[i]).1 = (r : Int)) (hq : q ≠ r) : rowI bk (Ed.take (i + 1)) q = rowI bk (Ed.take i) q := by
  unfold rowI
  rw [List.take_add_one, List.getElem?_eq_getElem hi, List.filter_append]
  have : ¬ ((r : Int) = (q : Int)) := by omega
  simp [he, this]
theorem gr_step {B : Nat} {w3 w4 : World} {H N r q i g9 c9 : Nat} {bk : Bool} {Ed : List EdT} {F : Nat → Value} {v : Value} {o : Obj} (h : GrI B w3 H N (rowI bk (Ed.take i)) F) (hr : r < N) (hi : i < Ed.length) (he : (ends bk Ed[i]).1 = (r : Int)) (hv : F r = v) (hq : (rowI bk (Ed.take i) r).length = q)
    (ho : w4.ownsRow B 35 3 (.slice (some ⟨g9, 0, none⟩) (q + 1) c9) (q + 1) ((rowI bk (Ed.take i) r).flatMap encE ++ encE Ed[i])) (hg : (w3.alloc o).grownBy w4 v.ownBlock) (ha : v.ownBlock = some g9 ∨ g9 = w3.heap.size + 1) (hB : B ≤ H) :
    GrI B (w4.setCell ⟨H, r, none⟩ (.slice (some ⟨g9, 0, none⟩) (q + 1) c9)) H N (rowI bk (Ed.take (i + 1))) (fun c => if c = r then .slice (some ⟨g9, 0, none⟩) (q + 1) c9 else F c) ∧ Only w3 (w4.setCell ⟨H, r, none⟩ (.slice (some ⟨g9, 0, none⟩) (q + 1) c9)) (fun k => v.ownBlock = some k ∨ k = H) := by
  have hsz : (w3.alloc o).heap.size = w3.heap.size + 1 := by simp
  have O4 : Only w3 w4 (fun k => v.ownBlock = some k) := ⟨hg.os, hg.tape, hg.output, Nat.le_trans (by omega) hg.size, fun k hk hn => (hg.block k (by omega) (fun e => hn e.symm)).trans (((Below.refl w3.heap.size w3).alloc (Nat.le_refl _) o).block k hk)⟩
  have hvn : v.ownBlock ≠ some H := fun e => own_ne (h.own r hr) h.tab (by rw [hv]; exact e)
  have tab4 : Mrw w4 H 23 N F N := h.tab.only O4 hvn
  have hgH : g9 ≠ H := fun e => own_ne ho tab4 (by rw [e]; rfl)
  have OH := only_set w4 H r (.slice (some ⟨g9, 0, none⟩) (q + 1) c9)
  refine ⟨⟨tab4.upd r _, fun q' hq' => ?_, fun a b g ha' hb' ea eb => ?_⟩, ?_⟩
  · by_cases e : q' = r
    · subst e
      rw [if_pos rfl, rowI_same hi he, List.length_append, List.length_singleton, hq, List.flatMap_append]
      refine row_only (show w4.ownsRow B 35 3 _ _ _ by simpa using ho) OH fun k hk e => ?_
      cases hk
      exact hgH e
    · rw [if_neg e, rowI_else hi he e]
      refine row_only (row_only (h.own q' hq') O4 fun k hk e' => ?_) OH fun k hk e' => ?_
      · exact e (h.apart q' r k hq' hr hk (by rw [hv]; exact e'))
      · subst e'
        exact own_ne (h.own q' hq') h.tab hk
  · have key : ∀ c, c < N → c ≠ r → (F c).ownBlock = some g9 → False := fun c hc hne e => by
      rcases ha with ha | ha
      · exact hne (h.apart c r g9 hc hr e (by rw [hv]; exact ha))
      · have := ((h.own c hc).lt g9 e).2
        omega
    by_cases e1 : a = r <;> by_cases e2 : b = r
    · omega
    · subst e1
      rw [if_pos rfl] at ea
      rw [if_neg e2] at eb
      cases ea
      exact absurd eb (fun e => key b hb' e2 e)
    · subst e2
      rw [if_pos rfl] at eb
      rw [if_neg e1] at ea
      cases eb
      exact absurd ea (fun e => key a ha' e1 e)
    · rw [if_neg e1] at ea
      rw [if_neg e2] at eb
      exact h.apart a b g ha' hb' ea eb
  · exact (O4.mono fun k _ e => .inl e).trans (OH.mono fun k _ e => .inr e)
theorem GrI.at {B : Nat} {w : World} {H N : Nat} {row : Nat → List EdT} {F : Nat → Value} (h : GrI B w H N row F) : GrAt w H N row := by
  refine ⟨F, h.tab, fun q hq => ?_⟩
  have o := h.own q hq
  rcases o.2 with ⟨hv, h0⟩ | ⟨g, cap, cur, hv, hb, hg, _⟩
  · refine ⟨none, 0, by rw [hv, h0], fun j hj => by omega, fun g o e => by cases e⟩
  · rw [hv] at o
    exact ⟨_, cap, hv, own_rdE o, fun g' o' e => by cases e; exact ⟨_, _, hg⟩⟩
set_option maxRecDepth 100000 in
set_option maxHeartbeats 4000000 in
theorem grouped_fwd (w : World) (N : Nat) (mv : Int) (a1 a2 a3 : Option Addr) (l1 l2 c1 c2 c3 : Nat) (Ed : List EdT) (hN : N ≤ 100000) (hr : RdE w a3 Ed) (hE : Ed.length ≤ 1000000) (h1 : ∀ e ∈ Ed, ∃ r : Nat, r < N ∧ (ends false e).1 = (r : Int)) :
    Calls Tryz.prog 55 #[.agg #[.int .i64 (N : Int), .int .i64 mv, .slice a1 l1 c1, .slice a2 l2 c2, .slice a3 Ed.length c3], .func (.func 31) #[] #[]] w fun e w' => ∃ H, e = .returned (.slice (some ⟨H, 0, none⟩) N N) ∧ (∃ F, GrI w.heap.size w' H N (rowI false Ed) F) ∧ Below w.heap.size w w' := by
  obtain ⟨L, eL⟩ : ∃ L, Ed.length = L := ⟨_, rfl⟩
  rw [eL] at hE
  rw [eL]
  obtain ⟨i3, hi3, hz30, hz31, hz32⟩ := info_parts info23
  obtain ⟨i5, hi5, hz50, hz51, hz52⟩ := info_parts info59
  obtain ⟨W0, hW0⟩ : ∃ W0, w.alloc (.cells #[.int .i64 (N : Int), .int .i64 mv, .slice a1 l1 c1, .slice a2 l2 c2, .slice a3 L c3] 25) = W0 := ⟨_, rfl⟩
  have d0 : Below w.heap.size w W0 := by rw [← hW0]; exact (Below.refl _ _).alloc (Nat.le_refl _) _
  have B0 : W0.heap[w.heap.size]? = some (.cells #[.int .i64 (N : Int), .int .i64 mv, .slice a1 l1 c1, .slice a2 l2 c2, .slice a3 L c3] 25 (0, 0)) := by rw [← hW0]; exact World.alloc_heap_new _ _
  have k0 : W0.cell? ⟨w.heap.size, 0, none⟩ = some (.int .i64 (N : Int)) := cell_of B0 rfl
  have k4 : W0.cell? ⟨w.heap.size, 4, none⟩ = some (.slice a3 L c3) := cell_of B0 rfl
  have HR0 := hide hr
  have HD := hide (And.intro d0 (And.intro B0 eL))
  have H1 := hide h1
  clear d0 hr B0 h1 eL
  go_enter Tryz.func55, Tryz.ntmps55
  go_wp2_with ((at_make; refine wpList_make_full _ rfl _ _ 81 rfl w.heap.size 23 i3 (.slice none 0 0) 1 Tryz.underlying81 hi3 hz30 hz31 _ _ _ _ N rfl rfl (by go_num) (by go_num) (by rw [hz32]; omega) (by unfold maxLen; omega) HD.out.1.size ?_))
  intro w1 ho hg
  have D1 : Below w.heap.size w w1 := HD.out.1.grown hg HD.out.1.size (by intro k hk; cases hk)
  have D01 : Below W0.heap.size W0 w1 := (Below.refl _ _).grown hg (Nat.le_refl _) (by intro k hk; cases hk)
  have B1 : w1.heap[w.heap.size]? = _ := (D01.block _ (Array.getElem?_eq_some_iff.1 HD.out.2.1).1).trans HD.out.2.1
  have j4 : w1.cell? ⟨w.heap.size, 4, none⟩ = some (.slice a3 L c3) := cell_of B1 rfl
  have G0 := hide (gr_made (bk := false) ho)
  have HD1 := hide D1
  clear ho hg D1 D01 B1
  have hHB : w.heap.size ≤ W0.heap.size := HD.out.1.size
  generalize W0.heap.size = H at G0 hHB
  go_wp2_with fail
  go_loopw [16] (fun iv wr => ∃ i : Nat, i ≤ L ∧ iv = .int .i64 (i : Int) ∧ Hid (∃ F, GrI w.heap.size wr H N (rowI false (Ed.take i)) F ∧ Below w.heap.size w wr)) (fun iv _ => L - (intOf iv).toNat)
  case atStart => exact ⟨0, Nat.zero_le _, rfl, hide ⟨_, G0.out, HD1.out⟩⟩
  case round =>
    obtain ⟨i, hi, rfl, HY⟩ := hrel
    obtain ⟨F, hG, hD⟩ := HY.out
    by_cases hlt : i < L
    · have l0 : (i : Int) < (L : Int) := by omega
      have i0 : (0 : Int) ≤ (i : Int) := by omega
      have hir : i < Ed.length := by have := HD.out.2.2; omega
      obtain ⟨g, o, rfl, r1, r2, r3⟩ := (HR0.out.on hD) i hir
      obtain ⟨x1, x2, x3, hx⟩ : ∃ x1 x2 x3, Ed[i] = (x1, x2, x3) := ⟨_, _, _, rfl⟩
      rw [hx] at r1 r2 r3
      obtain ⟨r, hrN, er⟩ := H1.out Ed[i] (List.getElem_mem hir)
      rw [hx] at er
      obtain rfl : x1 = (r : Int) := er
      have HX := hide hx
      clear hx
      have cH : wr.cell? ⟨H, r, none⟩ = some (F r) := hG.tab.at r hrN
      have zH : wr.frozen? ⟨H, r, none⟩ = false := hG.tab.fz r
      have hHl := hG.tab.lt
      have r0' : (0 : Int) ≤ (r : Int) := by omega
      have r1' : (r : Int) < (N : Int) := by omega
      have HG := hide (And.intro hG hD)
      clear hG hD HY
      go_wp2_with (go_at_call 31; refine (fwd_any _ (r : Int) x2 x3).mono ?_; rintro e w3 ⟨rfl, d3⟩)
      have D3 : Below wr.heap.size wr w3 := ((Below.refl _ _).alloc (Nat.le_refl _) _).trans (d3.mono (by simp))
      have q0 : wr.heap.size < w3.heap.size := Nat.lt_of_lt_of_le (by simp) d3.size
      have B3 : w3.heap[wr.heap.size]? = some (.cells #[.int .i64 (r : Int), .int .i64 x2, .int .i64 x3] 35 (0, 0)) := (d3.block _ (by simp)).trans (World.alloc_heap_new _ _)
      have k0 : w3.cell? ⟨wr.heap.size, 0, none⟩ = some (.int .i64 (r : Int)) := cell_of B3 rfl
      have k1 : w3.cell? ⟨wr.heap.size, 1, none⟩ = some (.int .i64 x2) := cell_of B3 rfl
      have k2 : w3.cell? ⟨wr.heap.size, 2, none⟩ = some (.int .i64 x3) := cell_of B3 rfl
      have G3 := HG.out.1.below D3
      obtain ⟨v, hv⟩ : ∃ v, F r = v := ⟨_, rfl⟩
      have cH3 : w3.cell? ⟨H, r, none⟩ = some v := by rw [← hv]; exact G3.tab.at r hrN
      have ow := G3.own r hrN
      rw [hv] at ow
      obtain ⟨q, hq⟩ : ∃ q, (rowI false (Ed.take i) r).length = q := ⟨_, rfl⟩
      rw [hq] at ow
      have hqL : q ≤ L := by rw [← hq]; exact Nat.le_trans (List.length_filter_le _ _) (by rw [List.length_take]; omega)
      have OW := hide ow
      have HV := hide (And.intro hv (And.intro hq (And.intro G3 D3)))
      clear ow hv hq G3 D3 d3 r1 r2 r3 cH zH
      obtain ⟨e0, he0⟩ : ∃ e0, wr.heap.size = e0 := ⟨_, rfl⟩
      rw [he0] at k0 k1 k2 q0
      rw [he0]
      have HE0 := hide he0
      clear he0
      have hH3 : H < w3.heap.size := Nat.lt_of_lt_of_le hHl HV.out.2.2.2.size
      have ne2 : some e0 ≠ v.ownBlock := fun e => by
        have o1 := HG.out.1.own r hrN
        rw [HV.out.1] at o1
        have := (o1.lt e0 e.symm).2
        rw [HE0.out] at this
        omega
      have ne1 : some H ≠ v.ownBlock := fun e => own_ne OW.out HV.out.2.2.1.tab e.symm
      have hbs : w.heap.size ≤ w3.heap.size := Nat.le_trans HG.out.2.size HV.out.2.2.2.size
      have al : ∀ (o : Obj) (a : Addr) (u : Value), w3.cell? a = some u → (w3.alloc o).cell? a = some u := fun o a u h => (World.cell?_of_block (((Below.refl w3.heap.size w3).alloc (Nat.le_refl _) o).block a.block (World.block_lt_of_cell? w3 a h))).trans h
      have zH3 : w3.frozen? ⟨H, r, none⟩ = false := HV.out.2.2.1.tab.fz r
      have af : ∀ (o : Obj), (w3.alloc o).frozen? ⟨H, r, none⟩ = false := fun o => (World.frozen?_of_block (((Below.refl w3.heap.size w3).alloc (Nat.le_refl _) o).block H hH3)).trans zH3
      have t1 := fun o => al o _ _ cH3
      have t2 := fun o => al o _ _ k0
      have t3 := fun o => al o _ _ k1
      have t4 := fun o => al o _ _ k2
      have n1 := World.new_ne w3 ⟨H, r, none⟩ cH3
      have n2 := World.new_ne w3 ⟨e0, 0, none⟩ k0
      go_region_law ((refine step_append_lies _ (by rfl) _ _ _ (by rfl) w.heap.size 35 i5 _ 3 24 Tryz.underlying23 hi5 hz50 hz51 hz52 rfl (by omega) v q _ (by rfl) (by first | exact OW.out.alloc _ | exact OW.out) _ 1 1 [.int .i64 (r : Int), .int .i64 x2, .int .i64 x3] (by rfl) (by rfl) (World.news_of_block (cs := #[.int .i64 (r : Int), .int .i64 x2, .int .i64 x3]) (t := 35) (fr := (0, 0)) (heap_alloc_new _ _)) (by simp [Value.oneCell']) (by omega) (by unfold maxLen; omega) (by omega) (by first | exact hbs | (simp; omega)) (w3.heap.size + 1) (by simp) ?_; intro g9 c9 w4 ho4 hg4 ha4 hl4; have hg5 : (w3.alloc (.cells #[.int .i64 (r : Int), .int .i64 x2, .int .i64 x3] 35)).grownBy w4 v.ownBlock := ⟨hg4.os, hg4.tape, hg4.output, hg4.size, hg4.block⟩; have cH4 : w4.cell? ⟨H, r, none⟩ = some v := hg4.cell (al _ _ _ cH3) ne1; have zH4 : w4.frozen? ⟨H, r, none⟩ = false := (hg4.frozen_far ⟨H, r, none⟩ (by simp; omega) ne1).trans (af _)))
      all_goals
        have J : Hid (∃ F', GrI w.heap.size (w4.setCell ⟨H, r, none⟩ (.slice (some ⟨g9, 0, none⟩) (q + 1) c9)) H N (rowI false (Ed.take (i + 1))) F' ∧ Below w.heap.size w (w4.setCell ⟨H, r, none⟩ (.slice (some ⟨g9, 0, none⟩) (q + 1) c9))) := hide (by
          obtain ⟨j1, j2⟩ := gr_step HV.out.2.2.1 hrN hir (by rw [HX.out]; rfl) HV.out.1 HV.out.2.1 (by rw [HX.out]; exact ho4) hg5 ha4 hHB
          exact ⟨_, j1, (HG.out.2.trans (HV.out.2.2.2.mono HG.out.2.size)).trans (j2.toBelow hbs (fun k hk => by
            rcases hk with hk | rfl
            · exact (OW.out.lt k hk).1
            · exact hHB))⟩)
        clear ho4 hg4 ha4 hl4 hg5 cH4 zH4
        go_wp2_with fail
        go_roundw
        case rel => exact ⟨i + 1, by omega, by go_num, J⟩
        case measure => simp [intOf]; omega
    · have l0 : ¬ (i : Int) < (L : Int) := by omega
      obtain rfl : i = L := by omega
      rw [← HD.out.2.2, List.take_length] at hG
      have HG := hide (And.intro hG hD)
      clear hG hD HY
      go_wp2_with fail
      go_ret
      exact ⟨H, rfl, ⟨F, HG.out.1⟩, HG.out.2⟩
set_option maxRecDepth 100000 in
set_option maxHeartbeats 4000000 in
theorem grouped_bwd (w : World) (N : Nat) (mv : Int) (a1 a2 a3 : Option Addr) (l1 l2 c1 c2 c3 : Nat) (Ed : List EdT) (hN : N ≤ 100000) (hr : RdE w a3 Ed) (hE : Ed.length ≤ 1000000) (h1 : ∀ e ∈ Ed, ∃ r : Nat, r < N ∧ (ends true e).1 = (r : Int)) :
    Calls Tryz.prog 55 #[.agg #[.int .i64 (N : Int), .int .i64 mv, .slice a1 l1 c1, .slice a2 l2 c2, .slice a3 Ed.length c3], .func (.func 34) #[] #[]] w fun e w' => ∃ H, e = .returned (.slice (some ⟨H, 0, none⟩) N N) ∧ (∃ F, GrI w.heap.size w' H N (rowI true Ed) F) ∧ Below w.heap.size w w' := by
  obtain ⟨L, eL⟩ : ∃ L, Ed.length = L := ⟨_, rfl⟩
  rw [eL] at hE
  rw [eL]
  obtain ⟨i3, hi3, hz30, hz31, hz32⟩ := info_parts info23
  obtain ⟨i5, hi5, hz50, hz51, hz52⟩ := info_parts info59
  obtain ⟨W0, hW0⟩ : ∃ W0, w.alloc (.cells #[.int .i64 (N : Int), .int .i64 mv, .slice a1 l1 c1, .slice a2 l2 c2, .slice a3 L c3] 25) = W0 := ⟨_, rfl⟩
  have d0 : Below w.heap.size w W0 := by rw [← hW0]; exact (Below.refl _ _).alloc (Nat.le_refl _) _
  have B0 : W0.heap[w.heap.size]? = some (.cells #[.int .i64 (N : Int), .int .i64 mv, .slice a1 l1 c1, .slice a2 l2 c2, .slice a3 L c3] 25 (0, 0)) := by rw [← hW0]; exact World.alloc_heap_new _ _
  have k0 : W0.cell? ⟨w.heap.size, 0, none⟩ = some (.int .i64 (N : Int)) := cell_of B0 rfl
  have k4 : W0.cell? ⟨w.heap.size, 4, none⟩ = some (.slice a3 L c3) := cell_of B0 rfl
  have HR0 := hide hr
  have HD := hide (And.intro d0 (And.intro B0 eL))
  have H1 := hide h1
  clear d0 hr B0 h1 eL
  go_enter Tryz.func55, Tryz.ntmps55
  go_wp2_with ((at_make; refine wpList_make_full _ rfl _ _ 81 rfl w.heap.size 23 i3 (.slice none 0 0) 1 Tryz.underlying81 hi3 hz30 hz31 _ _ _ _ N rfl rfl (by go_num) (by go_num) (by rw [hz32]; omega) (by unfold maxLen; omega) HD.out.1.size ?_))
  intro w1 ho hg
  have D1 : Below w.heap.size w w1 := HD.out.1.grown hg HD.out.1.size (by intro k hk; cases hk)
  have D01 : Below W0.heap.size W0 w1 := (Below.refl _ _).grown hg (Nat.le_refl _) (by intro k hk; cases hk)
  have B1 : w1.heap[w.heap.size]? = _ := (D01.block _ (Array.getElem?_eq_some_iff.1 HD.out.2.1).1).trans HD.out.2.1
  have j4 : w1.cell? ⟨w.heap.size, 4, none⟩ = some (.slice a3 L c3) := cell_of B1 rfl
  have G0 := hide (gr_made (bk := true) ho)
  have HD1 := hide D1
  clear ho hg D1 D01 B1
  have hHB : w.heap.size ≤ W0.heap.size := HD.out.1.size
  generalize W0.heap.size = H at G0 hHB
  go_wp2_with fail
  go_loopw [16] (fun iv wr => ∃ i : Nat, i ≤ L ∧ iv = .int .i64 (i : Int) ∧ Hid (∃ F, GrI w.heap.size wr H N (rowI true (Ed.take i)) F ∧ Below w.heap.size w wr)) (fun iv _ => L - (intOf iv).toNat)
  case atStart => exact ⟨0, Nat.zero_le _, rfl, hide ⟨_, G0.out, HD1.out⟩⟩
  case round =>
    obtain ⟨i, hi, rfl, HY⟩ := hrel
    obtain ⟨F, hG, hD⟩ := HY.out
    by_cases hlt : i < L
    · have l0 : (i : Int) < (L : Int) := by omega
      have i0 : (0 : Int) ≤ (i : Int) := by omega
      have hir : i < Ed.length := by have := HD.out.2.2; omega
      obtain ⟨g, o, rfl, r1, r2, r3⟩ := (HR0.out.on hD) i hir
      obtain ⟨x1, x2, x3, hx⟩ : ∃ x1 x2 x3, Ed[i] = (x1, x2, x3) := ⟨_, _, _, rfl⟩
      rw [hx] at r1 r2 r3
      obtain ⟨r, hrN, er⟩ := H1.out Ed[i] (List.getElem_mem hir)
      rw [hx] at er
      obtain rfl : x3 = (r : Int) := er
      have HX := hide hx
      clear hx
      have cH : wr.cell? ⟨H, r, none⟩ = some (F r) := hG.tab.at r hrN
      have zH : wr.frozen? ⟨H, r, none⟩ = false := hG.tab.fz r
      have hHl := hG.tab.lt
      have r0' : (0 : Int) ≤ (r : Int) := by omega
      have r1' : (r : Int) < (N : Int) := by omega
      have HG := hide (And.intro hG hD)
      clear hG hD HY
      go_wp2_with (go_at_call 34; refine (bwd_any _ x1 x2 (r : Int)).mono ?_; rintro e w3 ⟨rfl, d3⟩)
      have D3 : Below wr.heap.size wr w3 := ((Below.refl _ _).alloc (Nat.le_refl _) _).trans (d3.mono (by simp))
      have q0 : wr.heap.size < w3.heap.size := Nat.lt_of_lt_of_le (by simp) d3.size
      have B3 : w3.heap[wr.heap.size]? = some (.cells #[.int .i64 x1, .int .i64 x2, .int .i64 (r : Int)] 35 (0, 0)) := (d3.block _ (by simp)).trans (World.alloc_heap_new _ _)
      have k0 : w3.cell? ⟨wr.heap.size, 0, none⟩ = some (.int .i64 x1) := cell_of B3 rfl
      have k1 : w3.cell? ⟨wr.heap.size, 1, none⟩ = some (.int .i64 x2) := cell_of B3 rfl
      have k2 : w3.cell? ⟨wr.heap.size, 2, none⟩ = some (.int .i64 (r : Int)) := cell_of B3 rfl
      have G3 := HG.out.1.below D3
      obtain ⟨v, hv⟩ : ∃ v, F r = v := ⟨_, rfl⟩
      have cH3 : w3.cell? ⟨H, r, none⟩ = some v := by rw [← hv]; exact G3.tab.at r hrN
      have ow := G3.own r hrN
      rw [hv] at ow
      obtain ⟨q, hq⟩ : ∃ q, (rowI true (Ed.take i) r).length = q := ⟨_, rfl⟩
      rw [hq] at ow
      have hqL : q ≤ L := by rw [← hq]; exact Nat.le_trans (List.length_filter_le _ _) (by rw [List.length_take]; omega)
      have OW := hide ow
      have HV := hide (And.intro hv (And.intro hq (And.intro G3 D3)))
      clear ow hv hq G3 D3 d3 r1 r2 r3 cH zH
      obtain ⟨e0, he0⟩ : ∃ e0, wr.heap.size = e0 := ⟨_, rfl⟩
      rw [he0] at k0 k1 k2 q0
      rw [he0]
      have HE0 := hide he0
      clear he0
      have hH3 : H < w3.heap.size := Nat.lt_of_lt_of_le hHl HV.out.2.2.2.size
      have ne2 : some e0 ≠ v.ownBlock := fun e => by
        have o1 := HG.out.1.own r hrN
        rw [HV.out.1] at o1
        have := (o1.lt e0 e.symm).2
        rw [HE0.out] at this
        omega
      have ne1 : some H ≠ v.ownBlock := fun e => own_ne OW.out HV.out.2.2.1.tab e.symm
      have hbs : w.heap.size ≤ w3.heap.size := Nat.le_trans HG.out.2.size HV.out.2.2.2.size
      have al : ∀ (o : Obj) (a : Addr) (u : Value), w3.cell? a = some u → (w3.alloc o).cell? a = some u := fun o a u h => (World.cell?_of_block (((Below.refl w3.heap.size w3).alloc (Nat.le_refl _) o).block a.block (World.block_lt_of_cell? w3 a h))).trans h
      have zH3 : w3.frozen? ⟨H, r, none⟩ = false := HV.out.2.2.1.tab.fz r
      have af : ∀ (o : Obj), (w3.alloc o).frozen? ⟨H, r, none⟩ = false := fun o => (World.frozen?_of_block (((Below.refl w3.heap.size w3).alloc (Nat.le_refl _) o).block H hH3)).trans zH3
      have t1 := fun o => al o _ _ cH3
      have t2 := fun o => al o _ _ k0
      have t3 := fun o => al o _ _ k1
      have t4 := fun o => al o _ _ k2
      have n1 := World.new_ne w3 ⟨H, r, none⟩ cH3
      have n2 := World.new_ne w3 ⟨e0, 0, none⟩ k0
      go_region_law ((refine step_append_lies _ (by rfl) _ _ _ (by rfl) w.heap.size 35 i5 _ 3 24 Tryz.underlying23 hi5 hz50 hz51 hz52 rfl (by omega) v q _ (by rfl) (by first | exact OW.out.alloc _ | exact OW.out) _ 1 1 [.int .i64 x1, .int .i64 x2, .int .i64 (r : Int)] (by rfl) (by rfl) (World.news_of_block (cs := #[.int .i64 x1, .int .i64 x2, .int .i64 (r : Int)]) (t := 35) (fr := (0, 0)) (heap_alloc_new _ _)) (by simp [Value.oneCell']) (by omega) (by unfold maxLen; omega) (by omega) (by first | exact hbs | (simp; omega)) (w3.heap.size + 1) (by simp) ?_; intro g9 c9 w4 ho4 hg4 ha4 hl4; have hg5 : (w3.alloc (.cells #[.int .i64 x1, .int .i64 x2, .int .i64 (r : Int)] 35)).grownBy w4 v.ownBlock := ⟨hg4.os, hg4.tape, hg4.output, hg4.size, hg4.block⟩; have cH4 : w4.cell? ⟨H, r, none⟩ = some v := hg4.cell (al _ _ _ cH3) ne1; have zH4 : w4.frozen? ⟨H, r, none⟩ = false := (hg4.frozen_far ⟨H, r, none⟩ (by simp; omega) ne1).trans (af _)))
      all_goals
        have J : Hid (∃ F', GrI w.heap.size (w4.setCell ⟨H, r, none⟩ (.slice (some ⟨g9, 0, none⟩) (q + 1) c9)) H N (rowI true (Ed.take (i + 1))) F' ∧ Below w.heap.size w (w4.setCell ⟨H, r, none⟩ (.slice (some ⟨g9, 0, none⟩) (q + 1) c9))) := hide (by
          obtain ⟨j1, j2⟩ := gr_step HV.out.2.2.1 hrN hir (by rw [HX.out]; rfl) HV.out.1 HV.out.2.1 (by rw [HX.out]; exact ho4) hg5 ha4 hHB
          exact ⟨_, j1, (HG.out.2.trans (HV.out.2.2.2.mono HG.out.2.size)).trans (j2.toBelow hbs (fun k hk => by
            rcases hk with hk | rfl
            · exact (OW.out.lt k hk).1
            · exact hHB))⟩)
        clear ho4 hg4 ha4 hl4 hg5 cH4 zH4
        go_wp2_with fail
        go_roundw
        case rel => exact ⟨i + 1, by omega, by go_num, J⟩
        case measure => simp [intOf]; omega
    · have l0 : ¬ (i : Int) < (L : Int) := by omega
      obtain rfl : i = L := by omega
      rw [← HD.out.2.2, List.take_length] at hG
      have HG := hide (And.intro hG hD)
      clear hG hD HY
      go_wp2_with fail
      go_ret
      exact ⟨H, rfl, ⟨F, HG.out.1⟩, HG.out.2⟩
end Go.Proofs.YtojnlpicgemlaabGreatDoor
namespace Go.Proofs.YtojnlpicgemlaabGreatDoor
open Go.RowKit Go.Maps
attribute [local go_sem] Oper.semAt_some

/-! ### The lengths of the shortest ways -/
def stepE (bk : Bool) (Ed : List EdT) (p r : Nat) : Prop := ∃ e ∈ Ed, ends bk e = ((p : Int), (r : Int))
/-- While the lengths are laid out. -/
structure LenA (w wr : World) (b gl N fn i : Nat) (bx : Obj) : Prop where
  row : Mrw wr gl 3 N (fun _ => .int .i64 (-1)) i
  box : Mrw wr b 78 5 (sF (.func (.func fn) #[] #[]) (.slice none 0 0) 0 0 (.slice (some ⟨gl, 0, none⟩) N N)) 5
  arg : wr.heap[w.heap.size]? = some bx
  low : Below w.heap.size w wr
  lg : w.heap.size < gl
  lb : gl < b
theorem LenA.put {w wr : World} {b gl N fn i : Nat} {bx : Obj} (h : LenA w wr b gl N fn i bx) (hi : i < N) : LenA w (wr.setCell ⟨gl, i, none⟩ (.int .i64 (-1))) b gl N fn (i + 1) bx :=
  have o := only_set wr gl i (.int .i64 (-1))
  ⟨h.row.put hi _ rfl, h.box.only o (fun e => by have := h.lb; omega), (o.block _ (Array.getElem?_eq_some_iff.1 h.arg).1 (fun e => by have := h.lg; omega)).trans h.arg, h.low.trans (o.toBelow h.low.size (fun k hk => by have := h.lg; omega)), h.lg, h.lb⟩
/-- While the first states are met. -/
def LenB (w wb wr : World) (b gl N fn K : Nat) (Fr : List Int) (j : Nat) : Prop :=
  ∃ (T : List Nat) (len : Nat → Int) (m f : Nat) (ao : Option Addr), SrAt w.heap.size wr b (.func (.func fn) #[] #[]) gl N m f ao (natL T) len ∧ T.Nodup ∧ (∀ q, q ∈ T ↔ (q : Int) ∈ Fr.take j) ∧ (∀ q, len q = if q ∈ T then 0 else -1) ∧ m ≤ K ∧ unl N len + T.length ≤ N ∧ SFr w.heap.size wb wr
theorem unl_le (N : Nat) (len : Nat → Int) : unl N len ≤ N := by
  have := List.countP_le_length (p := fun q => decide (len q = -1)) (l := List.range N)
  rw [List.length_range] at this
  exact this
theorem lenB_nil {w wb : World} {b gl N fn K : Nat} {bx : Obj} (Fr : List Int) (h : LenA w wb b gl N fn N bx) : LenB w wb wb b gl N fn K Fr 0 :=
  ⟨[], fun _ => -1, 0, 0, none, ⟨⟨h.box, Nat.le_refl _, fun _ => ⟨rfl, rfl⟩, fun h0 => by omega⟩, h.row, by simp, by have := h.lg; have := h.lb; omega, by have := h.lg; omega, fun g e => by cases e⟩, List.nodup_nil, fun q => by simp, fun q => by simp, Nat.zero_le _, by have := unl_le N (fun _ => -1); simpa using this, SFr.refl _ _⟩
theorem lenB_old {w wb wr : World} {b gl N fn K : Nat} {Fr : List Int} {j p : Nat} {T : List Nat} {len : Nat → Int} {m f : Nat} {ao : Option Addr} (hs : SrAt w.heap.size wr b (.func (.func fn) #[] #[]) gl N m f ao (natL T) len) (hT : T.Nodup) (hq : ∀ q, q ∈ T ↔ (q : Int) ∈ Fr.take j) (hl : ∀ q, len q = if q ∈ T then 0 else -1) (hm : m ≤ K) (hu : unl N len + T.length ≤ N) (hf : SFr w.heap.size wb wr)
    (hj : j < Fr.length) (ep : Fr[j] = (p : Int)) (hp : p ∈ T) : LenB w wb wr b gl N fn K Fr (j + 1) := by
  refine ⟨T, len, m, f, ao, hs, hT, fun q => ?_, hl, hm, hu, hf⟩
  rw [List.take_add_one, List.getElem?_eq_getElem hj, ep, hq q]
  simp only [Option.toList_some, List.mem_append, List.mem_singleton]
  refine ⟨.inl, fun h => h.elim id fun e => ?_⟩
  have : q = p := by omega
  rw [this]
  exact (hq p).1 hp
theorem lenB_new {w wb w4 : World} {b gl N fn K : Nat} {Fr : List Int} {j p : Nat} {T : List Nat} {len : Nat → Int} {m f : Nat} {ao : Option Addr} (hs : SrAt w.heap.size w4 b (.func (.func fn) #[] #[]) gl N m f ao (natL T ++ [(p : Int)]) (fun c => if c = p then 0 else len c)) (hT : T.Nodup) (hq : ∀ q, q ∈ T ↔ (q : Int) ∈ Fr.take j) (hl : ∀ q, len q = if q ∈ T then 0 else -1) (hm : m ≤ K) (hu : unl N len + T.length ≤ N) (hf : SFr w.heap.size wb w4)
    (hj : j < Fr.length) (ep : Fr[j] = (p : Int)) (hpN : p < N) (hp : p ∉ T) : LenB w wb w4 b gl N fn K Fr (j + 1) := by
  have h1 : len p = -1 := by rw [hl p, if_neg hp]
  have hu2 := unl_put (len := len) (n := 0) hpN h1 (by omega)
  refine ⟨T ++ [p], putL len p 0, m, f, ao, by rw [natL_snoc]; exact hs, ?_, fun q => ?_, fun q => ?_, hm, by rw [List.length_append, List.length_singleton]; omega, hf⟩
  · rw [List.nodup_append]
    refine ⟨hT, by simp, fun a ha b hb e => ?_⟩
    simp at hb
    subst hb
    subst e
    exact hp ha
  · rw [List.take_add_one, List.getElem?_eq_getElem hj, ep]
    simp only [Option.toList_some, List.mem_append, List.mem_singleton]
    rw [hq q]
    exact or_congr Iff.rfl (by omega)
  · by_cases e : q = p
    · subst e
      rw [putL_same, if_pos (by simp)]
    · rw [putL_ne _ _ e, hl q]
      simp [e]
theorem len_le {N : Nat} {T : List Nat} {len : Nat → Int} (hl : ∀ q, len q = if q ∈ T then 0 else -1) (hu : unl N len + T.length ≤ N) : ∀ q, q < N → len q + (unl N len : Int) + 1 ≤ N := fun q _ => by
  have := unl_le N len
  have h := hl q
  by_cases e : q ∈ T
  · rw [if_pos e] at h
    have := List.length_pos_of_mem e
    omega
  · rw [if_neg e] at h; omega
theorem row_in {N : Nat} {bk : Bool} {Ed : List EdT} (h : ∀ e ∈ Ed, ∃ p r : Nat, p < N ∧ r < N ∧ ends bk e = ((p : Int), (r : Int))) : ∀ p, p < N → ∀ e ∈ rowI bk Ed p, ∃ r : Nat, r < N ∧ (ends bk e).2 = (r : Int) ∧ stepE bk Ed p r := fun p _ e he => by
  obtain ⟨h1, h2⟩ := List.mem_filter.1 he
  have h2 : (ends bk e).1 = (p : Int) := by simpa using h2
  obtain ⟨p', r, _, hr, e2⟩ := h e h1
  refine ⟨r, hr, by rw [e2], e, h1, ?_⟩
  rw [e2] at h2 ⊢
  exact Prod.ext h2 rfl
theorem row_all {bk : Bool} {Ed : List EdT} : ∀ p r, stepE bk Ed p r → ∃ e ∈ rowI bk Ed p, (ends bk e).2 = (r : Int) := fun p r ⟨e, he, h⟩ => ⟨e, List.mem_filter.2 ⟨he, by simp [h]⟩, by rw [h]⟩
set_option maxRecDepth 100000 in
set_option maxHeartbeats 4000000 in
theorem lengths_fwd (w : World) (N : Nat) (mv : Int) (a1 a2 a3 af : Option Addr) (n1 n2 c1 c2 c3 cf : Nat) (Ed : List EdT) (Fr : List Int) (hN : N ≤ 100000) (hr : RdE w a3 Ed) (hf : RdN w af Fr) (hE : Ed.length ≤ 1000000) (hF : Fr.length ≤ 4194304)
    (h1 : ∀ e ∈ Ed, ∃ p r : Nat, p < N ∧ r < N ∧ ends false e = ((p : Int), (r : Int))) (h2 : ∀ x ∈ Fr, ∃ q : Nat, q < N ∧ x = (q : Int)) :
    Calls Tryz.prog 30 #[.agg #[.int .i64 (N : Int), .int .i64 mv, .slice a1 n1 c1, .slice a2 n2 c2, .slice a3 Ed.length c3], .slice af Fr.length cf, .func (.func 31) #[] #[]] w fun e w' => ∃ gl, e = .returned (.slice (some ⟨gl, 0, none⟩) N N) ∧ w.heap.size ≤ gl ∧ (∃ len, Mrw w' gl 3 N (fun c => .int .i64 (len c)) N ∧ Bfs N (fun q => (q : Int) ∈ Fr) (stepE false Ed) [] len ∧ ∀ q, q < N → len q < N) ∧ Below w.heap.size w w' := by
  obtain ⟨L, eL⟩ : ∃ L, Ed.length = L := ⟨_, rfl⟩
  obtain ⟨M, eM⟩ : ∃ M, Fr.length = M := ⟨_, rfl⟩
  rw [eM] at hF
  rw [eL, eM]
  obtain ⟨i3, hi3, hz30, hz31, hz32⟩ := info_parts info3
  obtain ⟨W0, hW0⟩ : ∃ W0, w.alloc (.cells #[.int .i64 (N : Int), .int .i64 mv, .slice a1 n1 c1, .slice a2 n2 c2, .slice a3 L c3] 25) = W0 := ⟨_, rfl⟩
  have d0 : Below w.heap.size w W0 := by rw [← hW0]; exact (Below.refl _ _).alloc (Nat.le_refl _) _
  have B0 : W0.heap[w.heap.size]? = some (.cells #[.int .i64 (N : Int), .int .i64 mv, .slice a1 n1 c1, .slice a2 n2 c2, .slice a3 L c3] 25 (0, 0)) := by rw [← hW0]; exact World.alloc_heap_new _ _
  have k0 : W0.cell? ⟨w.heap.size, 0, none⟩ = some (.int .i64 (N : Int)) := cell_of B0 rfl
  have HR := hide (And.intro hr (And.intro hf (And.intro h1 (And.intro h2 (And.intro eL (And.intro eM hE))))))
  have HD := hide (And.intro d0 B0)
  clear d0 hr hf B0 h1 h2 eL eM hE
  go_enter Tryz.func30, Tryz.ntmps30
  go_wp2_with ((at_make; refine wpList_make_full _ rfl _ _ 22 rfl w.heap.size 3 i3 (.int .i64 0) 1 Tryz.underlying22 hi3 hz30 hz31 _ _ _ _ N rfl rfl (by go_num) (by go_num) (by rw [hz32]; omega) (by unfold maxLen; omega) HD.out.1.size ?_))
  intro w1 ho hg
  have D1 : Below w.heap.size w w1 := HD.out.1.grown hg HD.out.1.size (by intro k hk; cases hk)
  have D01 : Below W0.heap.size W0 w1 := (Below.refl _ _).grown hg (Nat.le_refl _) (by intro k hk; cases hk)
  have B1 := (D01.block _ (Array.getElem?_eq_some_iff.1 HD.out.2).1).trans HD.out.2
  have M1 : Mrw w1 W0.heap.size 3 (N * 1) (fun _ => .int .i64 (-1)) 0 := Mrw.ofRow _ ho
  rw [Nat.mul_one] at M1
  have hgB : w.heap.size < W0.heap.size := (Array.getElem?_eq_some_iff.1 HD.out.2).1
  have HD1 := hide (And.intro D1 (And.intro B1 (And.intro M1 hgB)))
  clear ho hg D1 D01 B1 M1 hgB
  go_wp2_with fail
  obtain ⟨W2, hW2⟩ : ∃ W2, w1.alloc (.cells #[.func (.func 31) #[] #[], .slice none 0 0, .int .i64 0, .int .i64 0, .slice (some ⟨W0.heap.size, 0, none⟩) N N] 78) = W2 := ⟨_, rfl⟩
  have I0 : LenA w W2 w1.heap.size W0.heap.size N 31 0 (.cells #[.int .i64 (N : Int), .int .i64 mv, .slice a1 n1 c1, .slice a2 n2 c2, .slice a3 L c3] 25 (0, 0)) := by
    have d2 : Below w1.heap.size w1 W2 := by rw [← hW2]; exact (Below.refl _ _).alloc (Nat.le_refl _) _
    refine ⟨HD1.out.2.2.1.below d2 HD1.out.2.2.1.lt, ⟨_, by rw [← hW2]; exact World.alloc_heap_new _ _, rfl, fun j hj => ?_⟩, (d2.block _ (Array.getElem?_eq_some_iff.1 HD1.out.2.1).1).trans HD1.out.2.1, HD1.out.1.trans (d2.mono HD1.out.1.size), HD1.out.2.2.2, HD1.out.2.2.1.lt⟩
    rcases j with _ | _ | _ | _ | _ | j
    · rfl
    · rfl
    · rfl
    · rfl
    · rfl
    · omega
  rw [hW2]
  clear hW2 HD1 HD k0 hW0
  generalize w1.heap.size = b at I0
  generalize W0.heap.size = gl at I0
  have HI := hide I0
  clear I0
  go_loopw [19] (fun iv wr => ∃ i : Nat, i ≤ N ∧ iv = .int .i64 (i : Int) ∧ Hid (LenA w wr b gl N 31 i (.cells #[.int .i64 (N : Int), .int .i64 mv, .slice a1 n1 c1, .slice a2 n2 c2, .slice a3 L c3] 25 (0, 0)))) (fun iv _ => N - (intOf iv).toNat)
  case atStart => exact ⟨0, Nat.zero_le _, rfl, HI⟩
  case round =>
    obtain ⟨i, hi, rfl, HY⟩ := hrel
    by_cases hlt : i < N
    · have l0 : (i : Int) < (N : Int) := by omega
      have i0 : (0 : Int) ≤ (i : Int) := by omega
      have c4 : wr.cell? ⟨b, 4, none⟩ = some (.slice (some ⟨gl, 0, none⟩) N N) := HY.out.box.at 4 (by omega)
      obtain ⟨u, cu⟩ := HY.out.row.cell i hlt
      have zu : wr.frozen? ⟨gl, i, none⟩ = false := HY.out.row.fz i
      go_wp2_with fail
      have J := hide (HY.out.put hlt)
      go_roundw
      case rel => exact ⟨i + 1, by omega, by go_num, J⟩
      case measure => simp [intOf]; omega
    · have l0 : ¬ (i : Int) < (N : Int) := by omega
      have hiN : i = N := by omega
      rw [hiN] at HY
      rename World => wb
      have HB0 := hide (lenB_nil (K := 2 * N + 1) Fr HY.out)
      go_wp2_with fail
      go_loopw [29] (fun iv wr => ∃ j : Nat, j ≤ M ∧ iv = .int .i64 (j : Int) ∧ Hid (LenB w wb wr b gl N 31 (2 * N + 1) Fr j)) (fun iv _ => M - (intOf iv).toNat)
      case atStart => exact ⟨0, Nat.zero_le _, rfl, HB0⟩
      case round =>
        obtain ⟨j, hj, rfl, HZ⟩ := hrel
        obtain ⟨T, len, m, f, ao, hs, hT, hq, hl, hm, hu, hfr⟩ := HZ.out
        by_cases hlt : j < M
        · have l1 : (j : Int) < (M : Int) := by omega
          have i1 : (0 : Int) ≤ (j : Int) := by omega
          have hjr : j < Fr.length := by have := HR.out.2.2.2.2.2.1; omega
          obtain ⟨g, o, rfl, r1⟩ := (HR.out.2.1.on (HY.out.low.trans (hfr.toBelow HY.out.low.size))) j hjr
          obtain ⟨p, hpN, ep⟩ := HR.out.2.2.2.1 Fr[j] (List.getElem_mem hjr)
          rw [ep] at r1
          have HS := hide hs
          clear hs HZ
          by_cases hpT : p ∈ T
          · have hn : len p ≠ -1 := by rw [hl p, if_pos hpT]; omega
            go_wp2_with (go_at_call 53; refine (meet_old w.heap.size wr b _ gl N m f ao (natL T) len p 0 HS.out hpN hn).mono ?_; rintro e w4 ⟨rfl, hw⟩; obtain rfl := hw.symm; clear hw)
            have J := hide (lenB_old HS.out hT hq hl hm hu hfr hjr ep hpT)
            go_roundw
            case rel => exact ⟨j + 1, by omega, by go_num, J⟩
            case measure => simp [intOf]; omega
          · have hn : len p = -1 := by rw [hl p, if_neg hpT]
            go_wp2_with (go_at_call 53; refine (meet_new w.heap.size wr b _ gl N m f ao (natL T) len p 0 (2 * N + 1) HS.out hpN hn hm (by rw [natL_len]; omega) (by omega) (Nat.le_trans HY.out.low.size hfr.size)).mono ?_; rintro e w4 ⟨rfl, m4, f4, ao4, h4, hm4, hf4⟩)
            have J := hide (lenB_new h4 hT hq hl hm4 hu (hfr.trans hf4) hjr ep hpN hpT)
            clear h4 hm4 hf4
            go_roundw
            case rel => exact ⟨j + 1, by omega, by go_num, J⟩
            case measure => simp [intOf]; omega
        · have l1 : ¬ (j : Int) < (M : Int) := by omega
          have hjM : j = Fr.length := by have := HR.out.2.2.2.2.2.1; omega
          rw [hjM, List.take_length] at hq
          have D3 : Below w.heap.size w wr := HY.out.low.trans (hfr.toBelow HY.out.low.size)
          have B3 := (hfr.block _ (Array.getElem?_eq_some_iff.1 HY.out.arg).1 (.inr ⟨_, _, _, HY.out.arg, by decide, by decide⟩)).trans HY.out.arg
          have k0 : wr.cell? ⟨w.heap.size, 0, none⟩ = some (.int .i64 (N : Int)) := cell_of B3 rfl
          have k1 : wr.cell? ⟨w.heap.size, 1, none⟩ = some (.int .i64 mv) := cell_of B3 rfl
          have k2 : wr.cell? ⟨w.heap.size, 2, none⟩ = some (.slice a1 n1 c1) := cell_of B3 rfl
          have k3 : wr.cell? ⟨w.heap.size, 3, none⟩ = some (.slice a2 n2 c2) := cell_of B3 rfl
          have k4 : wr.cell? ⟨w.heap.size, 4, none⟩ = some (.slice a3 L c3) := cell_of B3 rfl
          have hb : Bfs N (fun q => (q : Int) ∈ Fr) (stepE false Ed) T len := Bfs.first hT (fun q => (hq q).symm) (fun q hq' => by
            obtain ⟨q', h1, h2⟩ := HR.out.2.2.2.1 _ hq'
            omega) hl
          have HS := hide (And.intro hs (And.intro hb (And.intro D3 (And.intro hu hl))))
          clear hs hb hT hq HZ
          have TG := grouped_fwd wr N mv a1 a2 a3 n1 n2 c1 c2 c3 Ed hN (HR.out.1.on D3) HR.out.2.2.2.2.2.2 (fun e he => by
            obtain ⟨p, r, h1, h2, h3⟩ := HR.out.2.2.1 e he
            exact ⟨p, h1, by rw [h3]⟩)
          rw [HR.out.2.2.2.2.1] at TG
          go_wp2_with (go_at_call 55; refine TG.mono ?_; rintro e w5 ⟨H, rfl, ⟨F, hG⟩, d5⟩)
          have TR := run_fwd w.heap.size w5 b gl N m f ao T len H (2 * N + 1) (rowI false Ed) _ (stepE false Ed) (HS.out.1.below d5) HS.out.2.1 hG.at hm (Nat.le_refl _) (by omega) HS.out.2.2.2.1 (len_le HS.out.2.2.2.2 HS.out.2.2.2.1) (Nat.le_trans D3.size d5.size) (row_in HR.out.2.2.1) (row_all (bk := false) (Ed := Ed)) (fun p _ => Nat.le_trans (List.length_filter_le _ _) HR.out.2.2.2.2.2.2)
          have HG5 := hide (And.intro hG d5)
          have HD3 := hide D3
          clear hG d5 TG D3 hfr k0 k1 k2 k3 k4 B3
          go_wp2_with (go_at_call 54; refine TR.mono ?_; rintro e w6 ⟨rfl, len6, m6, f6, ao6, h6, hb6, hl6, hf6⟩; have c6 : w6.cell? ⟨b, 4, none⟩ = some (.slice (some ⟨gl, 0, none⟩) N N) := h6.ring.box.at 4 (by omega); have H6 := hide (And.intro h6 (And.intro hb6 (And.intro hl6 hf6))); clear h6 hb6 hl6 hf6)
          go_ret
          exact ⟨gl, rfl, Nat.le_of_lt HY.out.lg, ⟨len6, H6.out.1.row, H6.out.2.1, H6.out.2.2.1⟩, (HD3.out.trans (HG5.out.2.mono HD3.out.size)).trans (H6.out.2.2.2.toBelow (Nat.le_trans HD3.out.size HG5.out.2.size))⟩
set_option maxRecDepth 100000 in
set_option maxHeartbeats 4000000 in
theorem lengths_bwd (w : World) (N : Nat) (mv : Int) (a1 a2 a3 af : Option Addr) (n1 n2 c1 c2 c3 cf : Nat) (Ed : List EdT) (Fr : List Int) (hN : N ≤ 100000) (hr : RdE w a3 Ed) (hf : RdN w af Fr) (hE : Ed.length ≤ 1000000) (hF : Fr.length ≤ 4194304)
    (h1 : ∀ e ∈ Ed, ∃ p r : Nat, p < N ∧ r < N ∧ ends true e = ((p : Int), (r : Int))) (h2 : ∀ x ∈ Fr, ∃ q : Nat, q < N ∧ x = (q : Int)) :
    Calls Tryz.prog 30 #[.agg #[.int .i64 (N : Int), .int .i64 mv, .slice a1 n1 c1, .slice a2 n2 c2, .slice a3 Ed.length c3], .slice af Fr.length cf, .func (.func 34) #[] #[]] w fun e w' => ∃ gl, e = .returned (.slice (some ⟨gl, 0, none⟩) N N) ∧ w.heap.size ≤ gl ∧ (∃ len, Mrw w' gl 3 N (fun c => .int .i64 (len c)) N ∧ Bfs N (fun q => (q : Int) ∈ Fr) (stepE true Ed) [] len ∧ ∀ q, q < N → len q < N) ∧ Below w.heap.size w w' := by
  obtain ⟨L, eL⟩ : ∃ L, Ed.length = L := ⟨_, rfl⟩
  obtain ⟨M, eM⟩ : ∃ M, Fr.length = M := ⟨_, rfl⟩
  rw [eM] at hF
  rw [eL, eM]
  obtain ⟨i3, hi3, hz30, hz31, hz32⟩ := info_parts info3
  obtain ⟨W0, hW0⟩ : ∃ W0, w.alloc (.cells #[.int .i64 (N : Int), .int .i64 mv, .slice a1 n1 c1, .slice a2 n2 c2, .slice a3 L c3] 25) = W0 := ⟨_, rfl⟩
  have d0 : Below w.heap.size w W0 := by rw [← hW0]; exact (Below.refl _ _).alloc (Nat.le_refl _) _
  have B0 : W0.heap[w.heap.size]? = some (.cells #[.int .i64 (N : Int), .int .i64 mv, .slice a1 n1 c1, .slice a2 n2 c2, .slice a3 L c3] 25 (0, 0)) := by rw [← hW0]; exact World.alloc_heap_new _ _
  have k0 : W0.cell? ⟨w.heap.size, 0, none⟩ = some (.int .i64 (N : Int)) := cell_of B0 rfl
  have HR := hide (And.intro hr (And.intro hf (And.intro h1 (And.intro h2 (And.intro eL (And.intro eM hE))))))
  have HD := hide (And.intro d0 B0)
  clear d0 hr hf B0 h1 h2 eL eM hE
  go_enter Tryz.func30, Tryz.ntmps30
  go_wp2_with ((at_make; refine wpList_make_full _ rfl _ _ 22 rfl w.heap.size 3 i3 (.int .i64 0) 1 Tryz.underlying22 hi3 hz30 hz31 _ _ _ _ N rfl rfl (by go_num) (by go_num) (by rw [hz32]; omega) (by unfold maxLen; omega) HD.out.1.size ?_))
  intro w1 ho hg
  have D1 : Below w.heap.size w w1 := HD.out.1.grown hg HD.out.1.size (by intro k hk; cases hk)
  have D01 : Below W0.heap.size W0 w1 := (Below.refl _ _).grown hg (Nat.le_refl _) (by intro k hk; cases hk)
  have B1 := (D01.block _ (Array.getElem?_eq_some_iff.1 HD.out.2).1).trans HD.out.2
  have M1 : Mrw w1 W0.heap.size 3 (N * 1) (fun _ => .int .i64 (-1)) 0 := Mrw.ofRow _ ho
  rw [Nat.mul_one] at M1
  have hgB : w.heap.size < W0.heap.size := (Array.getElem?_eq_some_iff.1 HD.out.2).1
  have HD1 := hide (And.intro D1 (And.intro B1 (And.intro M1 hgB)))
  clear ho hg D1 D01 B1 M1 hgB
  go_wp2_with fail
  obtain ⟨W2, hW2⟩ : ∃ W2, w1.alloc (.cells #[.func (.func 34) #[] #[], .slice none 0 0, .int .i64 0, .int .i64 0, .slice (some ⟨W0.heap.size, 0, none⟩) N N] 78) = W2 := ⟨_, rfl⟩
  have I0 : LenA w W2 w1.heap.size W0.heap.size N 34 0 (.cells #[.int .i64 (N : Int), .int .i64 mv, .slice a1 n1 c1, .slice a2 n2 c2, .slice a3 L c3] 25 (0, 0)) := by
    have d2 : Below w1.heap.size w1 W2 := by rw [← hW2]; exact (Below.refl _ _).alloc (Nat.le_refl _) _
    refine ⟨HD1.out.2.2.1.below d2 HD1.out.2.2.1.lt, ⟨_, by rw [← hW2]; exact World.alloc_heap_new _ _, rfl, fun j hj => ?_⟩, (d2.block _ (Array.getElem?_eq_some_iff.1 HD1.out.2.1).1).trans HD1.out.2.1, HD1.out.1.trans (d2.mono HD1.out.1.size), HD1.out.2.2.2, HD1.out.2.2.1.lt⟩
    rcases j with _ | _ | _ | _ | _ | j
    · rfl
    · rfl
    · rfl
    · rfl
    · rfl
    · omega
  rw [hW2]
  clear hW2 HD1 HD k0 hW0
  generalize w1.heap.size = b at I0
  generalize W0.heap.size = gl at I0
  have HI := hide I0
  clear I0
  go_loopw [19] (fun iv wr => ∃ i : Nat, i ≤ N ∧ iv = .int .i64 (i : Int) ∧ Hid (LenA w wr b gl N 34 i (.cells #[.int .i64 (N : Int), .int .i64 mv, .slice a1 n1 c1, .slice a2 n2 c2, .slice a3 L c3] 25 (0, 0)))) (fun iv _ => N - (intOf iv).toNat)
  case atStart => exact ⟨0, Nat.zero_le _, rfl, HI⟩
  case round =>
    obtain ⟨i, hi, rfl, HY⟩ := hrel
    by_cases hlt : i < N
    · have l0 : (i : Int) < (N : Int) := by omega
      have i0 : (0 : Int) ≤ (i : Int) := by omega
      have c4 : wr.cell? ⟨b, 4, none⟩ = some (.slice (some ⟨gl, 0, none⟩) N N) := HY.out.box.at 4 (by omega)
      obtain ⟨u, cu⟩ := HY.out.row.cell i hlt
      have zu : wr.frozen? ⟨gl, i, none⟩ = false := HY.out.row.fz i
      go_wp2_with fail
      have J := hide (HY.out.put hlt)
      go_roundw
      case rel => exact ⟨i + 1, by omega, by go_num, J⟩
      case measure => simp [intOf]; omega
    · have l0 : ¬ (i : Int) < (N : Int) := by omega
      have hiN : i = N := by omega
      rw [hiN] at HY
      rename World => wb
      have HB0 := hide (lenB_nil (K := 2 * N + 1) Fr HY.out)
      go_wp2_with fail
      go_loopw [29] (fun iv wr => ∃ j : Nat, j ≤ M ∧ iv = .int .i64 (j : Int) ∧ Hid (LenB w wb wr b gl N 34 (2 * N + 1) Fr j)) (fun iv _ => M - (intOf iv).toNat)
      case atStart => exact ⟨0, Nat.zero_le _, rfl, HB0⟩
      case round =>
        obtain ⟨j, hj, rfl, HZ⟩ := hrel
        obtain ⟨T, len, m, f, ao, hs, hT, hq, hl, hm, hu, hfr⟩ := HZ.out
        by_cases hlt : j < M
        · have l1 : (j : Int) < (M : Int) := by omega
          have i1 : (0 : Int) ≤ (j : Int) := by omega
          have hjr : j < Fr.length := by have := HR.out.2.2.2.2.2.1; omega
          obtain ⟨g, o, rfl, r1⟩ := (HR.out.2.1.on (HY.out.low.trans (hfr.toBelow HY.out.low.size))) j hjr
          obtain ⟨p, hpN, ep⟩ := HR.out.2.2.2.1 Fr[j] (List.getElem_mem hjr)
          rw [ep] at r1
          have HS := hide hs
          clear hs HZ
          by_cases hpT : p ∈ T
          · have hn : len p ≠ -1 := by rw [hl p, if_pos hpT]; omega
            go_wp2_with (go_at_call 53; refine (meet_old w.heap.size wr b _ gl N m f ao (natL T) len p 0 HS.out hpN hn).mono ?_; rintro e w4 ⟨rfl, hw⟩; obtain rfl := hw.symm; clear hw)
            have J := hide (lenB_old HS.out hT hq hl hm hu hfr hjr ep hpT)
            go_roundw
            case rel => exact ⟨j + 1, by omega, by go_num, J⟩
            case measure => simp [intOf]; omega
          · have hn : len p = -1 := by rw [hl p, if_neg hpT]
            go_wp2_with (go_at_call 53; refine (meet_new w.heap.size wr b _ gl N m f ao (natL T) len p 0 (2 * N + 1) HS.out hpN hn hm (by rw [natL_len]; omega) (by omega) (Nat.le_trans HY.out.low.size hfr.size)).mono ?_; rintro e w4 ⟨rfl, m4, f4, ao4, h4, hm4, hf4⟩)
            have J := hide (lenB_new h4 hT hq hl hm4 hu (hfr.trans hf4) hjr ep hpN hpT)
            clear h4 hm4 hf4
            go_roundw
            case rel => exact ⟨j + 1, by omega, by go_num, J⟩
            case measure => simp [intOf]; omega
        · have l1 : ¬ (j : Int) < (M : Int) := by omega
          have hjM : j = Fr.length := by have := HR.out.2.2.2.2.2.1; omega
          rw [hjM, List.take_length] at hq
          have D3 : Below w.heap.size w wr := HY.out.low.trans (hfr.toBelow HY.out.low.size)
          have B3 := (hfr.block _ (Array.getElem?_eq_some_iff.1 HY.out.arg).1 (.inr ⟨_, _, _, HY.out.arg, by decide, by decide⟩)).trans HY.out.arg
          have k0 : wr.cell? ⟨w.heap.size, 0, none⟩ = some (.int .i64 (N : Int)) := cell_of B3 rfl
          have k1 : wr.cell? ⟨w.heap.size, 1, none⟩ = some (.int .i64 mv) := cell_of B3 rfl
          have k2 : wr.cell? ⟨w.heap.size, 2, none⟩ = some (.slice a1 n1 c1) := cell_of B3 rfl
          have k3 : wr.cell? ⟨w.heap.size, 3, none⟩ = some (.slice a2 n2 c2) := cell_of B3 rfl
          have k4 : wr.cell? ⟨w.heap.size, 4, none⟩ = some (.slice a3 L c3) := cell_of B3 rfl
          have hb : Bfs N (fun q => (q : Int) ∈ Fr) (stepE true Ed) T len := Bfs.first hT (fun q => (hq q).symm) (fun q hq' => by
            obtain ⟨q', h1, h2⟩ := HR.out.2.2.2.1 _ hq'
            omega) hl
          have HS := hide (And.intro hs (And.intro hb (And.intro D3 (And.intro hu hl))))
          clear hs hb hT hq HZ
          have TG := grouped_bwd wr N mv a1 a2 a3 n1 n2 c1 c2 c3 Ed hN (HR.out.1.on D3) HR.out.2.2.2.2.2.2 (fun e he => by
            obtain ⟨p, r, h1, h2, h3⟩ := HR.out.2.2.1 e he
            exact ⟨p, h1, by rw [h3]⟩)
          rw [HR.out.2.2.2.2.1] at TG
          go_wp2_with (go_at_call 55; refine TG.mono ?_; rintro e w5 ⟨H, rfl, ⟨F, hG⟩, d5⟩)
          have TR := run_bwd w.heap.size w5 b gl N m f ao T len H (2 * N + 1) (rowI true Ed) _ (stepE true Ed) (HS.out.1.below d5) HS.out.2.1 hG.at hm (Nat.le_refl _) (by omega) HS.out.2.2.2.1 (len_le HS.out.2.2.2.2 HS.out.2.2.2.1) (Nat.le_trans D3.size d5.size) (row_in HR.out.2.2.1) (row_all (bk := true) (Ed := Ed)) (fun p _ => Nat.le_trans (List.length_filter_le _ _) HR.out.2.2.2.2.2.2)
          have HG5 := hide (And.intro hG d5)
          have HD3 := hide D3
          clear hG d5 TG D3 hfr k0 k1 k2 k3 k4 B3
          go_wp2_with (go_at_call 54; refine TR.mono ?_; rintro e w6 ⟨rfl, len6, m6, f6, ao6, h6, hb6, hl6, hf6⟩; have c6 : w6.cell? ⟨b, 4, none⟩ = some (.slice (some ⟨gl, 0, none⟩) N N) := h6.ring.box.at 4 (by omega); have H6 := hide (And.intro h6 (And.intro hb6 (And.intro hl6 hf6))); clear h6 hb6 hl6 hf6)
          go_ret
          exact ⟨gl, rfl, Nat.le_of_lt HY.out.lg, ⟨len6, H6.out.1.row, H6.out.2.1, H6.out.2.2.1⟩, (HD3.out.trans (HG5.out.2.mono HD3.out.size)).trans (H6.out.2.2.2.toBelow (Nat.le_trans HD3.out.size HG5.out.2.size))⟩
end Go.Proofs.YtojnlpicgemlaabGreatDoor
