import Derived.Test.YtchoopnjckcohaaGreatDoorQaf
import Derived.Deep.RegionHeld3
import Derived.Deep.AppendLies
namespace Go.Proofs.YtchoopnjckcohaaGreatDoor
open Go.RowKit Go.Maps
attribute [local go_sem] Oper.semAt_some

/-! ### The edges by their near ends -/
theorem rdE_own {W : World} {B b cap : Nat} {X : List EdT} (h : W.ownsRow B 61 3 (.slice (some ⟨b, 0, none⟩) X.length cap) X.length (X.flatMap encE)) : RdE W (some ⟨b, 0, none⟩) X := fun j hj => by
  have := rdE_cells h j hj
  exact ⟨b, 0, rfl, by simpa using this⟩
theorem own_rdE {W : World} {B c : Nat} {b : Option Addr} {X : List EdT} (h : W.ownsRow B 61 3 (.slice b X.length c) X.length (X.flatMap encE)) : RdE W b X := by
  rcases h.2 with ⟨hv, hn⟩ | ⟨g, cap, cur, hv, _⟩
  · intro j hj; omega
  · cases hv
    exact rdE_own h
def rowI (bk : Bool) (Ed : List EdT) (q : Nat) : List EdT := Ed.filter fun e => decide ((ends bk e).1 = (q : Int))
structure GrI (B : Nat) (w : World) (H N : Nat) (row : Nat → List EdT) (F : Nat → Value) : Prop where
  tab : Mrw w H 23 N F N
  own : ∀ q, q < N → w.ownsRow B 61 3 (F q) (row q).length ((row q).flatMap encE)
  apart : ∀ q q' g, q < N → q' < N → (F q).ownBlock = some g → (F q').ownBlock = some g → q = q'
theorem GrI.below {B : Nat} {w w' : World} {H N : Nat} {row : Nat → List EdT} {F : Nat → Value} (h : GrI B w H N row F) (d : Below w.heap.size w w') : GrI B w' H N row F :=
  ⟨h.tab.below d h.tab.lt, fun q hq => row_only (h.own q hq) (Only.ofBelow (R := fun _ => False) d) (fun _ _ => id), h.apart⟩
theorem own_ne {B : Nat} {w : World} {v : Value} {n H N k : Nat} {xs : List Value} {F : Nat → Value} (h : w.ownsRow B 61 3 v n xs) (hM : Mrw w H 23 N F k) (e : v.ownBlock = some H) : False := by
  obtain ⟨cur, h1, _⟩ := hM
  rcases h.2 with ⟨hv, _⟩ | ⟨g', cap', cur', hv, hb, hg, _⟩
  · rw [hv] at e; cases e
  · rw [hv] at e
    cases e
    rw [h1] at hg
    cases hg
theorem info23 : (Tryz.prog.info? 23).map (fun i => (i.zero, i.size, i.bytes)) = some (some (.slice none 0 0), 1, 24) := by kernel_rfl
theorem gr_made {B : Nat} {w1 : World} {g N : Nat} {bk : Bool} (h : w1.ownsRow B 23 1 (.slice (some ⟨g, 0, none⟩) N N) N (madeCells #[.slice none 0 0] N).toList) : GrI B w1 g N (rowI bk (([] : List EdT).take 0)) (fun _ => .slice none 0 0) := by
  rw [toList_madeCells_one] at h
  refine ⟨?_, fun q _ => World.ownsRow_nil _ _ _ _, fun q q' g _ _ e => by cases e⟩
  rcases h.2 with ⟨hv, _⟩ | ⟨g', cap', cur, hv, hb, hg, h1, h2, h3, h4⟩
  · cases hv
  · cases hv
    refine ⟨cur, hg, by omega, fun j hj => ?_⟩
    rw [List.take_of_length_le (by simp; omega)] at h4
    have : cur.toList[j]? = some (.slice none 0 0) := by rw [h4]; simp [hj]
    simpa using this
theorem rowI_same {bk : Bool} {Ed : List EdT} {i r : Nat} (hi : i < Ed.length) (he : (ends bk Ed[i]).1 = (r : Int)) : rowI bk (Ed.take (i + 1)) r = rowI bk (Ed.take i) r ++ [Ed[i]] := by
  unfold rowI
  rw [List.take_add_one, List.getElem?_eq_getElem hi, List.filter_append]
  simp [he]
theorem rowI_else {bk : Bool} {Ed : List EdT} {i r q : Nat} (hi : i < Ed.length) (he : (ends bk Ed[i]).1 = (r : Int)) (hq : q ≠ r) : rowI bk (Ed.take (i + 1)) q = rowI bk (Ed.take i) q := by
  unfold rowI
  rw [List.take_add_one, List.getElem?_eq_getElem hi, List.filter_append]
  have : ¬ ((r : Int) = (q : Int)) := by omega
  simp [he, this]
theorem gr_step {B : Nat} {w3 w4 : World} {H N r q i g9 c9 : Nat} {bk : Bool} {Ed : List EdT} {F : Nat → Value} {v : Value} {o : Obj} (h : GrI B w3 H N (rowI bk (Ed.take i)) F) (hr : r < N) (hi : i < Ed.length) (he : (ends bk Ed[i]).1 = (r : Int)) (hv : F r = v) (hq : (rowI bk (Ed.take i) r).length = q)
    (ho : w4.ownsRow B 61 3 (.slice (some ⟨g9, 0, none⟩) (q + 1) c9) (q + 1) ((rowI bk (Ed.take i) r).flatMap encE ++ encE Ed[i])) (hg : (w3.alloc o).grownBy w4 v.ownBlock) (ha : v.ownBlock = some g9 ∨ g9 = w3.heap.size + 1) (hB : B ≤ H) :
    GrI B (w4.setCell ⟨H, r, none⟩ (.slice (some ⟨g9, 0, none⟩) (q + 1) c9)) H N (rowI bk (Ed.take (i + 1))) (fun c => if c = r then .slice (some ⟨g9, 0, none⟩) (q + 1) c9 else F c) ∧ Only w3 (w4.setCell ⟨H, r, none⟩ (.slice (some ⟨g9, 0, none⟩) (q + 1) c9)) (fun k => v.ownBlock = some k ∨ k = H) := by
  have hsz : (w3.alloc o).heap.size = w3.heap.size + 1 := by simp
  have O4 : Only w3 w4 (fun k => v.ownBlock = some k) := ⟨hg.os, hg.tape, hg.output, Nat.le_trans (by omega) hg.size, fun k hk hn => (hg.block k (by omega) (fun e => hn e.symm)).trans (((Below.refl w3.heap.size w3).alloc (Nat.le_refl _) o).block k hk)⟩
  have hvn : v.ownBlock ≠ some H := fun e => own_ne (h.own r hr) h.tab (by rw [hv]; exact e)
  have tab4 : Mrw w4 H 23 N F N := h.tab.only O4 hvn
  have hgH : g9 ≠ H := fun e => own_ne ho tab4 (by rw [e]; rfl)
  have OH := only_set w4 H r (.slice (some ⟨g9, 0, none⟩) (q + 1) c9)
  refine ⟨⟨tab4.upd r _, fun q' hq' => ?_, fun a b g ha' hb' ea eb => ?_⟩, ?_⟩
  · by_cases e : q' = r
    · subst e
      rw [if_pos rfl, rowI_same hi he, List.length_append, List.length_singleton, hq, List.flatMap_append]
      refine row_only (show w4.ownsRow B 61 3 _ _ _ by simpa using ho) OH fun k hk e => ?_
      cases hk
      exact hgH e
    · rw [if_neg e, rowI_else hi he e]
      refine row_only (row_only (h.own q' hq') O4 fun k hk e' => ?_) OH fun k hk e' => ?_
      · exact e (h.apart q' r k hq' hr hk (by rw [hv]; exact e'))
      · subst e'
        exact own_ne (h.own q' hq') h.tab hk
  · have key : ∀ c, c < N → c ≠ r → (F c).ownBlock = some g9 → False := fun c hc hne e => by
      rcases ha with ha | ha
      · exact hne (h.apart c r g9 hc hr e (by rw [hv]; exact ha))
      · have := ((h.own c hc).lt g9 e).2
        omega
    by_cases e1 : a = r <;> by_cases e2 : b = r
    · omega
    · subst e1
      rw [if_pos rfl] at ea
      rw [if_neg e2] at eb
      cases ea
      exact absurd eb (fun e => key b hb' e2 e)
    · subst e2
      rw [if_pos rfl] at eb
      rw [if_neg e1] at ea
      cases eb
      exact absurd ea (fun e => key a ha' e1 e)
    · rw [if_neg e1] at ea
      rw [if_neg e2] at eb
      exact h.apart a b g ha' hb' ea eb
  · exact (O4.mono fun k _ e => .inl e).trans (OH.mono fun k _ e => .inr e)
theorem GrI.at {B : Nat} {w : World} {H N : Nat} {row : Nat → List EdT} {F : Nat → Value} (h : GrI B w H N row F) : GrAt w H N row := by
  refine ⟨F, h.tab, fun q hq => ?_⟩
  have o := h.own q hq
  rcases o.2 with ⟨hv, h0⟩ | ⟨g, cap, cur, hv, hb, hg, _⟩
  · refine ⟨none, 0, by rw [hv, h0], fun j hj => by omega, fun g o e => by cases e⟩
  · rw [hv] at o
    exact ⟨_, cap, hv, own_rdE o, fun g' o' e => by cases e; exact ⟨_, _, hg⟩⟩
set_option maxRecDepth 100000 in
set_option maxHeartbeats 4000000 in
theorem grouped_fwd (w : World) (N : Nat) (mv : Int) (a1 a2 a3 : Option Addr) (l1 l2 c1 c2 c3 : Nat) (Ed : List EdT) (hN : N ≤ 100000) (hr : RdE w a3 Ed) (hE : Ed.length ≤ 1000000) (h1 : ∀ e ∈ Ed, ∃ r : Nat, r < N ∧ (ends false e).1 = (r : Int)) :
    Calls Tryz.prog 141 #[.agg #[.int .i64 (N : Int), .int .i64 mv, .slice a1 l1 c1, .slice a2 l2 c2, .slice a3 Ed.length c3], .func (.func 119) #[] #[]] w fun e w' => ∃ H, e = .returned (.slice (some ⟨H, 0, none⟩) N N) ∧ (∃ F, GrI w.heap.size w' H N (rowI false Ed) F) ∧ Below w.heap.size w w' := by
  obtain ⟨L, eL⟩ : ∃ L, Ed.length = L := ⟨_, rfl⟩
  rw [eL] at hE
  rw [eL]
  obtain ⟨i3, hi3, hz30, hz31, hz32⟩ := info_parts info23
  obtain ⟨i5, hi5, hz50, hz51, hz52⟩ := info_parts info59
  obtain ⟨W0, hW0⟩ : ∃ W0, w.alloc (.cells #[.int .i64 (N : Int), .int .i64 mv, .slice a1 l1 c1, .slice a2 l2 c2, .slice a3 L c3] 25) = W0 := ⟨_, rfl⟩
  have d0 : Below w.heap.size w W0 := by rw [← hW0]; exact (Below.refl _ _).alloc (Nat.le_refl _) _
  have B0 : W0.heap[w.heap.size]? = some (.cells #[.int .i64 (N : Int), .int .i64 mv, .slice a1 l1 c1, .slice a2 l2 c2, .slice a3 L c3] 25 (0, 0)) := by rw [← hW0]; exact World.alloc_heap_new _ _
  have k0 : W0.cell? ⟨w.heap.size, 0, none⟩ = some (.int .i64 (N : Int)) := cell_of B0 rfl
  have k4 : W0.cell? ⟨w.heap.size, 4, none⟩ = some (.slice a3 L c3) := cell_of B0 rfl
  have HR0 := hide hr
  have HD := hide (And.intro d0 (And.intro B0 eL))
  have H1 := hide h1
  clear d0 hr B0 h1 eL
  go_enter Tryz.func141, Tryz.ntmps141
  go_wp2_with ((at_make; refine wpList_make_full _ rfl _ _ 141 rfl w.heap.size 23 i3 (.slice none 0 0) 1 Tryz.underlying141 hi3 hz30 hz31 _ _ _ _ N rfl rfl (by go_num) (by go_num) (by rw [hz32]; omega) (by unfold maxLen; omega) HD.out.1.size ?_))
  intro w1 ho hg
  have D1 : Below w.heap.size w w1 := HD.out.1.grown hg HD.out.1.size (by intro k hk; cases hk)
  have D01 : Below W0.heap.size W0 w1 := (Below.refl _ _).grown hg (Nat.le_refl _) (by intro k hk; cases hk)
  have B1 : w1.heap[w.heap.size]? = _ := (D01.block _ (Array.getElem?_eq_some_iff.1 HD.out.2.1).1).trans HD.out.2.1
  have j4 : w1.cell? ⟨w.heap.size, 4, none⟩ = some (.slice a3 L c3) := cell_of B1 rfl
  have G0 := hide (gr_made (bk := false) ho)
  have HD1 := hide D1
  clear ho hg D1 D01 B1
  have hHB : w.heap.size ≤ W0.heap.size := HD.out.1.size
  generalize W0.heap.size = H at G0 hHB
  go_wp2_with fail
  go_loopw [16] (fun iv wr => ∃ i : Nat, i ≤ L ∧ iv = .int .i64 (i : Int) ∧ Hid (∃ F, GrI w.heap.size wr H N (rowI false (Ed.take i)) F ∧ Below w.heap.size w wr)) (fun iv _ => L - (intOf iv).toNat)
  case atStart => exact ⟨0, Nat.zero_le _, rfl, hide ⟨_, G0.out, HD1.out⟩⟩
  case round =>
    obtain ⟨i, hi, rfl, HY⟩ := hrel
    obtain ⟨F, hG, hD⟩ := HY.out
    by_cases hlt : i < L
    · have l0 : (i : Int) < (L : Int) := by omega
      have i0 : (0 : Int) ≤ (i : Int) := by omega
      have hir : i < Ed.length := by have := HD.out.2.2; omega
      obtain ⟨g, o, rfl, r1, r2, r3⟩ := (HR0.out.on hD) i hir
      obtain ⟨x1, x2, x3, hx⟩ : ∃ x1 x2 x3, Ed[i] = (x1, x2, x3) := ⟨_, _, _, rfl⟩
      rw [hx] at r1 r2 r3
      obtain ⟨r, hrN, er⟩ := H1.out Ed[i] (List.getElem_mem hir)
      rw [hx] at er
      obtain rfl : x1 = (r : Int) := er
      have HX := hide hx
      clear hx
      have cH : wr.cell? ⟨H, r, none⟩ = some (F r) := hG.tab.at r hrN
      have zH : wr.frozen? ⟨H, r, none⟩ = false := hG.tab.fz r
      have hHl := hG.tab.lt
      have r0' : (0 : Int) ≤ (r : Int) := by omega
      have r1' : (r : Int) < (N : Int) := by omega
      have HG := hide (And.intro hG hD)
      clear hG hD HY
      go_wp2_with (go_at_call 119; refine (fwd_any _ (r : Int) x2 x3).mono ?_; rintro e w3 ⟨rfl, d3⟩)
      have D3 : Below wr.heap.size wr w3 := ((Below.refl _ _).alloc (Nat.le_refl _) _).trans (d3.mono (by simp))
      have q0 : wr.heap.size < w3.heap.size := Nat.lt_of_lt_of_le (by simp) d3.size
      have B3 : w3.heap[wr.heap.size]? = some (.cells #[.int .i64 (r : Int), .int .i64 x2, .int .i64 x3] 61 (0, 0)) := (d3.block _ (by simp)).trans (World.alloc_heap_new _ _)
      have k0 : w3.cell? ⟨wr.heap.size, 0, none⟩ = some (.int .i64 (r : Int)) := cell_of B3 rfl
      have k1 : w3.cell? ⟨wr.heap.size, 1, none⟩ = some (.int .i64 x2) := cell_of B3 rfl
      have k2 : w3.cell? ⟨wr.heap.size, 2, none⟩ = some (.int .i64 x3) := cell_of B3 rfl
      have G3 := HG.out.1.below D3
      obtain ⟨v, hv⟩ : ∃ v, F r = v := ⟨_, rfl⟩
      have cH3 : w3.cell? ⟨H, r, none⟩ = some v := by rw [← hv]; exact G3.tab.at r hrN
      have ow := G3.own r hrN
      rw [hv] at ow
      obtain ⟨q, hq⟩ : ∃ q, (rowI false (Ed.take i) r).length = q := ⟨_, rfl⟩
      rw [hq] at ow
      have hqL : q ≤ L := by rw [← hq]; exact Nat.le_trans (List.length_filter_le _ _) (by rw [List.length_take]; omega)
      have OW := hide ow
      have HV := hide (And.intro hv (And.intro hq (And.intro G3 D3)))
      clear ow hv hq G3 D3 d3 r1 r2 r3 cH zH
      obtain ⟨e0, he0⟩ : ∃ e0, wr.heap.size = e0 := ⟨_, rfl⟩
      rw [he0] at k0 k1 k2 q0
      rw [he0]
      have HE0 := hide he0
      clear he0
      have hH3 : H < w3.heap.size := Nat.lt_of_lt_of_le hHl HV.out.2.2.2.size
      have ne2 : some e0 ≠ v.ownBlock := fun e => by
        have o1 := HG.out.1.own r hrN
        rw [HV.out.1] at o1
        have := (o1.lt e0 e.symm).2
        rw [HE0.out] at this
        omega
      have ne1 : some H ≠ v.ownBlock := fun e => own_ne OW.out HV.out.2.2.1.tab e.symm
      have hbs : w.heap.size ≤ w3.heap.size := Nat.le_trans HG.out.2.size HV.out.2.2.2.size
      have al : ∀ (o : Obj) (a : Addr) (u : Value), w3.cell? a = some u → (w3.alloc o).cell? a = some u := fun o a u h => (World.cell?_of_block (((Below.refl w3.heap.size w3).alloc (Nat.le_refl _) o).block a.block (World.block_lt_of_cell? w3 a h))).trans h
      have zH3 : w3.frozen? ⟨H, r, none⟩ = false := HV.out.2.2.1.tab.fz r
      have af : ∀ (o : Obj), (w3.alloc o).frozen? ⟨H, r, none⟩ = false := fun o => (World.frozen?_of_block (((Below.refl w3.heap.size w3).alloc (Nat.le_refl _) o).block H hH3)).trans zH3
      have t1 := fun o => al o _ _ cH3
      have t2 := fun o => al o _ _ k0
      have t3 := fun o => al o _ _ k1
      have t4 := fun o => al o _ _ k2
      have n1 := World.new_ne w3 ⟨H, r, none⟩ cH3
      have n2 := World.new_ne w3 ⟨e0, 0, none⟩ k0
      go_region_law ((refine step_append_lies _ (by rfl) _ _ _ (by rfl) w.heap.size 61 i5 _ 3 24 Tryz.underlying23 hi5 hz50 hz51 hz52 rfl (by omega) v q _ (by rfl) (by first | exact OW.out.alloc _ | exact OW.out) _ 1 1 [.int .i64 (r : Int), .int .i64 x2, .int .i64 x3] (by rfl) (by rfl) (World.news_of_block (cs := #[.int .i64 (r : Int), .int .i64 x2, .int .i64 x3]) (t := 61) (fr := (0, 0)) (heap_alloc_new _ _)) (by simp [Value.oneCell']) (by omega) (by unfold maxLen; omega) (by omega) (by first | exact hbs | (simp; omega)) (w3.heap.size + 1) (by simp) ?_; intro g9 c9 w4 ho4 hg4 ha4 hl4; have hg5 : (w3.alloc (.cells #[.int .i64 (r : Int), .int .i64 x2, .int .i64 x3] 61)).grownBy w4 v.ownBlock := ⟨hg4.os, hg4.tape, hg4.output, hg4.size, hg4.block⟩; have cH4 : w4.cell? ⟨H, r, none⟩ = some v := hg4.cell (al _ _ _ cH3) ne1; have zH4 : w4.frozen? ⟨H, r, none⟩ = false := (hg4.frozen_far ⟨H, r, none⟩ (by simp; omega) ne1).trans (af _)))
      all_goals
        have J : Hid (∃ F', GrI w.heap.size (w4.setCell ⟨H, r, none⟩ (.slice (some ⟨g9, 0, none⟩) (q + 1) c9)) H N (rowI false (Ed.take (i + 1))) F' ∧ Below w.heap.size w (w4.setCell ⟨H, r, none⟩ (.slice (some ⟨g9, 0, none⟩) (q + 1) c9))) := hide (by
          obtain ⟨j1, j2⟩ := gr_step HV.out.2.2.1 hrN hir (by rw [HX.out]; rfl) HV.out.1 HV.out.2.1 (by rw [HX.out]; exact ho4) hg5 ha4 hHB
          exact ⟨_, j1, (HG.out.2.trans (HV.out.2.2.2.mono HG.out.2.size)).trans (j2.toBelow hbs (fun k hk => by
            rcases hk with hk | rfl
            · exact (OW.out.lt k hk).1
            · exact hHB))⟩)
        clear ho4 hg4 ha4 hl4 hg5 cH4 zH4
        go_wp2_with fail
        go_roundw
        case rel => exact ⟨i + 1, by omega, by go_num, J⟩
        case measure => simp [intOf]; omega
    · have l0 : ¬ (i : Int) < (L : Int) := by omega
      obtain rfl : i = L := by omega
      rw [← HD.out.2.2, List.take_length] at hG
      have HG := hide (And.intro hG hD)
      clear hG hD HY
      go_wp2_with fail
      go_ret
      exact ⟨H, rfl, ⟨F, HG.out.1⟩, HG.out.2⟩
set_option maxRecDepth 100000 in
set_option maxHeartbeats 4000000 in
theorem grouped_bwd (w : World) (N : Nat) (mv : Int) (a1 a2 a3 : Option Addr) (l1 l2 c1 c2 c3 : Nat) (Ed : List EdT) (hN : N ≤ 100000) (hr : RdE w a3 Ed) (hE : Ed.length ≤ 1000000) (h1 : ∀ e ∈ Ed, ∃ r : Nat, r < N ∧ (ends true e).1 = (r : Int)) :
    Calls Tryz.prog 141 #[.agg #[.int .i64 (N : Int), .int .i64 mv, .slice a1 l1 c1, .slice a2 l2 c2, .slice a3 Ed.length c3], .func (.func 115) #[] #[]] w fun e w' => ∃ H, e = .returned (.slice (some ⟨H, 0, none⟩) N N) ∧ (∃ F, GrI w.heap.size w' H N (rowI true Ed) F) ∧ Below w.heap.size w w' := by
  obtain ⟨L, eL⟩ : ∃ L, Ed.length = L := ⟨_, rfl⟩
  rw [eL] at hE
  rw [eL]
  obtain ⟨i3, hi3, hz30, hz31, hz32⟩ := info_parts info23
  obtain ⟨i5, hi5, hz50, hz51, hz52⟩ := info_parts info59
  obtain ⟨W0, hW0⟩ : ∃ W0, w.alloc (.cells #[.int .i64 (N : Int), .int .i64 mv, .slice a1 l1 c1, .slice a2 l2 c2, .slice a3 L c3] 25) = W0 := ⟨_, rfl⟩
  have d0 : Below w.heap.size w W0 := by rw [← hW0]; exact (Below.refl _ _).alloc (Nat.le_refl _) _
  have B0 : W0.heap[w.heap.size]? = some (.cells #[.int .i64 (N : Int), .int .i64 mv, .slice a1 l1 c1, .slice a2 l2 c2, .slice a3 L c3] 25 (0, 0)) := by rw [← hW0]; exact World.alloc_heap_new _ _
  have k0 : W0.cell? ⟨w.heap.size, 0, none⟩ = some (.int .i64 (N : Int)) := cell_of B0 rfl
  have k4 : W0.cell? ⟨w.heap.size, 4, none⟩ = some (.slice a3 L c3) := cell_of B0 rfl
  have HR0 := hide hr
  have HD := hide (And.intro d0 (And.intro B0 eL))
  have H1 := hide h1
  clear d0 hr B0 h1 eL
  go_enter Tryz.func141, Tryz.ntmps141
  go_wp2_with ((at_make; refine wpList_make_full _ rfl _ _ 141 rfl w.heap.size 23 i3 (.slice none 0 0) 1 Tryz.underlying141 hi3 hz30 hz31 _ _ _ _ N rfl rfl (by go_num) (by go_num) (by rw [hz32]; omega) (by unfold maxLen; omega) HD.out.1.size ?_))
  intro w1 ho hg
  have D1 : Below w.heap.size w w1 := HD.out.1.grown hg HD.out.1.size (by intro k hk; cases hk)
  have D01 : Below W0.heap.size W0 w1 := (Below.refl _ _).grown hg (Nat.le_refl _) (by intro k hk; cases hk)
  have B1 : w1.heap[w.heap.size]? = _ := (D01.block _ (Array.getElem?_eq_some_iff.1 HD.out.2.1).1).trans HD.out.2.1
  have j4 : w1.cell? ⟨w.heap.size, 4, none⟩ = some (.slice a3 L c3) := cell_of B1 rfl
  have G0 := hide (gr_made (bk := true) ho)
  have HD1 := hide D1
  clear ho hg D1 D01 B1
  have hHB : w.heap.size ≤ W0.heap.size := HD.out.1.size
  generalize W0.heap.size = H at G0 hHB
  go_wp2_with fail
  go_loopw [16] (fun iv wr => ∃ i : Nat, i ≤ L ∧ iv = .int .i64 (i : Int) ∧ Hid (∃ F, GrI w.heap.size wr H N (rowI true (Ed.take i)) F ∧ Below w.heap.size w wr)) (fun iv _ => L - (intOf iv).toNat)
  case atStart => exact ⟨0, Nat.zero_le _, rfl, hide ⟨_, G0.out, HD1.out⟩⟩
  case round =>
    obtain ⟨i, hi, rfl, HY⟩ := hrel
    obtain ⟨F, hG, hD⟩ := HY.out
    by_cases hlt : i < L
    · have l0 : (i : Int) < (L : Int) := by omega
      have i0 : (0 : Int) ≤ (i : Int) := by omega
      have hir : i < Ed.length := by have := HD.out.2.2; omega
      obtain ⟨g, o, rfl, r1, r2, r3⟩ := (HR0.out.on hD) i hir
      obtain ⟨x1, x2, x3, hx⟩ : ∃ x1 x2 x3, Ed[i] = (x1, x2, x3) := ⟨_, _, _, rfl⟩
      rw [hx] at r1 r2 r3
      obtain ⟨r, hrN, er⟩ := H1.out Ed[i] (List.getElem_mem hir)
      rw [hx] at er
      obtain rfl : x3 = (r : Int) := er
      have HX := hide hx
      clear hx
      have cH : wr.cell? ⟨H, r, none⟩ = some (F r) := hG.tab.at r hrN
      have zH : wr.frozen? ⟨H, r, none⟩ = false := hG.tab.fz r
      have hHl := hG.tab.lt
      have r0' : (0 : Int) ≤ (r : Int) := by omega
      have r1' : (r : Int) < (N : Int) := by omega
      have HG := hide (And.intro hG hD)
      clear hG hD HY
      go_wp2_with (go_at_call 115; refine (bwd_any _ x1 x2 (r : Int)).mono ?_; rintro e w3 ⟨rfl, d3⟩)
      have D3 : Below wr.heap.size wr w3 := ((Below.refl _ _).alloc (Nat.le_refl _) _).trans (d3.mono (by simp))
      have q0 : wr.heap.size < w3.heap.size := Nat.lt_of_lt_of_le (by simp) d3.size
      have B3 : w3.heap[wr.heap.size]? = some (.cells #[.int .i64 x1, .int .i64 x2, .int .i64 (r : Int)] 61 (0, 0)) := (d3.block _ (by simp)).trans (World.alloc_heap_new _ _)
      have k0 : w3.cell? ⟨wr.heap.size, 0, none⟩ = some (.int .i64 x1) := cell_of B3 rfl
      have k1 : w3.cell? ⟨wr.heap.size, 1, none⟩ = some (.int .i64 x2) := cell_of B3 rfl
      have k2 : w3.cell? ⟨wr.heap.size, 2, none⟩ = some (.int .i64 (r : Int)) := cell_of B3 rfl
      have G3 := HG.out.1.below D3
      obtain ⟨v, hv⟩ : ∃ v, F r = v := ⟨_, rfl⟩
      have cH3 : w3.cell? ⟨H, r, none⟩ = some v := by rw [← hv]; exact G3.tab.at r hrN
      have ow := G3.own r hrN
      rw [hv] at ow
      obtain ⟨q, hq⟩ : ∃ q, (rowI true (Ed.take i) r).length = q := ⟨_, rfl⟩
      rw [hq] at ow
      have hqL : q ≤ L := by rw [← hq]; exact Nat.le_trans (List.length_filter_le _ _) (by rw [List.length_take]; omega)
      have OW := hide ow
      have HV := hide (And.intro hv (And.intro hq (And.intro G3 D3)))
      clear ow hv hq G3 D3 d3 r1 r2 r3 cH zH
      obtain ⟨e0, he0⟩ : ∃ e0, wr.heap.size = e0 := ⟨_, rfl⟩
      rw [he0] at k0 k1 k2 q0
      rw [he0]
      have HE0 := hide he0
      clear he0
      have hH3 : H < w3.heap.size := Nat.lt_of_lt_of_le hHl HV.out.2.2.2.size
      have ne2 : some e0 ≠ v.ownBlock := fun e => by
        have o1 := HG.out.1.own r hrN
        rw [HV.out.1] at o1
        have := (o1.lt e0 e.symm).2
        rw [HE0.out] at this
        omega
      have ne1 : some H ≠ v.ownBlock := fun e => own_ne OW.out HV.out.2.2.1.tab e.symm
      have hbs : w.heap.size ≤ w3.heap.size := Nat.le_trans HG.out.2.size HV.out.2.2.2.size
      have al : ∀ (o : Obj) (a : Addr) (u : Value), w3.cell? a = some u → (w3.alloc o).cell? a = some u := fun o a u h => (World.cell?_of_block (((Below.refl w3.heap.size w3).alloc (Nat.le_refl _) o).block a.block (World.block_lt_of_cell? w3 a h))).trans h
      have zH3 : w3.frozen? ⟨H, r, none⟩ = false := HV.out.2.2.1.tab.fz r
      have af : ∀ (o : Obj), (w3.alloc o).frozen? ⟨H, r, none⟩ = false := fun o => (World.frozen?_of_block (((Below.refl w3.heap.size w3).alloc (Nat.le_refl _) o).block H hH3)).trans zH3
      have t1 := fun o => al o _ _ cH3
      have t2 := fun o => al o _ _ k0
      have t3 := fun o => al o _ _ k1
      have t4 := fun o => al o _ _ k2
      have n1 := World.new_ne w3 ⟨H, r, none⟩ cH3
      have n2 := World.new_ne w3 ⟨e0, 0, none⟩ k0
      go_region_law ((refine step_append_lies _ (by rfl) _ _ _ (by rfl) w.heap.size 61 i5 _ 3 24 Tryz.underlying23 hi5 hz50 hz51 hz52 rfl (by omega) v q _ (by rfl) (by first | exact OW.out.alloc _ | exact OW.out) _ 1 1 [.int .i64 x1, .int .i64 x2, .int .i64 (r : Int)] (by rfl) (by rfl) (World.news_of_block (cs := #[.int .i64 x1, .int .i64 x2, .int .i64 (r : Int)]) (t := 61) (fr := (0, 0)) (heap_alloc_new _ _)) (by simp [Value.oneCell']) (by omega) (by unfold maxLen; omega) (by omega) (by first | exact hbs | (simp; omega)) (w3.heap.size + 1) (by simp) ?_; intro g9 c9 w4 ho4 hg4 ha4 hl4; have hg5 : (w3.alloc (.cells #[.int .i64 x1, .int .i64 x2, .int .i64 (r : Int)] 61)).grownBy w4 v.ownBlock := ⟨hg4.os, hg4.tape, hg4.output, hg4.size, hg4.block⟩; have cH4 : w4.cell? ⟨H, r, none⟩ = some v := hg4.cell (al _ _ _ cH3) ne1; have zH4 : w4.frozen? ⟨H, r, none⟩ = false := (hg4.frozen_far ⟨H, r, none⟩ (by simp; omega) ne1).trans (af _)))
      all_goals
        have J : Hid (∃ F', GrI w.heap.size (w4.setCell ⟨H, r, none⟩ (.slice (some ⟨g9, 0, none⟩) (q + 1) c9)) H N (rowI true (Ed.take (i + 1))) F' ∧ Below w.heap.size w (w4.setCell ⟨H, r, none⟩ (.slice (some ⟨g9, 0, none⟩) (q + 1) c9))) := hide (by
          obtain ⟨j1, j2⟩ := gr_step HV.out.2.2.1 hrN hir (by rw [HX.out]; rfl) HV.out.1 HV.out.2.1 (by rw [HX.out]; exact ho4) hg5 ha4 hHB
          exact ⟨_, j1, (HG.out.2.trans (HV.out.2.2.2.mono HG.out.2.size)).trans (j2.toBelow hbs (fun k hk => by
            rcases hk with hk | rfl
            · exact (OW.out.lt k hk).1
            · exact hHB))⟩)
        clear ho4 hg4 ha4 hl4 hg5 cH4 zH4
        go_wp2_with fail
        go_roundw
        case rel => exact ⟨i + 1, by omega, by go_num, J⟩
        case measure => simp [intOf]; omega
    · have l0 : ¬ (i : Int) < (L : Int) := by omega
      obtain rfl : i = L := by omega
      rw [← HD.out.2.2, List.take_length] at hG
      have HG := hide (And.intro hG hD)
      clear hG hD HY
      go_wp2_with fail
      go_ret
      exact ⟨H, rfl, ⟨F, HG.out.1⟩, HG.out.2⟩
end Go.Proofs.YtchoopnjckcohaaGreatDoor
