import Derived.Test.YtmagchclmmphaabGreatDoorAT
import Derived.Test.YtmagchclmmphaabGreatDoorVP
import Derived.Test.YtmagchclmmphaabGreatDoorCV
import Derived.Test.YtmagchclmmphaabGreatDoorVL
import Derived.Test.YtmagchclmmphaabGreatDoorEG
namespace Go.Proofs.YtmagchclmmphaabGreatDoor
open Go.RowKit Go.Maps
attribute [local go_sem] Oper.semAt_some

/-! ### Numbers below a bound, rising, as the document lays them -/
theorem up_eqI : ∀ (A B : List Int), A.Pairwise (· < ·) → B.Pairwise (· < ·) → (∀ x, x ∈ A ↔ x ∈ B) → A = B
  | [], [], _, _, _ => rfl
  | [], b :: B, _, _, h => absurd ((h b).2 (by simp)) (by simp)
  | a :: A, [], _, _, h => absurd ((h a).1 (by simp)) (by simp)
  | a :: A, b :: B, hA, hB, h => by
    rw [List.pairwise_cons] at hA hB
    have e : a = b := by
      rcases List.mem_cons.1 ((h a).1 (by simp)) with q | q
      · exact q
      · rcases List.mem_cons.1 ((h b).2 (by simp)) with r | r
        · exact r.symm
        · have := hB.1 a q; have := hA.1 b r; omega
    subst e
    congr 1
    refine up_eqI A B hA.2 hB.2 fun x => ⟨fun q => ?_, fun q => ?_⟩
    · rcases List.mem_cons.1 ((h x).1 (by simp [q])) with r | r
      · have := hA.1 x q; omega
      · exact r
    · rcases List.mem_cons.1 ((h x).2 (by simp [q])) with r | r
      · have := hB.1 x q; omega
      · exact r
theorem compact_has {zs : List Int} {x : Int} (h : x ∈ zs) : x ∈ Lib.compact zs := by
  have hi : zs.findIdx (fun y => decide (y = x)) < zs.length := List.findIdx_lt_length_of_exists ⟨x, h, by simp⟩
  have he := List.findIdx_getElem (p := fun y => decide (y = x)) (w := hi)
  obtain ⟨j, hj⟩ : ∃ j, zs.findIdx (fun y => decide (y = x)) = j := ⟨_, rfl⟩
  simp only [hj] at hi he
  have e : zs[j] = x := of_decide_eq_true he
  unfold Lib.compact Lib.compactUpTo
  refine List.mem_map.2 ⟨j, List.mem_filter.2 ⟨List.mem_range.2 hi, ?_⟩, by simp [hi, e]⟩
  by_cases h0 : j < 1
  · exact Lib.keeps_lt_one _ j h0
  · have hlt : j - 1 < zs.findIdx (fun y => decide (y = x)) := by omega
    have hne := List.not_of_lt_findIdx hlt
    have h1 : j - 1 < zs.length := by omega
    unfold Lib.keeps
    simp [hi, h1, e] at hne ⊢
    right
    intro q
    exact hne q.symm
theorem riseL_iff (zs : List Int) (x : Int) : x ∈ riseL zs ↔ x ∈ zs := ⟨rise_mem, fun h => by unfold riseL; exact compact_has (List.mem_mergeSort.2 h)⟩
def upF (n : Nat) (zs : List Int) : List Int := ((List.range n).filter fun (i : Nat) => decide ((i : Int) ∈ zs)).map fun (i : Nat) => (i : Int)
theorem up_next (n : Nat) (zs : List Int) : upF (n + 1) zs = upF n zs ++ (if (n : Int) ∈ zs then [(n : Int)] else []) := by
  unfold upF
  rw [List.range_succ, List.filter_append, List.map_append]
  by_cases h : (n : Int) ∈ zs <;> simp [h]
theorem up_len (n : Nat) (zs : List Int) : (upF n zs).length ≤ n := by
  unfold upF
  rw [List.length_map]
  exact Nat.le_trans (List.length_filter_le _ _) (by simp)
theorem up_rise {n : Nat} {zs : List Int} (h : ∀ z ∈ zs, 0 ≤ z ∧ z < (n : Int)) : upF n zs = riseL zs := by
  refine up_eqI _ _ ?_ (riseL_lt zs) fun x => ?_
  · unfold upF
    rw [List.pairwise_map]
    exact (List.pairwise_lt_range.filter _).imp fun q => by omega
  · rw [riseL_iff]
    unfold upF
    simp only [List.mem_map, List.mem_filter, List.mem_range, decide_eq_true_eq]
    constructor
    · rintro ⟨i, ⟨_, h2⟩, rfl⟩
      exact h2
    · intro hx
      obtain ⟨h1, h2⟩ := h x hx
      exact ⟨x.toNat, ⟨by omega, by rwa [Int.toNat_of_nonneg h1]⟩, Int.toNat_of_nonneg h1⟩
def RdN (W : World) (ao : Option Addr) (L : List Int) : Prop := ∀ (j : Nat) (h : j < L.length), ∃ g o, ao = some ⟨g, o, none⟩ ∧ W.cell? ⟨g, o + j, none⟩ = some (.int .i64 L[j])
theorem RdN.on {W W' : World} {ao : Option Addr} {L : List Int} (h : RdN W ao L) (d : Below W.heap.size W W') : RdN W' ao L := fun j hj => by
  obtain ⟨g, o, e, c⟩ := h j hj
  exact ⟨g, o, e, (d.cell (p := ⟨g, o + j, none⟩) (World.block_lt_of_cell? W _ c)).trans c⟩
theorem rdN_of {W : World} {B : Nat} {v : Value} {X : List Int} (h : W.ownsRow B 3 1 v X.length (X.map (Value.int .i64))) : ∃ ao cap, v = .slice ao X.length cap ∧ RdN W ao X := by
  obtain ⟨ao, cap, rfl⟩ := rowForm h
  refine ⟨ao, cap, rfl, fun j hj => ?_⟩
  rcases h.2 with ⟨z, h0⟩ | ⟨g, cap', cur, e, _⟩
  · omega
  · cases e
    refine ⟨g, 0, rfl, ?_⟩
    rw [Nat.zero_add, h.cellAt j (by omega)]
    simp [hj]
theorem infoBool : (Tryz.prog.info? 4).map (fun i => (i.zero, i.size, i.bytes)) = some (some (.bool false), 1, 1) := by kernel_rfl
theorem Mrw.made {W : World} {b H n : Nat} (h : W.ownsRow b 4 1 (.slice (some ⟨H, 0, none⟩) n n) n (madeCells #[Value.bool false] n).toList) : Mrw W H 4 n (fun _ => .bool false) n := by
  obtain ⟨h0, h1⟩ := h
  rcases h1 with ⟨e, _⟩ | ⟨g, cap, cur, e, h2, h3, h4, h5, h6, h7⟩
  · cases e
  · cases e
    refine ⟨cur, h3, by omega, fun j hj => ?_⟩
    have hj2 : j < n * 1 := by omega
    have e1 : (cur.toList.take (n * 1))[j]? = cur[j]? := by rw [List.getElem?_take_of_lt hj2, Array.getElem?_toList]
    rw [← e1, h7]
    simp [madeCells, hj, Nat.mod_one]
theorem app_I {W : World} {B : Nat} {v : Value} {O : List Int} (h : W.ownsRow B 3 1 v O.length (O.map (Value.int .i64))) (hB : B ≤ W.heap.size) (x : Int) {ops : Array Oper} {rest : List Oper} {o : Oper} {a : Act} {Q : Exit → Act → World → Prop} (hgd : o.guard = none) (s y : Operand)
    (ho : o.op = .call { callee := .builtin .append, args := #[s, y], argTypes := #[22, 22] }) (hs : a.eval s = v) (hy : a.eval y = .slice (some ⟨W.heap.size, 0, none⟩) 1 1) (hl : O.length ≤ 8388608)
    (hK : ∀ a5 c5 w3, w3.ownsRow B 3 1 (.slice a5 (O.length + 1) c5) (O ++ [x]).length ((O ++ [x]).map (Value.int .i64)) → Grw W w3 v (.slice a5 (O.length + 1) c5) → wpList Tryz.prog ops Q rest (a.put o.dst (.slice a5 (O.length + 1) c5)) w3) :
    wpList Tryz.prog ops Q (o :: rest) a (W.alloc (.cells #[.int .i64 x] 3)) := by
  obtain ⟨i3, hi3, hz30, hz31, hz32⟩ := info_parts info3
  refine wpList_append_own_at _ hgd s y _ ho B 3 i3 _ 1 8 Tryz.underlying22 hi3 hz30 hz31 hz32 rfl (by omega) v O.length (O.map (Value.int .i64)) hs (owns_below h ((Below.refl _ W).alloc (Nat.le_refl _) _)) ⟨W.heap.size, 0, none⟩ 1 1 [.int .i64 x] hy rfl (cnewI W x) (fun u hu => by obtain rfl := List.mem_singleton.1 hu; rfl) (by unfold maxLen; omega) (by omega) (by simp; omega) ?_
  intro v' w3 how hgr hnil hloc
  have hG := grw_append hgr hloc
  obtain ⟨a5, c5, rfl⟩ := rowForm how
  exact hK a5 c5 w3 (by simpa using how) hG
set_option maxRecDepth 100000 in
set_option maxHeartbeats 2000000 in
/-- The numbers of a list below n, rising. -/
theorem rrising_any (w : World) (ao : Option Addr) (cap n : Nat) (L : List Int) (hA : Hid (RdN w ao L)) (hL : Hid (∀ z ∈ L, 0 ≤ z ∧ z < (n : Int))) (hl : L.length ≤ 4194304) (hn : n ≤ 4194304) :
    Calls Tryz.prog 48 #[.slice ao L.length cap, .int .i64 n] w fun e w' => ∃ v, e = .returned v ∧ w'.ownsRow w.heap.size 3 1 v (upF n L).length ((upF n L).map (Value.int .i64)) ∧ Below w.heap.size w w' := by
  obtain ⟨i4, hi4, hz40, hz41, hz42⟩ := info_parts infoBool
  go_enter Tryz.func48, Tryz.ntmps48
  go_wp2_with (at_make; refine wpList_make_full _ rfl _ _ 127 rfl w.heap.size 4 i4 (.bool false) 1 Tryz.underlying127 hi4 hz40 hz41 _ _ _ _ n rfl rfl rfl rfl (by rw [hz42]; omega) (by unfold maxLen; omega) (Nat.le_refl _) ?_)
  intro w1 ho hg
  have D1 : Below w.heap.size w w1 := (Below.refl _ _).grown hg (Nat.le_refl _) (by intro k hk; cases hk)
  have HM := hide (And.intro (Mrw.made ho) D1)
  clear ho hg D1
  go_wp2_with fail
  go_loopw [6] (fun i wr => ∃ k : Nat, k ≤ L.length ∧ i = .int .i64 k ∧ Hid (Mrw wr w.heap.size 4 n (fun c => .bool (decide ((c : Int) ∈ L.take k))) n ∧ Below w.heap.size w wr)) (fun i _ => L.length - (intOf i).toNat)
  case atStart => exact ⟨0, Nat.zero_le _, rfl, hide ⟨HM.out.1.congr fun c hc => by simp, HM.out.2⟩⟩
  case round =>
    obtain ⟨k, hk, rfl, HX⟩ := hrel
    clear HM
    by_cases hlt : k < L.length
    · have i2 : (k : Int) < (L.length : Int) := by omega
      have i3 : (0 : Int) ≤ (k : Int) := by omega
      obtain ⟨bL, oL, rfl, q0⟩ := (hA.out.on HX.out.2) k hlt
      obtain ⟨h0, h1⟩ := hL.out _ (List.getElem_mem hlt)
      have HT : Hid (L.take (k + 1) = L.take k ++ [L[k]]) := hide (List.take_succ_eq_append_getElem hlt)
      obtain ⟨z, hz⟩ : ∃ z, L[k] = z := ⟨_, rfl⟩
      rw [hz] at q0 h0 h1 HT
      obtain ⟨m, rfl⟩ : ∃ m : Nat, z = m := ⟨z.toNat, by omega⟩
      have hm : m < n := by omega
      obtain ⟨u, c0⟩ := HX.out.1.cell m hm
      have f0 := HX.out.1.fz m
      have HU := hide (HX.out.1.upd m (.bool true))
      clear hz
      go_wp2_with fail
      refine ⟨⟨k + 1, by omega, by go_num, hide ⟨HU.out.congr fun c hc => ?_, HX.out.2.trans ((only_set wr w.heap.size m _).toBelow HX.out.2.size fun q z => by omega)⟩⟩, by simp [intOf]; omega⟩
      rw [HT.out]
      by_cases e : c = m
      · subst e; simp
      · rw [if_neg e]
        have : (c : Int) ≠ (m : Int) := by omega
        simp [this]
    · have i2 : ¬ (k : Int) < (L.length : Int) := by omega
      obtain rfl : k = L.length := by omega
      rw [List.take_length] at HX
      obtain ⟨wo, rfl⟩ : ∃ z, z = wr := ⟨_, rfl⟩
      go_wp2_with fail
      go_loopw [7, 8] (fun v i wj => ∃ k : Nat, k ≤ n ∧ i = .int .i64 k ∧ Hid (wj.ownsRow (w.heap.size + 1) 3 1 v (upF k L).length ((upF k L).map (Value.int .i64)) ∧ Mrw wj w.heap.size 4 n (fun c => .bool (decide ((c : Int) ∈ L))) n ∧ Below w.heap.size w wj)) (fun _ i _ => n - (intOf i).toNat)
      case atStart => exact ⟨0, Nat.zero_le _, rfl, hide ⟨⟨rfl, .inl ⟨rfl, rfl⟩⟩, HX.out⟩⟩
      case round =>
        obtain ⟨k, hkn, rfl, HJ⟩ := hrel
        have hul := up_len k L
        have HN := hide (up_next k L)
        obtain ⟨a3, c3, rfl⟩ := rowForm HJ.out.1
        obtain ⟨O, hO⟩ : ∃ O, upF k L = O := ⟨_, rfl⟩
        rw [hO] at HJ HN hul
        rw [hO]
        have HOe := hide hO
        clear hO
        by_cases hkn2 : k < n
        · have j1 : (k : Int) < (n : Int) := by omega
          have j2 : (0 : Int) ≤ (k : Int) := by omega
          have c0 := HJ.out.2.1.at k hkn2
          by_cases hmem : (k : Int) ∈ L
          · rw [decide_eq_true hmem] at c0
            rw [if_pos hmem] at HN
            have HBJ : Hid (w.heap.size + 1 ≤ wr.heap.size) := hide HJ.out.2.1.lt
            clear hmem
            go_wp2_with (at_builtin; refine app_I HJ.out.1 HBJ.out k rfl _ _ rfl rfl rfl (by omega) ?_; intro a5 c5 w3 ho3 hG)
            refine ⟨⟨k + 1, by omega, by go_num, hide ⟨by rw [HN.out]; exact ho3, HJ.out.2.1.only hG.1 fun q => by have := (HJ.out.1.lt _ q).1; omega, HJ.out.2.2.trans (hG.1.toBelow HJ.out.2.2.size fun q z => by have := (HJ.out.1.lt _ z).1; omega)⟩⟩, by simp [intOf]; omega⟩
          · rw [decide_eq_false hmem] at c0
            rw [if_neg hmem, List.append_nil] at HN
            clear hmem
            go_wp2_with fail
            exact ⟨⟨k + 1, by omega, by go_num, hide ⟨by rw [HN.out]; exact HJ.out.1, HJ.out.2⟩⟩, by simp [intOf]; omega⟩
        · have j1 : ¬ (k : Int) < (n : Int) := by omega
          obtain rfl : k = n := by omega
          have HR := hide HJ.out.1
          have HD := hide HJ.out.2.2
          clear HJ
          go_wp2_with fail
          go_ret
          exact ⟨_, rfl, by rw [HOe.out]; exact own_wide HR.out (Nat.le_succ _), HD.out⟩
end Go.Proofs.YtmagchclmmphaabGreatDoor
namespace Go.Proofs.YtmagchclmmphaabGreatDoor
open Go.RowKit Go.Maps
attribute [local go_sem] Oper.semAt_some

/-! ### Automata that are the same -/
set_option maxRecDepth 100000 in
set_option maxHeartbeats 2000000 in
theorem sameInts_eq (w : World) (ao bo : Option Addr) (ca cb : Nat) (l : List Int) (hA : Hid (RdN w ao l)) (hB : Hid (RdN w bo l)) (hl : l.length ≤ 4194304) :
    Calls Tryz.prog 47 #[.slice ao l.length ca, .slice bo l.length cb] w fun e w' => e = .returned (.bool true) ∧ Below w.heap.size w w' := by
  go_enter Tryz.func47, Tryz.ntmps47
  go_wp2_with fail
  go_loopw [5] (fun i wr => ∃ k : Nat, k ≤ l.length ∧ i = .int .i64 k ∧ Hid (Below w.heap.size w wr)) (fun i _ => l.length - (intOf i).toNat)
  case atStart => exact ⟨0, Nat.zero_le _, rfl, hide (Below.refl _ _)⟩
  case round =>
    obtain ⟨k, hk, rfl, HB⟩ := hrel
    by_cases hlt : k < l.length
    · obtain ⟨g1, o1, rfl, q1⟩ := (hA.out.on HB.out) k hlt
      obtain ⟨g2, o2, rfl, q2⟩ := (hB.out.on HB.out) k hlt
      have i2 : (k : Int) < (l.length : Int) := by omega
      have i3 : (0 : Int) ≤ (k : Int) := by omega
      obtain ⟨s, hs⟩ : ∃ s, l[k] = s := ⟨_, rfl⟩
      rw [hs] at q1 q2
      clear hs
      go_wp2_with fail
      go_region_held3 (fun W => W.cell? ⟨g1, o1 + k, none⟩ = some (.int .i64 s) ∧ W.cell? ⟨g2, o2 + k, none⟩ = some (.int .i64 s) ∧ Hid (Below w.heap.size w W))
        (first | exact ⟨q1, q2, hide HB.out.drew⟩ | assumption)
        (fail)
      rename_i hSS
      have HD := hide hSS.2.2.out
      clear hSS
      go_wp2_with fail
      exact ⟨⟨k + 1, by omega, by go_num, HD⟩, by simp [intOf]; omega⟩
    · obtain rfl : k = l.length := by omega
      have i2 : ¬ (l.length : Int) < (l.length : Int) := by omega
      go_wp2
      go_ret
      exact ⟨rfl, HB.out⟩
set_option maxRecDepth 100000 in
theorem sameT_eq (w : World) (ao bo : Option Addr) (ca cb : Nat) (l : List ByteArray) (hA : Hid (ReadsS w ao l)) (hB : Hid (ReadsS w bo l)) (hl : l.length ≤ 4194304) :
    Calls Tryz.prog 17 #[.slice ao l.length ca, .slice bo l.length cb] w fun e w' => e = .returned (.bool true) ∧ Below w.heap.size w w' := by
  have T := sameTexts_eq w ao bo ca cb l hA hB hl
  go_enter Tryz.func17, Tryz.ntmps17
  go_wp2_with (go_at_call 39; refine T.mono ?_; rintro e w1 ⟨rfl, d1⟩)
  go_ret
  exact ⟨rfl, d1⟩
set_option maxRecDepth 100000 in
set_option maxHeartbeats 4000000 in
theorem sameAuto_eq (w : World) (n m : Nat) (St Fi : List Int) (Ed : List EdT) (a1 a2 a3 b1 b2 b3 : Option Addr) (c1 c2 c3 e1 e2 e3 : Nat) (hA : Hid (RdN w a1 St ∧ RdN w a2 Fi ∧ RdE w a3 Ed)) (hB : Hid (RdN w b1 St ∧ RdN w b2 Fi ∧ RdE w b3 Ed)) (h1 : St.length ≤ 4194304) (h2 : Fi.length ≤ 4194304) (h3 : Ed.length ≤ 4194304) :
    Calls Tryz.prog 15 #[.agg #[.int .i64 (n : Nat), .int .i64 (m : Nat), .slice a1 St.length c1, .slice a2 Fi.length c2, .slice a3 Ed.length c3], .agg #[.int .i64 (n : Nat), .int .i64 (m : Nat), .slice b1 St.length e1, .slice b2 Fi.length e2, .slice b3 Ed.length e3]] w fun e w' => e = .returned (.bool true) ∧ Below w.heap.size w w' := by
  obtain ⟨W0, hW0⟩ : ∃ W0, (w.alloc (.cells #[.int .i64 (n : Nat), .int .i64 (m : Nat), .slice a1 St.length c1, .slice a2 Fi.length c2, .slice a3 Ed.length c3] 25)).alloc (.cells #[.int .i64 (n : Nat), .int .i64 (m : Nat), .slice b1 St.length e1, .slice b2 Fi.length e2, .slice b3 Ed.length e3] 25) = W0 := ⟨_, rfl⟩
  have d0 : Below w.heap.size w W0 := by rw [← hW0]; exact ((Below.refl _ _).alloc (Nat.le_refl _) _).alloc (by simp) _
  have B0 : W0.heap[w.heap.size]? = some (.cells #[.int .i64 (n : Nat), .int .i64 (m : Nat), .slice a1 St.length c1, .slice a2 Fi.length c2, .slice a3 Ed.length c3] 25 (0, 0)) := by
    rw [← hW0]; exact (Below.heap_alloc _ _ _ (by simp)).trans (World.alloc_heap_new _ _)
  have B1 : W0.heap[w.heap.size + 1]? = some (.cells #[.int .i64 (n : Nat), .int .i64 (m : Nat), .slice b1 St.length e1, .slice b2 Fi.length e2, .slice b3 Ed.length e3] 25 (0, 0)) := by
    rw [← hW0]; exact heap_alloc2_new w _ _
  have z0 : w.heap.size + 2 = W0.heap.size := by rw [← hW0]; simp
  have HD := hide (And.intro d0 (And.intro B0 (And.intro B1 z0)))
  have x0 : W0.cell? ⟨w.heap.size, 0, none⟩ = some (.int .i64 (n : Nat)) := cell_of B0 rfl
  have x1 : W0.cell? ⟨w.heap.size, 1, none⟩ = some (.int .i64 (m : Nat)) := cell_of B0 rfl
  have x4 : W0.cell? ⟨w.heap.size, 4, none⟩ = some (.slice a3 Ed.length c3) := cell_of B0 rfl
  have y0 : W0.cell? ⟨w.heap.size + 1, 0, none⟩ = some (.int .i64 (n : Nat)) := cell_of B1 rfl
  have y1 : W0.cell? ⟨w.heap.size + 1, 1, none⟩ = some (.int .i64 (m : Nat)) := cell_of B1 rfl
  have y4 : W0.cell? ⟨w.heap.size + 1, 4, none⟩ = some (.slice b3 Ed.length e3) := cell_of B1 rfl
  clear d0 B0 B1 z0
  go_enter Tryz.func15, Tryz.ntmps15
  go_wp2_with fail
  clear x0 x1 x4 y0 y1 y4 hW0
  go_loopw [5] (fun i wr => ∃ k : Nat, k ≤ Ed.length ∧ i = .int .i64 k ∧ Hid (Below W0.heap.size W0 wr)) (fun i _ => Ed.length - (intOf i).toNat)
  case atStart => exact ⟨0, Nat.zero_le _, rfl, hide (Below.refl _ _)⟩
  case round =>
    obtain ⟨k, hk, rfl, HB⟩ := hrel
    have HDW := hide (HD.out.1.trans (HB.out.mono HD.out.1.size))
    have HX := hide ((HB.out.block _ (by have := HD.out.2.2.2; omega)).trans HD.out.2.1)
    have HY := hide ((HB.out.block _ (by have := HD.out.2.2.2; omega)).trans HD.out.2.2.1)
    have x4 : wr.cell? ⟨w.heap.size, 4, none⟩ = some (.slice a3 Ed.length c3) := cell_of HX.out rfl
    by_cases hlt : k < Ed.length
    · have y4 : wr.cell? ⟨w.heap.size + 1, 4, none⟩ = some (.slice b3 Ed.length e3) := cell_of HY.out rfl
      obtain ⟨g1, o1, rfl, p1, p2, p3⟩ := (hA.out.2.2.on HDW.out) k hlt
      obtain ⟨g2, o2, rfl, q1, q2, q3⟩ := (hB.out.2.2.on HDW.out) k hlt
      have i2 : (k : Int) < (Ed.length : Int) := by omega
      have i3 : (0 : Int) ≤ (k : Int) := by omega
      obtain ⟨s, hs⟩ : ∃ s, Ed[k] = s := ⟨_, rfl⟩
      obtain ⟨s1, s2, s3⟩ := s
      rw [hs] at p1 p2 p3 q1 q2 q3
      simp only at p1 p2 p3 q1 q2 q3
      clear hs
      go_wp2_with fail
      go_region_held3 (fun W => W.cell? ⟨w.heap.size, 4, none⟩ = some (.slice (some ⟨g1, o1, none⟩) Ed.length c3) ∧ W.cell? ⟨w.heap.size + 1, 4, none⟩ = some (.slice (some ⟨g2, o2, none⟩) Ed.length e3) ∧ W.cell? ⟨g1, o1 + k * 3, none⟩ = some (.int .i64 s1) ∧ W.cell? ⟨g1, o1 + k * 3 + 1, none⟩ = some (.int .i64 s2) ∧ W.cell? ⟨g1, o1 + k * 3 + 2, none⟩ = some (.int .i64 s3) ∧ W.cell? ⟨g2, o2 + k * 3, none⟩ = some (.int .i64 s1) ∧ W.cell? ⟨g2, o2 + k * 3 + 1, none⟩ = some (.int .i64 s2) ∧ W.cell? ⟨g2, o2 + k * 3 + 2, none⟩ = some (.int .i64 s3) ∧ Hid (Below W0.heap.size W0 W))
        (first | exact ⟨x4, y4, p1, p2, p3, q1, q2, q3, hide HB.out.drew⟩ | assumption)
        (fail)
      rename_i hSS
      have HDD := hide hSS.2.2.2.2.2.2.2.2.out
      clear hSS
      go_wp2_with fail
      exact ⟨⟨k + 1, by omega, by go_num, HDD⟩, by simp [intOf]; omega⟩
    · obtain rfl : k = Ed.length := by omega
      have i2 : ¬ (Ed.length : Int) < (Ed.length : Int) := by omega
      have x2 : wr.cell? ⟨w.heap.size, 2, none⟩ = some (.slice a1 St.length c1) := cell_of HX.out rfl
      have y2 : wr.cell? ⟨w.heap.size + 1, 2, none⟩ = some (.slice b1 St.length e1) := cell_of HY.out rfl
      have T1 := sameInts_eq wr a1 b1 c1 e1 St (hide (hA.out.1.on HDW.out)) (hide (hB.out.1.on HDW.out)) h1
      go_upto_region 9 with (go_at_call 47; refine T1.mono ?_; rintro e w5 ⟨rfl, d5⟩)
      have HD5 := hide (HDW.out.trans (d5.mono HDW.out.size))
      have x3 : w5.cell? ⟨w.heap.size, 3, none⟩ = some (.slice a2 Fi.length c2) := cell_of ((d5.block _ (Array.getElem?_eq_some_iff.1 HX.out).1).trans HX.out) rfl
      have y3 : w5.cell? ⟨w.heap.size + 1, 3, none⟩ = some (.slice b2 Fi.length e2) := cell_of ((d5.block _ (Array.getElem?_eq_some_iff.1 HY.out).1).trans HY.out) rfl
      have T2 := sameInts_eq w5 a2 b2 c2 e2 Fi (hide (hA.out.2.1.on HD5.out)) (hide (hB.out.2.1.on HD5.out)) h2
      clear d5 T1 x2 y2 x4
      go_wp2_with (go_at_call 47; refine T2.mono ?_; rintro e w6 ⟨rfl, d6⟩)
      go_ret
      exact ⟨rfl, HD5.out.trans (d6.mono HD5.out.size)⟩
end Go.Proofs.YtmagchclmmphaabGreatDoor
