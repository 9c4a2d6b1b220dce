import Derived.Test.YtchoopnjckcohaaGreatDoorQah
set_option maxRecDepth 100000
set_option maxHeartbeats 40000000
namespace Go.Proofs.YtchoopnjckcohaaGreatDoor
open Go.RowKit Go.Maps Go.Shelf
attribute [local go_sem] Oper.semAt_some
def kE (m : Nat) (L : List EdT) : List EdT := L.map fun e => (e.1 * (m : Int) + e.2.1, 0, e.2.2)
def toL (L : List EdT) : List Int := L.map fun e => e.2.2
theorem kE_len (m : Nat) (L : List EdT) : (kE m L).length = L.length := by simp [kE]
theorem set3 (w : World) (b : Nat) (v0 v1 v2 u0 u1 u2 : Value) (t : TypeId) (h : w.heap[b]? = some (.cells #[v0, v1, v2] t (0, 0))) : (((w.setCell ⟨b, 0, none⟩ u0).setCell ⟨b, 1, none⟩ u1).setCell ⟨b, 2, none⟩ u2).heap[b]? = some (.cells #[u0, u1, u2] t (0, 0)) :=
 heap_setCell_same _ _ 2 _ t _ (heap_setCell_same _ _ 1 _ t _ (heap_setCell_same _ _ 0 _ t _ h))
theorem nr_step {W1 w5 : World} {B i cE d5 : Nat} {aE z5 : Option Addr} {Ed : List EdT} {p s x3 : Int} (hT : Ed.take (i + 1) = Ed.take i ++ [(p, s, x3)]) (ho : w5.ownsRow B 3 1 (.slice z5 (i + 1) d5) (i + 1) ((toL (Ed.take i)).map (Value.int .i64) ++ [.int .i64 x3])) (hg : (W1.alloc (.cells #[.int .i64 x3] 3)).grownBy w5 (Value.slice aE i cE).ownBlock) : w5.ownsRow B 3 1 (.slice z5 (i + 1) d5) (i + 1) ((toL (Ed.take (i + 1))).map (Value.int .i64)) ∧ Only W1 w5 (fun k => (Value.slice aE i cE).ownBlock = some k) := by
 refine ⟨?_, ?_⟩
 · rw [hT]
   unfold toL at ho ⊢
   rw [List.map_append, List.map_append]
   exact ho
 · exact ⟨hg.os, hg.tape, hg.output, by have := hg.size; rw [World.size_alloc] at this; omega, fun x hx hn => (hg.block x (by rw [World.size_alloc]; omega) (fun e => hn e.symm)).trans (Below.heap_alloc _ _ _ hx)⟩
theorem nr_box {W1 w5 : World} {B b n : Nat} {v : Value} {xs : List Value} {o : Obj} (hR : W1.ownsRow B 3 1 v n xs) (o1 : Only W1 w5 (fun k => v.ownBlock = some k)) (hb : W1.heap[b]? = some o) (hlt : b < B) : w5.heap[b]? = some o :=
 (o1.block _ (Array.getElem?_eq_some_iff.1 hb).1 (fun h => by have := (hR.lt _ h).1; omega)).trans hb
theorem row_tag {W : World} {B k n sz : Nat} {e t : TypeId} {v : Value} {xs : List Value} {cs : Array Value} {fr : Nat × Nat} (h : W.ownsRow B e sz v n xs) (hb : W.heap[k]? = some (.cells cs t fr)) (hne : t ≠ e) (hk : v.ownBlock = some k) : False := by
 rcases h.2 with ⟨hv, _⟩ | ⟨g', cap', cur', hv, _, hgc, _⟩
 · subst hv
   cases hk
 · subst hv
   have e2 : g' = k := by simpa [Value.ownBlock] using hk
   subst e2
   rw [hgc] at hb
   cases hb
   exact hne rfl
structure RwA (B : Nat) (w : World) (m R : Nat) (Ed : List EdT) (aE : Option Addr) (n cE g : Nat) : Prop where
 ow : w.ownsRow B 3 1 (.slice aE n cE) n ((toL Ed).map (Value.int .i64))
 fi : Mrw w g 3 (R + 1) (fun c => .int .i64 ((lessC (kE m Ed) c : Nat) : Int)) (R + 1)
 ge : B ≤ g
theorem newRows_any (w : World) (N m : Nat) (a1 a2 a3 : Option Addr) (l1 l2 c1 c2 c3 : Nat) (Ed : List EdT) (hN : N ≤ 4096) (hm : m ≤ 128) (hE : Hid (RdE w a3 Ed)) (hl : Ed.length ≤ 4194304) (hF : Hid (∀ e ∈ Ed, (0 ≤ e.1 ∧ e.1 < (N : Int)) ∧ 0 ≤ e.2.1 ∧ e.2.1 < (m : Int))) :
 Calls Tryz.prog 89 #[.agg #[.int .i64 (N : Int), .int .i64 (m : Int), .slice a1 l1 c1, .slice a2 l2 c2, .slice a3 Ed.length c3]] w fun e w' => ∃ aE cE g, e = .returned (.agg #[.int .i64 (m : Int), .slice aE Ed.length cE, .slice (some ⟨g, 0, none⟩) (N * m + 1) (N * m + 1)]) ∧ Hid (RwA w.heap.size w' m (N * m) Ed aE Ed.length cE g) ∧ Below w.heap.size w w' := by
 obtain ⟨n3, en⟩ : ∃ n, Ed.length = n := ⟨_, rfl⟩
 obtain ⟨R, hR⟩ : ∃ R, N * m = R := ⟨_, rfl⟩
 rw [en, hR]
 rw [en] at hl
 have hRl : R ≤ 524288 := by rw [← hR]; exact Nat.le_trans (Nat.mul_le_mul hN hm) (by decide)
 have HN3 := hide en
 have HRR := hide hR
 obtain ⟨i9, hi9, hz90, hz91, hz92⟩ := info_parts info3
 obtain ⟨M, hM⟩ : ∃ M, M = madeCells (Value.int .i64 0).cells ((((R : Nat) : Int) + 1).toNat * i9.size) := ⟨_, rfl⟩
 have hmk : ∀ W : World, (Instr.makeSlice 22 (.int .i64 ((R : Int) + 1)) (.int .i64 ((R : Int) + 1))).run Tryz.prog W = .ok (.slice (some ⟨W.heap.size, 0, none⟩) (R + 1) (R + 1)) (W.alloc (.cells M 3)) := fun W => by
  have h := run_make (P := Tryz.prog) W 22 3 i9 (.int .i64 0) Tryz.underlying22 hi9 hz90 .i64 .i64 ((R : Int) + 1) ((R : Int) + 1) (by omega) (by omega) (by rw [hz92]; omega) (by omega)
  rw [← hM] at h
  rw [h]
  have : ((R : Int) + 1).toNat = R + 1 := by omega
  rw [this]
 have hwr : IntKind.i64.wrap ((R : Int) + 1) = (R : Int) + 1 := by rw [IntKind.wrap_i64]; omega
 have hmk : ∀ W : World, (Instr.makeSlice 22 (.int .i64 (IntKind.i64.wrap ((R : Int) + 1))) (.int .i64 (IntKind.i64.wrap ((R : Int) + 1)))).run Tryz.prog W = .ok (.slice (some ⟨W.heap.size, 0, none⟩) (R + 1) (R + 1)) (W.alloc (.cells M 3)) := by rw [hwr]; exact hmk
 clear hwr
 have hmul : IntKind.i64.wrap ((N : Int) * (m : Int)) = (R : Int) := by
  have : (N : Int) * (m : Int) = (R : Int) := by rw [← hR]; simp
  rw [this, IntKind.wrap_i64]
  omega
 have HM := hide (And.intro hM hz91)
 have HI := hide (And.intro hi9 (And.intro hz90 (And.intro hz91 hz92)))
 clear hM hi9 hz90 hz91 hz92 en hR
 obtain ⟨W0, hW0⟩ : ∃ W0, (w.alloc (.cells #[.int .i64 (N : Int), .int .i64 (m : Int), .slice a1 l1 c1, .slice a2 l2 c2, .slice a3 n3 c3] 25)).alloc (.cells #[.int .i64 0, .slice none 0 0, .slice none 0 0] 93) = W0 := ⟨_, rfl⟩
 have HD := hide (box3 w #[.int .i64 (N : Int), .int .i64 (m : Int), .slice a1 l1 c1, .slice a2 l2 c2, .slice a3 n3 c3] #[.int .i64 0, .slice none 0 0, .slice none 0 0] 25 93)
 rw [hW0] at HD
 have B0 := HD.out.2.1
 obtain ⟨k0, k1⟩ := zd2 B0 rfl rfl
 clear B0
 go_enter Tryz.func89, Tryz.ntmps89
 go_upto_region 1 with fail
 go_cut [3] from 3 to 16 (fun p3 W => ∃ b g, p3 = .pointer (some ⟨b, 0, none⟩) ∧ Hid (W.heap[b]? = some (.cells #[.int .i64 (m : Int), .slice none 0 0, .slice (some ⟨g, 0, none⟩) (R + 1) (R + 1)] 93 (0, 0)) ∧ W.heap[g]? = some (.cells M 3 (0, 0)) ∧ b ≠ g ∧ W0.heap.size ≤ b ∧ W0.heap.size ≤ g ∧ Below W0.heap.size W0 W))
 case first =>
  go_region_held3 (fun W2 => W2.cell? ⟨w.heap.size, 0, none⟩ = some (.int .i64 (N : Int)) ∧ W2.cell? ⟨w.heap.size, 1, none⟩ = some (.int .i64 (m : Int)))
   (first | go_keep | assumption)
   (fail)
  · go_wp2_with fail
    go_meet
    refine ⟨W0.heap.size + 1, W0.heap.size, rfl, hide ?_⟩
    have q := box3 W0 M #[.int .i64 (m : Int), .slice none 0 0, .slice (some ⟨W0.heap.size, 0, none⟩) (R + 1) (R + 1)] 3 93
    exact ⟨q.2.2.1, q.2.1, by omega, by omega, by omega, q.1.drew⟩
  · go_wp2_with fail
    go_meet
    refine ⟨W0.heap.size, W0.heap.size + 1, rfl, hide ?_⟩
    have q := box3 W0 #[.int .i64 (m : Int), .slice none 0 0, .slice (some ⟨W0.heap.size + 1, 0, none⟩) (R + 1) (R + 1)] M 93 3
    exact ⟨q.2.1, q.2.2.1, by omega, by omega, by omega, q.1.drew⟩
 case rest =>
  obtain ⟨b, g, rfl, HX⟩ := hcut
  rename World => wx
  clear hmk k0 k1 hmul
  have y4 : wx.cell? ⟨w.heap.size, 4, none⟩ = some (.slice a3 n3 c3) := cell_of (blk_on HD.out.2.1 HX.out.2.2.2.2.2) rfl
  have m0 : Mrw wx g 3 (R + 1) (fun c => .int .i64 ((cntAt (kE m (Ed.take 0)) c : Nat) : Int)) (R + 1) := by
   refine ⟨M, HX.out.2.1, by rw [HM.out.1, HM.out.2, size_madeCells]; omega, fun j hj => ?_⟩
   rw [HM.out.1, HM.out.2]
   rw [← Array.getElem?_toList, show (Value.int .i64 0).cells = #[Value.int .i64 0] from rfl, toList_madeCells_one, List.getElem?_replicate, if_pos (by omega)]
   simp [cntAt, kE]
  have HP : Hid (b ≠ g ∧ W0.heap.size ≤ b ∧ W0.heap.size ≤ g ∧ b < wx.heap.size ∧ g < wx.heap.size ∧ W0.heap.size = w.heap.size + 2) := hide ⟨HX.out.2.2.1, HX.out.2.2.2.1, HX.out.2.2.2.2.1, (Array.getElem?_eq_some_iff.1 HX.out.1).1, (Array.getElem?_eq_some_iff.1 HX.out.2.1).1, HD.out.2.2.2⟩
  have H0 : Hid (wx.ownsRow wx.heap.size 3 1 (.slice none 0 0) 0 ((toL (Ed.take 0)).map (Value.int .i64)) ∧ Mrw wx g 3 (R + 1) (fun c => .int .i64 ((cntAt (kE m (Ed.take 0)) c : Nat) : Int)) (R + 1) ∧ wx.heap[b]? = some (.cells #[.int .i64 (m : Int), .slice none 0 0, .slice (some ⟨g, 0, none⟩) (R + 1) (R + 1)] 93 (0, 0)) ∧ Below W0.heap.size W0 wx ∧ wx.heap.size ≤ wx.heap.size) := hide ⟨World.ownsRow_nil _ _ _ _, m0, HX.out.1, HX.out.2.2.2.2.2, Nat.le_refl _⟩
  clear m0 HX
  go_wp2_with fail
  clear y4
  go_loopw [20] (fun iv wr => ∃ i : Nat, i ≤ n3 ∧ iv = .int .i64 (i : Int) ∧ ∃ aE cE, Hid (wr.ownsRow wx.heap.size 3 1 (.slice aE i cE) i ((toL (Ed.take i)).map (Value.int .i64)) ∧ Mrw wr g 3 (R + 1) (fun c => .int .i64 ((cntAt (kE m (Ed.take i)) c : Nat) : Int)) (R + 1) ∧ wr.heap[b]? = some (.cells #[.int .i64 (m : Int), .slice aE i cE, .slice (some ⟨g, 0, none⟩) (R + 1) (R + 1)] 93 (0, 0)) ∧ Below W0.heap.size W0 wr ∧ wx.heap.size ≤ wr.heap.size)) (fun iv _ => n3 - (intOf iv).toNat)
  case atStart => exact ⟨0, Nat.zero_le _, rfl, none, 0, H0⟩
  case round =>
   obtain ⟨i, hi, rfl, aE, cE, HY⟩ := hrel
   clear H0
   by_cases hil : i < n3
   · have i0 : (0 : Int) ≤ (i : Int) := by omega
     have i1 : (i : Int) < (n3 : Int) := by omega
     have hjl : i < Ed.length := by have := HN3.out; omega
     obtain ⟨ge, o, ea, q1, q2, q3⟩ := (hE.out.on (HD.out.1.trans (HY.out.2.2.2.1.mono HD.out.1.size))) i hjl
     subst ea
     have HTk := hide (List.take_succ_eq_append_getElem hjl)
     have HN := hide (hF.out Ed[i] (List.getElem_mem hjl))
     obtain ⟨x, hx⟩ : ∃ x, Ed[i] = x := ⟨_, rfl⟩
     rw [hx] at q1 q2 q3 HTk HN
     clear hx
     obtain ⟨x1, x2, x3⟩ := x
     obtain ⟨p, hp⟩ := Int.eq_ofNat_of_zero_le HN.out.1.1
     obtain ⟨s, hs⟩ := Int.eq_ofNat_of_zero_le HN.out.2.1
     have hp : x1 = (p : Int) := hp
     have hs : x2 = (s : Int) := hs
     subst hp hs
     have hp1 : p < N := by have := HN.out.1.2; simp only at this; omega
     have hs1 : s < m := by have := HN.out.2.2; simp only at this; omega
     obtain ⟨k, hk⟩ : ∃ k, p * m + s = k := ⟨_, rfl⟩
     have hkR : k < R := by
      rw [← hk, ← HRR.out]
      have : (p + 1) * m ≤ N * m := Nat.mul_le_mul_right _ hp1
      rw [Nat.add_mul, Nat.one_mul] at this
      omega
     have epm : (p : Int) * (m : Int) = ((p * m : Nat) : Int) := by simp
     have e1 : IntKind.i64.wrap ((p : Int) * (m : Int)) = (p : Int) * (m : Int) := by rw [epm, IntKind.wrap_i64]; omega
     have e2 : IntKind.i64.wrap ((p : Int) * (m : Int) + (s : Int)) = (k : Int) := by rw [epm, IntKind.wrap_i64]; omega
     clear epm
     have e3 : IntKind.i64.wrap ((k : Int) + 1) = (k : Int) + 1 := by rw [IntKind.wrap_i64]; omega
     have HKK := hide hk
     clear hk
     obtain ⟨W1, hW1⟩ : ∃ W1, wr.alloc (.cells #[.int .i64 (p : Int), .int .i64 (s : Int), .int .i64 x3] 61) = W1 := ⟨_, rfl⟩
     have HW : Hid (W1.heap[wr.heap.size]? = some (.cells #[.int .i64 (p : Int), .int .i64 (s : Int), .int .i64 x3] 61 (0, 0)) ∧ Below wr.heap.size wr W1 ∧ W1.heap.size = wr.heap.size + 1) := hide (by rw [← hW1]; exact ⟨World.alloc_heap_new _ _, (Below.refl _ _).alloc (Nat.le_refl _) _, by simp⟩)
     have y2 : W1.cell? ⟨wr.heap.size, 2, none⟩ = some (.int .i64 x3) := cell_of HW.out.1 rfl
     have b1 : W1.cell? ⟨b, 1, none⟩ = some (.slice aE i cE) := cell_of (blk_on HY.out.2.2.1 HW.out.2.1) rfl
     have HR1 := hide (own_below HY.out.1 HW.out.2.1)
     have hwx := HY.out.2.2.2.2
     have hw1 := HW.out.2.1.size
     obtain ⟨hi9, hz90, hz91, hz92⟩ := HI.out
     go_upto_region 6 with (at_builtin; refine wpList_append_own_at _ rfl _ _ 22 rfl wx.heap.size 3 i9 _ 1 8 Tryz.underlying22 hi9 hz90 hz91 hz92 rfl (by omega) (.slice aE i cE) i ((toL (Ed.take i)).map (Value.int .i64)) rfl (HR1.out.alloc _) ⟨W1.heap.size, 0, none⟩ 1 1 [.int .i64 x3] rfl rfl (World.news_of_block (cs := #[.int .i64 x3]) (t := 3) (fr := (0, 0)) (heap_alloc_new W1 _)) (by simp [Value.oneCell']) (by unfold maxLen; omega) (by omega) (by rw [World.size_alloc]; omega) ?_; intro v5 w5 ho hg hn5 hl5; obtain ⟨z5, d5, e5⟩ := own_slice ho; subst e5; have HG : Hid (w5.ownsRow wx.heap.size 3 1 (.slice z5 (i + 1) d5) (i + 1) ((toL (Ed.take (i + 1))).map (Value.int .i64)) ∧ Only W1 w5 (fun k => (Value.slice aE i cE).ownBlock = some k)) := hide (nr_step HTk.out ho hg); have Bb5 : Hid (w5.heap[b]? = some (.cells #[.int .i64 (m : Int), .slice aE i cE, .slice (some ⟨g, 0, none⟩) (R + 1) (R + 1)] 93 (0, 0))) := hide (nr_box HR1.out HG.out.2 (blk_on HY.out.2.2.1 HW.out.2.1) HP.out.2.2.2.1); have cb5 : w5.cell? ⟨b, 1, none⟩ = some (.slice aE i cE) := cell_of Bb5.out rfl; have fb5 : w5.frozen? ⟨b, 1, none⟩ = false := fz_of Bb5.out; clear ho hg hn5 hl5)
     obtain ⟨w6, hw6⟩ : ∃ W, w5.setCell ⟨b, 1, none⟩ (.slice z5 (i + 1) d5) = W := ⟨_, rfl⟩
     rw [hw6]
     have H6 : Hid (w6.ownsRow wx.heap.size 3 1 (.slice z5 (i + 1) d5) (i + 1) ((toL (Ed.take (i + 1))).map (Value.int .i64)) ∧ Mrw w6 g 3 (R + 1) (fun c => .int .i64 ((cntAt (kE m (Ed.take i)) c : Nat) : Int)) (R + 1) ∧ w6.heap[b]? = some (.cells #[.int .i64 (m : Int), .slice z5 (i + 1) d5, .slice (some ⟨g, 0, none⟩) (R + 1) (R + 1)] 93 (0, 0)) ∧ Below W0.heap.size W0 w6 ∧ wx.heap.size ≤ w6.heap.size ∧ w6.heap[wr.heap.size]? = some (.cells #[.int .i64 (p : Int), .int .i64 (s : Int), .int .i64 x3] 61 (0, 0))) := hide (by
      have hR := HR1.out
      have lo : ∀ k, (Value.slice aE i cE).ownBlock = some k → wx.heap.size ≤ k := fun k hk => (hR.lt k hk).1
      have o1 := HG.out.2
      have o2 : Only w5 w6 (fun k => k = b) := by rw [← hw6]; exact only_set _ _ _ _
      have pp := HP.out
      have Be := (o1.block _ (Array.getElem?_eq_some_iff.1 HW.out.1).1 (fun h => row_tag hR HW.out.1 (by decide) h)).trans HW.out.1
      have Mg := ((HY.out.2.1.below HW.out.2.1 HY.out.2.1.lt).only o1 (fun h => by have := lo _ h; omega)).only o2 (fun h => pp.1 h.symm)
      have d1 := HY.out.2.2.2.1.trans (HW.out.2.1.mono HY.out.2.2.2.1.size)
      have d5' := d1.trans (o1.toBelow d1.size (fun k hk => by have := lo _ hk; have := pp.2.2.2.2.2; have := HY.out.2.2.2.1.size; omega))
      exact ⟨row_only HG.out.1 o2 (fun k hk e => by have := (HG.out.1.lt k hk).1; omega), Mg, by rw [← hw6]; exact heap_setCell_same _ _ 1 _ 93 _ Bb5.out, d5'.trans (o2.toBelow d5'.size (fun k hk => by rw [hk]; exact pp.2.1)), Nat.le_trans hwx (Nat.le_trans HW.out.2.1.size (Nat.le_trans o1.size o2.size)), (o2.block _ (Array.getElem?_eq_some_iff.1 Be).1 (by have := HY.out.2.2.2.2; omega)).trans Be⟩)
     clear hw6 HG Bb5 cb5 fb5 HR1 HW y2 b1 hi9 hz90 hz91 hz92 hW1 hw1 hwx
     have b2 : w6.cell? ⟨b, 2, none⟩ = some (.slice (some ⟨g, 0, none⟩) (R + 1) (R + 1)) := cell_of H6.out.2.2.1 rfl
     obtain ⟨y0, y1⟩ := zd2 H6.out.2.2.2.2.2 rfl rfl
     have z1 : w6.cell? ⟨w.heap.size, 1, none⟩ = some (.int .i64 (m : Int)) := cell_of (blk_on HD.out.2.1 H6.out.2.2.2.1) rfl
     have r0 := H6.out.2.1.at (k + 1) (by omega)
     have r1 := H6.out.2.1.fz (k + 1)
     have hc := Nat.le_trans (cntAt_le (kE m (Ed.take i)) (k + 1)) (by rw [kE_len, List.length_take]; omega : (kE m (Ed.take i)).length ≤ i)
     obtain ⟨cn, hcn⟩ : ∃ cn, cntAt (kE m (Ed.take i)) (k + 1) = cn := ⟨_, rfl⟩
     simp only [hcn] at r0 hc
     have HC := hide hcn
     clear hcn
     have j4 : (k : Int) + 1 < (R : Int) + 1 := by omega
     have j5 : (0 : Int) ≤ (k : Int) + 1 := by omega
     have j6 : IntKind.i64.wrap ((cn : Int) + 1) = (cn : Int) + 1 := by rw [IntKind.wrap_i64]; omega
     have J : Hid ((w6.setCell ⟨g, k + 1, none⟩ (.int .i64 ((cn : Int) + 1))).ownsRow wx.heap.size 3 1 (.slice z5 (i + 1) d5) (i + 1) ((toL (Ed.take (i + 1))).map (Value.int .i64)) ∧ Mrw (w6.setCell ⟨g, k + 1, none⟩ (.int .i64 ((cn : Int) + 1))) g 3 (R + 1) (fun c => .int .i64 ((cntAt (kE m (Ed.take (i + 1))) c : Nat) : Int)) (R + 1) ∧ (w6.setCell ⟨g, k + 1, none⟩ (.int .i64 ((cn : Int) + 1))).heap[b]? = some (.cells #[.int .i64 (m : Int), .slice z5 (i + 1) d5, .slice (some ⟨g, 0, none⟩) (R + 1) (R + 1)] 93 (0, 0)) ∧ Below W0.heap.size W0 (w6.setCell ⟨g, k + 1, none⟩ (.int .i64 ((cn : Int) + 1))) ∧ wx.heap.size ≤ (w6.setCell ⟨g, k + 1, none⟩ (.int .i64 ((cn : Int) + 1))).heap.size) := hide (by
      have o := only_set w6 g (k + 1) (.int .i64 ((cn : Int) + 1))
      have pp := HP.out
      refine ⟨row_only H6.out.1 o (fun q hq e => by have := (H6.out.1.lt q hq).1; omega), (H6.out.2.1.upd (k + 1) _).congr fun c hc => ?_, (o.block b (Array.getElem?_eq_some_iff.1 H6.out.2.2.1).1 (fun e => pp.1 e)).trans H6.out.2.2.1, H6.out.2.2.2.1.trans (o.toBelow H6.out.2.2.2.1.size (fun q hq => by rw [hq]; exact pp.2.2.1)), Nat.le_trans H6.out.2.2.2.2.1 o.size⟩
      rw [HTk.out, show kE m (Ed.take i ++ [((p : Int), (s : Int), x3)]) = kE m (Ed.take i) ++ [((p : Int) * (m : Int) + (s : Int), 0, x3)] by simp [kE], cntAt_snoc]
      have ek : (p : Int) * (m : Int) + (s : Int) = (k : Int) := by rw [← HKK.out]; simp
      simp only [ek]
      by_cases e : c = k + 1
      · subst e
        rw [if_pos rfl, if_pos (by simp), HC.out]
        rfl
      · rw [if_neg e, if_neg (by omega)]
        rfl)
     clear H6 HTk
     go_wp2_with fail
     refine ⟨⟨i + 1, by omega, by go_num, z5, d5, J⟩, by simp [intOf]; omega⟩
   · obtain rfl : n3 = i := by omega
     have i1 : ¬ (n3 : Int) < (n3 : Int) := by omega
     obtain ⟨y0, y1⟩ := zd2 (blk_on HD.out.2.1 HY.out.2.2.2.1) rfl rfl
     have hmul : IntKind.i64.wrap ((N : Int) * (m : Int)) = (R : Int) := by
      have : (N : Int) * (m : Int) = (R : Int) := by rw [← HRR.out]; simp
      rw [this, IntKind.wrap_i64]
      omega
     have HZ : Hid (wr.ownsRow wx.heap.size 3 1 (.slice aE n3 cE) n3 ((toL Ed).map (Value.int .i64)) ∧ Mrw wr g 3 (R + 1) (firstV (kE m Ed) 0) (R + 1) ∧ wr.heap[b]? = some (.cells #[.int .i64 (m : Int), .slice aE n3 cE, .slice (some ⟨g, 0, none⟩) (R + 1) (R + 1)] 93 (0, 0)) ∧ Below W0.heap.size W0 wr ∧ wx.heap.size ≤ wr.heap.size) := hide (by
      have t := HY.out
      rw [List.take_of_length_le (by have := HN3.out; omega)] at t
      refine ⟨t.1, t.2.1.congr (fun c _ => ?_), t.2.2⟩
      unfold firstV
      by_cases e : c ≤ 0
      · obtain rfl : c = 0 := by omega
        have q := lessC_zero (kE m Ed) (fun e he => by
         obtain ⟨x, hx, rfl⟩ := List.mem_map.1 he
         have := hF.out x hx
         have h2 : 0 ≤ x.1 * (m : Int) := Int.mul_nonneg this.1.1 (by omega)
         show 0 ≤ x.1 * (m : Int) + x.2.1
         omega)
        rw [if_pos e, q.1, q.2]
      · rw [if_neg e])
     clear HY
     go_upto_region 8 with fail
     go_wp2_with fail
     clear y0 y1 hmul
     go_loopw [52] (fun iv wr => ∃ p : Nat, p ≤ R ∧ iv = .int .i64 (p : Int) ∧ Hid (wr.ownsRow wx.heap.size 3 1 (.slice aE n3 cE) n3 ((toL Ed).map (Value.int .i64)) ∧ Mrw wr g 3 (R + 1) (firstV (kE m Ed) p) (R + 1) ∧ wr.heap[b]? = some (.cells #[.int .i64 (m : Int), .slice aE n3 cE, .slice (some ⟨g, 0, none⟩) (R + 1) (R + 1)] 93 (0, 0)) ∧ Below W0.heap.size W0 wr ∧ wx.heap.size ≤ wr.heap.size)) (fun iv _ => R - (intOf iv).toNat)
     case atStart => exact ⟨0, Nat.zero_le _, rfl, HZ⟩
     case round =>
      obtain ⟨p, hp, rfl, HQ⟩ := hrel
      clear HZ
      by_cases hlt : p < R
      · have j0 : (0 : Int) ≤ (p : Int) := by omega
        have j1 : (p : Int) < (R : Int) := by omega
        have j2 : (p : Int) < (R : Int) + 1 := by omega
        have j3 : (p : Int) + 1 < (R : Int) + 1 := by omega
        have j4 : (0 : Int) ≤ (p : Int) + 1 := by omega
        have r0 := HQ.out.2.1.at p (by omega)
        have r1 := HQ.out.2.1.at (p + 1) (by omega)
        have r2 := HQ.out.2.1.fz (p + 1)
        have y5 : wr.cell? ⟨b, 2, none⟩ = some (.slice (some ⟨g, 0, none⟩) (R + 1) (R + 1)) := cell_of HQ.out.2.2.1 rfl
        unfold firstV at r0 r1
        rw [if_pos (Nat.le_refl _)] at r0
        rw [if_neg (by omega)] at r1
        have u0 := lessC_le (kE m Ed) p
        have u1 := cntAt_le (kE m Ed) (p + 1)
        rw [kE_len, HN3.out] at u0 u1
        have HS := hide (lessC_succ (kE m Ed) p)
        generalize lessC (kE m Ed) p = s at r0 u0 HS
        generalize cntAt (kE m Ed) (p + 1) = c at r1 u1 HS
        have v0 : (s : Int) ≤ 4194304 := by omega
        have v1 : (c : Int) ≤ 4194304 := by omega
        have v2 : (0 : Int) ≤ (s : Int) := by omega
        have v3 : (0 : Int) ≤ (c : Int) := by omega
        go_upto_region 11 with fail
        refine wp_region_phase 12 #[true, true, true, true, true, true, true, true, true, true, true, true, false, false] (by kernel_rfl) (by kernel_rfl) ?_
        simp only [List.take_succ_cons, List.take_zero, List.drop_succ_cons, List.drop_zero]
        repeat (go_big_quiet_step (fail))
        refine wpQuiet_nil ?_
        intro wz hzz
        obtain ⟨nq, rfl⟩ := hzz
        have J : Hid (((wr.drewN nq).setCell ⟨g, p + 1, none⟩ (.int .i64 ((c : Int) + (s : Int)))).ownsRow wx.heap.size 3 1 (.slice aE n3 cE) n3 ((toL Ed).map (Value.int .i64)) ∧ Mrw ((wr.drewN nq).setCell ⟨g, p + 1, none⟩ (.int .i64 ((c : Int) + (s : Int)))) g 3 (R + 1) (firstV (kE m Ed) (p + 1)) (R + 1) ∧ ((wr.drewN nq).setCell ⟨g, p + 1, none⟩ (.int .i64 ((c : Int) + (s : Int)))).heap[b]? = some (.cells #[.int .i64 (m : Int), .slice aE n3 cE, .slice (some ⟨g, 0, none⟩) (R + 1) (R + 1)] 93 (0, 0)) ∧ Below W0.heap.size W0 ((wr.drewN nq).setCell ⟨g, p + 1, none⟩ (.int .i64 ((c : Int) + (s : Int)))) ∧ wx.heap.size ≤ ((wr.drewN nq).setCell ⟨g, p + 1, none⟩ (.int .i64 ((c : Int) + (s : Int)))).heap.size) := hide (by
         have o := only_set (wr.drewN nq) g (p + 1) (.int .i64 ((c : Int) + (s : Int)))
         have pp := HP.out
         have hb1 : (wr.drewN nq).heap[b]? = some (.cells #[.int .i64 (m : Int), .slice aE n3 cE, .slice (some ⟨g, 0, none⟩) (R + 1) (R + 1)] 93 (0, 0)) := HQ.out.2.2.1
         have mq : Mrw (wr.drewN nq) g 3 (R + 1) (firstV (kE m Ed) p) (R + 1) := HQ.out.2.1
         have hw1 : (wr.drewN nq).ownsRow wx.heap.size 3 1 (.slice aE n3 cE) n3 ((toL Ed).map (Value.int .i64)) := HQ.out.1
         refine ⟨row_only hw1 o (fun q hq e => by have := (hw1.lt q hq).1; omega), (mq.upd (p + 1) _).congr fun k hk => ?_, (o.block b (Array.getElem?_eq_some_iff.1 hb1).1 (fun e => pp.1 e)).trans hb1, (below_drewN' HQ.out.2.2.2.1 nq).trans (o.toBelow HQ.out.2.2.2.1.size (fun k hk => by rw [hk]; exact pp.2.2.1)), Nat.le_trans HQ.out.2.2.2.2 o.size⟩
         unfold firstV
         by_cases e : k = p + 1
         · subst e
           rw [if_pos rfl, if_pos (Nat.le_refl _), HS.out]
           simp
         · rw [if_neg e]
           by_cases e2 : k ≤ p
           · rw [if_pos e2, if_pos (by omega)]
           · rw [if_neg e2, if_neg (by omega)])
        have wcs : IntKind.i64.wrap ((c : Int) + (s : Int)) = (c : Int) + (s : Int) := by rw [IntKind.wrap_i64]; omega
        go_wp2_with fail
        go_roundw
        case rel => exact ⟨p + 1, by omega, by go_num, by first | exact J | (simp only [wcs]; exact J)⟩
        case measure => simp [intOf]; omega
      · obtain rfl : R = p := by omega
        have j1 : ¬ (R : Int) < (R : Int) := by omega
        have F3 := blk_on HD.out.2.2.1 HQ.out.2.2.2.1
        have HQ2 := HQ.out.2.2.1
        obtain ⟨o0, o1, o2⟩ := zd3 F3 rfl rfl rfl
        have f0 : wr.frozen? ⟨w.heap.size + 1, 0, none⟩ = false := fz_of F3
        have f1 : wr.frozen? ⟨w.heap.size + 1, 1, none⟩ = false := fz_of F3
        have f2 : wr.frozen? ⟨w.heap.size + 1, 2, none⟩ = false := fz_of F3
        obtain ⟨k0, k1, k2⟩ := zd3 HQ2 rfl rfl rfl
        have O6 := hide (And.intro (set3 wr (w.heap.size + 1) _ _ _ (.int .i64 (m : Int)) (.slice aE n3 cE) (.slice (some ⟨g, 0, none⟩) (R + 1) (R + 1)) 93 F3) (only3 wr (w.heap.size + 1) 0 1 2 (.int .i64 (m : Int)) (.slice aE n3 cE) (.slice (some ⟨g, 0, none⟩) (R + 1) (R + 1))))
        clear F3 HQ2
        go_wp2_with fail
        refine bodyPost_ret (results_cell_row (p := 2) (ty := 93) rfl _ _ (w.heap.size + 1) 93 _ (0, 0) _ rfl O6.out.1 Tryz.underlying93 rfl (by kernel_rfl)) rfl ?_
        have pp := HP.out
        have oo := O6.out.2
        have dd := HD.out.1.trans (HQ.out.2.2.2.1.mono HD.out.1.size)
        refine ⟨aE, cE, g, rfl, hide ⟨owns_down (B := wx.heap.size) ?_ ?_, (HQ.out.2.1.congr (fun c hc => by unfold firstV; rw [if_pos (by omega)])).only oo (by omega), by omega⟩, dd.trans (oo.toBelow dd.size (fun k hk => by omega))⟩
        · exact row_only HQ.out.1 oo (fun q hq e => by have := (HQ.out.1.lt q hq).1; omega)
        · omega
theorem from_any (w : World) (N p : Nat) (m y : Int) (a1 a2 : Option Addr) (l1 l2 c1 c2 g3 k3 gf : Nat) (Es : List EdT) (hE : Hid (RdE w (some ⟨g3, 0, none⟩) Es)) (hk : Es.length ≤ k3) (hM : Hid (Mrw w gf 3 (N + 1) (fun c => .int .i64 (lessC Es c : Nat)) (N + 1))) (hp : p < N) (hN : N ≤ 4096) (hS : Hid (SsE Es)) (hl : Es.length ≤ 4194304) :
 Calls Tryz.prog 152 #[.agg #[.int .i64 (N : Int), .int .i64 m, .slice a1 l1 c1, .slice a2 l2 c2, .slice (some ⟨g3, 0, none⟩) Es.length k3, .slice (some ⟨gf, 0, none⟩) (N + 1) (N + 1)], .int .i64 (p : Int), .int .i64 y] w fun e w' => ∃ o c, e = .returned (.slice (some ⟨g3, o, none⟩) (fromL Es p y).length c) ∧ Hid (RdE w (some ⟨g3, o, none⟩) (fromL Es p y)) ∧ Below w.heap.size w w' := by
 obtain ⟨W0, hW0⟩ : ∃ W0, w.alloc (.cells #[.int .i64 (N : Int), .int .i64 m, .slice a1 l1 c1, .slice a2 l2 c2, .slice (some ⟨g3, 0, none⟩) Es.length k3, .slice (some ⟨gf, 0, none⟩) (N + 1) (N + 1)] 124) = W0 := ⟨_, rfl⟩
 have HD : Hid (Below w.heap.size w W0) := hide (by rw [← hW0]; exact (Below.refl _ _).alloc (Nat.le_refl _) _)
 have b0 : W0.heap[w.heap.size]? = some (.cells #[.int .i64 (N : Int), .int .i64 m, .slice a1 l1 c1, .slice a2 l2 c2, .slice (some ⟨g3, 0, none⟩) Es.length k3, .slice (some ⟨gf, 0, none⟩) (N + 1) (N + 1)] 124 (0, 0)) := by rw [← hW0]; exact World.alloc_heap_new _ _
 have k4 : W0.cell? ⟨w.heap.size, 4, none⟩ = some (.slice (some ⟨g3, 0, none⟩) Es.length k3) := cell_of b0 rfl
 have k5 : W0.cell? ⟨w.heap.size, 5, none⟩ = some (.slice (some ⟨gf, 0, none⟩) (N + 1) (N + 1)) := cell_of b0 rfl
 have HM := hide (hM.out.below HD.out hM.out.lt)
 have HE := hide (hE.out.on HD.out)
 have r0 := HM.out.at p (by omega)
 have r1 := HM.out.at (p + 1) (by omega)
 have u0 := lessC_le Es p
 have u1 := lessC_le Es (p + 1)
 have u2 : lessC Es p ≤ lessC Es (p + 1) := by rw [lessC_succ]; omega
 have HL := hide (subL_len (Es := Es) (lo := lessC Es p) u1)
 have HR := hide (subL_rd hE.out (lessC Es p) (lessC Es (p + 1)))
 have HU0 : ∀ L, subL Es (lessC Es p) (lessC Es (p + 1)) = L → ∀ i j (hi : i < L.length) (hj : j < L.length), i ≤ j → L[i].2.1 ≤ L[j].2.1 := fun L hL => by subst hL; exact part_up hS.out (p := p)
 have HQ := hide (fun (k z : Nat) (L : List EdT) (hL : subL Es (lessC Es p) (lessC Es (p + 1)) = L) => from_eq (y := y) hS.out (k := k) (z := z) hL)
 obtain ⟨L, hL⟩ : ∃ L, subL Es (lessC Es p) (lessC Es (p + 1)) = L := ⟨_, rfl⟩
 have HU := hide (HU0 L hL)
 clear HU0
 simp only [hL] at HL HR HQ
 replace HQ := hide (fun (k z : Nat) => HQ.out k z L rfl)
 generalize fromL Es p y = F at HQ ⊢
 simp only [Nat.zero_add] at HR
 generalize lessC Es p = lo at *
 generalize lessC Es (p + 1) = hi at *
 have v0 : (0 : Int) ≤ (p : Int) := by omega
 have v1 : (p : Int) < (N : Int) + 1 := by omega
 have v2 : (p : Int) + 1 < (N : Int) + 1 := by omega
 have v3 : (lo : Int) ≤ (hi : Int) := by omega
 have v4 : (hi : Int) ≤ (k3 : Int) := by omega
 have v5 : (p : Int) ≤ 4096 := by omega
 clear b0 hM hE hL
 go_enter Tryz.func152, Tryz.ntmps152
 go_upto_region 1 with fail
 go_cut [7] from 7 to 26 (fun v W => ∃ o c, v = .slice (some ⟨g3, o, none⟩) L.length c ∧ L.length ≤ c ∧ Hid (RdE w (some ⟨g3, o, none⟩) L) ∧ Hid (Below W0.heap.size W0 W))
 case first =>
  refine wp_region_phase 14 #[true, true, true, true, true, true, true, true, true, true, true, true, true, true, false, false] (by kernel_rfl) (by kernel_rfl) ?_
  simp only [List.take_succ_cons, List.take_zero, List.drop_succ_cons, List.drop_zero]
  repeat (go_big_quiet_step (fail))
  refine wpQuiet_nil ?_
  intro wz hzz
  obtain ⟨nq, rfl⟩ := hzz
  go_wp2_with fail
  · rename k3 = lo => hkl
    subst hkl
    go_meet
    have hn : L = [] := List.eq_nil_of_length_eq_zero (by have := HL.out; omega)
    exact ⟨0, 0, by rw [HL.out], by rw [hn]; simp, hide (by rw [hn]; intro j hj; simp at hj), hide (below_drewN2 (Below.refl _ _) nq)⟩
  · go_meet
    exact ⟨lo * 3, k3 - lo, by rw [HL.out], by rw [HL.out]; omega, HR, hide (below_drewN2 (Below.refl _ _) nq)⟩
 case rest =>
  obtain ⟨o, c, rfl, hc, HR2, HB⟩ := hcut
  rename World => wx
  have TS := search_any wx (some ⟨g3, o, none⟩) L c y (hide (HR2.out.on (HD.out.trans (HB.out.mono HD.out.size)))) (by have := HL.out; omega) HU
  have hll : L.length ≤ 4194304 := by have := HL.out; omega
  clear k4 k5 r0 r1 HR HU HL
  go_wp2_with (go_at_call 166; refine TS.mono ?_; rintro e w2 ⟨k, rfl, hkl, hkk, d2⟩)
  have HK := hide hkk
  have HB2 := hide (HB.out.trans (d2.mono HB.out.size))
  clear hkk d2 TS
  go_loopw [11] (fun ev wr => ∃ z : Nat, k ≤ z ∧ z ≤ L.length ∧ ev = .int .i64 z ∧ Hid (∀ t (h : t < L.length), k ≤ t → t < z → L[t].2.1 = y) ∧ Hid (Below W0.heap.size W0 wr)) (fun ev _ => L.length - (intOf ev).toNat)
  case atStart => exact ⟨k, Nat.le_refl _, hkl, rfl, hide (fun t _ h1 h2 => absurd h1 (by omega)), HB2⟩
  case round =>
   obtain ⟨z, hkz, hzl, rfl, HZ, HW⟩ := hrel
   clear HB2
   have fin : Hid ((∀ h : z < L.length, L[z].2.1 ≠ y) → subL L k z = F) := hide (fun he => HQ.out k z HK.out hkz HZ.out he)
   by_cases hz : z < L.length
   · obtain ⟨g', o', he, q0, q1, q2⟩ := (HR2.out.on (HD.out.trans (HW.out.mono HD.out.size))) z hz
     cases he
     have i0 : (0 : Int) ≤ (z : Int) := by omega
     have i1 : (z : Int) < (L.length : Int) := by omega
     by_cases hy : L[z].2.1 = y
     · have hy2 : (L[z].2.1 == y) = true := by simpa using hy
       have HZ2 : Hid (∀ t (h : t < L.length), k ≤ t → t < z + 1 → L[t].2.1 = y) := hide (fun t ht h1 h2 => by
        rcases Nat.lt_or_ge t z with h3 | h3
        · exact HZ.out t ht h1 h3
        · obtain rfl : t = z := by omega
          exact hy)
       rw [hy] at q1
       clear hy hy2
       go_wp2
       exact ⟨⟨z + 1, by omega, by omega, by go_num, HZ2, HW⟩, by simp [intOf]; omega⟩
     · have hy2 : (L[z].2.1 == y) = false := by simpa using hy
       have FN := hide (fin.out (fun _ => hy))
       generalize L[z].2.1 = x1 at q1 hy hy2
       have k0 : (k : Int) ≤ (z : Int) := by omega
       have k1 : (z : Int) ≤ (c : Int) := by omega
       go_wp2
       refine bodyPost_ret (results_tmp rfl _ _ _) rfl ?_
       exact ⟨o + k * 3, c - k, by rw [← FN.out, subL_len hzl]; rfl, hide (by rw [← FN.out]; exact subL_rd HR2.out k z), HD.out.trans (HW.out.mono HD.out.size)⟩
   · have FN := hide (fin.out (fun q => absurd q hz))
     have i1 : ¬ (z : Int) < (L.length : Int) := by omega
     have k0 : (k : Int) ≤ (z : Int) := by omega
     have k1 : (z : Int) ≤ (c : Int) := by omega
     by_cases hck : c = k
     · have hn : F = [] := by rw [← FN.out]; exact List.eq_nil_of_length_eq_zero (by rw [subL_len hzl]; omega)
       have e0 : z - k = 0 := by omega
       go_wp2
       refine bodyPost_ret (results_tmp rfl _ _ _) rfl ?_
       subst hn
       simp only
       exact ⟨o, ⟨0, rfl⟩, hide (by intro j hj; simp at hj), HD.out.trans (HW.out.mono HD.out.size)⟩
     · go_wp2
       refine bodyPost_ret (results_tmp rfl _ _ _) rfl ?_
       exact ⟨o + k * 3, ⟨c - k, by rw [← FN.out, subL_len hzl]; rfl⟩, hide (by rw [← FN.out]; exact subL_rd HR2.out k z), HD.out.trans (HW.out.mono HD.out.size)⟩
theorem only_drew {w w' : World} {R : Nat → Prop} (h : Only w w' R) : Only w w'.drew R := ⟨h.os, h.tape, h.output, h.size, h.block⟩
theorem add_only (b g cap n X j : Nat) (w : World) (hs : IsSet w b g cap n X) (hbg : b ≠ g) (hj : j < n) :
 Calls Tryz.prog 138 #[.pointer (some ⟨b, 0, none⟩), .int .i64 j] w fun e w' => e = .returned (.int .i64 0) ∧ IsSet w' b g cap n (X ||| 2 ^ j) ∧ Only w w' (fun k => k = g) := by
 have h0 := hs.c0
 have h1 := hs.c1
 have hn := hs.hn
 have hix : j / 64 < nw n := by unfold nw; omega
 have hw := hs.word (j / 64) hix
 have hfz : w.frozen? ⟨g, j / 64, none⟩ = false := hs.own.frozenAt _
 have HS := hide hs
 obtain ⟨q, hq⟩ : ∃ q, j / 64 = q := ⟨_, rfl⟩
 have hi2 : IntKind.i64.wrap ((j : Int) / 64) = (q : Int) := by rw [IntKind.wrap_i64]; omega
 rw [hq] at hix hw hfz
 have hi0 : (0 : Int) ≤ (q : Int) := by omega
 have hi1 : (q : Int) < (nw n : Int) := by omega
 have HQ := hide hq
 clear hs hq
 go_enter Tryz.func138, Tryz.ntmps138
 go_wp2_with (go_at_call 153; refine (inRange_yes b j n _ h0 (by omega)).mono ?_; rintro e w' ⟨rfl, hw⟩; obtain rfl := hw.symm; clear hw)
 go_region_with (go_at_call 154; refine (bit_any j _ (by omega) (by omega)).mono ?_; rintro e w' ⟨rfl, rfl⟩)
 all_goals go_wp2
 all_goals go_ret
 all_goals
  refine ⟨rfl, IsSet.drew (HS.out.store hbg hix (or_lt n X j HS.out.hX hj) (fun i _ hne => or_other X j i (by rw [HQ.out]; exact hne)) ?_), ?_⟩
  · rw [← HQ.out]
    have hm : (((j : Int) % 64).toNat) = j % 64 := by omega
    have := or_bit X j
    first
     | exact this
     | (simp only [hm]; exact this)
     | (simp only [hm]; simpa using this)
  · exact only_drew (only_set w g q _)
structure Wk (w : World) (N g3 k3 gf : Nat) (Es : List EdT) : Prop where
 e : RdE w (some ⟨g3, 0, none⟩) Es
 k : Es.length ≤ k3
 f : Mrw w gf 3 (N + 1) (fun c => .int .i64 (lessC Es c : Nat)) (N + 1)
 s : SsE Es
 i : ∀ x ∈ Es, (0 ≤ x.1 ∧ x.1 < (N : Int)) ∧ 0 ≤ x.2.2 ∧ x.2.2 < (N : Int)
 l : Es.length ≤ 4194304
 n : N ≤ 4096
theorem Wk.on {w w' : World} {N g3 k3 gf : Nat} {Es : List EdT} (h : Wk w N g3 k3 gf Es) (d : Below w.heap.size w w') : Wk w' N g3 k3 gf Es :=
 ⟨h.e.on d, h.k, h.f.below d h.f.lt, h.s, h.i, h.l, h.n⟩
def oneF (R : Nat) (L : List EdT) : Nat := L.foldl (fun R e => R ||| 2 ^ e.2.2.toNat) R
def stepF (Es : List EdT) (y : Int) (l : List Nat) : Nat := l.foldl (fun R p => oneF R (fromL Es p y)) 0
theorem oneF_snoc (R : Nat) (L : List EdT) (e : EdT) : oneF R (L ++ [e]) = oneF R L ||| 2 ^ e.2.2.toNat := by simp [oneF]
theorem stepF_snoc (Es : List EdT) (y : Int) (l : List Nat) (p : Nat) : stepF Es y (l ++ [p]) = oneF (stepF Es y l) (fromL Es p y) := by simp [stepF]
theorem oneF_test (q : Nat) : ∀ (L : List EdT) (R : Nat), (oneF R L).testBit q = true ↔ R.testBit q = true ∨ ∃ e ∈ L, e.2.2.toNat = q
 | [], R => by simp [oneF]
 | e :: L, R => by
  have := oneF_test q L (R ||| 2 ^ e.2.2.toNat)
  have e1 : oneF R (e :: L) = oneF (R ||| 2 ^ e.2.2.toNat) L := rfl
  rw [e1, this, Nat.testBit_or, Bool.or_eq_true, Nat.testBit_two_pow, decide_eq_true_eq]
  simp only [List.mem_cons, exists_eq_or_imp]
  exact or_assoc
theorem stepF_test (Es : List EdT) (y : Int) (q : Nat) (l : List Nat) : (stepF Es y l).testBit q = true ↔ ∃ p ∈ l, ∃ e ∈ fromL Es p y, e.2.2.toNat = q := by
 have key : ∀ (l : List Nat) (R : Nat), (l.foldl (fun R p => oneF R (fromL Es p y)) R).testBit q = true ↔ R.testBit q = true ∨ ∃ p ∈ l, ∃ e ∈ fromL Es p y, e.2.2.toNat = q := by
  intro l
  induction l with
  | nil => intro R; simp
  | cons p l ih =>
   intro R
   rw [List.foldl_cons, ih, oneF_test]
   simp only [List.mem_cons, exists_eq_or_imp]
   exact or_assoc
 unfold stepF
 rw [key]
 simp
theorem step_img {Es : List EdT} {N X : Nat} (hi : ∀ x ∈ Es, (0 ≤ x.1 ∧ x.1 < (N : Int)) ∧ 0 ≤ x.2.2 ∧ x.2.2 < (N : Int)) (y : Int) : stepF Es y (elems N X) = imgF false X y Es := by
 apply Nat.eq_of_testBit_eq
 intro q
 rw [Bool.eq_iff_iff, stepF_test, imgF_test]
 constructor
 · rintro ⟨p, hp, e, he, rfl⟩
   rw [fromL_iff] at he
   obtain ⟨h1, h2, h3⟩ := he
   refine ⟨e, h1, h3, ?_, rfl⟩
   have := (mem_elems.1 hp).2
   simp only [ends, Bool.false_eq_true, if_false, hasB, h2]
   simpa using this
 · rintro ⟨e, he, h1, h2, h3⟩
   have h4 := hi e he
   obtain ⟨p, hp⟩ := Int.eq_ofNat_of_zero_le h4.1.1
   refine ⟨p, ?_, e, fromL_iff.2 ⟨he, hp, h1⟩, h3⟩
   simp only [ends, Bool.false_eq_true, if_false, hasB, hp] at h2
   rw [mem_elems]
   exact ⟨by omega, by simpa using h2⟩
theorem Wk.lt {w : World} {N g3 k3 gf : Nat} {Es : List EdT} (h : Wk w N g3 k3 gf Es) {x : EdT} (hx : x ∈ Es) : g3 < w.heap.size := by
 obtain ⟨j, hj, rfl⟩ := List.getElem_of_mem hx
 obtain ⟨g, o, he, q, _⟩ := h.e j hj
 cases he
 exact World.block_lt_of_cell? w _ q
theorem KpU.ofOnly {B g : Nat} {W W' : World} (h0 : 0 < W.heap.size) (o : Only W W' (fun k => k = g)) (hg : g < B) (hg0 : g ≠ 0) : KpU B W W' :=
 ⟨o.size, o.block 0 h0 (fun e => hg0 e.symm), fun b _ _ hb hc => (o.block b (Array.getElem?_eq_some_iff.1 hc).1 (fun e => by omega)).trans hc⟩
theorem KpU.put {B : Nat} (W : World) (l : Nat) (r r' : Loop) (hl : 0 < l) (h : W.heap[l]? = some (.loop r)) : KpU B W (W.putObj l (.loop r')) := by
 refine ⟨by simp [World.putObj], World.putObj_heap_other (by omega), fun b cs fr _ hc => ?_⟩
 refine (World.putObj_heap_other fun e => ?_).trans hc
 rw [e] at hc
 rw [h] at hc
 cases hc
structure StI (w : World) (A : Array Value) (sym : Int) (c7 b2 g2 k2 N R : Nat) (W : World) : Prop where
 wb : W.heap[w.heap.size]? = some (.cells A 124 (0, 0))
 sb : W.heap[w.heap.size + 1]? = some (.cells #[.int .i64 sym] 3 (0, 0))
 cb : W.heap[c7]? = some (.cells #[.pointer (some ⟨b2, 0, none⟩)] 81 (0, 0))
 st : IsSet W b2 g2 k2 N R
 be : Below w.heap.size w W
theorem StI.on {w : World} {A : Array Value} {sym : Int} {c7 b2 g2 k2 N R : Nat} {W W' : World} (h : StI w A sym c7 b2 g2 k2 N R W) (d : Below W.heap.size W W') : StI w A sym c7 b2 g2 k2 N R W' :=
 ⟨blk_on h.wb d, blk_on h.sb d, blk_on h.cb d, h.st.below d, h.be.trans (d.mono h.be.size)⟩
theorem StI.put {w : World} {A : Array Value} {sym : Int} {c7 b2 g2 k2 N R l : Nat} {W : World} {r r' : Loop} (h : StI w A sym c7 b2 g2 k2 N R W) (hl : W.heap[l]? = some (.loop r)) (h1 : w.heap.size + 1 < l) : StI w A sym c7 b2 g2 k2 N R (W.putObj l (.loop r')) := by
 have ne : ∀ k (o : Obj), W.heap[k]? = some o → o ≠ Obj.loop r → (W.putObj l (.loop r')).heap[k]? = W.heap[k]? := fun k o hk ho => World.putObj_heap_other fun e => by
  rw [e, hl] at hk
  exact ho (by simpa using hk.symm)
 refine ⟨(ne _ _ h.wb (by simp)).trans h.wb, (ne _ _ h.sb (by simp)).trans h.sb, (ne _ _ h.cb (by simp)).trans h.cb, h.st.keep (ne _ _ h.st.blk (by simp)) ?_, ?_⟩
 · rcases h.st.own.2 with ⟨hv, _⟩ | ⟨g', cap', cur, hv, _, hg, _⟩
   · cases hv
   · cases hv
     exact ne _ _ hg (by simp)
 · exact ⟨h.be.os, h.be.tape, h.be.output, by have := h.be.size; simpa [World.putObj] using this, fun j hj => (World.putObj_heap_other (by omega)).trans (h.be.block j hj)⟩
theorem StI.only {w : World} {A : Array Value} {sym : Int} {c7 b2 g2 k2 N R R' : Nat} {W W' : World} (h : StI w A sym c7 b2 g2 k2 N R W) (o : Only W W' (fun k => k = g2)) (hs : IsSet W' b2 g2 k2 N R') (h1 : w.heap.size + 1 < g2) (h7 : c7 ≠ g2) : StI w A sym c7 b2 g2 k2 N R' W' :=
 ⟨(o.block _ (Array.getElem?_eq_some_iff.1 h.wb).1 (fun e => by omega)).trans h.wb, (o.block _ (Array.getElem?_eq_some_iff.1 h.sb).1 (fun e => by omega)).trans h.sb, (o.block _ (Array.getElem?_eq_some_iff.1 h.cb).1 h7).trans h.cb, hs,
  h.be.trans (o.toBelow h.be.size (fun k hk => by omega))⟩
end Go.Proofs.YtchoopnjckcohaaGreatDoor
