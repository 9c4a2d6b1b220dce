import Derived.Test.YtchoopnjckcohaaGreatDoorQai
import Derived.Maps.AppendAt
set_option maxRecDepth 100000
set_option maxHeartbeats 40000000
namespace Go.Proofs.YtchoopnjckcohaaGreatDoor
open Go.RowKit Go.Maps Go.Shelf
attribute [local go_sem] Oper.semAt_some
theorem step_any (w : World) (N : Nat) (m sym : Int) (a1 a2 : Option Addr) (l1 l2 c1 c2 g3 k3 gf : Nat) (Es : List EdT) (b g cap X : Nat) (hW : Hid (Wk w N g3 k3 gf Es)) (hs : Hid (IsSet w b g cap N X)) (hT : Hid (TabAt w ∧ 0 < w.heap.size)) :
 Calls Tryz.prog 127 #[.agg #[.int .i64 (N : Int), .int .i64 m, .slice a1 l1 c1, .slice a2 l2 c2, .slice (some ⟨g3, 0, none⟩) Es.length k3, .slice (some ⟨gf, 0, none⟩) (N + 1) (N + 1)], .pointer (some ⟨b, 0, none⟩), .int .i64 sym] w fun e w' => ∃ b' g' cap', e = .returned (.pointer (some ⟨b', 0, none⟩)) ∧ Hid (IsSet w' b' g' cap' N (imgF false X sym Es) ∧ w.heap.size ≤ b' ∧ w.heap.size ≤ g' ∧ b' ≠ g') ∧ Below w.heap.size w w' := by
 have hN := hW.out.n
 obtain ⟨W0, hW0⟩ : ∃ W0, (w.alloc (.cells #[.int .i64 (N : Int), .int .i64 m, .slice a1 l1 c1, .slice a2 l2 c2, .slice (some ⟨g3, 0, none⟩) Es.length k3, .slice (some ⟨gf, 0, none⟩) (N + 1) (N + 1)] 124)).alloc (.cells #[.int .i64 sym] 3) = W0 := ⟨_, rfl⟩
 have HD := hide (box3 w #[.int .i64 (N : Int), .int .i64 m, .slice a1 l1 c1, .slice a2 l2 c2, .slice (some ⟨g3, 0, none⟩) Es.length k3, .slice (some ⟨gf, 0, none⟩) (N + 1) (N + 1)] #[.int .i64 sym] 124 3)
 rw [hW0] at HD
 have B0 := HD.out.2.1
 obtain ⟨y0, y1, y2, y3, y4⟩ := zd5 B0 rfl rfl rfl rfl rfl
 clear B0
 have TS := setOf_any W0 N m a1 a2 (some ⟨g3, 0, none⟩) none l1 l2 Es.length c1 c2 k3 0 [] (hide (fun j h => absurd h (Nat.not_lt_zero j))) (Nat.zero_le _) hN (hide rfl)
 refine (callsIn_wide (n := 9)).1 (callsIn_of_wp_marks Tryz.func127 rfl trivial ?_ rfl)
 refine wpIn_wide.2 ?_
 simp only [Tryz.ntmps127, List.size_toArray, List.length_cons, List.length_nil, Nat.reduceAdd, Nat.reduceSub, Array.replicate_succ, Array.replicate_zero, List.push_toArray, List.append_toArray, List.nil_append, List.cons_append]
 go_wp2_with (first
  | (go_at_call 126; refine TS.mono ?_; rintro e w1 ⟨b2, g2, k2, rfl, hs2, hb2, hg2, hbg2, d1⟩)
  | (go_at_call 151; refine (all_any _ _).mono ?_; rintro e w3 ⟨rfl, hw3⟩))
 have hz := HD.out.2.2.2
 have d0 := HD.out.1.trans (d1.mono HD.out.1.size)
 obtain ⟨W3, hW3⟩ : ∃ W3, (w1.alloc (.cells #[.pointer (some ⟨b2, 0, none⟩)] 81)).alloc (.cells #[.pointer (some ⟨b, 0, none⟩)] 81) = W3 := ⟨_, rfl⟩
 rw [hW3]
 have q3 := box3 w1 #[.pointer (some ⟨b2, 0, none⟩)] #[.pointer (some ⟨b, 0, none⟩)] 81 81
 rw [hW3] at q3
 obtain ⟨e3, e4, e5, e6⟩ := q3
 have hlb := hs2.blt
 have hlg := hs2.glt
 have d13 : Below w1.heap.size w1 W3 := e3
 have HI0 : StI w #[.int .i64 (N : Int), .int .i64 m, .slice a1 l1 c1, .slice a2 l2 c2, .slice (some ⟨g3, 0, none⟩) Es.length k3, .slice (some ⟨gf, 0, none⟩) (N + 1) (N + 1)] sym w1.heap.size b2 g2 k2 N (stepF Es sym ((elems N X).take 0)) W3 :=
  ⟨blk_on (blk_on HD.out.2.1 d1) d13, blk_on (blk_on HD.out.2.2.1 d1) d13, e4, hs2.below d13, d0.trans (d13.mono d0.size)⟩
 have hsq := all_seq 8 (w1.heap.size + 1) b g cap N X W3 e5 ((hs.out.below d0).below d13) ((hT.out.1.below d0 hT.out.2).below d13 (Nat.lt_of_lt_of_le hT.out.2 d0.size))
 have HSEQ := hide hsq
 have HI := hide HI0
 have hsz1 := d1.size
 clear hsq HI0 e3 e4 e5 d13 hs2 y0 y1 y2 y3 y4 hW0 hW3 hw3 TS d1
 refine (wpIn_wide (n := 9)).1 ?_
 refine range_in_order (n := 9) (by omega) rfl (enters_of Tryz.func163 (by kernel_rfl) rfl) HSEQ.out KpU.trans ?kb (Below.refl _ _) (fun k W => StI w #[.int .i64 (N : Int), .int .i64 m, .slice a1 l1 c1, .slice a2 l2 c2, .slice (some ⟨g3, 0, none⟩) Es.length k3, .slice (some ⟨gf, 0, none⟩) (N + 1) (N + 1)] sym w1.heap.size b2 g2 k2 N (stepF Es sym ((elems N X).take k)) W) (fun k A A' h d => h.on d) ?ip HI.out (fun x => { tmps := #[.agg #[.int .i64 (N : Int), .int .i64 m, .slice a1 l1 c1, .slice a2 l2 c2, .slice (some ⟨g3, 0, none⟩) Es.length k3, .slice (some ⟨gf, 0, none⟩) (N + 1) (N + 1)], .pointer (some ⟨b, 0, none⟩), .int .i64 sym, .pointer (some ⟨w.heap.size, 0, none⟩), undef, .pointer (some ⟨w.heap.size + 1, 0, none⟩), .pointer none, .pointer (some ⟨w1.heap.size, 0, none⟩), x, undef, undef, .pointer (some ⟨w.heap.size, 0, none⟩), .agg #[.int .i64 (N : Int), .int .i64 m, .slice a1 l1 c1, .slice a2 l2 c2, .slice (some ⟨g3, 0, none⟩) Es.length k3], .pointer (some ⟨b2, 0, none⟩), .pointer (some ⟨b, 0, none⟩), .func (.func 163) #[] #[.pointer (some ⟨w1.heap.size + 1, 0, none⟩)], x, undef, undef, undef, undef, undef, undef, undef, undef, undef, undef, undef, undef, undef, undef, undef], defers := [] }) ?assign ?body ?done
 case kb => exact fun W r r' h => KpU.put W _ r r' (by omega) h
 case ip => exact fun k A r r' hI h => hI.put h (by omega)
 case assign =>
  intro l x W K hK
  gi_wp2
  exact hK
 case body =>
  rintro l k W hk hI hd ⟨r, hr⟩
  have hk2 : k < (elems N X).length := by simpa [intV] using hk
  have hv : (intV (elems N X))[k] = .int .i64 ((elems N X)[k] : Int) := by simp [intV]
  rw [hv]
  have hpN : (elems N X)[k] < N := (mem_elems.1 (List.getElem_mem hk2)).1
  have hsn : stepF Es sym ((elems N X).take (k + 1)) = oneF (stepF Es sym ((elems N X).take k)) (fromL Es (elems N X)[k] sym) := by
   rw [List.take_succ_eq_append_getElem hk2, stepF_snoc]
  have HSN := hide hsn
  obtain ⟨p, hp⟩ : ∃ p, (elems N X)[k] = p := ⟨_, rfl⟩
  simp only [hp] at hpN HSN ⊢
  have HWk := hide (hW.out.on hI.be)
  have TF := from_any W N p m sym a1 a2 l1 l2 c1 c2 g3 k3 gf Es (hide HWk.out.e) HWk.out.k (hide HWk.out.f) hpN hN (hide HWk.out.s) HWk.out.l
  have HFi : Hid (∀ x ∈ fromL Es p sym, 0 ≤ x.2.2 ∧ x.2.2 < (N : Int)) := hide (fun x hx => (HWk.out.i x (fromL_iff.1 hx).1).2)
  have HFg : Hid (∀ x ∈ fromL Es p sym, g3 < w.heap.size) := hide (fun x hx => hW.out.lt (fromL_iff.1 hx).1)
  have HFl : (fromL Es p sym).length ≤ 4194304 := Nat.le_trans (List.length_filter_le _ _) hW.out.l
  obtain ⟨x0, x1, x2, x3, x4, x5⟩ := zd6 hI.wb rfl rfl rfl rfl rfl rfl
  have xs : W.cell? ⟨w.heap.size + 1, 0, none⟩ = some (.int .i64 sym) := cell_of hI.sb rfl
  have HL := hide (And.intro (And.intro hd hr) (show W3.heap.size + 1 < W.heap.size from (Array.getElem?_eq_some_iff.1 hr).1))
  have HI2 := hide hI
  have hW3s : W3.heap.size = w1.heap.size + 2 := by omega
  generalize fromL Es p sym = F at TF HFi HFg HFl HSN
  generalize stepF Es sym ((elems N X).take k) = R at HI2 HSN hI
  clear hk hv hp hr hd hsn hI
  gi_wp2
  refine ⟨trivial, (CallsIn.inRound l (callsIn_wide.2 TF)).mono ?_⟩
  rintro e w4 ⟨o, c, rfl, hrF, d4⟩
  have H4 : Hid (IsSet w4 b2 g2 k2 N (oneF R (F.take 0)) ∧ Only W w4 (fun q => q = g2)) := hide ⟨HI2.out.st.below d4, Only.ofBelow d4⟩
  clear d4 TF x0 x1 x2 x3 x4 x5 xs
  gi_wp2
  gi_loopw [22] (fun iv wr => ∃ t : Nat, t ≤ F.length ∧ iv = .int .i64 t ∧ Hid (IsSet wr b2 g2 k2 N (oneF R (F.take t)) ∧ Only W wr (fun q => q = g2))) (fun iv _ => F.length - (intOf iv).toNat)
  case atStart => exact ⟨0, Nat.zero_le _, rfl, H4⟩
  case round =>
   obtain ⟨t, ht, rfl, HY⟩ := hrel
   clear H4
   by_cases hlt : t < F.length
   · have i0 : (0 : Int) ≤ (t : Int) := by omega
     have i1 : (t : Int) < (F.length : Int) := by omega
     have hne : g3 ≠ g2 := by
      have := HFg.out F[t] (List.getElem_mem hlt)
      omega
     obtain ⟨g', o', he, q1, q2, q3⟩ := (rdE_only hrF.out HY.out.2 (fun a b hab => by cases hab; exact hne)) t hlt
     cases he
     have HN := hide (HFi.out F[t] (List.getElem_mem hlt))
     have HTk := hide (show F.take (t + 1) = F.take t ++ [F[t]] by rw [List.take_add_one, List.getElem?_eq_getElem hlt]; rfl)
     obtain ⟨x, hx⟩ : ∃ x, F[t] = x := ⟨_, rfl⟩
     rw [hx] at q1 q2 q3 HTk HN
     clear hx
     obtain ⟨x1, x2, x3⟩ := x
     obtain ⟨j3, hj3⟩ := Int.eq_ofNat_of_zero_le HN.out.1
     have hj3 : x3 = (j3 : Int) := hj3
     subst hj3
     have hl3 : j3 < N := by have := HN.out.2; simp only at this; omega
     obtain ⟨W5, hW5⟩ : ∃ W5, wr.alloc (.cells #[.int .i64 x1, .int .i64 x2, .int .i64 (j3 : Int)] 61) = W5 := ⟨_, rfl⟩
     have HW5 : Hid (W5.heap[wr.heap.size]? = some (.cells #[.int .i64 x1, .int .i64 x2, .int .i64 (j3 : Int)] 61 (0, 0)) ∧ Below wr.heap.size wr W5) := hide (by rw [← hW5]; exact ⟨World.alloc_heap_new _ _, (Below.refl _ _).alloc (Nat.le_refl _) _⟩)
     have y2 : W5.cell? ⟨wr.heap.size, 2, none⟩ = some (.int .i64 (j3 : Int)) := cell_of HW5.out.1 rfl
     have hcb : wr.heap[w1.heap.size]? = some (.cells #[.pointer (some ⟨b2, 0, none⟩)] 81 (0, 0)) := (HY.out.2.block _ (Array.getElem?_eq_some_iff.1 HI2.out.cb).1 (by omega)).trans HI2.out.cb
     have y7 : W5.cell? ⟨w1.heap.size, 0, none⟩ = some (.pointer (some ⟨b2, 0, none⟩)) := cell_of (blk_on hcb HW5.out.2) rfl
     have T96 := add_only b2 g2 k2 N _ j3 W5 (HY.out.1.below HW5.out.2) hbg2 hl3
     clear hcb
     gi_wp2
     refine ⟨trivial, (CallsIn.inRound l (callsIn_wide.2 T96)).mono ?_⟩
     rintro e w6 ⟨rfl, hs6, o6⟩
     have H6 : Hid (IsSet w6 b2 g2 k2 N (oneF R (F.take (t + 1))) ∧ Only W w6 (fun q => q = g2)) := hide ⟨by rw [HTk.out, oneF_snoc]; exact hs6, (HY.out.2.trans (Only.ofBelow HW5.out.2)).trans o6⟩
     clear hs6 o6 T96 y2 y7 q1 q2 q3 hW5
     gi_wp2
     exact ⟨⟨t + 1, by omega, by go_num, H6⟩, by simp [intOf]; omega⟩
   · obtain rfl : F.length = t := by omega
     have i1 : ¬ (F.length : Int) < (F.length : Int) := by omega
     gi_wp2
     have hw0 := hT.out.2
     have hL2 := HL.out.2
     have hst := HY.out.1
     rw [List.take_length] at hst
     refine ⟨⟨HY.out.2.block _ (by omega) (by omega), HY.out.2.block _ (by omega) (by omega)⟩, KpU.ofOnly (by omega) HY.out.2 (by omega) (by omega), ?_⟩
     show StI _ _ _ _ _ _ _ _ _ _
     rw [HSN.out]
     exact HI2.out.only HY.out.2 hst (by omega) (by omega)
 case done =>
  intro Dq W hD hI hq
  have c1 : W.cell? ⟨w1.heap.size, 0, none⟩ = some (.pointer (some ⟨b2, 0, none⟩)) := cell_of hI.cb rfl
  have hst := hI.st
  have hlen : (intV (elems N X)).length = (elems N X).length := by simp [intV]
  rw [hlen, List.take_length, step_img hW.out.i] at hst
  have hbl := hI.be
  have HST := hide hst
  clear hst hI hlen
  go_wp2_with fail
  refine ⟨by simp, .inl ⟨_, _, rfl, run_takeDeferred hq, ?_⟩⟩
  refine ⟨_, results_tmp rfl _ _ _, ?_⟩
  refine ⟨b2, g2, k2, rfl, hide ⟨HST.out.keep (World.putObj_heap_other (by omega)) (World.putObj_heap_other (by omega)), by omega, by omega, hbg2⟩, ?_⟩
  exact ⟨hbl.os, hbl.tape, hbl.output, by have := hbl.size; simpa [World.putObj] using this, fun j hj => (World.putObj_heap_other (by omega)).trans (hbl.block j hj)⟩
theorem imgF_rise (back : Bool) (X : Nat) (y : Int) (L : List EdT) : imgF back X y (riseE L) = imgF back X y L := by
 apply Nat.eq_of_testBit_eq
 intro q
 rw [Bool.eq_iff_iff, imgF_test, imgF_test]
 constructor
 · rintro ⟨e, he, h⟩; exact ⟨e, (riseE_iff L e).1 he, h⟩
 · rintro ⟨e, he, h⟩; exact ⟨e, (riseE_iff L e).2 he, h⟩
def wordF (Ed : List EdT) (X : Nat) (Wd : List Int) : Nat := Wd.foldl (fun X y => imgF false X y Ed) X
theorem wordF_snoc (Ed : List EdT) (X : Nat) (Wd : List Int) (y : Int) : wordF Ed X (Wd ++ [y]) = imgF false (wordF Ed X Wd) y Ed := by simp [wordF]
theorem own_cap {W : World} {B b cap n : Nat} {e : TypeId} {sz : Nat} {xs : List Value} (h : W.ownsRow B e sz (.slice (some ⟨b, 0, none⟩) n cap) n xs) : n ≤ cap := by
 rcases h.2 with ⟨hv, _⟩ | ⟨g', cap', cur, hv, _, _, hn, _⟩
 · cases hv
 · cases hv; exact hn
theorem wk_of {w w' : World} {N g1 k1 g2 k2 g3 k3 gf B : Nat} {S F : List Int} {Ed : List EdT} (hO : Own B w g1 k1 g2 k2 g3 k3 S F (riseE Ed)) (d : Below w.heap.size w w') (hM : Mrw w' gf 3 (N + 1) (fun c => .int .i64 (lessC (riseE Ed) c : Nat)) (N + 1))
 (hi : ∀ x ∈ Ed, (0 ≤ x.1 ∧ x.1 < (N : Int)) ∧ 0 ≤ x.2.2 ∧ x.2.2 < (N : Int)) (hl : Ed.length ≤ 4194304) (hN : N ≤ 4096) : Wk w' N g3 k3 gf (riseE Ed) :=
 ⟨(rdE_own hO.e).on d, own_cap hO.e, hM, riseE_ss Ed, fun x hx => hi x ((riseE_iff Ed x).1 hx), Nat.le_trans (riseE_len Ed) hl, hN⟩
theorem may_in {N : Nat} {m : Int} {St Fi : List Int} {Ed : List EdT} (em : mayA N m St Fi Ed = true) : ∀ x ∈ Ed, (0 ≤ x.1 ∧ x.1 < (N : Int)) ∧ 0 ≤ x.2.2 ∧ x.2.2 < (N : Int) := fun x hx => by
 have := (may_parts em).2.2.2.2.2 x hx
 exact ⟨this.1, this.2.2⟩
theorem after_any (w : World) (N : Nat) (m : Int) (a1 a2 a3 aw : Option Addr) (c1 c2 c3 cw : Nat) (St Fi : List Int) (Ed : List EdT) (Wd : List Int) (hA : Hid (RdA w a1 a2 a3 St Fi Ed)) (hWd : Hid (RdN w aw Wd)) (hT : Hid (TabAt w ∧ 0 < w.heap.size)) (h1 : St.length ≤ 4194304) (h2 : Fi.length ≤ 4194304) (h3 : Ed.length ≤ 4194304) (hw : Wd.length ≤ 4194304) (em : Hid (mayA N m St Fi Ed = true)) :
 Calls Tryz.prog 86 #[.agg #[.int .i64 (N : Int), .int .i64 m, .slice a1 St.length c1, .slice a2 Fi.length c2, .slice a3 Ed.length c3], .slice aw Wd.length cw] w fun e w' => ∃ b g cap, e = .returned (.pointer (some ⟨b, 0, none⟩)) ∧ Hid (IsSet w' b g cap N (wordF Ed (setI N St) Wd) ∧ w.heap.size ≤ b ∧ w.heap.size ≤ g ∧ b ≠ g) ∧ Below w.heap.size w w' := by
 have hN : N ≤ 4096 := by have := (may_parts em.out).1; omega
 have HIN := hide (may_in em.out)
 obtain ⟨W0, hW0⟩ : ∃ W0, w.alloc (.cells #[.int .i64 (N : Nat), .int .i64 m, .slice a1 St.length c1, .slice a2 Fi.length c2, .slice a3 Ed.length c3] 25) = W0 := ⟨_, rfl⟩
 have d0 : Below w.heap.size w W0 := by rw [← hW0]; exact (Below.refl _ _).alloc (Nat.le_refl _) _
 have B0 : W0.heap[w.heap.size]? = some (.cells #[.int .i64 (N : Nat), .int .i64 m, .slice a1 St.length c1, .slice a2 Fi.length c2, .slice a3 Ed.length c3] 25 (0, 0)) := by rw [← hW0]; exact World.alloc_heap_new _ _
 obtain ⟨y0, y1, y2, y3, y4⟩ := zd5 B0 rfl rfl rfl rfl rfl
 have HD := hide (And.intro d0 B0)
 have TO := inOrder_any W0 N m a1 a2 a3 c1 c2 c3 St Fi Ed (hide (hA.out.on d0)) h1 h2 h3
 have HFr : Hid (∀ e ∈ riseE Ed, 0 ≤ e.1 ∧ e.1 < (N : Int)) := hide (fun e he => (HIN.out e ((riseE_iff Ed e).1 he)).1)
 have hl3 : (riseE Ed).length ≤ 4194304 := Nat.le_trans (riseE_len Ed) h3
 have WK := hide (fun (w1 w2 : World) (g1 k1 g2 k2 g3 k3 gf B : Nat) (S F : List Int) => wk_of (N := N) (w := w1) (w' := w2) (g1 := g1) (k1 := k1) (g2 := g2) (k2 := k2) (g3 := g3) (k3 := k3) (gf := gf) (B := B) (S := S) (F := F) (Ed := Ed))
 have IMG := hide (fun X y => imgF_rise false X y Ed)
 generalize riseE Ed = Es at TO HFr hl3 WK IMG
 clear d0 B0
 go_enter Tryz.func86, Tryz.ntmps86
 go_upto_region 2 with (first
  | (go_at_call 81; refine TO.mono ?_; rintro e w1 ⟨g1, k1, g2, k2, g3, k3, rfl, hO, d1⟩; have TN := newWalk_any w1 N m (some ⟨g1, 0, none⟩) (some ⟨g2, 0, none⟩) (some ⟨g3, 0, none⟩) (riseL St).length (riseL Fi).length k1 k2 k3 Es hN (hide (rdE_own hO.e)) hl3 HFr)
  | (go_at_call 125; refine TN.mono ?_; rintro e w2 ⟨gf, rfl, hM, hgf, d2⟩))
 obtain ⟨W3, hW3⟩ : ∃ W3, w2.alloc (.cells #[.int .i64 (N : Int), .int .i64 m, .slice (some ⟨g1, 0, none⟩) (riseL St).length k1, .slice (some ⟨g2, 0, none⟩) (riseL Fi).length k2, .slice (some ⟨g3, 0, none⟩) Es.length k3, .slice (some ⟨gf, 0, none⟩) (N + 1) (N + 1)] 124) = W3 := ⟨_, rfl⟩
 rw [hW3]
 have d3 : Below w2.heap.size w2 W3 := by rw [← hW3]; exact (Below.refl _ _).alloc (Nat.le_refl _) _
 have b3 : W3.heap[w2.heap.size]? = some (.cells #[.int .i64 (N : Int), .int .i64 m, .slice (some ⟨g1, 0, none⟩) (riseL St).length k1, .slice (some ⟨g2, 0, none⟩) (riseL Fi).length k2, .slice (some ⟨g3, 0, none⟩) Es.length k3, .slice (some ⟨gf, 0, none⟩) (N + 1) (N + 1)] 124 (0, 0)) := by rw [← hW3]; exact World.alloc_heap_new _ _
 have D02 : Below W0.heap.size W0 w2 := d1.trans (d2.mono d1.size)
 have D03 : Below W0.heap.size W0 W3 := D02.trans (d3.mono D02.size)
 have H3 := hide (And.intro ((WK.out w1 w2 g1 k1 g2 k2 g3 k3 gf _ _ _ hO d2 hM HIN.out h3 hN).on d3) (And.intro b3 D03))
 clear y0 y1 y2 y3 y4 TO TN hO d1 hM d2 hW3 d3 b3 D02 D03 WK hW0
 have B0 := blk_on HD.out.2 H3.out.2.2
 obtain ⟨y0, y1, y2, y3, y4⟩ := zd5 B0 rfl rfl rfl rfl rfl
 have D3 : Hid (Below w.heap.size w W3) := hide (HD.out.1.trans (H3.out.2.2.mono HD.out.1.size))
 have T54 := setOf_any W3 N m a1 a2 a3 a1 St.length Fi.length Ed.length c1 c2 c3 c1 St (hide (hA.out.s.on D3.out)) h1 hN (hide (may_parts em.out).2.2.2.1)
 clear B0
 go_wp2_with (go_at_call 126; refine T54.mono ?_; rintro e w4 ⟨b0, g0, k0, rfl, hs4, hb4, hg4, hbg4, d4⟩)
 have hz3 := D3.out.size
 have H4 : Hid (IsSet w4 b0 g0 k0 N (wordF Ed (setI N St) (Wd.take 0)) ∧ w.heap.size ≤ b0 ∧ w.heap.size ≤ g0 ∧ b0 ≠ g0 ∧ Below W3.heap.size W3 w4) := hide ⟨hs4, by omega, by omega, hbg4, d4⟩
 clear y0 y1 y2 y3 y4 hs4 d4 T54
 go_loopw [6, 18] (fun pv iv wr => ∃ i b g k : Nat, i ≤ Wd.length ∧ pv = .pointer (some ⟨b, 0, none⟩) ∧ iv = .int .i64 i ∧ Hid (IsSet wr b g k N (wordF Ed (setI N St) (Wd.take i)) ∧ w.heap.size ≤ b ∧ w.heap.size ≤ g ∧ b ≠ g ∧ Below W3.heap.size W3 wr)) (fun _ iv _ => Wd.length - (intOf iv).toNat)
 case atStart => exact ⟨0, b0, g0, k0, Nat.zero_le _, rfl, rfl, H4⟩
 case round =>
  clear H4 hb4 hg4 hbg4
  obtain ⟨i, b, g, k, hi, rfl, rfl, HY⟩ := hrel
  by_cases hlt : i < Wd.length
  · have i0 : (0 : Int) ≤ (i : Int) := by omega
    have i1 : (i : Int) < (Wd.length : Int) := by omega
    have DR := hide (D3.out.trans (HY.out.2.2.2.2.mono D3.out.size))
    obtain ⟨gw, ow, rfl, qw⟩ := (hWd.out.on DR.out) i hlt
    have HTk := hide (show Wd.take (i + 1) = Wd.take i ++ [Wd[i]] by rw [List.take_add_one, List.getElem?_eq_getElem hlt]; rfl)
    generalize Wd[i] = sy at qw HTk
    have B5 := blk_on H3.out.2.1 HY.out.2.2.2.2
    obtain ⟨y0, y1, y2, y3, y4, y5⟩ := zd6 B5 rfl rfl rfl rfl rfl rfl
    have T86 := step_any wr N m sy (some ⟨g1, 0, none⟩) (some ⟨g2, 0, none⟩) (riseL St).length (riseL Fi).length k1 k2 g3 k3 gf Es b g k _ (hide (H3.out.1.on HY.out.2.2.2.2)) (hide HY.out.1) (hide ⟨hT.out.1.below DR.out hT.out.2, Nat.lt_of_lt_of_le hT.out.2 DR.out.size⟩)
    clear B5
    go_wp2_with (go_at_call 127; refine T86.mono ?_; rintro e w5 ⟨b5, g5, k5, rfl, hs5, d5⟩)
    refine ⟨⟨i + 1, b5, g5, k5, by omega, rfl, by go_num, hide ⟨?_, Nat.le_trans DR.out.size hs5.out.2.1, Nat.le_trans DR.out.size hs5.out.2.2.1, hs5.out.2.2.2, HY.out.2.2.2.2.trans (d5.mono HY.out.2.2.2.2.size)⟩⟩, by simp [intOf]; omega⟩
    have q := hs5.out.1
    rw [IMG.out] at q
    rw [HTk.out, wordF_snoc]
    exact q
  · obtain rfl : Wd.length = i := by omega
    have i1 : ¬ (Wd.length : Int) < (Wd.length : Int) := by omega
    go_wp2
    refine bodyPost_ret (results_tmp rfl _ _ _) rfl ?_
    have q := HY.out.1
    rw [List.take_length] at q
    exact ⟨b, rfl, ⟨g, k, hide ⟨q, HY.out.2.1, HY.out.2.2.1, HY.out.2.2.2.1⟩⟩, D3.out.trans (HY.out.2.2.2.2.mono D3.out.size)⟩
theorem wordErr_zero {n m : Int} {St Fi : List Int} {Ed : List EdT} {Wd : List Int} (h : wordErr n m St Fi Ed Wd = 0) : mayA n m St Fi Ed = true ∧ Wd.all (inB m) = true := by
 unfold wordErr at h
 split at h
 · rename_i h1
   split at h
   · rename_i h2; exact ⟨h1, h2⟩
   · cases h
 · cases h
theorem After_bad (w : World) (n : Int) (m : Int) (a1 a2 a3 aw : Option Addr) (c1 c2 c3 cw : Nat) (St Fi : List Int) (Ed : List EdT) (Wd : List Int) (hA : Hid (RdA w a1 a2 a3 St Fi Ed)) (hWd : Hid (RdN w aw Wd)) (h1 : St.length ≤ 4194304) (h2 : Fi.length ≤ 4194304) (h3 : Ed.length ≤ 4194304) (hw : Wd.length ≤ 4194304) (hbad : wordErr n m St Fi Ed Wd ≠ 0) :
 Calls Tryz.prog 51 #[.agg #[.int .i64 n, .int .i64 m, .slice a1 St.length c1, .slice a2 Fi.length c2, .slice a3 Ed.length c3], .slice aw Wd.length cw] w fun e w' => e = .returned (.tuple #[.slice none 0 0, .int .i64 (wordErr n m St Fi Ed Wd)]) ∧ Below w.heap.size w w' := by
 obtain ⟨W0, hW0⟩ : ∃ W0, w.alloc (.cells #[.int .i64 n, .int .i64 m, .slice a1 St.length c1, .slice a2 Fi.length c2, .slice a3 Ed.length c3] 25) = W0 := ⟨_, rfl⟩
 have d0 : Below w.heap.size w W0 := by rw [← hW0]; exact (Below.refl _ _).alloc (Nat.le_refl _) _
 have B0 : W0.heap[w.heap.size]? = some (.cells #[.int .i64 n, .int .i64 m, .slice a1 St.length c1, .slice a2 Fi.length c2, .slice a3 Ed.length c3] 25 (0, 0)) := by rw [← hW0]; exact World.alloc_heap_new _ _
 obtain ⟨y0, y1, y2, y3, y4⟩ := zd5 B0 rfl rfl rfl rfl rfl
 have T1 := checkWord_any W0 n m a1 a2 a3 c1 c2 c3 St Fi Ed (hide (hA.out.on d0)) h1 h2 h3 aw cw Wd (hide (hWd.out.on d0)) hw
 have HD := hide (And.intro d0 B0)
 clear d0 B0
 obtain ⟨r, hr⟩ : ∃ r, wordErr n m St Fi Ed Wd = r := ⟨_, rfl⟩
 rw [hr] at T1 hbad
 rw [hr]
 clear hr
 go_enter Tryz.func51, Tryz.ntmps51
 go_wp2_with (go_at_call 85; refine T1.mono ?_; rintro e w1 ⟨rfl, d1⟩; have H1 := hide d1; clear d1)
 go_ret2
 exact ⟨rfl, HD.out.1.trans (H1.out.mono HD.out.1.size)⟩
theorem After_ok (w : World) (N : Nat) (m : Int) (a1 a2 a3 aw : Option Addr) (c1 c2 c3 cw : Nat) (St Fi : List Int) (Ed : List EdT) (Wd : List Int) (hA : Hid (RdA w a1 a2 a3 St Fi Ed)) (hWd : Hid (RdN w aw Wd)) (hT : Hid (TabAt w ∧ 0 < w.heap.size)) (h1 : St.length ≤ 4194304) (h2 : Fi.length ≤ 4194304) (h3 : Ed.length ≤ 4194304) (hw : Wd.length ≤ 4194304) (hok : wordErr N m St Fi Ed Wd = 0) :
 Calls Tryz.prog 51 #[.agg #[.int .i64 (N : Int), .int .i64 m, .slice a1 St.length c1, .slice a2 Fi.length c2, .slice a3 Ed.length c3], .slice aw Wd.length cw] w fun e w' => ∃ gl capl, e = .returned (.tuple #[.slice (some ⟨gl, 0, none⟩) (elems N (wordF Ed (setI N St) Wd)).length capl, .int .i64 0]) ∧ Hid (w'.ownsRow w.heap.size 3 1 (.slice (some ⟨gl, 0, none⟩) (elems N (wordF Ed (setI N St) Wd)).length capl) (elems N (wordF Ed (setI N St) Wd)).length (intV (elems N (wordF Ed (setI N St) Wd)))) ∧ Below w.heap.size w w' := by
 obtain ⟨W0, hW0⟩ : ∃ W0, w.alloc (.cells #[.int .i64 (N : Int), .int .i64 m, .slice a1 St.length c1, .slice a2 Fi.length c2, .slice a3 Ed.length c3] 25) = W0 := ⟨_, rfl⟩
 have d0 : Below w.heap.size w W0 := by rw [← hW0]; exact (Below.refl _ _).alloc (Nat.le_refl _) _
 have B0 : W0.heap[w.heap.size]? = some (.cells #[.int .i64 (N : Int), .int .i64 m, .slice a1 St.length c1, .slice a2 Fi.length c2, .slice a3 Ed.length c3] 25 (0, 0)) := by rw [← hW0]; exact World.alloc_heap_new _ _
 obtain ⟨y0, y1, y2, y3, y4⟩ := zd5 B0 rfl rfl rfl rfl rfl
 have T1 := checkWord_any W0 (N : Int) m a1 a2 a3 c1 c2 c3 St Fi Ed (hide (hA.out.on d0)) h1 h2 h3 aw cw Wd (hide (hWd.out.on d0)) hw
 have HD := hide (And.intro d0 B0)
 clear d0 B0
 have HE := hide (wordErr_zero hok)
 rw [hok] at T1
 clear hok
 generalize hZ : wordF Ed (setI N St) Wd = Z
 have TA := hide (fun (W1 : World) (d : Below w.heap.size w W1) => after_any W1 N m a1 a2 a3 aw c1 c2 c3 cw St Fi Ed Wd (hide (hA.out.on d)) (hide (hWd.out.on d)) (hide ⟨hT.out.1.below d hT.out.2, Nat.lt_of_lt_of_le hT.out.2 d.size⟩) h1 h2 h3 hw (hide HE.out.1))
 simp only [hZ] at TA
 clear hZ
 go_enter Tryz.func51, Tryz.ntmps51
 go_upto_region 4 with (go_at_call 85; refine T1.mono ?_; rintro e w1 ⟨rfl, d1⟩; have H1 := hide (And.intro d1 (blk_on HD.out.2 d1)); clear d1)
 clear y0 y1 y2 y3 y4 T1
 have D1 : Hid (Below w.heap.size w w1) := hide (HD.out.1.trans (H1.out.1.mono HD.out.1.size))
 have B1 := H1.out.2
 obtain ⟨y0, y1, y2, y3, y4⟩ := zd5 B1 rfl rfl rfl rfl rfl
 clear B1
 go_wp2_with (first
  | (go_at_call 86; refine (TA.out _ D1.out).mono ?_; rintro e w2 ⟨b, g, cap, rfl, hs, d2⟩; have D2 : Hid (Below w.heap.size w w2) := hide (D1.out.trans (d2.mono D1.out.size)); clear d2; have TL := list_any b g cap N Z w2 hs.out.1 (hT.out.1.below D2.out hT.out.2))
  | (go_at_call 77; refine TL.mono ?_; rintro e w3 ⟨gl, capl, rfl, hr, d3⟩; have H3 := hide (And.intro hr d3); clear hr d3))
 go_ret2
 exact ⟨gl, capl, rfl, hide (owns_down H3.out.1 D2.out.size), D2.out.trans (H3.out.2.mono D2.out.size)⟩
def tE (e : EdT) : EdT := (e.2.2, e.2.1, e.1)
def turnE (L : List EdT) : List EdT := L.map tE
theorem turnE_len (L : List EdT) : (turnE L).length = L.length := List.length_map _
def turnV (L : List EdT) (c : Nat) : Value := ((turnE L).flatMap encE)[c]?.getD undef
theorem turnV_at {L : List EdT} {i : Nat} (h : i < L.length) {x1 x2 x3 : Int} (hx : L[i] = (x1, x2, x3)) : turnV L (i * 3) = .int .i64 x3 ∧ turnV L (i * 3 + 1) = .int .i64 x2 ∧ turnV L (i * 3 + 2) = .int .i64 x1 := by
 have hl : i < (turnE L).length := by rw [turnE_len]; exact h
 have e : (turnE L)[i] = (x3, x2, x1) := by simp [turnE, hx, tE]
 have f0 := flat_get encE 3 encE_len (turnE L) i 0 hl (by omega)
 have f1 := flat_get encE 3 encE_len (turnE L) i 1 hl (by omega)
 have f2 := flat_get encE 3 encE_len (turnE L) i 2 hl (by omega)
 rw [e] at f0 f1 f2
 unfold turnV
 refine ⟨?_, ?_, ?_⟩
 · rw [Nat.add_zero] at f0; rw [f0]; rfl
 · rw [f1]; rfl
 · rw [f2]; rfl
theorem turn_rd {W : World} {g : Nat} {L : List EdT} (h : Mrw W g 61 (L.length * 3) (turnV L) (L.length * 3)) : RdE W (some ⟨g, 0, none⟩) (turnE L) := fun j hj => by
 have hj2 : j < L.length := by rw [turnE_len] at hj; exact hj
 obtain ⟨x, hx⟩ : ∃ x, L[j] = x := ⟨_, rfl⟩
 obtain ⟨x1, x2, x3⟩ := x
 obtain ⟨v0, v1, v2⟩ := turnV_at hj2 hx
 have e : (turnE L)[j] = (x3, x2, x1) := by simp [turnE, hx, tE]
 rw [e]
 have q0 := h.at (j * 3) (by omega)
 have q1 := h.at (j * 3 + 1) (by omega)
 have q2 := h.at (j * 3 + 2) (by omega)
 rw [v0] at q0
 rw [v1] at q1
 rw [v2] at q2
 exact ⟨g, 0, rfl, by rw [Nat.zero_add]; exact q0, by rw [Nat.zero_add]; exact q1, by rw [Nat.zero_add]; exact q2⟩
theorem turned_any (w : World) (n m : Int) (a1 a2 a3 : Option Addr) (c1 c2 c3 : Nat) (St Fi : List Int) (Ed : List EdT) (hA : Hid (RdA w a1 a2 a3 St Fi Ed)) (h1 : St.length ≤ 4194304) (h2 : Fi.length ≤ 4194304) (h3 : Ed.length ≤ 4194304) :
 Calls Tryz.prog 99 #[.agg #[.int .i64 n, .int .i64 m, .slice a1 St.length c1, .slice a2 Fi.length c2, .slice a3 Ed.length c3]] w fun e w' => ∃ g1 k1 g2 k2 g3 k3, e = .returned (.agg #[.int .i64 n, .int .i64 m, .slice (some ⟨g1, 0, none⟩) (riseL Fi).length k1, .slice (some ⟨g2, 0, none⟩) (riseL St).length k2, .slice (some ⟨g3, 0, none⟩) (riseE (turnE Ed)).length k3]) ∧ Own w.heap.size w' g1 k1 g2 k2 g3 k3 (riseL Fi) (riseL St) (riseE (turnE Ed)) ∧ Below w.heap.size w w' := by
 obtain ⟨i5, hi5, hz50, hz51, hz52⟩ := info_parts info59
 obtain ⟨q, hq⟩ : ∃ q, q = Ed.length := ⟨_, rfl⟩
 have HL := hide hq
 rw [← hq]
 rw [← hq] at h3
 clear hq
 obtain ⟨W0, hW0⟩ : ∃ W0, (w.alloc (.cells #[.int .i64 n, .int .i64 m, .slice a1 St.length c1, .slice a2 Fi.length c2, .slice a3 q c3] 25)).alloc (.cells #[.int .i64 0, .int .i64 0, .slice none 0 0, .slice none 0 0, .slice none 0 0] 25) = W0 := ⟨_, rfl⟩
 have HD := hide (box2 w #[.int .i64 n, .int .i64 m, .slice a1 St.length c1, .slice a2 Fi.length c2, .slice a3 q c3] #[.int .i64 0, .int .i64 0, .slice none 0 0, .slice none 0 0, .slice none 0 0] 25)
 rw [hW0] at HD
 have B0 := HD.out.2.1
 have y4 : W0.cell? ⟨w.heap.size, 4, none⟩ = some (.slice a3 q c3) := cell_of B0 rfl
 clear B0
 go_enter Tryz.func99, Tryz.ntmps99
 go_wp2_with (at_make; refine wpList_make_full _ rfl _ _ 23 rfl W0.heap.size 61 i5 (.agg #[.int .i64 0, .int .i64 0, .int .i64 0]) 3 Tryz.underlying23 hi5 hz50 hz51 _ _ _ _ q rfl rfl (by go_num) (by go_num) (by rw [hz52]; omega) (by unfold maxLen; omega) (Nat.le_refl _) ?_)
 intro w1 ho hg
 have D1 : Below W0.heap.size W0 w1 := (Below.refl _ _).grown hg (Nat.le_refl _) (by intro k hk; cases hk)
 have M0 := Mrw.ofRow (turnV Ed) ho
 have y41 : w1.cell? ⟨w.heap.size, 4, none⟩ = some (.slice a3 q c3) := cell_of (blk_on HD.out.2.1 D1) rfl
 have H1 := hide (And.intro M0 D1)
 clear M0 D1 ho hg y4
 go_wp2
 go_loopw [13] (fun iv wr => ∃ i : Nat, i ≤ q ∧ iv = .int .i64 i ∧ Hid (Mrw wr W0.heap.size 61 (q * 3) (turnV Ed) (i * 3) ∧ Below W0.heap.size W0 wr)) (fun iv _ => q - (intOf iv).toNat)
 case atStart => exact ⟨0, Nat.zero_le _, rfl, hide ⟨by simpa using H1.out.1, H1.out.2⟩⟩
 case round =>
  obtain ⟨i, hi, rfl, HY⟩ := hrel
  clear H1 y41
  by_cases hil : i < q
  · have i0 : (0 : Int) ≤ (i : Int) := by omega
    have i1 : (i : Int) < (q : Int) := by omega
    have hil2 : i < Ed.length := by rw [← HL.out]; exact hil
    obtain ⟨ge, o, rfl, q1, q2, q3⟩ := (hA.out.e.on (HD.out.1.trans (HY.out.2.mono HD.out.1.size))) i hil2
    obtain ⟨x, hx⟩ : ∃ x, Ed[i] = x := ⟨_, rfl⟩
    rw [hx] at q1 q2 q3
    obtain ⟨x1, x2, x3⟩ := x
    have HV := hide (turnV_at hil2 hx)
    clear hx
    obtain ⟨W1, hW1⟩ : ∃ W1, wr.alloc (.cells #[.int .i64 x1, .int .i64 x2, .int .i64 x3] 61) = W1 := ⟨_, rfl⟩
    have HW : Hid (W1.heap[wr.heap.size]? = some (.cells #[.int .i64 x1, .int .i64 x2, .int .i64 x3] 61 (0, 0)) ∧ Below wr.heap.size wr W1) := hide (by rw [← hW1]; exact ⟨World.alloc_heap_new _ _, (Below.refl _ _).alloc (Nat.le_refl _) _⟩)
    obtain ⟨y0, y1, y2⟩ := zd3 HW.out.1 rfl rfl rfl
    have M1 : Hid (Mrw W1 W0.heap.size 61 (q * 3) (turnV Ed) (i * 3)) := hide (HY.out.1.below HW.out.2 HY.out.1.lt)
    obtain ⟨u0, z0⟩ := M1.out.cell (i * 3) (by omega)
    obtain ⟨u1, z1⟩ := M1.out.cell (i * 3 + 1) (by omega)
    obtain ⟨u2, z2⟩ := M1.out.cell (i * 3 + 2) (by omega)
    have f0 := M1.out.fz (i * 3)
    have f1 := M1.out.fz (i * 3 + 1)
    have f2 := M1.out.fz (i * 3 + 2)
    go_wp2
    refine ⟨⟨i + 1, by omega, by go_num, hide ⟨?_, ?_⟩⟩, by simp [intOf]; omega⟩
    · have e1 := M1.out.put (by omega) _ HV.out.1
      have e2 := e1.put (by omega) _ HV.out.2.1
      have e3 := e2.put (by omega) _ HV.out.2.2
      rw [show (i + 1) * 3 = i * 3 + 1 + 1 + 1 by omega]
      exact e3
    · have d := HY.out.2.trans (HW.out.2.mono HY.out.2.size)
      exact d.trans ((only3 W1 W0.heap.size _ _ _ _ _ _).toBelow d.size (fun k hk => Nat.le_of_eq hk.symm))
  · obtain rfl : q = i := by omega
    have i1 : ¬ (q : Int) < (q : Int) := by omega
    have HR : Hid (RdE wr (some ⟨W0.heap.size, 0, none⟩) (turnE Ed)) := hide (by have := HY.out.1; rw [HL.out] at this; exact turn_rd this)
    have B1 := blk_on HD.out.2.1 HY.out.2
    obtain ⟨y0, y1, y2, y3⟩ := zd4 B1 rfl rfl rfl rfl
    have HA := hide (hA.out.on (HD.out.1.trans (HY.out.2.mono HD.out.1.size)))
    have T := inOrder_any wr n m a2 a1 (some ⟨W0.heap.size, 0, none⟩) c2 c1 q Fi St (turnE Ed) (hide ⟨HA.out.f, HA.out.s, HR.out⟩) h2 h1 (by rw [turnE_len, ← HL.out]; exact h3)
    rw [turnE_len, ← HL.out] at T
    clear B1
    have FK := hide (fun (W2 : World) (d : Below W0.heap.size W0 W2) => show W2.heap[w.heap.size + 1]? = some (.cells #[.int .i64 0, .int .i64 0, .slice none 0 0, .slice none 0 0, .slice none 0 0] 25 (0, 0)) from blk_on HD.out.2.2.1 d)
    go_wp2_with (go_at_call 81; refine T.mono ?_; rintro e wc ⟨g1, k1, g2, k2, g3, k3, rfl, hO, d⟩; have HO := hide (And.intro hO (And.intro d (HY.out.2.trans (d.mono HY.out.2.size)))); clear hO d; have F3 := FK.out wc HO.out.2.2; obtain ⟨o0, o1, o2, o3, o4⟩ := zd5 F3 rfl rfl rfl rfl rfl; have f0 : wc.frozen? ⟨w.heap.size + 1, 0, none⟩ = false := fz_of F3; have f1 : wc.frozen? ⟨w.heap.size + 1, 1, none⟩ = false := fz_of F3; have f2 : wc.frozen? ⟨w.heap.size + 1, 2, none⟩ = false := fz_of F3; have f3 : wc.frozen? ⟨w.heap.size + 1, 3, none⟩ = false := fz_of F3; have f4 : wc.frozen? ⟨w.heap.size + 1, 4, none⟩ = false := fz_of F3; have O6 := hide (And.intro (set5 wc (w.heap.size + 1) _ _ _ _ _ (.int .i64 n) (.int .i64 m) (.slice (some ⟨g1, 0, none⟩) (riseL Fi).length k1) (.slice (some ⟨g2, 0, none⟩) (riseL St).length k2) (.slice (some ⟨g3, 0, none⟩) (riseE (turnE Ed)).length k3) 25 F3) (only5 wc (w.heap.size + 1) (.int .i64 n) (.int .i64 m) (.slice (some ⟨g1, 0, none⟩) (riseL Fi).length k1) (.slice (some ⟨g2, 0, none⟩) (riseL St).length k2) (.slice (some ⟨g3, 0, none⟩) (riseE (turnE Ed)).length k3))); clear F3)
    refine bodyPost_ret (results_cell_row (p := 2) (ty := 25) rfl _ _ (w.heap.size + 1) 25 _ (0, 0) _ rfl O6.out.1 Tryz.underlying25 rfl (by kernel_rfl)) rfl ?_
    have z0 := HD.out.2.2.2
    have z1 := HY.out.2.size
    have z2 := HO.out.2.2.size
    have p1 := own_at HO.out.1.s
    have p2 := own_at HO.out.1.f
    have p3 := own_at HO.out.1.e
    have r1 : wc.ownsRow w.heap.size 3 1 (.slice (some ⟨g1, 0, none⟩) (riseL Fi).length k1) (riseL Fi).length ((riseL Fi).map (Value.int .i64)) := owns_down HO.out.1.s (by omega)
    have r2 : wc.ownsRow w.heap.size 3 1 (.slice (some ⟨g2, 0, none⟩) (riseL St).length k2) (riseL St).length ((riseL St).map (Value.int .i64)) := owns_down HO.out.1.f (by omega)
    have r3 : wc.ownsRow w.heap.size 61 3 (.slice (some ⟨g3, 0, none⟩) (riseE (turnE Ed)).length k3) (riseE (turnE Ed)).length ((riseE (turnE Ed)).flatMap encE) := owns_down HO.out.1.e (by omega)
    refine ⟨g1, k1, g2, k2, g3, k3, rfl, ⟨own_only r1 O6.out.2 (by omega), own_only r2 O6.out.2 (by omega), own_only r3 O6.out.2 (by omega), HO.out.1.n12, HO.out.1.n13, HO.out.1.n23⟩, (HD.out.1.trans (HO.out.2.2.mono (by omega))).trans (O6.out.2.toBelow (by omega) (fun k hk => by omega))⟩
end Go.Proofs.YtchoopnjckcohaaGreatDoor
namespace Go.Proofs.YtchoopnjckcohaaGreatDoor
open Go.RowKit Go.Maps Go.Shelf
theorem hasB_nat {X : Nat} {i : Int} (h : hasB X i = true) : 0 ≤ i ∧ X.testBit i.toNat = true := by
 unfold hasB at h
 simpa using h
end Go.Proofs.YtchoopnjckcohaaGreatDoor
namespace Go.Proofs.YtchoopnjckcohaaGreatDoor
open Go.RowKit Go.Maps Go.Shelf
attribute [local go_sem] Oper.semAt_some
theorem ints_one (L : List Int) : ∀ u ∈ L.map (Value.int .i64), u.oneCell' = true := by
 intro u hu
 obtain ⟨k, _, rfl⟩ := List.mem_map.1 hu
 rfl
theorem rd_news {W : World} {ad : Addr} {L : List Int} (h : RdN W (some ad) L) : ∀ (j : Nat) (u : Value), (L.map (Value.int .i64))[j]? = some u → W.cell? (ad.add j) = some u := fun j u hu => by
 have hj : j < L.length := by have := (List.getElem?_eq_some_iff.1 hu).1; simpa using this
 obtain ⟨g, o, e, q⟩ := h j hj
 cases e
 rw [Addr.add_lit]
 rw [show (L.map (Value.int .i64))[j]? = some (.int .i64 L[j]) by simp [hj]] at hu
 rw [← hu]
 exact q
theorem rdN_own {W : World} {B g c n : Nat} {X L : List Int} (h : W.ownsRow B 3 1 (.slice (some ⟨g, 0, none⟩) n c) n (X.map (Value.int .i64))) (hp : L <+: X) : RdN W (some ⟨g, 0, none⟩) L := fun j hj => by
 obtain ⟨t, rfl⟩ := hp
 refine ⟨g, 0, rfl, ?_⟩
 have := h.cells (g := g) rfl j (.int .i64 L[j]) (by rw [List.getElem?_map, List.getElem?_append_left hj, List.getElem?_eq_getElem hj]; rfl)
 rw [Addr.add_lit] at this
 simpa using this
theorem rdE_news {W : World} {ad : Addr} {L : List EdT} (h : RdE W (some ad) L) : ∀ (j : Nat) (u : Value), (L.flatMap encE)[j]? = some u → W.cell? (ad.add j) = some u := fun j u hu => by
 have hj : j < L.length * 3 := by have := (List.getElem?_eq_some_iff.1 hu).1; rw [encE_flat] at this; exact this
 obtain ⟨g, o, e, _⟩ := h 0 (by omega)
 cases e
 rw [Addr.add_lit]
 exact edges_at h j u hu
theorem in60 (w : World) (ao : Option Addr) (L : List Int) (c : Nat) (x : Int) (hr : Hid (RdN w ao L)) (hl : L.length ≤ 4194304) :
 Calls Tryz.prog 80 #[.slice ao L.length c, .int .i64 x] w fun e w' => e = .returned (.bool (decide (x ∈ L))) ∧ w' = w := by
 go_enter Tryz.func80, Tryz.ntmps80
 go_wp2
 go_loopw [5] (fun iv wr => ∃ i : Nat, i ≤ L.length ∧ iv = .int .i64 i ∧ Hid (∀ t (h : t < L.length), t < i → L[t] ≠ x) ∧ wr = w) (fun iv _ => L.length - (intOf iv).toNat)
 case atStart => exact ⟨0, Nat.zero_le _, rfl, hide (fun t _ h => absurd h (Nat.not_lt_zero t)), rfl⟩
 case round =>
  obtain ⟨i, hi, rfl, HY, hw⟩ := hrel
  obtain rfl := hw.symm
  clear hw
  by_cases hlt : i < L.length
  · have l0 : (i : Int) < (L.length : Int) := by omega
    have l1 : (0 : Int) ≤ (i : Int) := by omega
    obtain ⟨g, o, rfl, q⟩ := hr.out i hlt
    by_cases he : L[i] = x
    · have hm : x ∈ L := he ▸ List.getElem_mem hlt
      rw [he] at q
      have hd : Hid (decide (x ∈ L) = true) := hide (by simpa using hm)
      clear he hm
      go_wp2
      refine bodyPost_ret (results_tmp rfl _ _ _) rfl ?_
      exact ⟨by rw [hd.out]; rfl, rfl⟩
    · have HN : Hid (∀ t (h : t < L.length), t < i + 1 → L[t] ≠ x) := hide (fun t ht h2 => by
       rcases Nat.lt_or_ge t i with h3 | h3
       · exact HY.out t ht h3
       · obtain rfl : t = i := by omega
         exact he)
      have hb : (L[i] == x) = false := by simpa using he
      generalize L[i] = y at q he hb
      go_wp2
      go_roundw
      case rel => exact ⟨i + 1, by omega, by go_num, HN, by simp⟩
      case measure => simp [intOf]; omega
  · have l0 : ¬ (i : Int) < (L.length : Int) := by omega
    have hd : Hid (decide (x ∈ L) = false) := hide (by
     rw [decide_eq_false_iff_not]
     intro hm
     obtain ⟨t, ht, e⟩ := List.getElem_of_mem hm
     exact HY.out t ht (by omega) e)
    go_wp2
    refine bodyPost_ret (results_tmp rfl _ _ _) rfl ?_
    exact ⟨by rw [hd.out]; rfl, rfl⟩
theorem meets18 (w : World) (ao bo : Option Addr) (A B : List Int) (c d : Nat) (hA : Hid (RdN w ao A)) (hB : Hid (RdN w bo B)) (hl : A.length ≤ 4194304) (hk : B.length ≤ 4194304) :
 Calls Tryz.prog 47 #[.slice ao A.length c, .slice bo B.length d] w fun e w' => e = .returned (.bool (A.any fun x => decide (x ∈ B))) ∧ w' = w := by
 go_enter Tryz.func47, Tryz.ntmps47
 go_wp2
 go_loopw [5] (fun iv wr => ∃ i : Nat, i ≤ A.length ∧ iv = .int .i64 i ∧ Hid (∀ t (h : t < A.length), t < i → A[t] ∉ B) ∧ wr = w) (fun iv _ => A.length - (intOf iv).toNat)
 case atStart => exact ⟨0, Nat.zero_le _, rfl, hide (fun t _ h => absurd h (Nat.not_lt_zero t)), rfl⟩
 case round =>
  obtain ⟨i, hi, rfl, HY, hw⟩ := hrel
  obtain rfl := hw.symm
  clear hw
  by_cases hlt : i < A.length
  · have l0 : (i : Int) < (A.length : Int) := by omega
    have l1 : (0 : Int) ≤ (i : Int) := by omega
    obtain ⟨g, o, rfl, q⟩ := hA.out i hlt
    have T := in60 w bo B d A[i] hB hk
    by_cases he : A[i] ∈ B
    · have hd : Hid ((A.any fun x => decide (x ∈ B)) = true) := hide (List.any_eq_true.2 ⟨A[i], List.getElem_mem hlt, by simpa using he⟩)
      rw [show decide (A[i] ∈ B) = true by simpa using he] at T
      generalize A[i] = y at q T
      clear he
      go_wp2_with (go_at_call 80; refine T.mono ?_; rintro e w2 ⟨rfl, hw2⟩; obtain rfl := hw2.symm)
      refine bodyPost_ret (results_tmp rfl _ _ _) rfl ?_
      exact ⟨by rw [hd.out]; rfl, rfl⟩
    · have HN : Hid (∀ t (h : t < A.length), t < i + 1 → A[t] ∉ B) := hide (fun t ht h2 => by
       rcases Nat.lt_or_ge t i with h3 | h3
       · exact HY.out t ht h3
       · obtain rfl : t = i := by omega
         exact he)
      rw [show decide (A[i] ∈ B) = false by simpa using he] at T
      generalize A[i] = y at q T
      clear he
      go_wp2_with (go_at_call 80; refine T.mono ?_; rintro e w2 ⟨rfl, hw2⟩; obtain rfl := hw2.symm)
      go_roundw
      case rel => exact ⟨i + 1, by omega, by go_num, HN, by simp⟩
      case measure => simp [intOf]; omega
  · have l0 : ¬ (i : Int) < (A.length : Int) := by omega
    have hd : Hid ((A.any fun x => decide (x ∈ B)) = false) := hide (by
     rw [List.any_eq_false]
     intro x hx
     obtain ⟨t, ht, e⟩ := List.getElem_of_mem hx
     have := HY.out t ht (by omega)
     rw [e] at this
     simpa using this)
    go_wp2
    refine bodyPost_ret (results_tmp rfl _ _ _) rfl ?_
    exact ⟨by rw [hd.out]; rfl, rfl⟩
theorem sameInts_any (w : World) (ao bo : Option Addr) (A B : List Int) (c d : Nat) (hA : Hid (RdN w ao A)) (hB : Hid (RdN w bo B)) (hl : A.length ≤ 4194304) (hk : B.length ≤ 4194304) :
 Calls Tryz.prog 28 #[.slice ao A.length c, .slice bo B.length d] w fun e w' => e = .returned (.bool (decide (A = B))) ∧ Below w.heap.size w w' := by
 go_enter Tryz.func28, Tryz.ntmps28
 by_cases hlen : A.length = B.length
 · have hl2 : ((A.length : Int) != (B.length : Int)) = false := by simp [hlen]
   go_wp2
   go_loopw [5] (fun iv wr => ∃ i : Nat, i ≤ A.length ∧ iv = .int .i64 i ∧ Hid (∀ t (h : t < A.length), t < i → A[t] = B[t]'(by omega)) ∧ Hid (Below w.heap.size w wr)) (fun iv _ => A.length - (intOf iv).toNat)
   case atStart => exact ⟨0, Nat.zero_le _, rfl, hide (fun t _ h => absurd h (Nat.not_lt_zero t)), hide (Below.refl _ _)⟩
   case round =>
    obtain ⟨i, hi, rfl, HY, HW⟩ := hrel
    by_cases hlt : i < A.length
    · have l0 : (i : Int) < (A.length : Int) := by omega
      have l1 : (0 : Int) ≤ (i : Int) := by omega
      have hltB : i < B.length := by omega
      have l2 : (i : Int) < (B.length : Int) := by omega
      obtain ⟨g, o, hao, q⟩ := (hA.out.on HW.out) i hlt
      obtain ⟨g', o', hbo, q'⟩ := (hB.out.on HW.out) i hltB
      subst hao hbo
      by_cases he : A[i] = B[i]
      · have HN : Hid (∀ t (h : t < A.length), t < i + 1 → A[t] = B[t]'(by omega)) := hide (fun t ht h2 => by
         rcases Nat.lt_or_ge t i with h3 | h3
         · exact HY.out t ht h3
         · obtain rfl : t = i := by omega
           exact he)
        rw [← he] at q'
        generalize A[i] = x at q q' he
        have hb : (x != x) = false := by simp
        clear he
        go_wp2
        refine wp_region_phase 8 #[true, true, true, true, true, true, true, true, false] (by kernel_rfl) (by kernel_rfl) ?_
        simp only [List.take_succ_cons, List.take_zero, List.drop_succ_cons, List.drop_zero]
        repeat (go_big_quiet_step (fail))
        refine wpQuiet_nil ?_
        intro wz hzz
        obtain ⟨nq, rfl⟩ := hzz
        go_wp2_with fail
        go_roundw
        case rel => exact ⟨i + 1, by omega, by go_num, HN, hide (below_drewN2 HW.out nq)⟩
        case measure => simp [intOf]; omega
      · have hd : Hid (decide (A = B) = false) := hide (by
         rw [decide_eq_false_iff_not]
         intro e
         subst e
         exact he rfl)
        have hb : (A[i] != B[i]) = true := by simpa using he
        generalize A[i] = x at q he hb
        generalize B[i] = y at q' he hb
        go_wp2
        refine wp_region_phase 8 #[true, true, true, true, true, true, true, true, false] (by kernel_rfl) (by kernel_rfl) ?_
        simp only [List.take_succ_cons, List.take_zero, List.drop_succ_cons, List.drop_zero]
        repeat (go_big_quiet_step (fail))
        refine wpQuiet_nil ?_
        intro wz hzz
        obtain ⟨nq, rfl⟩ := hzz
        go_wp2_with fail
        refine bodyPost_ret (results_tmp rfl _ _ _) rfl ?_
        exact ⟨by rw [hd.out]; rfl, below_drewN2 HW.out nq⟩
    · have l0 : ¬ (i : Int) < (A.length : Int) := by omega
      have hd : Hid (decide (A = B) = true) := hide (by
       rw [decide_eq_true_eq]
       exact List.ext_getElem hlen fun t h1 h2 => HY.out t h1 (by omega))
      go_wp2
      refine bodyPost_ret (results_tmp rfl _ _ _) rfl ?_
      exact ⟨by rw [hd.out]; rfl, HW.out⟩
 · have hl2 : ((A.length : Int) != (B.length : Int)) = true := by simp; omega
   have hd : Hid (decide (A = B) = false) := hide (by
    rw [decide_eq_false_iff_not]
    intro e
    exact hlen (by rw [e]))
   go_wp2
   refine bodyPost_ret (results_tmp rfl _ _ _) rfl ?_
   exact ⟨by rw [hd.out]; rfl, Below.refl _ _⟩
theorem rise_one (x : Int) : riseL [x] = [x] := by
 unfold riseL sortI
 rw [List.mergeSort_singleton]
 apply Lib.compact_all
 intro j hj
 obtain rfl : j = 0 := by simpa using hj
 simp [Lib.keeps]
theorem alloc_below (w : World) (o : Obj) : Below w.heap.size w (w.alloc o) := (Below.refl _ _).alloc (Nat.le_refl _) _
end Go.Proofs.YtchoopnjckcohaaGreatDoor
