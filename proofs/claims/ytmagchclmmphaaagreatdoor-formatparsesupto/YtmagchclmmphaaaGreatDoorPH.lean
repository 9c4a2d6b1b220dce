import Derived.Test.YtmagchclmmphaaaGreatDoorPE
namespace Go.Proofs.YtmagchclmmphaaaGreatDoor
open Go.RowKit Go.Maps
attribute [local go_sem] Oper.semAt_some

/-- What taken leaves. -/
def TkP (B : Nat) (w w' : World) (t : ByteArray) (vo vs vr : Value) (O : List OpT) (S : List ByteArray) (R : List RuT) (e : Ending) : Prop :=
  ∃ vo' vs' vr', e = .returned (.agg #[.string t, vo', vs', .slice none 0 0, vr']) ∧ Cn B w' vo' vs' vr' O S R ∧ Only w w' (RB3 vo vs vr) ∧ ∀ k, RB3 vo' vs' vr' k → RB3 vo vs vr k ∨ w.heap.size ≤ k
/-- While a line is taken: the box, the answer's cells, the rule's. -/
structure TkI (B : Nat) (w : World) (m : Nat) (t p q r : ByteArray) (P0 : Nat → Prop) (W : World) (vo vs vr : Value) (O : List OpT) (S : List ByteArray) (R : List RuT) : Prop where
  cf : Cf B w.heap.size W t (.slice none 0 0) vo vs vr O S R
  cs : Cs w.heap.size w W P0 (RB3 vo vs vr)
  b1 : W.heap[w.heap.size + 1]? = some (.cells #[.string ⟨#[]⟩, .slice none 0 0, .slice none 0 0, .slice none 0 0, .slice none 0 0] 26 (0, 0))
  b2 : W.heap[m]? = some (.cells #[.string p, .string q, .string r] 50 (0, 0))
  hm : w.heap.size + 2 ≤ m
  ap : ∀ k, RB3 vo vs vr k → k ≠ w.heap.size + 1 ∧ k ≠ m
section
variable {B : Nat} {w W W' : World} {m : Nat} {t p q r : ByteArray} {P0 : Nat → Prop} {vo vs vr vo' vs' vr' : Value} {O O' : List OpT} {S S' : List ByteArray} {R R' : List RuT}
theorem TkI.lt (h : TkI B w m t p q r P0 W vo vs vr O S R) : w.heap.size + 1 < W.heap.size ∧ m < W.heap.size := ⟨(Array.getElem?_eq_some_iff.1 h.b1).1, (Array.getElem?_eq_some_iff.1 h.b2).1⟩
theorem TkI.step (h : TkI B w m t p q r P0 W vo vs vr O S R) (k : Cf B w.heap.size W' t (.slice none 0 0) vo' vs' vr' O' S' R' ∧ Cs w.heap.size W W' (RB3 vo vs vr) (RB3 vo' vs' vr')) : TkI B w m t p q r P0 W' vo' vs' vr' O' S' R' := by
  obtain ⟨l1, l2⟩ := h.lt
  have hm := h.hm
  refine ⟨k.1, h.cs.trans k.2, ?_, ?_, h.hm, fun i q => ?_⟩
  · exact (k.2.block l1 (by omega) fun q => (h.ap _ q).1 rfl).trans h.b1
  · exact (k.2.block l2 (by omega) fun q => (h.ap _ q).2 rfl).trans h.b2
  · rcases k.2.new i q with q | q
    · exact h.ap i q
    · exact ⟨by omega, by omega⟩
theorem TkI.below (h : TkI B w m t p q r P0 W vo vs vr O S R) (d : Below W.heap.size W W') : TkI B w m t p q r P0 W' vo vs vr O S R := h.step ⟨h.cf.below d, Cs.same d⟩
/-- The box's cells behind a call that grew a row. -/
theorem TkI.box (h : TkI B w m t p q r P0 W vo vs vr O S R) {v v' : Value} (hg : Grw W W' v v') (hv : ∀ k, v.ownBlock = some k → RB3 vo vs vr k) : W'.heap[w.heap.size]? = some (.cells #[.string t, vo, vs, .slice none 0 0, vr] 26 (0, 0)) ∧ W'.heap[m]? = some (.cells #[.string p, .string q, .string r] 50 (0, 0)) :=
  ⟨(hg.1.block _ h.cf.glt fun z => h.cf.ap _ (hv _ z) rfl).trans h.cf.blk, (hg.1.block _ h.lt.2 fun z => (h.ap _ (hv _ z)).2 rfl).trans h.b2⟩
theorem TkI.done (h : TkI B w m t p q r P0 W vo vs vr O S R) (ho : Only W W' (fun k => k = w.heap.size + 1)) : Cn B W' vo vs vr O S R ∧ Only w W' P0 ∧ ∀ k, RB3 vo vs vr k → P0 k ∨ w.heap.size ≤ k := by
  refine ⟨h.cf.cn.only ho fun k z => (h.ap k z).1, ?_, h.cs.new⟩
  exact (h.cs.only.mono fun k hk z => z.resolve_left (by omega)).andNew ho fun i hi z => absurd z (by omega)
end
/-- Five cells are written. -/
theorem set5 (W : World) (g : Nat) (c0 c1 c2 c3 c4 v0 v1 v2 v3 v4 : Value) (t : TypeId) (h : W.heap[g]? = some (.cells #[c0, c1, c2, c3, c4] t (0, 0))) :
    (((((W.setCell ⟨g, 0, none⟩ v0).setCell ⟨g, 1, none⟩ v1).setCell ⟨g, 2, none⟩ v2).setCell ⟨g, 3, none⟩ v3).setCell ⟨g, 4, none⟩ v4).heap[g]? = some (.cells #[v0, v1, v2, v3, v4] t (0, 0)) ∧ Only W (((((W.setCell ⟨g, 0, none⟩ v0).setCell ⟨g, 1, none⟩ v1).setCell ⟨g, 2, none⟩ v2).setCell ⟨g, 3, none⟩ v3).setCell ⟨g, 4, none⟩ v4) (fun k => k = g) :=
  ⟨heap_setCell_same _ _ 4 _ t _ (heap_setCell_same _ _ 3 _ t _ (heap_setCell_same _ _ 2 _ t _ (heap_setCell_same _ _ 1 _ t _ (heap_setCell_same _ _ 0 _ t _ h)))), ((((only_set W _ 0 _).trans (only_set _ _ 1 _)).trans (only_set _ _ 2 _)).trans (only_set _ _ 3 _)).trans (only_set _ _ 4 _)⟩
theorem ropOf_is (w : World) (s : RuT) :
    Calls Tryz.prog 62 #[.agg #[.string s.1, .string s.2.1, .string s.2.2]] w fun e w' => e = .returned (.agg #[.string (opR s).1, .int .i64 ((opR s).2 : Nat)]) ∧ Below w.heap.size w w' := by
  refine (ropOf_any w s).mono ?_
  rintro e w' ⟨rfl, d⟩
  refine ⟨?_, d⟩
  unfold opRI opR
  split <;> rfl
theorem cnew3 (w : World) (a b c : ByteArray) : ∀ j u, [Value.string a, Value.string b, Value.string c][j]? = some u → (w.alloc (.cells #[.string a, .string b, .string c] 50)).cell? ((⟨w.heap.size, 0, none⟩ : Addr).add j) = some u := by
  intro j u hj
  rw [Addr.add_lit, Nat.zero_add]
  refine cell_of (World.alloc_heap_new w _) ?_
  match j, hj with
  | 0, hj => exact hj
  | 1, hj => exact hj
  | 2, hj => exact hj

set_option maxRecDepth 100000 in
set_option maxHeartbeats 2000000 in
/-- A rule's line is taken, as the document says. -/
theorem taken_any (B : Nat) (w : World) (t : ByteArray) (vo vs vr : Value) (O : List OpT) (S : List ByteArray) (R : List RuT) (line p q r : ByteArray) (h : Hid (Cn B w vo vs vr O S R)) (hB : Hid (B ≤ w.heap.size))
    (hx : Hid ((bts line).foldl ruF ru0 = (2, bts p, bts q, bts r))) (hz : line.size ≤ 134217728) (hlO : O.length ≤ 4194303) (hlS : S.length ≤ 4194302) (hlR : R.length ≤ 4194303) :
    Calls Tryz.prog 41 #[.agg #[.string t, vo, vs, .slice none 0 0, vr], .string line] w fun e w' => TkP B w w' t vo vs vr (sadd O (opR (p, q, r))) (sadd (if q = ⟨#[]⟩ then S else sadd S q) r) (sadd R (p, q, r)) e := by
  obtain ⟨i5, hi5, hz50, hz51, hz52⟩ := info_parts info53
  obtain ⟨ao, co, rfl, _⟩ := rdO_of h.out.o
  obtain ⟨asx, cs, rfl, _⟩ := rdS_of h.out.s
  obtain ⟨ar, cr, rfl, _⟩ := rdR_of h.out.r
  obtain ⟨W0, hW0⟩ : ∃ W0, (w.alloc (.cells #[.string t, .slice ao O.length co, .slice asx S.length cs, .slice none 0 0, .slice ar R.length cr] 26)).alloc (.cells #[.string ⟨#[]⟩, .slice none 0 0, .slice none 0 0, .slice none 0 0, .slice none 0 0] 26) = W0 := ⟨_, rfl⟩
  have d0 : Below w.heap.size w W0 := by rw [← hW0]; exact ((Below.refl _ _).alloc (Nat.le_refl _) _).alloc (by simp) _
  have b0 : W0.heap[w.heap.size]? = some (.cells #[.string t, .slice ao O.length co, .slice asx S.length cs, .slice none 0 0, .slice ar R.length cr] 26 (0, 0)) := by rw [← hW0]; exact (Below.heap_alloc _ _ _ (by simp)).trans (World.alloc_heap_new _ _)
  have b1 : W0.heap[w.heap.size + 1]? = some (.cells #[.string ⟨#[]⟩, .slice none 0 0, .slice none 0 0, .slice none 0 0, .slice none 0 0] 26 (0, 0)) := by rw [← hW0]; exact heap_alloc2_new w _ _
  have z0 : W0.heap.size = w.heap.size + 2 := by rw [← hW0]; simp
  have T0 := rrule_is W0 line hz (p, q, r) hx.out
  simp only at T0
  have HF0 := hide (And.intro d0 (And.intro b0 (And.intro b1 z0)))
  clear d0 b0 b1 z0
  obtain ⟨S2, hS2⟩ : ∃ S2, (if q = ⟨#[]⟩ then S else sadd S q) = S2 := ⟨_, rfl⟩
  have hlS2 : S2.length ≤ 4194303 := by
    rw [← hS2]
    split
    · omega
    · have := (sadd_len S q).2; omega
  rw [hS2]
  have HS2 := hide hS2
  clear hS2
  obtain ⟨OO, hOO⟩ : ∃ OO, sadd O (opR (p, q, r)) = OO := ⟨_, rfl⟩
  go_enter Tryz.func41, Tryz.ntmps41
  go_wp2_with (go_at_call 68; refine T0.mono ?_; rintro e wa ⟨rfl, da⟩)
  obtain ⟨X, hX⟩ : ∃ X, wa.alloc (.cells #[.string p, .string q, .string r] 50) = X := ⟨_, rfl⟩
  rw [hX]
  obtain ⟨P0, hP0⟩ : ∃ P0, RB3 (.slice ao O.length co) (.slice asx S.length cs) (.slice ar R.length cr) = P0 := ⟨_, rfl⟩
  have TA : Hid (TkI B w wa.heap.size t p q r P0 X (.slice ao O.length co) (.slice asx S.length cs) (.slice ar R.length cr) O S R) := hide (by
    obtain ⟨d0, b0, b1, z0⟩ := HF0.out
    have dX : Below W0.heap.size W0 X := by rw [← hX]; exact da.alloc da.size _
    have dW := d0.trans (dX.mono d0.size)
    have hsz := da.size
    refine ⟨⟨h.out.below dW, (dX.block _ (by omega)).trans b0, fun k z => ?_⟩, by rw [← hP0]; exact Cs.same dW, (dX.block _ (by omega)).trans b1, ?_, by omega, fun k z => ?_⟩
    · have := (h.out.lt k z).2; omega
    · rw [← hX]; exact World.alloc_heap_new _ _
    · have := (h.out.lt k z).2; exact ⟨by omega, by omega⟩)
  have HP0 := hide hP0
  obtain ⟨m, hm⟩ : ∃ m, wa.heap.size = m := ⟨_, rfl⟩
  rw [hm] at TA ⊢
  clear hX hm da HF0 T0 h hx hW0 hP0
  have hBX : Hid (B ≤ X.heap.size) := hide (by have := TA.out.lt; have := hB.out; omega)
  go_cut [14] from 9 to 14 (fun _ wx => ∃ (ao' : Option Addr) (co' : Nat), Hid (TkI B w m t p q r P0 wx (.slice ao' OO.length co') (.slice asx S.length cs) (.slice ar R.length cr) OO S R))
  case first =>
    have k1 : X.cell? ⟨w.heap.size, 1, none⟩ = some (.slice ao O.length co) := cell_of TA.out.cf.blk rfl
    have x0 : X.cell? ⟨m, 0, none⟩ = some (.string p) := cell_of TA.out.b2 rfl
    have x1 : X.cell? ⟨m, 1, none⟩ = some (.string q) := cell_of TA.out.b2 rfl
    have x2 : X.cell? ⟨m, 2, none⟩ = some (.string r) := cell_of TA.out.b2 rfl
    go_region_with (first
      | (go_at_call 62; refine (ropOf_is _ (p, q, r)).mono ?_; rintro e wb ⟨rfl, db⟩; have TB := hide (TA.out.below (⟨db.os, db.tape, db.output, db.size, db.block⟩ : Below X.heap.size X wb)); have kb : wb.cell? ⟨w.heap.size, 1, none⟩ = some (.slice ao O.length co) := cell_of TB.out.cf.blk rfl; have hBb : Hid (B ≤ wb.heap.size) := hide (Nat.le_trans hBX.out db.size); clear db)
      | (go_at_call 39; refine (withOp_any wb B _ O (opR (p, q, r)) (hide TB.out.cf.cn.o) hBb (by omega)).mono ?_; rintro e wc ⟨v', rfl, ho, hg⟩; rw [hOO] at ho; obtain ⟨ao', co', rfl, _⟩ := rdO_of ho; have hbx := TB.out.box hg (fun k z => .inl z); have TC := hide (TB.out.step (TB.out.cf.addO hg ho)); have kc : wc.cell? ⟨w.heap.size, 1, none⟩ = some (.slice ao O.length co) := cell_of hbx.1 rfl; have fc : wc.frozen? ⟨w.heap.size, 1, none⟩ = false := fz_of hbx.1; clear hbx ho hg))
    all_goals (go_wp2_with fail; go_meet; exact ⟨ao', co', TC⟩)
  case rest =>
    obtain ⟨ao', co', TC⟩ := hcut
    rename World => w1
    clear TA hBX
    have hB1 : Hid (B ≤ w1.heap.size) := hide (by have := TC.out.lt; have := hB.out; omega)
    have k2 : w1.cell? ⟨w.heap.size, 2, none⟩ = some (.slice asx S.length cs) := cell_of TC.out.cf.blk rfl
    have x1 : w1.cell? ⟨m, 1, none⟩ = some (.string q) := cell_of TC.out.b2 rfl
    go_upto_if 17 with fail
    go_cut [23] from 17 to 23 (fun _ wx => ∃ (as' : Option Addr) (cs' : Nat), Hid (TkI B w m t p q r P0 wx (.slice ao' OO.length co') (.slice as' S2.length cs') (.slice ar R.length cr) OO S2 R))
    case first =>
      by_cases hq : q = ⟨#[]⟩
      · have e0 : (!q.toList.isEmpty) = false := by rw [hq, ByteArray.toList_eq]; rfl
        rw [e0]
        obtain rfl : S = S2 := by rw [← HS2.out, if_pos hq]
        clear hq
        go_wp2_with fail
        go_meet
        exact ⟨asx, cs, TC⟩
      · have e0 : (!q.toList.isEmpty) = true := by have := str_empty q; rw [decide_eq_false hq] at this; simpa using this
        rw [e0]
        have hS2 : sadd S q = S2 := by rw [← HS2.out, if_neg hq]
        clear hq
        go_wp2_with (go_at_call 40; refine (with_any w1 B _ S q (hide TC.out.cf.cn.s) hB1 (by omega)).mono ?_; rintro e wd ⟨v', rfl, ho, hg⟩; rw [hS2] at ho; obtain ⟨as', cs', rfl, _⟩ := rdS_of ho; have hbx := TC.out.box hg (fun k z => .inr (.inl z)); have TD := hide (TC.out.step (TC.out.cf.addS hg ho)); have kd : wd.cell? ⟨w.heap.size, 2, none⟩ = some (.slice asx S.length cs) := cell_of hbx.1 rfl; have fd : wd.frozen? ⟨w.heap.size, 2, none⟩ = false := fz_of hbx.1; clear hbx ho hg)
        go_meet
        exact ⟨as', cs', TD⟩
    case rest =>
      obtain ⟨as', cs', TD⟩ := hcut
      rename World => w2
      clear TC
      have hB2 : Hid (B ≤ w2.heap.size) := hide (by have := TD.out.lt; have := hB.out; omega)
      have k2 : w2.cell? ⟨w.heap.size, 2, none⟩ = some (.slice as' S2.length cs') := cell_of TD.out.cf.blk rfl
      have x2 : w2.cell? ⟨m, 2, none⟩ = some (.string r) := cell_of TD.out.b2 rfl
      obtain ⟨S3, hS3⟩ : ∃ S3, sadd S2 r = S3 := ⟨_, rfl⟩
      go_upto_region 6 with (go_at_call 40; refine (with_any w2 B _ S2 r (hide TD.out.cf.cn.s) hB2 (by omega)).mono ?_; rintro e wd ⟨v', rfl, ho, hg⟩; rw [hS3] at ho; obtain ⟨at', ct', rfl, _⟩ := rdS_of ho; have hbx := TD.out.box hg (fun k z => .inr (.inl z)); have TE := hide (TD.out.step (TD.out.cf.addS hg ho)); have kd : wd.cell? ⟨w.heap.size, 2, none⟩ = some (.slice as' S2.length cs') := cell_of hbx.1 rfl; have fd : wd.frozen? ⟨w.heap.size, 2, none⟩ = false := fz_of hbx.1; clear hbx ho hg)
      obtain ⟨Y, hY⟩ : ∃ Y, wd.setCell ⟨w.heap.size, 2, none⟩ (.slice at' S3.length ct') = Y := ⟨_, rfl⟩
      rw [hY] at TE ⊢
      clear hY kd fd k2 x2 TD
      have HR : Hid (RdRu Y ar R) := hide (by
        obtain ⟨a, c, e, z⟩ := rdR_of TE.out.cf.cn.r
        cases e
        exact z)
      go_wp2_with fail
      go_loopw [6] (fun i wr => ∃ k : Nat, k ≤ R.length ∧ i = .int .i64 k ∧ Hid (Below Y.heap.size Y wr ∧ ∀ x ∈ R.take k, x ≠ (p, q, r))) (fun i _ => R.length - (intOf i).toNat)
      case atStart => exact ⟨0, Nat.zero_le _, rfl, hide ⟨Below.refl _ _, fun x hx => by simp at hx⟩⟩
      case round =>
        obtain ⟨k, hk, rfl, HN⟩ := hrel
        have TF := hide (TE.out.below HN.out.1)
        by_cases hlt : k < R.length
        · obtain ⟨g1, o1, rfl, q0, q1, q2⟩ := (HR.out.on HN.out.1) k hlt
          have i2 : (k : Int) < (R.length : Int) := by omega
          have i3 : (0 : Int) ≤ (k : Int) := by omega
          obtain ⟨x, hx⟩ : ∃ x, R[k] = x := ⟨_, rfl⟩
          rw [hx] at q0 q1 q2
          have HX := hide hx
          clear hx
          have r4 : wr.cell? ⟨w.heap.size, 4, none⟩ = some (.slice (some ⟨g1, o1, none⟩) R.length cr) := cell_of TF.out.cf.blk rfl
          have x0 : wr.cell? ⟨m, 0, none⟩ = some (.string p) := cell_of TF.out.b2 rfl
          have x1 : wr.cell? ⟨m, 1, none⟩ = some (.string q) := cell_of TF.out.b2 rfl
          have x2 : wr.cell? ⟨m, 2, none⟩ = some (.string r) := cell_of TF.out.b2 rfl
          obtain ⟨a, b, c⟩ := x
          simp only at q0 q1 q2
          by_cases ha : a = p
          · subst ha
            by_cases hb : b = q
            · subst hb
              by_cases hc : c = r
              · subst hc
                go_wp2_with fail
                go_region_held3 (fun W => W.cell? ⟨w.heap.size, 4, none⟩ = some (.slice (some ⟨g1, o1, none⟩) R.length cr) ∧ W.cell? ⟨g1, o1 + k * 3, none⟩ = some (.string a) ∧ W.cell? ⟨g1, o1 + k * 3 + 1, none⟩ = some (.string b) ∧ W.cell? ⟨g1, o1 + k * 3 + 2, none⟩ = some (.string c) ∧ W.cell? ⟨m, 0, none⟩ = some (.string a) ∧ W.cell? ⟨m, 1, none⟩ = some (.string b) ∧ W.cell? ⟨m, 2, none⟩ = some (.string c) ∧ Hid (Below Y.heap.size Y W))
                  (first | exact ⟨r4, q0, q1, q2, x0, x1, x2, hide HN.out.1.drew⟩ | assumption)
                  (fail)
                rename_i hSS
                obtain ⟨wz, hwz⟩ : ∃ z, wr.drew = z := ⟨_, rfl⟩
                rw [hwz] at hSS ⊢
                clear hwz
                have TG := hide (TE.out.below hSS.2.2.2.2.2.2.2.out)
                clear hSS q0 q1 q2 r4 x0 x1 x2
                have hrr : sadd R (a, b, c) = R := by unfold sadd; rw [if_pos (by have := List.getElem_mem hlt; rwa [HX.out] at this)]
                have c0 : wz.cell? ⟨w.heap.size, 0, none⟩ = some (.string t) := cell_of TG.out.cf.blk rfl
                have c1 : wz.cell? ⟨w.heap.size, 1, none⟩ = some (.slice ao' OO.length co') := cell_of TG.out.cf.blk rfl
                have c2 : wz.cell? ⟨w.heap.size, 2, none⟩ = some (.slice at' S3.length ct') := cell_of TG.out.cf.blk rfl
                have c3 : wz.cell? ⟨w.heap.size, 3, none⟩ = some (.slice none 0 0) := cell_of TG.out.cf.blk rfl
                have c4 : wz.cell? ⟨w.heap.size, 4, none⟩ = some (.slice (some ⟨g1, o1, none⟩) R.length cr) := cell_of TG.out.cf.blk rfl
                have y0 : wz.cell? ⟨w.heap.size + 1, 0, none⟩ = some (.string ⟨#[]⟩) := cell_of TG.out.b1 rfl
                have f0 : wz.frozen? ⟨w.heap.size + 1, 0, none⟩ = false := fz_of TG.out.b1
                have y1 : wz.cell? ⟨w.heap.size + 1, 1, none⟩ = some (.slice none 0 0) := cell_of TG.out.b1 rfl
                have f1 : wz.frozen? ⟨w.heap.size + 1, 1, none⟩ = false := fz_of TG.out.b1
                have y2 : wz.cell? ⟨w.heap.size + 1, 2, none⟩ = some (.slice none 0 0) := cell_of TG.out.b1 rfl
                have f2 : wz.frozen? ⟨w.heap.size + 1, 2, none⟩ = false := fz_of TG.out.b1
                have y3 : wz.cell? ⟨w.heap.size + 1, 3, none⟩ = some (.slice none 0 0) := cell_of TG.out.b1 rfl
                have f3 : wz.frozen? ⟨w.heap.size + 1, 3, none⟩ = false := fz_of TG.out.b1
                have y4 : wz.cell? ⟨w.heap.size + 1, 4, none⟩ = some (.slice none 0 0) := cell_of TG.out.b1 rfl
                have f4 : wz.frozen? ⟨w.heap.size + 1, 4, none⟩ = false := fz_of TG.out.b1
                have HZ := hide (set5 wz (w.heap.size + 1) _ _ _ _ _ (.string t) (.slice ao' OO.length co') (.slice at' S3.length ct') (.slice none 0 0) (.slice (some ⟨g1, o1, none⟩) R.length cr) 26 TG.out.b1)
                have HK := hide (TG.out.done HZ.out.2)
                go_wp2_with fail
                refine bodyPost_ret (results_cell_row (p := 4) (ty := 26) rfl _ _ (w.heap.size + 1) 26 _ (0, 0) _ rfl HZ.out.1 Tryz.underlying26 rfl (by kernel_rfl)) rfl ?_
                refine ⟨_, _, _, rfl, ?_, ?_, ?_⟩
                · first | exact HK.out.1 | (rw [hOO, hS3, hrr]; exact HK.out.1)
                · first | exact HK.out.2.1 | (rw [HP0.out]; exact HK.out.2.1)
                · first | exact HK.out.2.2 | (rw [HP0.out]; exact HK.out.2.2)
              · have e1 : (c.toList == r.toList) = false := by rw [str_beq]; exact decide_eq_false hc
                go_wp2_with fail
                go_region_held3 (fun W => W.cell? ⟨w.heap.size, 4, none⟩ = some (.slice (some ⟨g1, o1, none⟩) R.length cr) ∧ W.cell? ⟨g1, o1 + k * 3, none⟩ = some (.string a) ∧ W.cell? ⟨g1, o1 + k * 3 + 1, none⟩ = some (.string b) ∧ W.cell? ⟨g1, o1 + k * 3 + 2, none⟩ = some (.string c) ∧ W.cell? ⟨m, 0, none⟩ = some (.string a) ∧ W.cell? ⟨m, 1, none⟩ = some (.string b) ∧ W.cell? ⟨m, 2, none⟩ = some (.string r) ∧ Hid (Below Y.heap.size Y W))
                  (first | exact ⟨r4, q0, q1, q2, x0, x1, x2, hide HN.out.1.drew⟩ | assumption)
                  (fail)
                rename_i hSS
                have HE := hide hSS.2.2.2.2.2.2.2.out
                clear hSS
                go_wp2_with fail
                exact ⟨⟨k + 1, by omega, by go_num, hide ⟨HE.out, take_ne hlt HN.out.2 (by rw [HX.out]; intro z; exact hc (Prod.mk.inj (Prod.mk.inj z).2).2)⟩⟩, by simp [intOf]; omega⟩
            · have e1 : (b.toList == q.toList) = false := by rw [str_beq]; exact decide_eq_false hb
              go_wp2_with fail
              go_region_held3 (fun W => W.cell? ⟨w.heap.size, 4, none⟩ = some (.slice (some ⟨g1, o1, none⟩) R.length cr) ∧ W.cell? ⟨g1, o1 + k * 3, none⟩ = some (.string a) ∧ W.cell? ⟨g1, o1 + k * 3 + 1, none⟩ = some (.string b) ∧ W.cell? ⟨g1, o1 + k * 3 + 2, none⟩ = some (.string c) ∧ W.cell? ⟨m, 0, none⟩ = some (.string a) ∧ W.cell? ⟨m, 1, none⟩ = some (.string q) ∧ W.cell? ⟨m, 2, none⟩ = some (.string r) ∧ Hid (Below Y.heap.size Y W))
                (first | exact ⟨r4, q0, q1, q2, x0, x1, x2, hide HN.out.1.drew⟩ | assumption)
                (fail)
              rename_i hSS
              have HE := hide hSS.2.2.2.2.2.2.2.out
              clear hSS
              go_wp2_with fail
              exact ⟨⟨k + 1, by omega, by go_num, hide ⟨HE.out, take_ne hlt HN.out.2 (by rw [HX.out]; intro z; exact hb (Prod.mk.inj (Prod.mk.inj z).2).1)⟩⟩, by simp [intOf]; omega⟩
          · have e1 : (a.toList == p.toList) = false := by rw [str_beq]; exact decide_eq_false ha
            go_wp2_with fail
            go_region_held3 (fun W => W.cell? ⟨w.heap.size, 4, none⟩ = some (.slice (some ⟨g1, o1, none⟩) R.length cr) ∧ W.cell? ⟨g1, o1 + k * 3, none⟩ = some (.string a) ∧ W.cell? ⟨g1, o1 + k * 3 + 1, none⟩ = some (.string b) ∧ W.cell? ⟨g1, o1 + k * 3 + 2, none⟩ = some (.string c) ∧ W.cell? ⟨m, 0, none⟩ = some (.string p) ∧ W.cell? ⟨m, 1, none⟩ = some (.string q) ∧ W.cell? ⟨m, 2, none⟩ = some (.string r) ∧ Hid (Below Y.heap.size Y W))
              (first | exact ⟨r4, q0, q1, q2, x0, x1, x2, hide HN.out.1.drew⟩ | assumption)
              (fail)
            rename_i hSS
            have HE := hide hSS.2.2.2.2.2.2.2.out
            clear hSS
            go_wp2_with fail
            exact ⟨⟨k + 1, by omega, by go_num, hide ⟨HE.out, take_ne hlt HN.out.2 (by rw [HX.out]; intro z; exact ha (Prod.mk.inj z).1)⟩⟩, by simp [intOf]; omega⟩
        · obtain rfl : k = R.length := by omega
          have i2 : ¬ (R.length : Int) < (R.length : Int) := by omega
          have r4 : wr.cell? ⟨w.heap.size, 4, none⟩ = some (.slice ar R.length cr) := cell_of TF.out.cf.blk rfl
          have x0 : wr.cell? ⟨m, 0, none⟩ = some (.string p) := cell_of TF.out.b2 rfl
          have x1 : wr.cell? ⟨m, 1, none⟩ = some (.string q) := cell_of TF.out.b2 rfl
          have x2 : wr.cell? ⟨m, 2, none⟩ = some (.string r) := cell_of TF.out.b2 rfl
          have hBr : Hid (B ≤ wr.heap.size) := hide (by have := TF.out.lt; have := hB.out; omega)
          have hnr : (p, q, r) ∉ R := fun z => HN.out.2 _ (by rw [List.take_length]; exact z) rfl
          have hrr : sadd R (p, q, r) = R ++ [(p, q, r)] := by unfold sadd; rw [if_neg hnr]
          obtain ⟨R3, hR3⟩ : ∃ R3, R ++ [(p, q, r)] = R3 := ⟨_, rfl⟩
          clear hnr
          go_upto_region 12 with (at_builtin; refine wpList_append_own_at _ rfl _ _ _ rfl B 50 i5 _ 3 48 Tryz.underlying24 hi5 hz50 hz51 hz52 rfl (by omega) (.slice ar R.length cr) R.length (R.flatMap kRules.cs) rfl (owns_below TF.out.cf.cn.r ((Below.refl _ wr).alloc (Nat.le_refl _) _)) ⟨wr.heap.size, 0, none⟩ 1 1 [.string p, .string q, .string r] rfl rfl (cnew3 wr p q r) (fun u hu => by simp at hu; rcases hu with rfl | rfl | rfl <;> rfl) (by unfold maxLen; omega) (by omega) (by have := hBr.out; simp; omega) ?_; intro v' w3 ho hgr hnil hloc; have hG : Grw wr w3 (.slice ar R.length cr) v' := ⟨(Only.ofBelow ((Below.refl _ wr).alloc (Nat.le_refl _) _)).andNew (Only.grown hgr (fun k hk => hk)) (fun k _ hk => hk), by rcases hloc with z | z; exact .inl z; exact .inr ⟨_, z, by simp⟩⟩; have ho2 : w3.ownsRow B 50 3 v' R3.length (R3.flatMap kRules.cs) := (by rw [← hR3]; simpa [kRules] using ho); obtain ⟨az, cz, rfl, _⟩ := rdR_of ho2; have hbx := TF.out.box hG (fun k z => .inr (.inr z)); have TG := hide (TF.out.step (TF.out.cf.addR hG ho2)); have kd : w3.cell? ⟨w.heap.size, 4, none⟩ = some (.slice ar R.length cr) := cell_of hbx.1 rfl; have fd : w3.frozen? ⟨w.heap.size, 4, none⟩ = false := fz_of hbx.1; clear hbx ho ho2 hgr hnil hloc hG)
          obtain ⟨Z, hZ⟩ : ∃ Z, w3.setCell ⟨w.heap.size, 4, none⟩ (.slice az R3.length cz) = Z := ⟨_, rfl⟩
          rw [hZ] at TG ⊢
          clear hZ kd fd r4 x0 x1 x2
          rw [hR3] at hrr
          have c0 : Z.cell? ⟨w.heap.size, 0, none⟩ = some (.string t) := cell_of TG.out.cf.blk rfl
          have c1 : Z.cell? ⟨w.heap.size, 1, none⟩ = some (.slice ao' OO.length co') := cell_of TG.out.cf.blk rfl
          have c2 : Z.cell? ⟨w.heap.size, 2, none⟩ = some (.slice at' S3.length ct') := cell_of TG.out.cf.blk rfl
          have c3 : Z.cell? ⟨w.heap.size, 3, none⟩ = some (.slice none 0 0) := cell_of TG.out.cf.blk rfl
          have c4 : Z.cell? ⟨w.heap.size, 4, none⟩ = some (.slice az R3.length cz) := cell_of TG.out.cf.blk rfl
          have y0 : Z.cell? ⟨w.heap.size + 1, 0, none⟩ = some (.string ⟨#[]⟩) := cell_of TG.out.b1 rfl
          have f0 : Z.frozen? ⟨w.heap.size + 1, 0, none⟩ = false := fz_of TG.out.b1
          have y1 : Z.cell? ⟨w.heap.size + 1, 1, none⟩ = some (.slice none 0 0) := cell_of TG.out.b1 rfl
          have f1 : Z.frozen? ⟨w.heap.size + 1, 1, none⟩ = false := fz_of TG.out.b1
          have y2 : Z.cell? ⟨w.heap.size + 1, 2, none⟩ = some (.slice none 0 0) := cell_of TG.out.b1 rfl
          have f2 : Z.frozen? ⟨w.heap.size + 1, 2, none⟩ = false := fz_of TG.out.b1
          have y3 : Z.cell? ⟨w.heap.size + 1, 3, none⟩ = some (.slice none 0 0) := cell_of TG.out.b1 rfl
          have f3 : Z.frozen? ⟨w.heap.size + 1, 3, none⟩ = false := fz_of TG.out.b1
          have y4 : Z.cell? ⟨w.heap.size + 1, 4, none⟩ = some (.slice none 0 0) := cell_of TG.out.b1 rfl
          have f4 : Z.frozen? ⟨w.heap.size + 1, 4, none⟩ = false := fz_of TG.out.b1
          have HZ := hide (set5 Z (w.heap.size + 1) _ _ _ _ _ (.string t) (.slice ao' OO.length co') (.slice at' S3.length ct') (.slice none 0 0) (.slice az R3.length cz) 26 TG.out.b1)
          have HK := hide (TG.out.done HZ.out.2)
          go_wp2_with fail
          refine bodyPost_ret (results_cell_row (p := 4) (ty := 26) rfl _ _ (w.heap.size + 1) 26 _ (0, 0) _ rfl HZ.out.1 Tryz.underlying26 rfl (by kernel_rfl)) rfl ?_
          refine ⟨_, _, _, rfl, ?_, ?_, ?_⟩
          · first | exact HK.out.1 | (rw [hOO, hS3, hrr]; exact HK.out.1)
          · first | exact HK.out.2.1 | (rw [HP0.out]; exact HK.out.2.1)
          · first | exact HK.out.2.2 | (rw [HP0.out]; exact HK.out.2.2)
end Go.Proofs.YtmagchclmmphaaaGreatDoor
namespace Go.Proofs.YtmagchclmmphaaaGreatDoor
open Go.RowKit Go.Maps

/-! ### While the document reads a file: a row of texts beside the content, the answer's cells -/
structure Row9 (B g : Nat) (W : World) (v : Value) (L : List ByteArray) (P : Nat → Prop) : Prop where
  own : W.ownsRow B 9 1 v L.length (strV L)
  ap : ∀ k, v.ownBlock = some k → ¬ P k ∧ k ≠ g
section
variable {B g : Nat} {w W W' : World} {v : Value} {L : List ByteArray} {P P' : Nat → Prop}
theorem Row9.step (h : Row9 B g W v L P) (c : Cs g W W' P P') : Row9 B g W' v L P' := by
  refine ⟨row_only h.own c.only fun k q z => z.elim (h.ap k q).2 (h.ap k q).1, fun k q => ⟨fun z => ?_, (h.ap k q).2⟩⟩
  rcases c.new k z with z | z
  · exact (h.ap k q).1 z
  · have := (h.own.lt k q).2; omega
structure PhS (w : World) (B g : Nat) (t : ByteArray) (vl : Value) (LL : List ByteArray) (W : World) (vo vs vr : Value) (O : List OpT) (S : List ByteArray) (R : List RuT) : Prop where
  cf : Cf B g W t (.slice none 0 0) vo vs vr O S R
  ln : Row9 B g W vl LL (RB3 vo vs vr)
  r0 : W.heap[w.heap.size]? = some (.cells #[.string ⟨#[]⟩, .slice none 0 0, .slice none 0 0, .slice none 0 0, .slice none 0 0] 26 (0, 0))
  r1 : W.heap[w.heap.size + 1]? = some (.cells #[.int .i64 0, .int .i64 0] 29 (0, 0))
  hB : w.heap.size + 2 ≤ B
  hg : B ≤ g
  dw : Below w.heap.size w W
variable {t : ByteArray} {vl vo vs vr vo' vs' vr' : Value} {LL : List ByteArray} {O O' : List OpT} {S S' : List ByteArray} {R R' : List RuT}
theorem PhS.bw (h : PhS w B g t vl LL W vo vs vr O S R) : B ≤ W.heap.size := by have := h.cf.glt; have := h.hg; omega
theorem PhS.step {t' : ByteArray} (h : PhS w B g t vl LL W vo vs vr O S R) (k : Cf B g W' t' (.slice none 0 0) vo' vs' vr' O' S' R' ∧ Cs g W W' (RB3 vo vs vr) (RB3 vo' vs' vr')) : PhS w B g t' vl LL W' vo' vs' vr' O' S' R' := by
  have hb := h.bw
  have h2 := h.hB
  have hg := h.hg
  refine ⟨k.1, h.ln.step k.2, ?_, ?_, h.hB, h.hg, h.dw.trans ((k.2.only.toBelow (B := w.heap.size) (by omega) fun i z => ?_))⟩
  · exact (k.2.block (by omega) (by omega) fun q => by have := (h.cf.cn.lt _ q).1; omega).trans h.r0
  · exact (k.2.block (by omega) (by omega) fun q => by have := (h.cf.cn.lt _ q).1; omega).trans h.r1
  · rcases z with z | z
    · omega
    · have := (h.cf.cn.lt _ z).1; omega
theorem PhS.below (h : PhS w B g t vl LL W vo vs vr O S R) (d : Below W.heap.size W W') : PhS w B g t vl LL W' vo vs vr O S R := h.step ⟨h.cf.below d, Cs.same d⟩
theorem Row9.below (h : Row9 B g W v L P) (d : Below W.heap.size W W') : Row9 B g W' v L P := h.step (Cs.same d)
/-- A row that a call made is apart from the content. -/
theorem PhS.row (h : PhS w B g t vl LL W vo vs vr O S R) (ho : W'.ownsRow W.heap.size 9 1 v L.length (strV L)) : Row9 B g W' v L (RB3 vo vs vr) := by
  have hb := h.bw
  have hl := h.cf.glt
  have ho2 : W'.ownsRow B 9 1 v L.length (strV L) := by
    refine ⟨ho.1, ?_⟩
    rcases ho.2 with z | ⟨b, cap, cur, rfl, hb2, hg, rest⟩
    · exact .inl z
    · exact .inr ⟨b, cap, cur, rfl, by omega, hg, rest⟩
  refine ⟨ho2, fun k q => ⟨fun z => ?_, ?_⟩⟩
  · have := (h.cf.cn.lt k z).2; have := (ho.lt k q).1; omega
  · have := (ho.lt k q).1; omega
/-- The box's cells behind a call that grew a row. -/
theorem PhS.box (h : PhS w B g t vl LL W vo vs vr O S R) {v v' : Value} (hg : Grw W W' v v') (hv : ∀ k, v.ownBlock = some k → RB3 vo vs vr k) : W'.heap[g]? = some (.cells #[.string t, vo, vs, .slice none 0 0, vr] 26 (0, 0)) :=
  (hg.1.block _ h.cf.glt fun z => h.cf.ap _ (hv _ z) rfl).trans h.cf.blk
/-- The title is set. -/
theorem Cf.title (h : Cf B g W t (.slice none 0 0) vo vs vr O S R) (t' : ByteArray) : Cf B g (W.setCell ⟨g, 0, none⟩ (.string t')) t' (.slice none 0 0) vo vs vr O S R ∧ Cs g W (W.setCell ⟨g, 0, none⟩ (.string t')) (RB3 vo vs vr) (RB3 vo vs vr) :=
  ⟨⟨h.cn.only (only_set W g 0 _) h.ap, heap_setCell_same W g 0 _ 26 _ h.blk, h.ap⟩, ⟨(only_set W g 0 _).mono fun _ _ z => .inl z, fun _ z => .inl z⟩⟩
/-- The content that taken left is put into the box. -/
theorem PhS.put (h : PhS w B g t vl LL W vo vs vr O S R) {e : Ending} (k : TkP B W W' t vo vs vr O' S' R' e) :
    ∃ vo' vs' vr', e = .returned (.agg #[.string t, vo', vs', .slice none 0 0, vr']) ∧ W'.heap[g]? = some (.cells #[.string t, vo, vs, .slice none 0 0, vr] 26 (0, 0)) ∧ ∀ W2, W2.heap[g]? = some (.cells #[.string t, vo', vs', .slice none 0 0, vr'] 26 (0, 0)) → Only W' W2 (fun k => k = g) → PhS w B g t vl LL W2 vo' vs' vr' O' S' R' ∧ Cs g W W2 (RB3 vo vs vr) (RB3 vo' vs' vr') := by
  obtain ⟨vo', vs', vr', rfl, hc, ho, hn⟩ := k
  refine ⟨vo', vs', vr', rfl, (ho.block _ h.cf.glt fun z => h.cf.ap _ z rfl).trans h.cf.blk, fun W2 hb h2 => ?_⟩
  have hap : ∀ k, RB3 vo' vs' vr' k → k ≠ g := fun k z => by
    rcases hn k z with z | z
    · exact h.cf.ap k z
    · have := h.cf.glt; omega
  have hcs : Cs g W W2 (RB3 vo vs vr) (RB3 vo' vs' vr') := ⟨(ho.mono fun k _ z => .inr z).andNew h2 fun i _ z => .inl z, hn⟩
  exact ⟨h.step ⟨⟨hc.only h2 hap, hb, hap⟩, hcs⟩, hcs⟩
end
end Go.Proofs.YtmagchclmmphaaaGreatDoor
