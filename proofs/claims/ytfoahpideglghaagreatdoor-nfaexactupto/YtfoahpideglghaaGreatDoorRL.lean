import Derived.Test.YtfoahpideglghaaGreatDoorTu
namespace Go.Proofs.YtfoahpideglghaaGreatDoor
open Go.RowKit Go.Maps Go.Shelf
attribute [local go_sem] Oper.semAt_some

/-! ### The rests of a word: what is held -/
/-- The states from which the rest of a word, from a place on, leads to one of a set. -/
def restF (Ed : List EdT) (F0 : Nat) (Wd : List Int) (j : Nat) : Nat := (Wd.drop j).foldr (fun y X => imgF true X y Ed) F0
theorem restF_last (Ed : List EdT) (F0 : Nat) (Wd : List Int) : restF Ed F0 Wd Wd.length = F0 := by simp [restF]
theorem restF_step (Ed : List EdT) (F0 : Nat) (Wd : List Int) (j : Nat) (h : j < Wd.length) : restF Ed F0 Wd j = imgF true (restF Ed F0 Wd (j + 1)) Wd[j] Ed := by
  unfold restF
  rw [List.drop_eq_getElem_cons h, List.foldr_cons]
/-- A cell of a row that points to a set. -/
def PtrAt (w : World) (g i N X : Nat) : Prop := ∃ b g' k, w.cell? ⟨g, i, none⟩ = some (.pointer (some ⟨b, 0, none⟩)) ∧ IsSet w b g' k N X ∧ b ≠ g'
theorem PtrAt.on {w w' : World} {g i N X : Nat} (h : PtrAt w g i N X) (d : Below w.heap.size w w') : PtrAt w' g i N X := by
  obtain ⟨b, g', k, h1, h2, h3⟩ := h
  exact ⟨b, g', k, (d.cell (p := ⟨g, i, none⟩) (World.block_lt_of_cell? w _ h1)).trans h1, h2.below d, h3⟩
theorem set_types {w : World} {b g k N X : Nat} (h : IsSet w b g k N X) : (∃ cs fr, w.heap[b]? = some (.cells cs 97 fr)) ∧ ∃ cs fr, w.heap[g]? = some (.cells cs 99 fr) := by
  refine ⟨⟨_, _, h.blk⟩, ?_⟩
  rcases h.own.2 with ⟨hv, _⟩ | ⟨g', cap', cur, hv, _, hg, _⟩
  · cases hv
  · cases hv; exact ⟨_, _, hg⟩
/-- A set stays where only blocks of other kinds are turned. -/
theorem set_other {w w' : World} {b g k N X : Nat} {R : Nat → Prop} (h : IsSet w b g k N X) (o : Only w w' R) (hR : ∀ q, R q → ∀ cs t fr, w.heap[q]? = some (.cells cs t fr) → t ≠ 97 ∧ t ≠ 99) : IsSet w' b g k N X := by
  obtain ⟨⟨c1, f1, e1⟩, c2, f2, e2⟩ := set_types h
  refine h.keep (o.block b h.blt fun q => ?_) (o.block g h.glt fun q => ?_)
  · exact (hR b q _ _ _ e1).1 rfl
  · exact (hR g q _ _ _ e2).2 rfl
theorem PtrAt.other {w w' : World} {g i N X : Nat} {R : Nat → Prop} (h : PtrAt w g i N X) (o : Only w w' R) (hR : ∀ q, R q → ∀ cs t fr, w.heap[q]? = some (.cells cs t fr) → t ≠ 97 ∧ t ≠ 99) (hc : w'.cell? ⟨g, i, none⟩ = w.cell? ⟨g, i, none⟩) : PtrAt w' g i N X := by
  obtain ⟨b, g', k, h1, h2, h3⟩ := h
  exact ⟨b, g', k, hc.trans h1, set_other h2 o hR, h3⟩
theorem cell_only {w w' : World} {R : Nat → Prop} (o : Only w w' R) {g i : Nat} (hg : g < w.heap.size) (hR : ¬ R g) : w'.cell? ⟨g, i, none⟩ = w.cell? ⟨g, i, none⟩ := World.cell?_of_block (a := ⟨g, i, none⟩) (o.block g hg hR)
/-- What is fixed of a word's rests. -/
structure Rp where
  N : Nat
  m : Int
  a1 : Option Addr
  a2 : Option Addr
  l1 : Nat
  l2 : Nat
  c1 : Nat
  c2 : Nat
  g3 : Nat
  k3 : Nat
  gf : Nat
  Es : List EdT
  aw : Option Addr
  cw : Nat
  Wd : List Int
  wd : Nat
  gl : Nat
  nb : Nat
/-- The cells of the rests. -/
def rsC (R : Rp) (blk : Int) (sv : Value) : Array Value := #[.int .i64 (R.N : Int), .int .i64 R.m, .slice R.a1 R.l1 R.c1, .slice R.a2 R.l2 R.c2, .slice (some ⟨R.g3, 0, none⟩) R.Es.length R.k3, .slice (some ⟨R.gf, 0, none⟩) (R.N + 1) (R.N + 1), .slice R.aw R.Wd.length R.cw, .int .i64 (R.wd : Int), .slice (some ⟨R.gl, 0, none⟩) R.nb R.nb, .int .i64 blk, sv]
structure RpOk (w0 : World) (R : Rp) (F : Nat → Nat) : Prop where
  wk : Wk w0 R.N R.g3 R.k3 R.gf R.Es
  rd : RdN w0 R.aw R.Wd
  tb : TabAt w0 ∧ 0 < w0.heap.size
  st : ∀ j (h : j < R.Wd.length), F j = imgF false (F (j + 1)) R.Wd[j] R.Es
  wl : R.Wd.length ≤ 4194304
  w1 : 1 ≤ R.wd
  w2 : R.wd ≤ 4096
/-- The last place of a block. -/
def endB (R : Rp) (k : Nat) : Nat := min (k * R.wd + R.wd - 1) R.Wd.length
/-- The rests as they lie at a time. -/
structure RsB (w0 : World) (R : Rp) (rb : Nat) (blk : Int) (sv : Value) (w : World) : Prop where
  bx : w.heap[rb]? = some (.cells (rsC R blk sv) 108 (0, 0))
  le : w0.heap.size ≤ rb
  be : Below w0.heap.size w0 w
  lr : ∃ cur, w.heap[R.gl]? = some (.cells cur 56 (0, 0)) ∧ cur.size = R.nb
theorem RsB.on {w0 w w' : World} {R : Rp} {rb : Nat} {blk : Int} {sv : Value} (h : RsB w0 R rb blk sv w) (d : Below w.heap.size w w') : RsB w0 R rb blk sv w' := by
  obtain ⟨cur, h1, h2⟩ := h.lr
  exact ⟨blk_on h.bx d, h.le, h.be.trans (d.mono h.be.size), cur, blk_on h1 d, h2⟩
theorem RsB.ne {w0 w : World} {R : Rp} {rb : Nat} {blk : Int} {sv : Value} (h : RsB w0 R rb blk sv w) : R.gl ≠ rb := fun e => by
  obtain ⟨cur, h1, _⟩ := h.lr
  rw [e, h.bx] at h1
  cases h1
theorem RsB.kind {w0 w : World} {R : Rp} {rb : Nat} {blk : Int} {sv : Value} (h : RsB w0 R rb blk sv w) : ∀ q, q = rb → ∀ cs t fr, w.heap[q]? = some (.cells cs t fr) → t ≠ 97 ∧ t ≠ 99 := fun q hq cs t fr he => by
  subst hq
  rw [h.bx] at he
  cases he
  decide
end Go.Proofs.YtfoahpideglghaaGreatDoor
namespace Go.Proofs.YtfoahpideglghaaGreatDoor
open Go.RowKit Go.Maps Go.Shelf
attribute [local go_sem] Oper.semAt_some

theorem RsB.glt {w0 w : World} {R : Rp} {rb : Nat} {blk : Int} {sv : Value} (h : RsB w0 R rb blk sv w) : R.gl < w.heap.size := by
  obtain ⟨cur, h1, _⟩ := h.lr
  exact (Array.getElem?_eq_some_iff.1 h1).1
theorem RsB.put {w0 w w' : World} {R : Rp} {rb : Nat} {blk blk' : Int} {sv sv' : Value} (h : RsB w0 R rb blk sv w) (o : Only w w' (fun q => q = rb)) (e : w'.heap[rb]? = some (.cells (rsC R blk' sv') 108 (0, 0))) : RsB w0 R rb blk' sv' w' := by
  obtain ⟨cur, h1, h2⟩ := h.lr
  exact ⟨e, h.le, h.be.trans (o.toBelow h.be.size (fun q hq => by rw [hq]; exact h.le)), cur, (o.block _ h.glt h.ne).trans h1, h2⟩
theorem info56 : (Tryz.prog.info? 56).map (fun i => (i.zero, i.size, i.bytes)) = some (some (.pointer none), 1, 8) := by kernel_rfl
/-- What load holds in its loop: the sets of the places above i are in the row, that of i is at hand. -/
structure LdI (w0 w : World) (R : Rp) (F : Nat → Nat) (rb gs k bg en : Nat) (i b g c : Nat) (wr : World) : Prop where
  rs : RsB w0 R rb (k : Int) (.slice (some ⟨gs, 0, none⟩) (en - bg + 1) (en - bg + 1)) wr
  row : ∃ cur, wr.heap[gs]? = some (.cells cur 56 (0, 0)) ∧ cur.size = en - bg + 1
  set : IsSet wr b g c R.N (F i) ∧ b ≠ g
  ptr : ∀ j, i < j → j ≤ en → PtrAt wr gs (j - bg) R.N (F j)
  on : Only w wr (fun q => q = rb)
  gw : w0.heap.size ≤ gs
/-- The set at hand laid into the row. -/
theorem LdI.store {w0 w : World} {R : Rp} {F : Nat → Nat} {rb gs k bg en i b g c : Nat} {wr : World} (h : LdI w0 w R F rb gs k bg en i b g c wr) (h1 : bg ≤ i) (h2 : i ≤ en) (hg : w.heap.size ≤ gs) (hl : R.gl ≠ gs) {W' : World} (hW : wr.setCell ⟨gs, i - bg, none⟩ (.pointer (some ⟨b, 0, none⟩)) = W') :
    RsB w0 R rb (k : Int) (.slice (some ⟨gs, 0, none⟩) (en - bg + 1) (en - bg + 1)) W' ∧ (∃ cur, W'.heap[gs]? = some (.cells cur 56 (0, 0)) ∧ cur.size = en - bg + 1) ∧ (IsSet W' b g c R.N (F i) ∧ b ≠ g) ∧ (∀ j, i ≤ j → j ≤ en → PtrAt W' gs (j - bg) R.N (F j)) ∧ Only w W' (fun q => q = rb) := by
  obtain ⟨cur, e1, e2⟩ := h.row
  have o : Only wr W' (fun q => q = gs) := by rw [← hW]; exact only_set _ _ _ _
  have hne : rb ≠ gs := fun q => by rw [← q, h.rs.bx] at e1; cases e1
  have hgl := (Array.getElem?_eq_some_iff.1 e1).1
  have hrl := (Array.getElem?_eq_some_iff.1 h.rs.bx).1
  have kd : ∀ q, q = gs → ∀ cs t fr, wr.heap[q]? = some (.cells cs t fr) → t ≠ 97 ∧ t ≠ 99 := fun q hq cs t fr he => by
    subst hq
    rw [e1] at he
    cases he
    decide
  have e3 : W'.heap[gs]? = some (.cells (cur.setIfInBounds (i - bg) (.pointer (some ⟨b, 0, none⟩))) 56 (0, 0)) := by rw [← hW]; exact heap_setCell_same _ _ _ _ 56 _ e1
  have hs : IsSet W' b g c R.N (F i) := set_other h.set.1 o kd
  have hab := (h.rs.be.size)
  obtain ⟨lc, l1, l2⟩ := h.rs.lr
  refine ⟨⟨(o.block _ hrl hne).trans h.rs.bx, h.rs.le, ?_, lc, (o.block _ h.rs.glt hl).trans l1, l2⟩, ⟨_, e3, by simpa using e2⟩, ⟨hs, h.set.2⟩, ?_, h.on.andNew o (fun q hq e => absurd hq (by omega))⟩
  · refine ⟨o.os.trans h.rs.be.os, o.tape.trans h.rs.be.tape, o.output.trans h.rs.be.output, Nat.le_trans h.rs.be.size o.size, fun q hq => (o.block q (by omega) (fun e => ?_)).trans (h.rs.be.block q hq)⟩
    subst e
    rw [(h.rs.be.block _ hq)] at e1
    have h5 := h.on
    exact absurd hq (by have := h.gw; omega)
  · intro j hj1 hj2
    by_cases e : j = i
    · subst e
      exact ⟨b, g, c, cell_of e3 (by rw [Array.getElem?_setIfInBounds_self_of_lt (by omega)]), hs, h.set.2⟩
    · refine (h.ptr j (by omega) hj2).other o kd ?_
      have q1 : W'.cell? ⟨gs, j - bg, none⟩ = some cur[j - bg] := cell_of e3 (by rw [Array.getElem?_setIfInBounds_ne (by omega), Array.getElem?_eq_getElem (by omega)])
      have q2 : wr.cell? ⟨gs, j - bg, none⟩ = some cur[j - bg] := cell_of e1 (Array.getElem?_eq_getElem (by omega))
      rw [q1, q2]
set_option maxRecDepth 100000 in
set_option maxHeartbeats 2000000 in
theorem load_any (w0 w : World) (R : Rp) (F : Nat → Nat) (rb k : Nat) (blk : Int) (sv : Value) (ho : Hid (RpOk w0 R F)) (hb : Hid (RsB w0 R rb blk sv w)) (hk : k < R.nb) (hn : k * R.wd ≤ R.Wd.length) (hp : Hid (PtrAt w R.gl k R.N (F (endB R k)))) :
    Calls Tryz.prog 106 #[.pointer (some ⟨rb, 0, none⟩), .int .i64 (k : Int)] w fun e w' => e = .returned (.tuple #[]) ∧ ∃ gs, Hid (RsB w0 R rb (k : Int) (.slice (some ⟨gs, 0, none⟩) (endB R k - k * R.wd + 1) (endB R k - k * R.wd + 1)) w' ∧ (∀ j, k * R.wd ≤ j → j ≤ endB R k → PtrAt w' gs (j - k * R.wd) R.N (F j)) ∧ Only w w' (fun q => q = rb) ∧ ∃ cur, w'.heap[gs]? = some (.cells cur 56 (0, 0))) := by
  have wl := ho.out.wl
  have hbe := hb.out.be.size
  have hgl0 := hb.out.glt
  have w1 := ho.out.w1
  have w2 := ho.out.w2
  have hen : k * R.wd ≤ endB R k ∧ endB R k ≤ R.Wd.length ∧ endB R k = min (k * R.wd + R.wd - 1) R.Wd.length := ⟨by unfold endB; omega, by unfold endB; omega, rfl⟩
  have hk4 : k ≤ 4194304 := Nat.le_trans (Nat.le_mul_of_pos_right k w1) (Nat.le_trans hn wl)
  have hmul : IntKind.i64.wrap ((k : Int) * (R.wd : Int)) = ((k * R.wd : Nat) : Int) := by
    rw [← Int.natCast_mul, IntKind.wrap_i64]
    omega
  have y7 : w.cell? ⟨rb, 7, none⟩ = some (.int .i64 (R.wd : Int)) := cell_of hb.out.bx rfl
  have y6 : w.cell? ⟨rb, 6, none⟩ = some (.slice R.aw R.Wd.length R.cw) := cell_of hb.out.bx rfl
  obtain ⟨bg, hbg⟩ : ∃ bg, k * R.wd = bg := ⟨_, rfl⟩
  obtain ⟨en, henn⟩ : ∃ en, endB R k = en := ⟨_, rfl⟩
  rw [hbg, henn] at hen
  rw [hbg] at hmul hn
  rw [henn] at hp
  rw [hbg, henn]
  clear hbg henn
  have HEN := hide hen.2.2
  have hen1 := hen.1
  have hen2 := hen.2.1
  clear hen
  go_enter Tryz.func106, Tryz.ntmps106
  go_wp2
  refine wp_region_phase 12 #[true, true, true, true, true, true, true, true, true, true, true, true, false, false] (by kernel_rfl) (by kernel_rfl) ?_
  simp only [List.take_succ_cons, List.take_zero, List.drop_succ_cons, List.drop_zero]
  repeat (go_big_quiet_step (fail))
  refine wpQuiet_nil ?_
  intro wz hzz
  obtain ⟨nq, rfl⟩ := hzz
  go_upto_region 2 with fail
  have hmin : min ((bg : Int) + (R.wd : Int) - 1) (R.Wd.length : Int) = (en : Int) := by have := HEN.out; omega
  rw [hmin]
  obtain ⟨wq, hwq⟩ : ∃ wq, w.drewN nq = wq := ⟨_, rfl⟩
  rw [hwq]
  have HQ : Hid (RsB w0 R rb blk sv wq ∧ PtrAt wq R.gl k R.N (F en) ∧ Only w wq (fun q => q = rb)) := hide (by
    rw [← hwq]
    exact ⟨hb.out.on (below_drewN2 (Below.refl _ _) nq), hp.out.on (below_drewN2 (Below.refl _ _) nq), Only.ofBelow (below_drewN2 (Below.refl _ _) nq)⟩)
  clear hwq hmin y6 y7 hmul hb hp
  have o9 : wq.cell? ⟨rb, 9, none⟩ = some (.int .i64 blk) := cell_of HQ.out.1.bx rfl
  have f9 : wq.frozen? ⟨rb, 9, none⟩ = false := fz_of HQ.out.1.bx
  obtain ⟨wA, hwA⟩ : ∃ wA, wq.setCell ⟨rb, 9, none⟩ (.int .i64 (k : Int)) = wA := ⟨_, rfl⟩
  have HA : Hid (RsB w0 R rb (k : Int) sv wA ∧ PtrAt wA R.gl k R.N (F en) ∧ Only w wA (fun q => q = rb)) := hide (by
    have o := only_set wq rb 9 (.int .i64 (k : Int))
    have e : wA.heap[rb]? = some (.cells (rsC R (k : Int) sv) 108 (0, 0)) := by rw [← hwA]; exact heap_setCell_same _ _ 9 _ 108 _ HQ.out.1.bx
    rw [hwA] at o
    exact ⟨HQ.out.1.put o e, HQ.out.2.1.other o HQ.out.1.kind (cell_only o HQ.out.1.glt HQ.out.1.ne), HQ.out.2.2.trans o⟩)
  go_upto_region 3 with fail
  clear o9 f9 hwA HQ
  obtain ⟨i6, hi6, hz60, hz61, hz62⟩ := info_parts info56
  have hL : ((en : Int) - (bg : Int) + 1) = ((en - bg + 1 : Nat) : Int) := by omega
  go_wp2_with (at_make; refine wpList_make_full _ rfl _ _ 106 rfl wA.heap.size 56 i6 (.pointer none) 1 Tryz.underlying106 hi6 hz60 hz61 _ _ _ _ (en - bg + 1) rfl rfl (by go_num) (by go_num) (by rw [hz62]; omega) (by unfold maxLen; omega) (Nat.le_refl _) ?_)
  intro wB ho2 hg
  have dB : Below wA.heap.size wA wB := (Below.refl _ _).grown hg (Nat.le_refl _) (by intro q hq; cases hq)
  have hrow : ∃ cur, wB.heap[wA.heap.size]? = some (.cells cur 56 (0, 0)) ∧ cur.size = en - bg + 1 := by
    rcases ho2.2 with ⟨hv, _⟩ | ⟨g', cap', cur, hv, hb, hg, h1, h2, h3, h4⟩
    · cases hv
    · cases hv
      exact ⟨cur, hg, by rw [h3, Nat.mul_one]⟩
  have HB : Hid (RsB w0 R rb (k : Int) sv wB ∧ PtrAt wB R.gl k R.N (F en) ∧ (∃ cur, wB.heap[wA.heap.size]? = some (.cells cur 56 (0, 0)) ∧ cur.size = en - bg + 1) ∧ Only w wB (fun q => q = rb)) := hide ⟨HA.out.1.on dB, HA.out.2.1.on dB, hrow, HA.out.2.2.trans (Only.ofBelow dB)⟩
  have hgs : w.heap.size ≤ wA.heap.size := HA.out.2.2.size
  clear ho2 hg dB hrow HA hL hi6 hz60 hz61 hz62
  generalize wA.heap.size = gs at *
  have o10 : wB.cell? ⟨rb, 10, none⟩ = some sv := cell_of HB.out.1.bx rfl
  have f10 : wB.frozen? ⟨rb, 10, none⟩ = false := fz_of HB.out.1.bx
  obtain ⟨wC, hwC⟩ : ∃ wC, wB.setCell ⟨rb, 10, none⟩ (.slice (some ⟨gs, 0, none⟩) (en - bg + 1) (en - bg + 1)) = wC := ⟨_, rfl⟩
  have HC : Hid (RsB w0 R rb (k : Int) (.slice (some ⟨gs, 0, none⟩) (en - bg + 1) (en - bg + 1)) wC ∧ PtrAt wC R.gl k R.N (F en) ∧ (∃ cur, wC.heap[gs]? = some (.cells cur 56 (0, 0)) ∧ cur.size = en - bg + 1) ∧ Only w wC (fun q => q = rb)) := hide (by
    have o := only_set wB rb 10 (.slice (some ⟨gs, 0, none⟩) (en - bg + 1) (en - bg + 1))
    have e : wC.heap[rb]? = some (.cells (rsC R (k : Int) (.slice (some ⟨gs, 0, none⟩) (en - bg + 1) (en - bg + 1))) 108 (0, 0)) := by rw [← hwC]; exact heap_setCell_same _ _ 10 _ 108 _ HB.out.1.bx
    rw [hwC] at o
    obtain ⟨cur, e1, e2⟩ := HB.out.2.2.1
    have hne : gs ≠ rb := fun q => by rw [q, HB.out.1.bx] at e1; cases e1
    exact ⟨HB.out.1.put o e, HB.out.2.1.other o HB.out.1.kind (cell_only o HB.out.1.glt HB.out.1.ne), ⟨cur, (o.block _ (Array.getElem?_eq_some_iff.1 e1).1 hne).trans e1, e2⟩, HB.out.2.2.2.trans o⟩)
  go_upto_region 4 with fail
  clear o10 f10 hwC HB
  obtain ⟨b0, g0, c0, hc0, hs0, hbg0⟩ := HC.out.2.1
  have y8 : wC.cell? ⟨rb, 8, none⟩ = some (.slice (some ⟨R.gl, 0, none⟩) R.nb R.nb) := cell_of HC.out.1.bx rfl
  have k0 : (0 : Int) ≤ (k : Int) := by omega
  have k1 : (k : Int) < (R.nb : Int) := by omega
  have H0 : Hid (LdI w0 w R F rb gs k bg en en b0 g0 c0 wC) := hide ⟨HC.out.1, HC.out.2.2.1, ⟨hs0, hbg0⟩, fun j h1 h2 => absurd h1 (by omega), HC.out.2.2.2, Nat.le_trans hbe hgs⟩
  clear hs0 HC
  go_wp2
  clear y8 hc0
  go_loopw [6, 7] (fun pv iv wr => ∃ i b g c : Nat, bg ≤ i ∧ i ≤ en ∧ pv = .pointer (some ⟨b, 0, none⟩) ∧ iv = .int .i64 i ∧ Hid (LdI w0 w R F rb gs k bg en i b g c wr)) (fun _ iv _ => (intOf iv).toNat)
  case atStart => exact ⟨en, b0, g0, c0, hen1, Nat.le_refl _, rfl, rfl, H0⟩
  case round =>
    obtain ⟨i, b, g, c, hi1, hi2, rfl, rfl, HY⟩ := hrel
    clear H0
    have y10 : wr.cell? ⟨rb, 10, none⟩ = some (.slice (some ⟨gs, 0, none⟩) (en - bg + 1) (en - bg + 1)) := cell_of HY.out.rs.bx rfl
    obtain ⟨cur, hcu1, hcu2⟩ := HY.out.row
    by_cases hlt : bg < i
    · have i0 : (bg : Int) < (i : Int) := by omega
      have i1 : ((i : Int) - (bg : Int)) < ((en - bg + 1 : Nat) : Int) := by omega
      have i2 : (0 : Int) ≤ (i : Int) - (bg : Int) := by omega
      have hij : ((i : Int) - (bg : Int)) = ((i - bg : Nat) : Int) := by omega
      have hio : i - bg < cur.size := by omega
      have oc : wr.cell? ⟨gs, i - bg, none⟩ = some cur[i - bg] := cell_of hcu1 (Array.getElem?_eq_getElem hio)
      have fc : wr.frozen? ⟨gs, i - bg, none⟩ = false := fz_of hcu1
      obtain ⟨W1, hW1⟩ : ∃ W1, wr.setCell ⟨gs, i - bg, none⟩ (.pointer (some ⟨b, 0, none⟩)) = W1 := ⟨_, rfl⟩
      have HS := hide (HY.out.store hi1 hi2 hgs (by omega) hW1)
      go_upto_region 9 with fail
      clear hW1 oc fc y10 hcu1 hcu2
      have x0 : W1.cell? ⟨rb, 0, none⟩ = some (.int .i64 (R.N : Int)) := cell_of HS.out.1.bx rfl
      have x1 : W1.cell? ⟨rb, 1, none⟩ = some (.int .i64 R.m) := cell_of HS.out.1.bx rfl
      have x2 : W1.cell? ⟨rb, 2, none⟩ = some (.slice R.a1 R.l1 R.c1) := cell_of HS.out.1.bx rfl
      have x3 : W1.cell? ⟨rb, 3, none⟩ = some (.slice R.a2 R.l2 R.c2) := cell_of HS.out.1.bx rfl
      have x4 : W1.cell? ⟨rb, 4, none⟩ = some (.slice (some ⟨R.g3, 0, none⟩) R.Es.length R.k3) := cell_of HS.out.1.bx rfl
      have x5 : W1.cell? ⟨rb, 5, none⟩ = some (.slice (some ⟨R.gf, 0, none⟩) (R.N + 1) (R.N + 1)) := cell_of HS.out.1.bx rfl
      have x6 : W1.cell? ⟨rb, 6, none⟩ = some (.slice R.aw R.Wd.length R.cw) := cell_of HS.out.1.bx rfl
      have hiw : i - 1 < R.Wd.length := by omega
      obtain ⟨gw, ow, haw, qw⟩ := (ho.out.rd.on HS.out.1.be) (i - 1) hiw
      have HST := hide (ho.out.st (i - 1) hiw)
      rw [show i - 1 + 1 = i by omega] at HST
      obtain ⟨sy, hsy⟩ : ∃ sy, R.Wd[i - 1] = sy := ⟨_, rfl⟩
      rw [hsy] at qw HST
      clear hsy
      rw [haw] at x6
      clear haw
      have z1 : ((i : Int) - 1) = ((i - 1 : Nat) : Int) := by omega
      have z2 : ((i : Int) - 1) < (R.Wd.length : Int) := by omega
      have z3 : (0 : Int) ≤ (i : Int) - 1 := by omega
      refine wp_region_phase 13 #[true, true, true, true, true, true, true, true, true, true, true, true, true, false, false] (by kernel_rfl) (by kernel_rfl) ?_
      simp only [List.take_succ_cons, List.take_zero, List.drop_succ_cons, List.drop_zero]
      repeat (go_big_quiet_step (fail))
      refine wpQuiet_nil ?_
      intro wz hzz
      obtain ⟨nq2, rfl⟩ := hzz
      have DZ : Hid (Below W1.heap.size W1 (W1.drewN nq2)) := hide (below_drewN2 (Below.refl _ _) nq2)
      have T86 := step_any (W1.drewN nq2) R.N R.m sy R.a1 R.a2 R.l1 R.l2 R.c1 R.c2 R.g3 R.k3 R.gf R.Es b g c (F i) (hide (ho.out.wk.on (HS.out.1.on DZ.out).be)) (hide (HS.out.2.2.1.1.below DZ.out)) (hide ⟨ho.out.tb.1.below (HS.out.1.on DZ.out).be ho.out.tb.2, Nat.lt_of_lt_of_le ho.out.tb.2 (HS.out.1.on DZ.out).be.size⟩)
      go_wp2_with (go_at_call 86; refine T86.mono ?_; rintro e w5 ⟨b5, g5, k5, rfl, hs5, d5⟩)
      have D5 : Below W1.heap.size W1 w5 := DZ.out.trans d5
      have r5 : ∃ cur, w5.heap[gs]? = some (.cells cur 56 (0, 0)) ∧ cur.size = en - bg + 1 := by
        obtain ⟨cur2, r1, r2⟩ := HS.out.2.1
        exact ⟨cur2, blk_on r1 D5, r2⟩
      go_roundw
      case rel =>
        exact ⟨i - 1, b5, g5, k5, by omega, by omega, rfl, by go_num, hide ⟨HS.out.1.on D5, r5, ⟨by rw [HST.out]; exact hs5.out.1, hs5.out.2.2.2⟩, fun j h1 h2 => (HS.out.2.2.2.1 j (by omega) h2).on D5, HS.out.2.2.2.2.trans (Only.ofBelow D5), HY.out.gw⟩⟩
      case measure => simp [intOf]; omega
    · obtain rfl : bg = i := by omega
      have i0 : ¬ (bg : Int) < (bg : Int) := by omega
      have hio : 0 < cur.size := by omega
      have i1 : (0 : Int) < ((en - bg + 1 : Nat) : Int) := by omega
      have oc : wr.cell? ⟨gs, 0, none⟩ = some cur[0] := cell_of hcu1 (Array.getElem?_eq_getElem hio)
      have fc : wr.frozen? ⟨gs, 0, none⟩ = false := fz_of hcu1
      obtain ⟨W1, hW1⟩ : ∃ W1, wr.setCell ⟨gs, 0, none⟩ (.pointer (some ⟨b, 0, none⟩)) = W1 := ⟨_, rfl⟩
      have HS := hide (HY.out.store hi1 hi2 hgs (by omega) (W' := W1) (by rw [Nat.sub_self]; exact hW1))
      go_wp2
      go_end0
      obtain ⟨cz, hz1, _⟩ := HS.out.2.1
      exact ⟨rfl, gs, hide ⟨HS.out.1, HS.out.2.2.2.1, HS.out.2.2.2.2, cz, hz1⟩⟩
end Go.Proofs.YtfoahpideglghaaGreatDoor
namespace Go.Proofs.YtfoahpideglghaaGreatDoor
open Go.RowKit Go.Maps Go.Shelf
attribute [local go_sem] Oper.semAt_some

/-! ### The set of one place -/
/-- The rests with the sets of one block at hand. -/
structure RsA (w0 : World) (R : Rp) (F : Nat → Nat) (rb blk gs : Nat) (w : World) : Prop where
  rs : RsB w0 R rb (blk : Int) (.slice (some ⟨gs, 0, none⟩) (endB R blk - blk * R.wd + 1) (endB R blk - blk * R.wd + 1)) w
  bk : blk < R.nb
  pt : ∀ j, blk * R.wd ≤ j → j ≤ endB R blk → PtrAt w gs (j - blk * R.wd) R.N (F j)
  la : ∀ k, k < R.nb → PtrAt w R.gl k R.N (F (endB R k))
  gr : ∃ cur, w.heap[gs]? = some (.cells cur 56 (0, 0))
theorem RsA.on {w0 w w' : World} {R : Rp} {F : Nat → Nat} {rb blk gs : Nat} (h : RsA w0 R F rb blk gs w) (d : Below w.heap.size w w') : RsA w0 R F rb blk gs w' :=
  ⟨h.rs.on d, h.bk, fun j h1 h2 => (h.pt j h1 h2).on d, fun k hk => (h.la k hk).on d, by obtain ⟨cur, h1⟩ := h.gr; exact ⟨cur, blk_on h1 d⟩⟩
theorem place_in {R : Rp} {i : Nat} (hw : 1 ≤ R.wd) (hi : i ≤ R.Wd.length) (hn : R.nb = R.Wd.length / R.wd + 1) : i / R.wd < R.nb ∧ i / R.wd * R.wd ≤ i ∧ i ≤ endB R (i / R.wd) ∧ i - i / R.wd * R.wd = i % R.wd ∧ i % R.wd < endB R (i / R.wd) - i / R.wd * R.wd + 1 := by
  have h1 : i / R.wd ≤ R.Wd.length / R.wd := Nat.div_le_div_right hi
  have h2 := Nat.div_add_mod i R.wd
  have h3 := Nat.mod_lt i (show R.wd > 0 by omega)
  rw [Nat.mul_comm] at h2
  unfold endB
  omega
set_option maxRecDepth 100000 in
set_option maxHeartbeats 2000000 in
theorem at_any (w0 w : World) (R : Rp) (F : Nat → Nat) (rb blk gs i : Nat) (ho : Hid (RpOk w0 R F)) (hnb : R.nb = R.Wd.length / R.wd + 1) (ha : Hid (RsA w0 R F rb blk gs w)) (hi : i ≤ R.Wd.length) :
    Calls Tryz.prog 89 #[.pointer (some ⟨rb, 0, none⟩), .int .i64 (i : Int)] w fun e w' => ∃ b g c, e = .returned (.pointer (some ⟨b, 0, none⟩)) ∧ Hid (IsSet w' b g c R.N (F i) ∧ b ≠ g ∧ (∃ blk gs, RsA w0 R F rb blk gs w') ∧ Only w w' (fun q => q = rb)) := by
  have wl := ho.out.wl
  have w1 := ho.out.w1
  have w2 := ho.out.w2
  have HP := hide (place_in w1 hi hnb)
  have y7 : w.cell? ⟨rb, 7, none⟩ = some (.int .i64 (R.wd : Int)) := cell_of ha.out.rs.bx rfl
  have y9 : w.cell? ⟨rb, 9, none⟩ = some (.int .i64 (blk : Int)) := cell_of ha.out.rs.bx rfl
  obtain ⟨q, hq⟩ : ∃ q, i / R.wd = q := ⟨_, rfl⟩
  obtain ⟨r, hr⟩ : ∃ r, i % R.wd = r := ⟨_, rfl⟩
  rw [hq, hr] at HP
  have hdiv : IntKind.i64.wrap ((i : Int) / (R.wd : Int)) = (q : Int) := by
    rw [← Int.natCast_ediv, hq, IntKind.wrap_i64]
    have : q ≤ i := by rw [← hq]; exact Nat.div_le_self _ _
    omega
  have hmod : ((i : Int) % (R.wd : Int)) = (r : Int) := by rw [← Int.natCast_emod, hr]
  have hq4 : q ≤ 4194304 := by have := Nat.div_le_self i R.wd; omega
  have hr4 : r ≤ 4194304 := by have := Nat.mod_le i R.wd; omega
  clear hq hr hnb
  go_enter Tryz.func89, Tryz.ntmps89
  by_cases hqb : q = blk
  · subst hqb
    have qb : ((q : Int) != (q : Int)) = false := by simp
    go_upto_region 4 with fail
    have HR := ha
    have OO : Only w w (fun q => q = rb) := Only.ofBelow (Below.refl _ _)
    have y10 : w.cell? ⟨rb, 10, none⟩ = some (.slice (some ⟨gs, 0, none⟩) (endB R q - q * R.wd + 1) (endB R q - q * R.wd + 1)) := cell_of HR.out.rs.bx rfl
    have y7b : w.cell? ⟨rb, 7, none⟩ = some (.int .i64 (R.wd : Int)) := cell_of HR.out.rs.bx rfl
    obtain ⟨b, g, c, hc, hs, hbg⟩ := HR.out.pt i HP.out.2.1 HP.out.2.2.1
    rw [HP.out.2.2.2.1] at hc
    have r1 : (r : Int) < ((endB R q - q * R.wd + 1 : Nat) : Int) := by have := HP.out.2.2.2.2; omega
    have r0 : (0 : Int) ≤ (r : Int) := by omega
    have HF : Hid (∀ W, Below w.heap.size w W → IsSet W b g c R.N (F i) ∧ b ≠ g ∧ (∃ blk gs, RsA w0 R F rb blk gs W) ∧ Only w W (fun q => q = rb)) := hide (fun W d => ⟨hs.below d, hbg, ⟨q, gs, HR.out.on d⟩, OO.trans (Only.ofBelow d)⟩)
    clear hs
    generalize endB R q - q * R.wd + 1 = LL at y10 r1
    refine wp_region_phase 10 #[true, true, true, true, true, true, true, true, true, true, false, false, false] (by kernel_rfl) (by kernel_rfl) ?_
    simp only [List.take_succ_cons, List.take_zero, List.drop_succ_cons, List.drop_zero]
    repeat (go_big_quiet_step (fail))
    refine wpQuiet_nil ?_
    intro wz hzz
    obtain ⟨nq, rfl⟩ := hzz
    rw [hmod]
    go_wp2_with fail
    refine bodyPost_ret (results_tmp rfl _ _ _) rfl ?_
    exact ⟨b, g, c, rfl, hide (HF.out _ (below_drewN2 (Below.refl _ _) nq))⟩
  · have qb : ((q : Int) != (blk : Int)) = true := by simp; omega
    have TL := load_any w0 w R F rb q blk _ ho (hide ha.out.rs) HP.out.1 (Nat.le_trans HP.out.2.1 hi) (hide (ha.out.la q HP.out.1))
    go_upto_region 4 with (go_at_call 106; refine TL.mono ?_; rintro e wv ⟨rfl, gv, hv⟩)
    have OO := hv.out.2.2.1
    have HR : Hid (RsA w0 R F rb q gv wv) := hide ⟨hv.out.1, HP.out.1, hv.out.2.1, fun k hk => (ha.out.la k hk).other OO ha.out.rs.kind (cell_only OO ha.out.rs.glt ha.out.rs.ne), hv.out.2.2.2⟩
    have y10 : wv.cell? ⟨rb, 10, none⟩ = some (.slice (some ⟨gv, 0, none⟩) (endB R q - q * R.wd + 1) (endB R q - q * R.wd + 1)) := cell_of HR.out.rs.bx rfl
    have y7b : wv.cell? ⟨rb, 7, none⟩ = some (.int .i64 (R.wd : Int)) := cell_of HR.out.rs.bx rfl
    obtain ⟨b, g, c, hc, hs, hbg⟩ := HR.out.pt i HP.out.2.1 HP.out.2.2.1
    rw [HP.out.2.2.2.1] at hc
    have r1 : (r : Int) < ((endB R q - q * R.wd + 1 : Nat) : Int) := by have := HP.out.2.2.2.2; omega
    have r0 : (0 : Int) ≤ (r : Int) := by omega
    have HF : Hid (∀ W, Below wv.heap.size wv W → IsSet W b g c R.N (F i) ∧ b ≠ g ∧ (∃ blk gs, RsA w0 R F rb blk gs W) ∧ Only w W (fun q => q = rb)) := hide (fun W d => ⟨hs.below d, hbg, ⟨q, gv, HR.out.on d⟩, OO.trans (Only.ofBelow d)⟩)
    clear hs
    generalize endB R q - q * R.wd + 1 = LL at y10 r1
    refine wp_region_phase 10 #[true, true, true, true, true, true, true, true, true, true, false, false, false] (by kernel_rfl) (by kernel_rfl) ?_
    simp only [List.take_succ_cons, List.take_zero, List.drop_succ_cons, List.drop_zero]
    repeat (go_big_quiet_step (fail))
    refine wpQuiet_nil ?_
    intro wz hzz
    obtain ⟨nq, rfl⟩ := hzz
    rw [hmod]
    go_wp2_with fail
    refine bodyPost_ret (results_tmp rfl _ _ _) rfl ?_
    exact ⟨b, g, c, rfl, hide (HF.out _ (below_drewN2 (Below.refl _ _) nq))⟩
set_option maxRecDepth 100000 in
set_option maxHeartbeats 2000000 in
/-- The place's set, where its block is at hand. -/
theorem at_here (w0 w : World) (R : Rp) (rb gs b L : Nat) (hb : Hid (RsB w0 R rb 0 (.slice (some ⟨gs, 0, none⟩) (L + 1) (L + 1)) w)) (w1 : 1 ≤ R.wd) (w2 : R.wd ≤ 4096) (hc : w.cell? ⟨gs, 0, none⟩ = some (.pointer (some ⟨b, 0, none⟩))) :
    Calls Tryz.prog 89 #[.pointer (some ⟨rb, 0, none⟩), .int .i64 0] w fun e w' => e = .returned (.pointer (some ⟨b, 0, none⟩)) ∧ ∃ q, w' = w.drewN q := by
  have y7 : w.cell? ⟨rb, 7, none⟩ = some (.int .i64 (R.wd : Int)) := cell_of hb.out.bx rfl
  have y9 : w.cell? ⟨rb, 9, none⟩ = some (.int .i64 0) := cell_of hb.out.bx rfl
  have y10 : w.cell? ⟨rb, 10, none⟩ = some (.slice (some ⟨gs, 0, none⟩) (L + 1) (L + 1)) := cell_of hb.out.bx rfl
  have r1 : (0 : Int) < ((L + 1 : Nat) : Int) := by omega
  go_enter Tryz.func89, Tryz.ntmps89
  go_upto_region 4 with fail
  refine wp_region_phase 10 #[true, true, true, true, true, true, true, true, true, true, false, false, false] (by kernel_rfl) (by kernel_rfl) ?_
  simp only [List.take_succ_cons, List.take_zero, List.drop_succ_cons, List.drop_zero]
  repeat (go_big_quiet_step (fail))
  refine wpQuiet_nil ?_
  intro wz hzz
  obtain ⟨nq, rfl⟩ := hzz
  go_wp2_with fail
  refine bodyPost_ret (results_tmp rfl _ _ _) rfl ?_
  exact ⟨rfl, nq, rfl⟩
end Go.Proofs.YtfoahpideglghaaGreatDoor
