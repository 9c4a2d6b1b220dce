import Derived.Test.YtchoopnjckcohaaGreatDoorQal
import Derived.Maps.AppendAt
import Derived.Below
import Derived.Deep.RegionHeld
namespace Go.Proofs.YtchoopnjckcohaaGreatDoor
open Go.RowKit Go.Maps Go.Shelf
attribute [local go_sem] Oper.semAt_some

theorem RsB.glt {w0 w : World} {R : Rp} {rb : Nat} {blk : Int} {sv : Value} (h : RsB w0 R rb blk sv w) : R.gl < w.heap.size := by
  obtain ⟨cur, h1, _⟩ := h.lr
  exact (Array.getElem?_eq_some_iff.1 h1).1
theorem RsB.put {w0 w w' : World} {R : Rp} {rb : Nat} {blk blk' : Int} {sv sv' : Value} (h : RsB w0 R rb blk sv w) (o : Only w w' (fun q => q = rb)) (e : w'.heap[rb]? = some (.cells (rsC R blk' sv') 108 (0, 0))) : RsB w0 R rb blk' sv' w' := by
  obtain ⟨cur, h1, h2⟩ := h.lr
  exact ⟨e, h.le, h.be.trans (o.toBelow h.be.size (fun q hq => by rw [hq]; exact h.le)), cur, (o.block _ h.glt h.ne).trans h1, h2⟩
/-- What load holds in its loop: the sets of the places above i are in the row, that of i is at hand. -/
structure LdI (w0 w : World) (R : Rp) (F : Nat → Nat) (rb gs k bg en : Nat) (i b g c : Nat) (wr : World) : Prop where
  rs : RsB w0 R rb (k : Int) (.slice (some ⟨gs, 0, none⟩) (en - bg + 1) (en - bg + 1)) wr
  row : ∃ cur, wr.heap[gs]? = some (.cells cur 81 (0, 0)) ∧ cur.size = en - bg + 1
  set : IsSet wr b g c R.N (F i) ∧ b ≠ g
  ptr : ∀ j, i < j → j ≤ en → PtrAt wr gs (j - bg) R.N (F j)
  on : Only w wr (fun q => q = rb)
  gw : w0.heap.size ≤ gs
/-- The set at hand laid into the row. -/
theorem LdI.store {w0 w : World} {R : Rp} {F : Nat → Nat} {rb gs k bg en i b g c : Nat} {wr : World} (h : LdI w0 w R F rb gs k bg en i b g c wr) (h1 : bg ≤ i) (h2 : i ≤ en) (hg : w.heap.size ≤ gs) (hl : R.gl ≠ gs) {W' : World} (hW : wr.setCell ⟨gs, i - bg, none⟩ (.pointer (some ⟨b, 0, none⟩)) = W') :
    RsB w0 R rb (k : Int) (.slice (some ⟨gs, 0, none⟩) (en - bg + 1) (en - bg + 1)) W' ∧ (∃ cur, W'.heap[gs]? = some (.cells cur 81 (0, 0)) ∧ cur.size = en - bg + 1) ∧ (IsSet W' b g c R.N (F i) ∧ b ≠ g) ∧ (∀ j, i ≤ j → j ≤ en → PtrAt W' gs (j - bg) R.N (F j)) ∧ Only w W' (fun q => q = rb) := by
  obtain ⟨cur, e1, e2⟩ := h.row
  have o : Only wr W' (fun q => q = gs) := by rw [← hW]; exact only_set _ _ _ _
  have hne : rb ≠ gs := fun q => by rw [← q, h.rs.bx] at e1; cases e1
  have hgl := (Array.getElem?_eq_some_iff.1 e1).1
  have hrl := (Array.getElem?_eq_some_iff.1 h.rs.bx).1
  have kd : ∀ q, q = gs → ∀ cs t fr, wr.heap[q]? = some (.cells cs t fr) → t ≠ 120 ∧ t ≠ 143 := fun q hq cs t fr he => by
    subst hq
    rw [e1] at he
    cases he
    decide
  have e3 : W'.heap[gs]? = some (.cells (cur.setIfInBounds (i - bg) (.pointer (some ⟨b, 0, none⟩))) 81 (0, 0)) := by rw [← hW]; exact heap_setCell_same _ _ _ _ 81 _ e1
  have hs : IsSet W' b g c R.N (F i) := set_other h.set.1 o kd
  have hab := (h.rs.be.size)
  obtain ⟨lc, l1, l2⟩ := h.rs.lr
  refine ⟨⟨(o.block _ hrl hne).trans h.rs.bx, h.rs.le, ?_, lc, (o.block _ h.rs.glt hl).trans l1, l2⟩, ⟨_, e3, by simpa using e2⟩, ⟨hs, h.set.2⟩, ?_, h.on.andNew o (fun q hq e => absurd hq (by omega))⟩
  · refine ⟨o.os.trans h.rs.be.os, o.tape.trans h.rs.be.tape, o.output.trans h.rs.be.output, Nat.le_trans h.rs.be.size o.size, fun q hq => (o.block q (by omega) (fun e => ?_)).trans (h.rs.be.block q hq)⟩
    subst e
    rw [(h.rs.be.block _ hq)] at e1
    have h5 := h.on
    exact absurd hq (by have := h.gw; omega)
  · intro j hj1 hj2
    by_cases e : j = i
    · subst e
      exact ⟨b, g, c, cell_of e3 (by rw [Array.getElem?_setIfInBounds_self_of_lt (by omega)]), hs, h.set.2⟩
    · refine (h.ptr j (by omega) hj2).other o kd ?_
      have q1 : W'.cell? ⟨gs, j - bg, none⟩ = some cur[j - bg] := cell_of e3 (by rw [Array.getElem?_setIfInBounds_ne (by omega), Array.getElem?_eq_getElem (by omega)])
      have q2 : wr.cell? ⟨gs, j - bg, none⟩ = some cur[j - bg] := cell_of e1 (Array.getElem?_eq_getElem (by omega))
      rw [q1, q2]
end Go.Proofs.YtchoopnjckcohaaGreatDoor
namespace Go.Proofs.YtchoopnjckcohaaGreatDoor
open Go.RowKit Go.Maps Go.Shelf
attribute [local go_sem] Oper.semAt_some

/-! ### The set of one place -/
/-- The rests with the sets of one block at hand. -/
structure RsA (w0 : World) (R : Rp) (F : Nat → Nat) (rb blk gs : Nat) (w : World) : Prop where
  rs : RsB w0 R rb (blk : Int) (.slice (some ⟨gs, 0, none⟩) (endB R blk - blk * R.wd + 1) (endB R blk - blk * R.wd + 1)) w
  bk : blk < R.nb
  pt : ∀ j, blk * R.wd ≤ j → j ≤ endB R blk → PtrAt w gs (j - blk * R.wd) R.N (F j)
  la : ∀ k, k < R.nb → PtrAt w R.gl k R.N (F (endB R k))
  gr : ∃ cur, w.heap[gs]? = some (.cells cur 81 (0, 0))
theorem RsA.on {w0 w w' : World} {R : Rp} {F : Nat → Nat} {rb blk gs : Nat} (h : RsA w0 R F rb blk gs w) (d : Below w.heap.size w w') : RsA w0 R F rb blk gs w' :=
  ⟨h.rs.on d, h.bk, fun j h1 h2 => (h.pt j h1 h2).on d, fun k hk => (h.la k hk).on d, by obtain ⟨cur, h1⟩ := h.gr; exact ⟨cur, blk_on h1 d⟩⟩
end Go.Proofs.YtchoopnjckcohaaGreatDoor
namespace Go.Proofs.YtchoopnjckcohaaGreatDoor
open Go.RowKit Go.Maps Go.Shelf
attribute [local go_sem] Oper.semAt_some

/-! ### The rests of a word, made -/
/-- What newRests holds while it makes the blocks' last sets. -/
structure NrI (w0 : World) (R : Rp) (F : Nat → Nat) (rb kk b g c : Nat) (wr : World) : Prop where
  rs : ∃ blk sv, RsB w0 R rb blk sv wr
  set : 0 < kk → IsSet wr b g c R.N (F (endB R (kk - 1))) ∧ b ≠ g
  ptr : ∀ k, kk ≤ k → k < R.nb → PtrAt wr R.gl k R.N (F (endB R k))
  fin : kk = 0 → ∃ gs, RsA w0 R F rb 0 gs wr
end Go.Proofs.YtchoopnjckcohaaGreatDoor
namespace Go.Proofs.YtchoopnjckcohaaGreatDoor
open Go.RowKit Go.Maps Go.Shelf
attribute [local go_sem] Oper.semAt_some

/-! ### The first edge into a set -/
end Go.Proofs.YtchoopnjckcohaaGreatDoor
namespace Go.Proofs.YtchoopnjckcohaaGreatDoor
open Go.RowKit Go.Maps Go.Shelf

/-! ### The least path, as states place by place -/
/-- Where the first edge into a set stands. -/
def frstE (X : Nat) (L : List EdT) : Nat := L.findIdx fun e => hasB X e.2.2
def nxtP (Es : List EdT) (X p : Nat) (y : Int) : Nat := ((fromL Es p y).getD (frstE X (fromL Es p y)) (0, 0, 0)).2.2.toNat
def stP (Es : List EdT) (F : Nat → Nat) (Wd : List Int) (p0 : Nat) : Nat → Nat
  | 0 => p0
  | i + 1 => nxtP Es (F (i + 1)) (stP Es F Wd p0 i) (Wd.getD i 0)
theorem frst_in {X : Nat} {L : List EdT} (h : ∃ e ∈ L, hasB X e.2.2 = true) : ∃ hk : frstE X L < L.length, hasB X L[frstE X L].2.2 = true ∧ ∀ t (h : t < L.length), t < frstE X L → hasB X L[t].2.2 = false := by
  have hk : frstE X L < L.length := List.findIdx_lt_length_of_exists (by obtain ⟨e, he, hv⟩ := h; exact ⟨e, he, hv⟩)
  refine ⟨hk, List.findIdx_getElem (p := fun e : EdT => hasB X e.2.2) (w := hk), fun t ht hlt => ?_⟩
  have := List.not_of_lt_findIdx (p := fun e : EdT => hasB X e.2.2) hlt
  simpa using this
theorem hasB_nat {X : Nat} {i : Int} (h : hasB X i = true) : 0 ≤ i ∧ X.testBit i.toNat = true := by
  unfold hasB at h
  simpa using h
/-- A place's set and the next one's hang together. -/
def Links (Es : List EdT) (F : Nat → Nat) (Wd : List Int) : Prop := ∀ j (_ : j < Wd.length) p, (F j).testBit p = true → ∃ e ∈ Es, e.1 = (p : Int) ∧ e.2.1 = Wd[j] ∧ hasB (F (j + 1)) e.2.2 = true
theorem Links.step {Es : List EdT} {F : Nat → Nat} {Wd : List Int} (h : Links Es F Wd) {p0 i : Nat} (hi : i < Wd.length) (hp : (F i).testBit (stP Es F Wd p0 i) = true) :
    ∃ hk : frstE (F (i + 1)) (fromL Es (stP Es F Wd p0 i) Wd[i]) < (fromL Es (stP Es F Wd p0 i) Wd[i]).length, hasB (F (i + 1)) (fromL Es (stP Es F Wd p0 i) Wd[i])[frstE (F (i + 1)) (fromL Es (stP Es F Wd p0 i) Wd[i])].2.2 = true ∧ (∀ t (h : t < (fromL Es (stP Es F Wd p0 i) Wd[i]).length), t < frstE (F (i + 1)) (fromL Es (stP Es F Wd p0 i) Wd[i]) → hasB (F (i + 1)) (fromL Es (stP Es F Wd p0 i) Wd[i])[t].2.2 = false) ∧ (fromL Es (stP Es F Wd p0 i) Wd[i])[frstE (F (i + 1)) (fromL Es (stP Es F Wd p0 i) Wd[i])].2.2 = ((stP Es F Wd p0 (i + 1) : Nat) : Int) ∧ (F (i + 1)).testBit (stP Es F Wd p0 (i + 1)) = true := by
  obtain ⟨e, he, h1, h2, h3⟩ := h i hi _ hp
  obtain ⟨hk, q1, q2⟩ := frst_in (X := F (i + 1)) (L := fromL Es (stP Es F Wd p0 i) Wd[i]) ⟨e, fromL_iff.2 ⟨he, h1, h2⟩, h3⟩
  have q3 := hasB_nat q1
  have e1 : Wd.getD i 0 = Wd[i] := by simp [List.getD, hi]
  have q4 : stP Es F Wd p0 (i + 1) = ((fromL Es (stP Es F Wd p0 i) Wd[i])[frstE (F (i + 1)) (fromL Es (stP Es F Wd p0 i) Wd[i])]).2.2.toNat := by
    show nxtP Es (F (i + 1)) (stP Es F Wd p0 i) (Wd.getD i 0) = _
    rw [e1]
    unfold nxtP
    rw [List.getD_eq_getElem?_getD, List.getElem?_eq_getElem hk]
    rfl
  refine ⟨hk, q1, q2, ?_, ?_⟩
  · rw [q4]; omega
  · rw [q4]; exact q3.2
theorem Links.all {Es : List EdT} {F : Nat → Nat} {Wd : List Int} (h : Links Es F Wd) {p0 : Nat} (h0 : (F 0).testBit p0 = true) : ∀ i, i ≤ Wd.length → (F i).testBit (stP Es F Wd p0 i) = true
  | 0, _ => h0
  | i + 1, hi => by
    have := h.step (p0 := p0) (i := i) (by omega) (Links.all h h0 i (by omega))
    obtain ⟨_, _, _, _, q⟩ := this
    exact q
theorem Wk.only {w w' : World} {N g3 k3 gf : Nat} {Es : List EdT} {R : Nat → Prop} (h : Wk w N g3 k3 gf Es) (o : Only w w' R) (h3 : ¬ R g3) (hf : ¬ R gf) : Wk w' N g3 k3 gf Es :=
  ⟨rdE_only h.e o (fun g o' e => by cases e; exact h3), h.k, h.f.only o hf, h.s, h.i, h.l, h.n⟩
/-- The rests stay where only a row of numbers is turned. -/
theorem RsA.row {w0 w w' : World} {R : Rp} {F : Nat → Nat} {rb blk gs pr : Nat} (h : RsA w0 R F rb blk gs w) (o : Only w w' (fun q => q = pr)) {cs : Array Value} {fr : Nat × Nat} (hp : w.heap[pr]? = some (.cells cs 3 fr)) (h0 : w0.heap.size ≤ pr) : RsA w0 R F rb blk gs w' := by
  have kd : ∀ q, q = pr → ∀ cs t fr, w.heap[q]? = some (.cells cs t fr) → t ≠ 120 ∧ t ≠ 143 := fun q hq cs t fr he => by
    subst hq
    rw [hp] at he
    cases he
    decide
  obtain ⟨lc, l1, l2⟩ := h.rs.lr
  obtain ⟨gc, hg⟩ := h.gr
  have n1 : rb ≠ pr := fun e => by rw [← e, h.rs.bx] at hp; cases hp
  have n2 : R.gl ≠ pr := fun e => by rw [← e, l1] at hp; cases hp
  have n3 : gs ≠ pr := fun e => by rw [← e, hg] at hp; cases hp
  have z1 := (Array.getElem?_eq_some_iff.1 h.rs.bx).1
  have z3 := (Array.getElem?_eq_some_iff.1 hg).1
  exact ⟨⟨(o.block _ z1 n1).trans h.rs.bx, h.rs.le, h.rs.be.trans (o.toBelow h.rs.be.size (fun q hq => by rw [hq]; exact h0)), lc, (o.block _ h.rs.glt n2).trans l1, l2⟩, h.bk, fun j h1 h2 => (h.pt j h1 h2).other o kd (cell_only o z3 n3), fun k hk => (h.la k hk).other o kd (cell_only o h.rs.glt n2), gc, (o.block _ z3 n3).trans hg⟩
end Go.Proofs.YtchoopnjckcohaaGreatDoor
namespace Go.Proofs.YtchoopnjckcohaaGreatDoor
open Go.RowKit Go.Maps Go.Shelf
attribute [local go_sem] Oper.semAt_some

/-! ### The least path -/
/-- What leastPath holds in its loop. -/
structure LpI (w w0 : World) (R : Rp) (F : Nat → Nat) (N rb wb f3 j3 ff : Nat) (Es : List EdT) (bc : Array Value) (B : Nat) (P : List Nat) (pg pc : Nat) (wr : World) : Prop where
  ra : ∃ blk gs, RsA w0 R F rb blk gs wr
  wk : Wk wr N f3 j3 ff Es
  bx : wr.heap[wb]? = some (.cells bc 124 (0, 0))
  rw : wr.ownsRow B 3 1 (.slice (some ⟨pg, 0, none⟩) P.length pc) P.length (intV P)
  be : Below w.heap.size w wr
theorem LpI.on {w w0 : World} {R : Rp} {F : Nat → Nat} {N rb wb f3 j3 ff : Nat} {Es : List EdT} {bc : Array Value} {B : Nat} {P : List Nat} {pg pc : Nat} {W W' : World} (h : LpI w w0 R F N rb wb f3 j3 ff Es bc B P pg pc W) (d : Below W.heap.size W W') : LpI w w0 R F N rb wb f3 j3 ff Es bc B P pg pc W' := by
  obtain ⟨blk, gs, hr⟩ := h.ra
  exact ⟨⟨blk, gs, hr.on d⟩, h.wk.on d, blk_on h.bx d, own_on h.rw d (own_at h.rw).2, h.be.trans (d.mono h.be.size)⟩
theorem LpI.at {w w0 : World} {R : Rp} {F : Nat → Nat} {N rb wb f3 j3 ff : Nat} {Es : List EdT} {bc : Array Value} {B : Nat} {P : List Nat} {pg pc : Nat} {W W' : World} (h : LpI w w0 R F N rb wb f3 j3 ff Es bc B P pg pc W) (hB : rb ≠ f3 ∧ rb ≠ ff ∧ rb ≠ wb ∧ rb < B ∧ w.heap.size ≤ rb) (o : Only W W' (fun q => q = rb)) (hr : ∃ blk gs, RsA w0 R F rb blk gs W') : LpI w w0 R F N rb wb f3 j3 ff Es bc B P pg pc W' := by
  have hp := (own_at h.rw).1
  exact ⟨hr, h.wk.only o (fun e => hB.1 e.symm) (fun e => hB.2.1 e.symm), (o.block _ (Array.getElem?_eq_some_iff.1 h.bx).1 (fun e => hB.2.2.1 e.symm)).trans h.bx, own_only h.rw o (by omega), h.be.trans (o.toBelow h.be.size (fun q hq => by omega))⟩
end Go.Proofs.YtchoopnjckcohaaGreatDoor
namespace Go.Proofs.YtchoopnjckcohaaGreatDoor
open Go.RowKit Go.Maps Go.Shelf
attribute [local go_sem] Oper.semAt_some

/-! ### Path -/
end Go.Proofs.YtchoopnjckcohaaGreatDoor
namespace Go.Proofs.YtchoopnjckcohaaGreatDoor
open Go.RowKit Go.Maps Go.Shelf
attribute [local go_sem] Oper.semAt_some

/-! ### Edges found by their end -/
end Go.Proofs.YtchoopnjckcohaaGreatDoor
namespace Go.Proofs.YtchoopnjckcohaaGreatDoor
open Go.RowKit Go.Maps Go.Shelf
attribute [local go_sem] Oper.semAt_some

/-! ### Is a list of states a path? -/
end Go.Proofs.YtchoopnjckcohaaGreatDoor
namespace Go.Proofs.YtchoopnjckcohaaGreatDoor
open Go.RowKit Go.Maps Go.Shelf
attribute [local go_sem] Oper.semAt_some

/-! ### Runs; one list less than another -/
end Go.Proofs.YtchoopnjckcohaaGreatDoor
namespace Go.Proofs.YtchoopnjckcohaaGreatDoor
open Go.RowKit Go.Maps Go.Shelf
attribute [local go_sem] Oper.semAt_some

/-! ### The law's own lists -/
/-- The marks behind a list. -/
def mrk (k : Nat) : List Int := (List.range k).map fun (i : Nat) => -1000 - (i : Int)
/-- A list with its marks, in a row of its own. -/
structure Mk (B : Nat) (w : World) (g c : Nat) (L : List Int) : Prop where
  le : L.length + 70 ≤ c
  rw : w.ownsRow B 3 1 (.slice (some ⟨g, 0, none⟩) (L.length + 70) c) (L.length + 70) ((L ++ mrk 70).map (Value.int .i64))
theorem rdN_own {W : World} {B g c n : Nat} {X L : List Int} (h : W.ownsRow B 3 1 (.slice (some ⟨g, 0, none⟩) n c) n (X.map (Value.int .i64))) (hp : L <+: X) : RdN W (some ⟨g, 0, none⟩) L := fun j hj => by
  obtain ⟨t, rfl⟩ := hp
  refine ⟨g, 0, rfl, ?_⟩
  have := h.cells (g := g) rfl j (.int .i64 L[j]) (by rw [List.getElem?_map, List.getElem?_append_left hj, List.getElem?_eq_getElem hj]; rfl)
  rw [Addr.add_lit] at this
  simpa using this
theorem Mk.rd {B : Nat} {w : World} {g c : Nat} {L : List Int} (h : Mk B w g c L) : RdN w (some ⟨g, 0, none⟩) L := rdN_own h.rw (List.prefix_append _ _)
theorem Mk.on {B C : Nat} {w w' : World} {g c : Nat} {L : List Int} (h : Mk B w g c L) (d : Below C w w') (hg : g < C) : Mk B w' g c L := ⟨h.le, own_on h.rw d hg⟩
end Go.Proofs.YtchoopnjckcohaaGreatDoor
namespace Go.Proofs.YtchoopnjckcohaaGreatDoor
open Go.RowKit Go.Maps Go.Shelf
attribute [local go_sem] Oper.semAt_some

/-! ### The law's own automata -/
def mrkE (k : Nat) : List EdT := (List.range k).map fun (i : Nat) => (-1000 - (i : Int), 0, 0)
/-- Edges with their marks, in a row of their own. -/
structure MkE (B : Nat) (w : World) (g c : Nat) (L : List EdT) : Prop where
  le : L.length + 70 ≤ c
  rw : w.ownsRow B 61 3 (.slice (some ⟨g, 0, none⟩) (L.length + 70) c) (L.length + 70) ((L ++ mrkE 70).flatMap encE)
theorem MkE.on {B C : Nat} {w w' : World} {g c : Nat} {L : List EdT} (h : MkE B w g c L) (d : Below C w w') (hg : g < C) : MkE B w' g c L := ⟨h.le, own_on h.rw d hg⟩
theorem MkE.rd {B : Nat} {w : World} {g c : Nat} {L : List EdT} (h : MkE B w g c L) : RdE w (some ⟨g, 0, none⟩) L := fun j hj => by
  have hl : (L ++ mrkE 70).length = L.length + 70 := by simp [mrkE]
  have hr := h.rw
  rw [← hl] at hr
  have q := rdE_cells hr j (by rw [hl]; omega)
  have e : (L ++ mrkE 70)[j]'(by rw [hl]; omega) = L[j] := List.getElem_append_left hj
  rw [e] at q
  exact ⟨g, 0, rfl, by simpa using q⟩
/-- An automaton whose lists are its own, marks behind them. -/
structure TwN (B : Nat) (w : World) (g1 k1 g2 k2 g3 k3 : Nat) (St Fi : List Int) (Ed : List EdT) : Prop where
  s : Mk B w g1 k1 St
  f : Mk B w g2 k2 Fi
  e : MkE B w g3 k3 Ed
  n12 : g1 ≠ g2
  n13 : g1 ≠ g3
  n23 : g2 ≠ g3
theorem TwN.rd {B : Nat} {w : World} {g1 k1 g2 k2 g3 k3 : Nat} {St Fi : List Int} {Ed : List EdT} (h : TwN B w g1 k1 g2 k2 g3 k3 St Fi Ed) : RdA w (some ⟨g1, 0, none⟩) (some ⟨g2, 0, none⟩) (some ⟨g3, 0, none⟩) St Fi Ed := ⟨h.s.rd, h.f.rd, h.e.rd⟩
theorem Mk.lt {B : Nat} {w : World} {g c : Nat} {L : List Int} (h : Mk B w g c L) : B ≤ g ∧ g < w.heap.size := own_at h.rw
theorem MkE.lt {B : Nat} {w : World} {g c : Nat} {L : List EdT} (h : MkE B w g c L) : B ≤ g ∧ g < w.heap.size := own_at h.rw
theorem TwN.on {B : Nat} {w w' : World} {g1 k1 g2 k2 g3 k3 : Nat} {St Fi : List Int} {Ed : List EdT} (h : TwN B w g1 k1 g2 k2 g3 k3 St Fi Ed) (d : Below w.heap.size w w') : TwN B w' g1 k1 g2 k2 g3 k3 St Fi Ed := ⟨h.s.on d h.s.lt.2, h.f.on d h.f.lt.2, h.e.on d h.e.lt.2, h.n12, h.n13, h.n23⟩
theorem Mk.only {B q : Nat} {w w' : World} {g c : Nat} {L : List Int} (h : Mk B w g c L) (o : Only w w' (fun k => k = q)) (hq : g ≠ q) : Mk B w' g c L := ⟨h.le, own_only h.rw o hq⟩
theorem MkE.only {B q : Nat} {w w' : World} {g c : Nat} {L : List EdT} (h : MkE B w g c L) (o : Only w w' (fun k => k = q)) (hq : g ≠ q) : MkE B w' g c L := ⟨h.le, own_only h.rw o hq⟩
theorem Mk.down {B C : Nat} {w : World} {g c : Nat} {L : List Int} (h : Mk B w g c L) (hC : C ≤ B) : Mk C w g c L := ⟨h.le, owns_down h.rw hC⟩
theorem MkE.down {B C : Nat} {w : World} {g c : Nat} {L : List EdT} (h : MkE B w g c L) (hC : C ≤ B) : MkE C w g c L := ⟨h.le, owns_down h.rw hC⟩
end Go.Proofs.YtchoopnjckcohaaGreatDoor
namespace Go.Proofs.YtchoopnjckcohaaGreatDoor
open Go.RowKit Go.Maps Go.Shelf
attribute [local go_sem] Oper.semAt_some

/-! ### The law's and the document's questions about lists -/
set_option maxRecDepth 100000 in
set_option maxHeartbeats 1000000 in
theorem in60 (w : World) (ao : Option Addr) (L : List Int) (c : Nat) (x : Int) (hr : Hid (RdN w ao L)) (hl : L.length ≤ 4194304) :
    Calls Tryz.prog 80 #[.slice ao L.length c, .int .i64 x] w fun e w' => e = .returned (.bool (decide (x ∈ L))) ∧ w' = w := by
  go_enter Tryz.func80, Tryz.ntmps80
  go_wp2
  go_loopw [5] (fun iv wr => ∃ i : Nat, i ≤ L.length ∧ iv = .int .i64 i ∧ Hid (∀ t (h : t < L.length), t < i → L[t] ≠ x) ∧ wr = w) (fun iv _ => L.length - (intOf iv).toNat)
  case atStart => exact ⟨0, Nat.zero_le _, rfl, hide (fun t _ h => absurd h (Nat.not_lt_zero t)), rfl⟩
  case round =>
    obtain ⟨i, hi, rfl, HY, hw⟩ := hrel
    obtain rfl := hw.symm
    clear hw
    by_cases hlt : i < L.length
    · have l0 : (i : Int) < (L.length : Int) := by omega
      have l1 : (0 : Int) ≤ (i : Int) := by omega
      obtain ⟨g, o, rfl, q⟩ := hr.out i hlt
      by_cases he : L[i] = x
      · have hm : x ∈ L := he ▸ List.getElem_mem hlt
        rw [he] at q
        have hd : Hid (decide (x ∈ L) = true) := hide (by simpa using hm)
        clear he hm
        go_wp2
        refine bodyPost_ret (results_tmp rfl _ _ _) rfl ?_
        exact ⟨by rw [hd.out]; rfl, rfl⟩
      · have HN : Hid (∀ t (h : t < L.length), t < i + 1 → L[t] ≠ x) := hide (fun t ht h2 => by
          rcases Nat.lt_or_ge t i with h3 | h3
          · exact HY.out t ht h3
          · obtain rfl : t = i := by omega
            exact he)
        have hb : (L[i] == x) = false := by simpa using he
        generalize L[i] = y at q he hb
        go_wp2
        go_roundw
        case rel => exact ⟨i + 1, by omega, by go_num, HN, by simp⟩
        case measure => simp [intOf]; omega
    · have l0 : ¬ (i : Int) < (L.length : Int) := by omega
      have hd : Hid (decide (x ∈ L) = false) := hide (by
        rw [decide_eq_false_iff_not]
        intro hm
        obtain ⟨t, ht, e⟩ := List.getElem_of_mem hm
        exact HY.out t ht (by omega) e)
      go_wp2
      refine bodyPost_ret (results_tmp rfl _ _ _) rfl ?_
      exact ⟨by rw [hd.out]; rfl, rfl⟩
set_option maxRecDepth 100000 in
set_option maxHeartbeats 1000000 in
theorem meets18 (w : World) (ao bo : Option Addr) (A B : List Int) (c d : Nat) (hA : Hid (RdN w ao A)) (hB : Hid (RdN w bo B)) (hl : A.length ≤ 4194304) (hk : B.length ≤ 4194304) :
    Calls Tryz.prog 47 #[.slice ao A.length c, .slice bo B.length d] w fun e w' => e = .returned (.bool (A.any fun x => decide (x ∈ B))) ∧ w' = w := by
  go_enter Tryz.func47, Tryz.ntmps47
  go_wp2
  go_loopw [5] (fun iv wr => ∃ i : Nat, i ≤ A.length ∧ iv = .int .i64 i ∧ Hid (∀ t (h : t < A.length), t < i → A[t] ∉ B) ∧ wr = w) (fun iv _ => A.length - (intOf iv).toNat)
  case atStart => exact ⟨0, Nat.zero_le _, rfl, hide (fun t _ h => absurd h (Nat.not_lt_zero t)), rfl⟩
  case round =>
    obtain ⟨i, hi, rfl, HY, hw⟩ := hrel
    obtain rfl := hw.symm
    clear hw
    by_cases hlt : i < A.length
    · have l0 : (i : Int) < (A.length : Int) := by omega
      have l1 : (0 : Int) ≤ (i : Int) := by omega
      obtain ⟨g, o, rfl, q⟩ := hA.out i hlt
      have T := in60 w bo B d A[i] hB hk
      by_cases he : A[i] ∈ B
      · have hd : Hid ((A.any fun x => decide (x ∈ B)) = true) := hide (List.any_eq_true.2 ⟨A[i], List.getElem_mem hlt, by simpa using he⟩)
        rw [show decide (A[i] ∈ B) = true by simpa using he] at T
        generalize A[i] = y at q T
        clear he
        go_wp2_with (go_at_call 80; refine T.mono ?_; rintro e w2 ⟨rfl, hw2⟩; obtain rfl := hw2.symm)
        refine bodyPost_ret (results_tmp rfl _ _ _) rfl ?_
        exact ⟨by rw [hd.out]; rfl, rfl⟩
      · have HN : Hid (∀ t (h : t < A.length), t < i + 1 → A[t] ∉ B) := hide (fun t ht h2 => by
          rcases Nat.lt_or_ge t i with h3 | h3
          · exact HY.out t ht h3
          · obtain rfl : t = i := by omega
            exact he)
        rw [show decide (A[i] ∈ B) = false by simpa using he] at T
        generalize A[i] = y at q T
        clear he
        go_wp2_with (go_at_call 80; refine T.mono ?_; rintro e w2 ⟨rfl, hw2⟩; obtain rfl := hw2.symm)
        go_roundw
        case rel => exact ⟨i + 1, by omega, by go_num, HN, by simp⟩
        case measure => simp [intOf]; omega
    · have l0 : ¬ (i : Int) < (A.length : Int) := by omega
      have hd : Hid ((A.any fun x => decide (x ∈ B)) = false) := hide (by
        rw [List.any_eq_false]
        intro x hx
        obtain ⟨t, ht, e⟩ := List.getElem_of_mem hx
        have := HY.out t ht (by omega)
        rw [e] at this
        simpa using this)
      go_wp2
      refine bodyPost_ret (results_tmp rfl _ _ _) rfl ?_
      exact ⟨by rw [hd.out]; rfl, rfl⟩
set_option maxRecDepth 100000 in
set_option maxHeartbeats 1000000 in
theorem sameInts_any (w : World) (ao bo : Option Addr) (A B : List Int) (c d : Nat) (hA : Hid (RdN w ao A)) (hB : Hid (RdN w bo B)) (hl : A.length ≤ 4194304) (hk : B.length ≤ 4194304) :
    Calls Tryz.prog 28 #[.slice ao A.length c, .slice bo B.length d] w fun e w' => e = .returned (.bool (decide (A = B))) ∧ Below w.heap.size w w' := by
  go_enter Tryz.func28, Tryz.ntmps28
  by_cases hlen : A.length = B.length
  · have hl2 : ((A.length : Int) != (B.length : Int)) = false := by simp [hlen]
    go_wp2
    go_loopw [5] (fun iv wr => ∃ i : Nat, i ≤ A.length ∧ iv = .int .i64 i ∧ Hid (∀ t (h : t < A.length), t < i → A[t] = B[t]'(by omega)) ∧ Hid (Below w.heap.size w wr)) (fun iv _ => A.length - (intOf iv).toNat)
    case atStart => exact ⟨0, Nat.zero_le _, rfl, hide (fun t _ h => absurd h (Nat.not_lt_zero t)), hide (Below.refl _ _)⟩
    case round =>
      obtain ⟨i, hi, rfl, HY, HW⟩ := hrel
      by_cases hlt : i < A.length
      · have l0 : (i : Int) < (A.length : Int) := by omega
        have l1 : (0 : Int) ≤ (i : Int) := by omega
        have hltB : i < B.length := by omega
        have l2 : (i : Int) < (B.length : Int) := by omega
        obtain ⟨g, o, hao, q⟩ := (hA.out.on HW.out) i hlt
        obtain ⟨g', o', hbo, q'⟩ := (hB.out.on HW.out) i hltB
        subst hao hbo
        by_cases he : A[i] = B[i]
        · have HN : Hid (∀ t (h : t < A.length), t < i + 1 → A[t] = B[t]'(by omega)) := hide (fun t ht h2 => by
            rcases Nat.lt_or_ge t i with h3 | h3
            · exact HY.out t ht h3
            · obtain rfl : t = i := by omega
              exact he)
          rw [← he] at q'
          generalize A[i] = x at q q' he
          have hb : (x != x) = false := by simp
          clear he
          go_wp2
          refine wp_region_phase 8 #[true, true, true, true, true, true, true, true, false] (by kernel_rfl) (by kernel_rfl) ?_
          simp only [List.take_succ_cons, List.take_zero, List.drop_succ_cons, List.drop_zero]
          repeat (go_big_quiet_step (fail))
          refine wpQuiet_nil ?_
          intro wz hzz
          obtain ⟨nq, rfl⟩ := hzz
          go_wp2_with fail
          go_roundw
          case rel => exact ⟨i + 1, by omega, by go_num, HN, hide (below_drewN2 HW.out nq)⟩
          case measure => simp [intOf]; omega
        · have hd : Hid (decide (A = B) = false) := hide (by
            rw [decide_eq_false_iff_not]
            intro e
            subst e
            exact he rfl)
          have hb : (A[i] != B[i]) = true := by simpa using he
          generalize A[i] = x at q he hb
          generalize B[i] = y at q' he hb
          go_wp2
          refine wp_region_phase 8 #[true, true, true, true, true, true, true, true, false] (by kernel_rfl) (by kernel_rfl) ?_
          simp only [List.take_succ_cons, List.take_zero, List.drop_succ_cons, List.drop_zero]
          repeat (go_big_quiet_step (fail))
          refine wpQuiet_nil ?_
          intro wz hzz
          obtain ⟨nq, rfl⟩ := hzz
          go_wp2_with fail
          refine bodyPost_ret (results_tmp rfl _ _ _) rfl ?_
          exact ⟨by rw [hd.out]; rfl, below_drewN2 HW.out nq⟩
      · have l0 : ¬ (i : Int) < (A.length : Int) := by omega
        have hd : Hid (decide (A = B) = true) := hide (by
          rw [decide_eq_true_eq]
          exact List.ext_getElem hlen fun t h1 h2 => HY.out t h1 (by omega))
        go_wp2
        refine bodyPost_ret (results_tmp rfl _ _ _) rfl ?_
        exact ⟨by rw [hd.out]; rfl, HW.out⟩
  · have hl2 : ((A.length : Int) != (B.length : Int)) = true := by simp; omega
    have hd : Hid (decide (A = B) = false) := hide (by
      rw [decide_eq_false_iff_not]
      intro e
      exact hlen (by rw [e]))
    go_wp2
    refine bodyPost_ret (results_tmp rfl _ _ _) rfl ?_
    exact ⟨by rw [hd.out]; rfl, Below.refl _ _⟩
end Go.Proofs.YtchoopnjckcohaaGreatDoor
namespace Go.Proofs.YtchoopnjckcohaaGreatDoor
open Go.RowKit Go.Maps Go.Shelf
attribute [local go_sem] Oper.semAt_some

/-! ### Two automata that are alike -/
end Go.Proofs.YtchoopnjckcohaaGreatDoor
namespace Go.Proofs.YtchoopnjckcohaaGreatDoor
open Go.RowKit Go.Maps Go.Shelf
attribute [local go_sem] Oper.semAt_some

/-! ### The small automaton's answers -/
theorem rise_one (x : Int) : riseL [x] = [x] := by
  unfold riseL sortI
  rw [List.mergeSort_singleton]
  apply Lib.compact_all
  intro j hj
  obtain rfl : j = 0 := by simpa using hj
  simp [Lib.keeps]
end Go.Proofs.YtchoopnjckcohaaGreatDoor
namespace Go.Proofs.YtchoopnjckcohaaGreatDoor
open Go.RowKit Go.Maps Go.Shelf
attribute [local go_sem] Oper.semAt_some

theorem alloc_below (w : World) (o : Obj) : Below w.heap.size w (w.alloc o) := (Below.refl _ _).alloc (Nat.le_refl _) _
end Go.Proofs.YtchoopnjckcohaaGreatDoor
namespace Go.Proofs.YtchoopnjckcohaaGreatDoor
open Go.RowKit Go.Maps Go.Shelf

/-! ### Images and the other way round -/
end Go.Proofs.YtchoopnjckcohaaGreatDoor
namespace Go.Proofs.YtchoopnjckcohaaGreatDoor
open Go.RowKit Go.Maps Go.Shelf

/-! ### Paths -/
/-- A word leads from a state to another. -/
def Rch (Ed : List EdT) : List Int → Int → Int → Prop
  | [], p, q => p = q
  | y :: W, p, q => ∃ r, (p, y, r) ∈ Ed ∧ Rch Ed W r q
end Go.Proofs.YtchoopnjckcohaaGreatDoor
namespace Go.Proofs.YtchoopnjckcohaaGreatDoor
open Go.RowKit Go.Maps Go.Shelf

/-! ### Numbers in order, each once -/
theorem cpL_ss {zs : List Int} (hs : zs.Pairwise (· ≤ ·)) : (Lib.compact zs).Pairwise (· < ·) := by
  have key : ∀ m, m ≤ zs.length → (Lib.compactUpTo zs.toArray m).Pairwise (· < ·) ∧ (∀ x ∈ Lib.compactUpTo zs.toArray m, ∃ j, j < m ∧ ∃ h : j < zs.length, x = zs[j]) := by
    intro m
    induction m with
    | zero => intro _; exact ⟨by simp [Lib.compactUpTo], fun x hx => by simp [Lib.compactUpTo] at hx⟩
    | succ m ih =>
      intro hm
      obtain ⟨k1, k2⟩ := ih (by omega)
      rw [Lib.compactUpTo_succ]
      by_cases hk : Lib.keeps zs.toArray m = true
      · rw [if_pos hk]
        have hm' : m < zs.length := by omega
        have em : zs.toArray[m]! = zs[m] := by simp [hm']
        refine ⟨?_, fun x hx => ?_⟩
        · rw [List.pairwise_append]
          refine ⟨k1, by simp, fun x hx y hy => ?_⟩
          rw [List.mem_singleton.1 hy, em]
          obtain ⟨j, hj, hjl, rfl⟩ := k2 x hx
          unfold Lib.keeps at hk
          rw [decide_eq_true_eq] at hk
          have hm0 : m ≠ 0 := by omega
          have hk2 := hk.resolve_left hm0
          have e1 : zs.toArray[m - 1]! = zs[m - 1] := by simp [show m - 1 < zs.length by omega]
          rw [em, e1] at hk2
          have l1 : zs[m - 1] ≤ zs[m] := (List.pairwise_iff_getElem.1 hs) (m - 1) m (by omega) hm' (by omega)
          rcases Nat.lt_or_ge j (m - 1) with q | q
          · have l2 : zs[j] ≤ zs[m - 1] := (List.pairwise_iff_getElem.1 hs) j (m - 1) hjl (by omega) q
            omega
          · have : j = m - 1 := by omega
            subst this; omega
        · rcases List.mem_append.1 hx with hx | hx
          · obtain ⟨j, hj, q⟩ := k2 x hx
            exact ⟨j, by omega, q⟩
          · rw [List.mem_singleton.1 hx]; exact ⟨m, by omega, hm', em⟩
      · rw [if_neg hk, List.append_nil]
        exact ⟨k1, fun x hx => by obtain ⟨j, hj, q⟩ := k2 x hx; exact ⟨j, by omega, q⟩⟩
  exact (key zs.length (Nat.le_refl _)).1
theorem sortI_up (L : List Int) : (sortI L).Pairwise (· ≤ ·) := by
  have hp : (sortI L).Pairwise fun a b => decide (a ≤ b) = true := List.pairwise_mergeSort (le := fun x y : Int => decide (x ≤ y)) (fun a b c h1 h2 => by
    simp only [decide_eq_true_eq] at *
    omega) (fun a b => by
    simp only [Bool.or_eq_true, decide_eq_true_eq]
    omega) L
  exact hp.imp fun q => by simpa using q
theorem riseL_ss (L : List Int) : (riseL L).Pairwise (· < ·) := cpL_ss (sortI_up L)
theorem ssL_eq : ∀ (A B : List Int), A.Pairwise (· < ·) → B.Pairwise (· < ·) → (∀ x, x ∈ A ↔ x ∈ B) → A = B
  | [], [], _, _, _ => rfl
  | [], b :: B, _, _, h => absurd ((h b).2 (by simp)) (by simp)
  | a :: A, [], _, _, h => absurd ((h a).1 (by simp)) (by simp)
  | a :: A, b :: B, hA, hB, h => by
    rw [List.pairwise_cons] at hA hB
    have e : a = b := by
      rcases List.mem_cons.1 ((h a).1 (by simp)) with q | q
      · exact q
      · rcases List.mem_cons.1 ((h b).2 (by simp)) with r | r
        · exact r.symm
        · have := hB.1 a q; have := hA.1 b r; omega
    subst e
    congr 1
    refine ssL_eq A B hA.2 hB.2 fun x => ⟨fun q => ?_, fun q => ?_⟩
    · rcases List.mem_cons.1 ((h x).1 (by simp [q])) with r | r
      · subst r; have := hA.1 x q; omega
      · exact r
    · rcases List.mem_cons.1 ((h x).2 (by simp [q])) with r | r
      · subst r; have := hB.1 x q; omega
      · exact r
/-! ### Which words are taken -/
theorem may_of {n m : Int} {St Fi : List Int} {Ed : List EdT} (h1 : 0 ≤ n ∧ n ≤ 4096) (h2 : 0 ≤ m ∧ m ≤ 128) (h3 : Ed.length ≤ 65536) (h4 : ∀ x ∈ St, 0 ≤ x ∧ x < n) (h5 : ∀ x ∈ Fi, 0 ≤ x ∧ x < n) (h6 : ∀ e ∈ Ed, (0 ≤ e.1 ∧ e.1 < n) ∧ (0 ≤ e.2.1 ∧ e.2.1 < m) ∧ 0 ≤ e.2.2 ∧ e.2.2 < n) : mayA n m St Fi Ed = true := by
  unfold mayA
  simp only [Bool.and_eq_true, List.all_eq_true, decide_eq_true_eq]
  refine ⟨⟨⟨⟨⟨inB_iff.2 (by omega), inB_iff.2 (by omega)⟩, h3⟩, fun x hx => inB_iff.2 (h4 x hx)⟩, fun x hx => inB_iff.2 (h5 x hx)⟩, fun e he => ?_⟩
  obtain ⟨q1, q2, q3⟩ := h6 e he
  unfold edOk
  rw [inB_iff.2 q1, inB_iff.2 q2, inB_iff.2 q3]
  rfl
theorem may_st {n m : Int} {St Fi : List Int} {Ed : List EdT} (h : mayA n m St Fi Ed = true) : (∀ x ∈ St, 0 ≤ x ∧ x < n) ∧ (∀ x ∈ Fi, 0 ≤ x ∧ x < n) := by
  obtain ⟨_, _, _, h4, h5, _⟩ := may_parts h
  exact ⟨fun x hx => inB_iff.1 (List.all_eq_true.1 h4 x hx), fun x hx => inB_iff.1 (List.all_eq_true.1 h5 x hx)⟩
/-- A word leads from a start to an end. -/
def Tak (St Fi : List Int) (Ed : List EdT) (Wd : List Int) : Prop := ∃ p, p ∈ St ∧ ∃ q, q ∈ Fi ∧ Rch Ed Wd p q
open Classical in
theorem wordErr_iff {n m : Int} {St Fi : List Int} {Ed : List EdT} {Wd : List Int} : wordErr n m St Fi Ed Wd = 0 ↔ mayA n m St Fi Ed = true ∧ Wd.all (inB m) = true :=
  ⟨wordErr_zero, fun ⟨h1, h2⟩ => by unfold wordErr; rw [if_pos h1, if_pos h2]⟩
open Classical in
theorem rch_same {E E' : List EdT} (h : ∀ e, e ∈ E ↔ e ∈ E') : ∀ (W : List Int) (p q : Int), Rch E W p q ↔ Rch E' W p q
  | [], _, _ => Iff.rfl
  | y :: W, p, q => by
    constructor
    · rintro ⟨r, h1, h2⟩; exact ⟨r, (h _).1 h1, (rch_same h W r q).1 h2⟩
    · rintro ⟨r, h1, h2⟩; exact ⟨r, (h _).2 h1, (rch_same h W r q).2 h2⟩
theorem rch_app {E : List EdT} : ∀ (A B : List Int) (p q : Int), Rch E (A ++ B) p q ↔ ∃ r, Rch E A p r ∧ Rch E B r q
  | [], B, p, q => ⟨fun h => ⟨p, rfl, h⟩, fun ⟨r, h1, h2⟩ => by cases h1; exact h2⟩
  | y :: A, B, p, q => by
    constructor
    · rintro ⟨r, h1, h2⟩
      obtain ⟨s, h3, h4⟩ := (rch_app A B r q).1 h2
      exact ⟨s, ⟨r, h1, h3⟩, h4⟩
    · rintro ⟨s, ⟨r, h1, h3⟩, h4⟩
      exact ⟨r, h1, (rch_app A B r q).2 ⟨s, h3, h4⟩⟩
/-- In order, each once: the same words. -/
theorem may_rise {n m : Int} {St Fi : List Int} {Ed : List EdT} (h : mayA n m St Fi Ed = true) : mayA n m (riseL St) (riseL Fi) (riseE Ed) = true := by
  obtain ⟨h1, h2, h3, _, _, h6⟩ := may_parts h
  obtain ⟨h4, h5⟩ := may_st h
  exact may_of h1 h2 (Nat.le_trans (riseE_len Ed) h3) (fun x hx => h4 x ((riseL_iff St x).1 hx)) (fun x hx => h5 x ((riseL_iff Fi x).1 hx)) (fun e he => h6 e ((riseE_iff Ed e).1 he))
def shE (k : Int) (e : EdT) : EdT := (e.1 + k, e.2.1, e.2.2 + k)
end Go.Proofs.YtchoopnjckcohaaGreatDoor
namespace Go.Proofs.YtchoopnjckcohaaGreatDoor
open Go.RowKit Go.Maps Go.Shelf
attribute [local go_sem] Oper.semAt_some

/-! ### Reverse -/
/-! ### The law's takes and turned -/
theorem rd_own {W : World} {B n : Nat} {v : Value} {X : List Int} (h : W.ownsRow B 3 1 v n (X.map (Value.int .i64))) : ∃ ao c, v = .slice ao X.length c ∧ RdN W ao X := by
  have hn : n = X.length := by have := h.1; simpa using this.symm
  subst hn
  rcases h.2 with ⟨hv, h0⟩ | ⟨g, cap, cur, hv, _⟩
  · exact ⟨none, 0, by rw [hv, h0], fun j hj => by omega⟩
  · subst hv
    exact ⟨some ⟨g, 0, none⟩, cap, rfl, rdN_own h (List.prefix_refl X)⟩
end Go.Proofs.YtchoopnjckcohaaGreatDoor
namespace Go.Proofs.YtchoopnjckcohaaGreatDoor
open Go.RowKit Go.Maps Go.Shelf
attribute [local go_sem] Oper.semAt_some

/-! ### Lists written over where they lie -/
/-- The first i entries turned, the others as they were. -/
def mixG {α : Type} (f : α → α) (L : List α) (i : Nat) : List α := (L.take i).map f ++ L.drop i
theorem Only.cellK {w w' : World} {R : Nat → Prop} (h : Only w w' R) {b : Nat} {o : Obj} (hb : w.heap[b]? = some o) (hn : ¬ R b) : w'.heap[b]? = some o := (h.block b (Array.getElem?_eq_some_iff.1 hb).1 hn).trans hb

/-- What beside holds while it writes over the second automaton's lists. -/
structure BeI (W0 : World) (B : Nat) (na : Int) (h1 c1 h2 c2 h3 c3 : Nat) (S F : List Int) (E : List EdT) (i j l : Nat) (W : World) : Prop where
  o : Only W0 W (fun k => k = h1 ∨ k = h2 ∨ k = h3)
  s : W.ownsRow B 3 1 (.slice (some ⟨h1, 0, none⟩) S.length c1) S.length ((mixG (· + na) S i).map (Value.int .i64))
  f : W.ownsRow B 3 1 (.slice (some ⟨h2, 0, none⟩) F.length c2) F.length ((mixG (· + na) F j).map (Value.int .i64))
  e : W.ownsRow B 61 3 (.slice (some ⟨h3, 0, none⟩) E.length c3) E.length ((mixG (shE na) E l).flatMap encE)
  n12 : h1 ≠ h2
  n13 : h1 ≠ h3
  n23 : h2 ≠ h3
section
variable {W0 W : World} {B : Nat} {na : Int} {h1 c1 h2 c2 h3 c3 : Nat} {S F : List Int} {E : List EdT} {i j l : Nat}
theorem BeI.alloc (h : BeI W0 B na h1 c1 h2 c2 h3 c3 S F E i j l W) (o : Obj) : BeI W0 B na h1 c1 h2 c2 h3 c3 S F E i j l (W.alloc o) :=
  ⟨h.o.trans (Only.ofBelow ((Below.refl _ _).alloc (Nat.le_refl _) _)), h.s.alloc o, h.f.alloc o, h.e.alloc o, h.n12, h.n13, h.n23⟩
end
theorem grown_blk {W W' : World} {b q : Nat} {o : Obj} (h : W.heap[b]? = some o) (hg : W.grownBy W' (some q)) (hne : b ≠ q) : W'.heap[b]? = some o :=
  (hg.block b (Array.getElem?_eq_some_iff.1 h).1 (by simp; exact hne)).trans h
/-- What beside holds behind its loops. -/
structure BeF (w : World) (B : Nat) (W : World) (v0 v1 v2 v3 v4 : Value) (bb : Array Value) : Prop where
  a : W.heap[w.heap.size]? = some (.cells #[v0, v1, v2, v3, v4] 25 (0, 0))
  b : W.heap[w.heap.size + 1]? = some (.cells bb 25 (0, 0))
  z : W.heap[w.heap.size + 1 + 1]? = some (.cells #[.int .i64 0, .int .i64 0, .slice none 0 0, .slice none 0 0, .slice none 0 0] 25 (0, 0))
  d : Below B w W
  le : w.heap.size + 3 ≤ W.heap.size
section
variable {w W W' : World} {B : Nat} {v0 v1 v2 v3 v4 : Value} {bb : Array Value}
theorem BeF.only (h : BeF w B W v0 v1 v2 v3 v4 bb) (i : Nat) (u : Value) (hB : B ≤ w.heap.size) : (W.setCell ⟨w.heap.size, i, none⟩ u).heap[w.heap.size + 1]? = some (.cells bb 25 (0, 0)) ∧ (W.setCell ⟨w.heap.size, i, none⟩ u).heap[w.heap.size + 1 + 1]? = some (.cells #[.int .i64 0, .int .i64 0, .slice none 0 0, .slice none 0 0, .slice none 0 0] 25 (0, 0)) ∧ Below B w (W.setCell ⟨w.heap.size, i, none⟩ u) ∧ w.heap.size + 3 ≤ (W.setCell ⟨w.heap.size, i, none⟩ u).heap.size := by
  have o := only_set W w.heap.size i u
  exact ⟨o.cellK h.b (by omega), o.cellK h.z (by omega), h.d.trans (o.toBelow (Nat.le_trans hB h.d.size) (fun k hk => by omega)), Nat.le_trans h.le o.size⟩
theorem BeF.set3 (h : BeF w B W v0 v1 v2 v3 v4 bb) (u : Value) (hB : B ≤ w.heap.size) : BeF w B (W.setCell ⟨w.heap.size, 3, none⟩ u) v0 v1 v2 u v4 bb := by
  have q := h.only 3 u hB
  exact ⟨heap_setCell_same _ _ 3 _ 25 _ h.a, q.1, q.2.1, q.2.2.1, q.2.2.2⟩
theorem BeF.grown (h : BeF w B W v0 v1 v2 v3 v4 bb) {q : Nat} (hg : W.grownBy W' (some q)) (hq : B ≤ q ∧ q < w.heap.size) : BeF w B W' v0 v1 v2 v3 v4 bb :=
  ⟨grown_blk h.a hg (by omega), grown_blk h.b hg (by omega), grown_blk h.z hg (by omega), h.d.grown hg (Nat.le_trans (Nat.le_trans hq.1 (Nat.le_of_lt hq.2)) h.d.size) (fun k hk => by cases hk; exact hq.1), Nat.le_trans h.le hg.size⟩
end
end Go.Proofs.YtchoopnjckcohaaGreatDoor
namespace Go.Proofs.YtchoopnjckcohaaGreatDoor
open Go.RowKit Go.Maps Go.Shelf
attribute [local go_sem] Oper.semAt_some

/-! ### An automaton over other symbols -/
end Go.Proofs.YtchoopnjckcohaaGreatDoor
namespace Go.Proofs.YtchoopnjckcohaaGreatDoor
open Go.RowKit Go.Maps Go.Shelf

/-! ### Two automata in order, two boxes for them -/
structure Pre (W0 F : World) (p q : Nat) (g1 k1 g2 k2 g3 k3 h1 c1 h2 c2 h3 c3 : Nat) (S T : List Int) (E : List EdT) (S' T' : List Int) (E' : List EdT) : Prop where
  zp : F.heap[p]? = some (.cells #[.int .i64 0, .int .i64 0, .slice none 0 0, .slice none 0 0, .slice none 0 0] 25 (0, 0))
  zq : F.heap[q]? = some (.cells #[.int .i64 0, .int .i64 0, .slice none 0 0, .slice none 0 0, .slice none 0 0] 25 (0, 0))
  ne : p ≠ q
  o1 : Own W0.heap.size F g1 k1 g2 k2 g3 k3 S T E
  o2 : Own W0.heap.size F h1 c1 h2 c2 h3 c3 S' T' E'
  lt : ∃ C, g1 < C ∧ g2 < C ∧ g3 < C ∧ C ≤ h1 ∧ C ≤ h2 ∧ C ≤ h3
  np : (g1 ≠ p ∧ g2 ≠ p ∧ g3 ≠ p) ∧ h1 ≠ p ∧ h2 ≠ p ∧ h3 ≠ p
  nq : (g1 ≠ q ∧ g2 ≠ q ∧ g3 ≠ q) ∧ h1 ≠ q ∧ h2 ≠ q ∧ h3 ≠ q
  d : Below W0.heap.size W0 F
  lp : W0.heap.size ≤ p ∧ W0.heap.size ≤ q
theorem Own.on {B C : Nat} {w w' : World} {g1 k1 g2 k2 g3 k3 : Nat} {S F : List Int} {E : List EdT} (h : Own C w g1 k1 g2 k2 g3 k3 S F E) (hB : B ≤ C) (d : Below w.heap.size w w') : Own B w' g1 k1 g2 k2 g3 k3 S F E :=
  ⟨owns_down (own_on h.s d (own_at h.s).2) hB, owns_down (own_on h.f d (own_at h.f).2) hB, owns_down (own_on h.e d (own_at h.e).2) hB, h.n12, h.n13, h.n23⟩
theorem Own.only {B q : Nat} {w w' : World} {g1 k1 g2 k2 g3 k3 : Nat} {S F : List Int} {E : List EdT} (h : Own B w g1 k1 g2 k2 g3 k3 S F E) (o : Only w w' (fun k => k = q)) (hq : g1 ≠ q ∧ g2 ≠ q ∧ g3 ≠ q) : Own B w' g1 k1 g2 k2 g3 k3 S F E :=
  ⟨own_only h.s o hq.1, own_only h.f o hq.2.1, own_only h.e o hq.2.2, h.n12, h.n13, h.n23⟩
theorem Own.rd {B : Nat} {w : World} {g1 k1 g2 k2 g3 k3 : Nat} {S F : List Int} {E : List EdT} (h : Own B w g1 k1 g2 k2 g3 k3 S F E) : RdA w (some ⟨g1, 0, none⟩) (some ⟨g2, 0, none⟩) (some ⟨g3, 0, none⟩) S F E := ⟨rdN_own h.s (List.prefix_refl _), rdN_own h.f (List.prefix_refl _), rdE_own h.e⟩
section
variable {W0 W Wc wa Wd wb F : World} {p q g1 k1 g2 k2 g3 k3 h1 c1 h2 c2 h3 c3 : Nat} {S T : List Int} {E : List EdT} {S' T' : List Int} {E' : List EdT}
/-- Both lie in their boxes. -/
structure Lai (W0 W : World) (p q : Nat) (n m n' m' : Int) (g1 k1 g2 k2 g3 k3 h1 c1 h2 c2 h3 c3 : Nat) (S T : List Int) (E : List EdT) (S' T' : List Int) (E' : List EdT) : Prop where
  bp : W.heap[p]? = some (.cells #[.int .i64 n, .int .i64 m, .slice (some ⟨g1, 0, none⟩) S.length k1, .slice (some ⟨g2, 0, none⟩) T.length k2, .slice (some ⟨g3, 0, none⟩) E.length k3] 25 (0, 0))
  bq : W.heap[q]? = some (.cells #[.int .i64 n', .int .i64 m', .slice (some ⟨h1, 0, none⟩) S'.length c1, .slice (some ⟨h2, 0, none⟩) T'.length c2, .slice (some ⟨h3, 0, none⟩) E'.length c3] 25 (0, 0))
  o1 : Own W0.heap.size W g1 k1 g2 k2 g3 k3 S T E
  o2 : Own W0.heap.size W h1 c1 h2 c2 h3 c3 S' T' E'
  lt : ∃ C, g1 < C ∧ g2 < C ∧ g3 < C ∧ C ≤ h1 ∧ C ≤ h2 ∧ C ≤ h3
  d : Below W0.heap.size W0 W
  lp : W0.heap.size ≤ p ∧ W0.heap.size ≤ q
end
end Go.Proofs.YtchoopnjckcohaaGreatDoor
namespace Go.Proofs.YtchoopnjckcohaaGreatDoor
open Go.RowKit

/-! ### A region whose first operations make things, in whatever order, and whose others wait for all of them -/
section
variable {P : Program} {ops : Array Oper} {Q : Exit → Act → World → Prop}
end
end Go.Proofs.YtchoopnjckcohaaGreatDoor
namespace Go.Proofs.YtchoopnjckcohaaGreatDoor
open Go.RowKit

/-! ### A region whose operations come in whatever order, each with a fact of its own; a fact may be given up -/
section
variable {P : Program} {ops : Array Oper} {Q : Exit → Act → World → Prop}
end
end Go.Proofs.YtchoopnjckcohaaGreatDoor
