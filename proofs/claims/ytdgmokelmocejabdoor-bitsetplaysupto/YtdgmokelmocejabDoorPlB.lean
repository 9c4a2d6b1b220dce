import Derived.Test.YtdgmokelmocejabDoorPl5
namespace Go.Proofs.YtdgmokelmocejabDoor
open Go.RowKit

/-- One place of the bench: a set of the program's, the document's. -/
structure Sl where
  b : Nat
  g : Nat
  c : Nat
  n : Nat
  X : Nat
  y : Nat
  ao : Option Addr
  cr : Nat
def Sl.ptr (s : Sl) : Value := .pointer (some ⟨s.b, 0, none⟩)
def Sl.num (s : Sl) : Value := .int .i64 s.n
def Sl.sli (s : Sl) : Value := .slice s.ao (elems s.n s.y).length s.cr
def brow (p : Nat → Sl) : Array Value := #[(p 0).ptr, (p 1).ptr, (p 2).ptr, (p 3).ptr, (p 0).num, (p 0).sli, (p 1).num, (p 1).sli, (p 2).num, (p 2).sli, (p 3).num, (p 3).sli]
def upd (p : Nat → Sl) (a : Nat) (s : Sl) : Nat → Sl := fun k => if k = a then s else p k
theorem upd_same (p : Nat → Sl) (a : Nat) (s : Sl) : upd p a s a = s := by simp [upd]
theorem upd_ne (p : Nat → Sl) {a k : Nat} (s : Sl) (h : k ≠ a) : upd p a s k = p k := by simp [upd, h]
/-- The bench in block B. -/
structure Bn (w0 : World) (B : Nat) (p : Nat → Sl) (w : World) : Prop where
  blk : w.heap[B]? = some (.cells (brow p) 45 (0, 0))
  set : ∀ k, k < 4 → IsSet w (p k).b (p k).g (p k).c (p k).n (p k).X
  row : ∀ k, k < 4 → Row3 w (p k).ao (elems (p k).n (p k).y)
  ap : ∀ j k, j < 4 → k < 4 → j ≠ k → (p j).b ≠ (p k).b ∧ (p j).g ≠ (p k).g
  lo : w0.heap.size ≤ B ∧ ∀ k, k < 4 → w0.heap.size ≤ (p k).g
  below : Below w0.heap.size w0 w
def Ok4 (p : Nat → Sl) : Prop := ∀ k, k < 4 → (p k).y = (p k).X
section
variable {w0 w w' : World} {B : Nat} {p : Nat → Sl}
theorem lt4 {P : Nat → Prop} (h0 : P 0) (h1 : P 1) (h2 : P 2) (h3 : P 3) (a : Nat) (h : a < 4) : P a := by
  obtain rfl | rfl | rfl | rfl : a = 0 ∨ a = 1 ∨ a = 2 ∨ a = 3 := by omega
  · exact h0
  · exact h1
  · exact h2
  · exact h3
theorem Bn.ptr (h : Bn w0 B p w) {a : Nat} (ha : a < 4) : w.cell? ⟨B, a, none⟩ = some (p a).ptr := by
  rw [cell_of_row w B a _ 45 (0, 0) h.blk]
  exact lt4 (P := fun a => (brow p)[a]? = some (p a).ptr) rfl rfl rfl rfl a ha
theorem Bn.num (h : Bn w0 B p w) {a : Nat} (ha : a < 4) : w.cell? ⟨B, 4 + a * 2, none⟩ = some (p a).num := by
  rw [cell_of_row w B _ _ 45 (0, 0) h.blk]
  exact lt4 (P := fun a => (brow p)[4 + a * 2]? = some (p a).num) rfl rfl rfl rfl a ha
theorem Bn.sli (h : Bn w0 B p w) {a : Nat} (ha : a < 4) : w.cell? ⟨B, 4 + a * 2 + 1, none⟩ = some (p a).sli := by
  rw [cell_of_row w B _ _ 45 (0, 0) h.blk]
  exact lt4 (P := fun a => (brow p)[4 + a * 2 + 1]? = some (p a).sli) rfl rfl rfl rfl a ha
theorem Bn.fz (h : Bn w0 B p w) (j : Nat) : w.frozen? ⟨B, j, none⟩ = false := frozen_of_row w B j _ 45 h.blk
theorem Bn.blt (h : Bn w0 B p w) : B < w.heap.size := cell_lt h.blk
theorem Bn.on (h : Bn w0 B p w) (d : Below w.heap.size w w') : Bn w0 B p w' :=
  ⟨by rw [d.block B h.blt]; exact h.blk, fun k hk => (h.set k hk).below d, fun k hk => (h.row k hk).below d, h.ap, h.lo, h.below.trans (d.mono h.below.size)⟩
theorem set_row {b g c n X : Nat} (h : IsSet w b g c n X) : ∃ cs, w.heap[g]? = some (.cells cs 65 (0, 0)) := by
  rcases h.own.2 with ⟨e, _⟩ | ⟨g', cap, cur, e, _, hg, _⟩
  · cases e
  · simp at e
    obtain ⟨rfl, _⟩ := e
    exact ⟨_, hg⟩
theorem set_bg {b g c n X : Nat} (h : IsSet w b g c n X) : b ≠ g := by
  obtain ⟨cs, hg⟩ := set_row h
  intro e
  have := h.blk
  rw [e, hg] at this
  simp at this
theorem set_ne {b g c n X Q t : Nat} {cs : Array Value} (h : IsSet w b g c n X) (hQ : w.heap[Q]? = some (.cells cs t (0, 0))) (h1 : t ≠ 62) (h2 : t ≠ 65) : b ≠ Q ∧ g ≠ Q := by
  obtain ⟨cs', hg⟩ := set_row h
  refine ⟨fun e => ?_, fun e => ?_⟩
  · have := h.blk
    rw [e, hQ] at this
    simp at this
    exact h1 this.2
  · rw [e, hQ] at hg
    simp at hg
    exact h2 hg.2
theorem sets_bg {b g c n X b2 g2 c2 n2 Y : Nat} (h : IsSet w b g c n X) (k : IsSet w b2 g2 c2 n2 Y) : b2 ≠ g := by
  obtain ⟨cs, hg⟩ := set_row h
  intro e
  have := k.blk
  rw [e, hg] at this
  simp at this
/-- A set is changed in its place. -/
theorem Bn.change (h : Bn w0 B p w) {a X' : Nat} (ha : a < 4) (hs : IsSet w' (p a).b (p a).g (p a).c (p a).n X') (d : w.grownBy w' (some (p a).g)) : Bn w0 B (upd p a { p a with X := X' }) w' := by
  obtain ⟨cs, hg⟩ := set_row (h.set a ha)
  have hu : ∀ k, (upd p a { p a with X := X' } k).b = (p k).b ∧ (upd p a { p a with X := X' } k).g = (p k).g ∧ (upd p a { p a with X := X' } k).c = (p k).c ∧ (upd p a { p a with X := X' } k).n = (p k).n ∧ (upd p a { p a with X := X' } k).y = (p k).y ∧ (upd p a { p a with X := X' } k).ao = (p k).ao ∧ (upd p a { p a with X := X' } k).ptr = (p k).ptr ∧ (upd p a { p a with X := X' } k).num = (p k).num ∧ (upd p a { p a with X := X' } k).sli = (p k).sli := by
    intro k
    by_cases hk : k = a
    · subst hk; rw [upd_same]; exact ⟨rfl, rfl, rfl, rfl, rfl, rfl, rfl, rfl, rfl⟩
    · rw [upd_ne _ _ hk]; exact ⟨rfl, rfl, rfl, rfl, rfl, rfl, rfl, rfl, rfl⟩
  have hB : B ≠ (p a).g := fun e => (set_ne (h.set a ha) h.blk (by decide) (by decide)).2 e.symm
  refine ⟨?_, fun k hk => ?_, fun k hk => ?_, fun j k hj hk hn => ?_, ⟨h.lo.1, fun k hk => ?_⟩, h.below.grown d h.below.size (fun k hk => by obtain rfl := Option.some.inj hk; exact h.lo.2 a ha)⟩
  · have e : brow (upd p a { p a with X := X' }) = brow p := by
      unfold brow
      rw [(hu 0).2.2.2.2.2.2.1, (hu 1).2.2.2.2.2.2.1, (hu 2).2.2.2.2.2.2.1, (hu 3).2.2.2.2.2.2.1, (hu 0).2.2.2.2.2.2.2.1, (hu 1).2.2.2.2.2.2.2.1, (hu 2).2.2.2.2.2.2.2.1, (hu 3).2.2.2.2.2.2.2.1, (hu 0).2.2.2.2.2.2.2.2, (hu 1).2.2.2.2.2.2.2.2, (hu 2).2.2.2.2.2.2.2.2, (hu 3).2.2.2.2.2.2.2.2]
    rw [e, d.block B h.blt (fun e => hB (Option.some.inj e))]
    exact h.blk
  · by_cases hk2 : k = a
    · subst hk2; rw [upd_same]; exact hs
    · rw [upd_ne _ _ hk2]
      exact (h.set k hk).other d (sets_bg (h.set a ha) (h.set k hk)) (h.ap k a hk ha hk2).2
  · rw [(hu k).2.2.2.1, (hu k).2.2.2.2.1, (hu k).2.2.2.2.2.1]
    exact (h.row k hk).grown d hg (by decide)
  · rw [(hu j).1, (hu k).1, (hu j).2.1, (hu k).2.1]
    exact h.ap j k hj hk hn
  · rw [(hu k).2.1]
    exact h.lo.2 k hk
/-- The document's set of a place is put there. -/
theorem Bn.putR (h : Bn w0 B p w) {a n y : Nat} {ao : Option Addr} {cr : Nat} (ha : a < 4) (hn : (p a).n = n) (hr : Row3 w ao (elems n y)) :
    Bn w0 B (upd p a { p a with y := y, ao := ao, cr := cr }) ((w.setCell ⟨B, 4 + a * 2, none⟩ (.int .i64 n)).setCell ⟨B, 4 + a * 2 + 1, none⟩ (.slice ao (elems n y).length cr)) := by
  subst hn
  have h1 := heap_setCell_same w B (4 + a * 2) _ 45 (.int .i64 (p a).n) h.blk
  have h2 := heap_setCell_same _ B (4 + a * 2 + 1) _ 45 (.slice ao (elems (p a).n y).length cr) h1
  have d : w.grownBy ((w.setCell ⟨B, 4 + a * 2, none⟩ (.int .i64 (p a).n)).setCell ⟨B, 4 + a * 2 + 1, none⟩ (.slice ao (elems (p a).n y).length cr)) (some B) := g_set (g_set (g_refl _ _) _ _) _ _
  have hu : ∀ k, (upd p a { p a with y := y, ao := ao, cr := cr } k).b = (p k).b ∧ (upd p a { p a with y := y, ao := ao, cr := cr } k).g = (p k).g ∧ (upd p a { p a with y := y, ao := ao, cr := cr } k).c = (p k).c ∧ (upd p a { p a with y := y, ao := ao, cr := cr } k).n = (p k).n ∧ (upd p a { p a with y := y, ao := ao, cr := cr } k).X = (p k).X := by
    intro k
    by_cases hk : k = a
    · subst hk; rw [upd_same]; exact ⟨rfl, rfl, rfl, rfl, rfl⟩
    · rw [upd_ne _ _ hk]; exact ⟨rfl, rfl, rfl, rfl, rfl⟩
  refine ⟨?_, fun k hk => ?_, fun k hk => ?_, fun j k hj hk hn => ?_, ⟨h.lo.1, fun k hk => ?_⟩, (h.below.setCell h.lo.1 _).setCell h.lo.1 _⟩
  · rw [h2]
    refine congrArg (fun x => some (Obj.cells x 45 (0, 0))) ?_
    revert a
    intro a ha
    obtain rfl | rfl | rfl | rfl : a = 0 ∨ a = 1 ∨ a = 2 ∨ a = 3 := by omega
    all_goals (intros; simp [brow, upd, Sl.ptr, Sl.num, Sl.sli])
  · rw [(hu k).1, (hu k).2.1, (hu k).2.2.1, (hu k).2.2.2.1, (hu k).2.2.2.2]
    have := set_ne (h.set k hk) h.blk (by decide) (by decide)
    exact (h.set k hk).other d this.1 this.2
  · by_cases hk2 : k = a
    · subst hk2; rw [upd_same]; exact hr.grown d h.blk (by decide)
    · rw [upd_ne _ _ hk2]; exact (h.row k hk).grown d h.blk (by decide)
  · rw [(hu j).1, (hu k).1, (hu j).2.1, (hu k).2.1]
    exact h.ap j k hj hk hn
  · rw [(hu k).2.1]
    exact h.lo.2 k hk
/-- A new set comes into a place. -/
theorem Bn.putS (h : Bn w0 B p w) {a : Nat} {s : Sl} {N : Nat} (ha : a < 4) (hs : IsSet w s.b s.g s.c s.n s.X) (hr : Row3 w s.ao (elems s.n s.y)) (hN : w0.heap.size ≤ N) (hlt : ∀ k, k < 4 → (p k).b < N ∧ (p k).g < N) (hb : N ≤ s.b) (hg : N ≤ s.g) :
    Bn w0 B (upd p a s) (((w.setCell ⟨B, a, none⟩ s.ptr).setCell ⟨B, 4 + a * 2, none⟩ (.int .i64 s.n)).setCell ⟨B, 4 + a * 2 + 1, none⟩ (.slice s.ao (elems s.n s.y).length s.cr)) := by
  have h0 := heap_setCell_same w B a _ 45 s.ptr h.blk
  have h1 := heap_setCell_same _ B (4 + a * 2) _ 45 (.int .i64 s.n) h0
  have h2 := heap_setCell_same _ B (4 + a * 2 + 1) _ 45 (.slice s.ao (elems s.n s.y).length s.cr) h1
  have d : w.grownBy (((w.setCell ⟨B, a, none⟩ s.ptr).setCell ⟨B, 4 + a * 2, none⟩ (.int .i64 s.n)).setCell ⟨B, 4 + a * 2 + 1, none⟩ (.slice s.ao (elems s.n s.y).length s.cr)) (some B) := g_set (g_set (g_set (g_refl _ _) _ _) _ _) _ _
  have hB := h.lo.1
  refine ⟨?_, fun k hk => ?_, fun k hk => ?_, fun j k hj hk hn => ?_, ⟨hB, fun k hk => ?_⟩, ((h.below.setCell hB _).setCell hB _).setCell hB _⟩
  · rw [h2]
    refine congrArg (fun x => some (Obj.cells x 45 (0, 0))) ?_
    obtain rfl | rfl | rfl | rfl : a = 0 ∨ a = 1 ∨ a = 2 ∨ a = 3 := by omega
    all_goals simp [brow, upd, Sl.ptr, Sl.num, Sl.sli]
  · by_cases hk2 : k = a
    · subst hk2
      rw [upd_same]
      have := set_ne hs h.blk (by decide) (by decide)
      exact hs.other d this.1 this.2
    · rw [upd_ne _ _ hk2]
      have := set_ne (h.set k hk) h.blk (by decide) (by decide)
      exact (h.set k hk).other d this.1 this.2
  · by_cases hk2 : k = a
    · subst hk2; rw [upd_same]; exact hr.grown d h.blk (by decide)
    · rw [upd_ne _ _ hk2]; exact (h.row k hk).grown d h.blk (by decide)
  · have hj2 := hlt j hj
    have hk2 := hlt k hk
    by_cases e1 : j = a
    · subst e1
      rw [upd_same, upd_ne _ _ (fun e => hn e.symm)]
      omega
    · rw [upd_ne _ _ e1]
      by_cases e2 : k = a
      · subst e2
        rw [upd_same]
        omega
      · rw [upd_ne _ _ e2]
        exact h.ap j k hj hk hn
  · by_cases e2 : k = a
    · subst e2
      rw [upd_same]
      omega
    · rw [upd_ne _ _ e2]
      exact h.lo.2 k hk
theorem Bn.lts (h : Bn w0 B p w) : ∀ k, k < 4 → (p k).b < w.heap.size ∧ (p k).g < w.heap.size := fun k hk => ⟨(h.set k hk).blt, (h.set k hk).glt⟩
end
end Go.Proofs.YtdgmokelmocejabDoor
namespace Go.Proofs.YtdgmokelmocejabDoor
open Go.RowKit

def plcI (i : Int) : Int := if i.tmod 4 < 0 then i.tmod 4 + 4 else i.tmod 4
def plc (i : Int) : Nat := (plcI i).toNat
theorem plc_range (i : Int) : -4 < i.tmod 4 ∧ i.tmod 4 < 4 := ⟨Int.lt_tmod_of_pos i (by decide), Int.tmod_lt_of_pos i (by decide)⟩
theorem plc_cast (i : Int) : ((plc i : Nat) : Int) = plcI i := by
  have := plc_range i
  unfold plc plcI
  split <;> omega
theorem plc_lt (i : Int) : plc i < 4 := by
  have h := plc_cast i
  have := plc_range i
  have h2 : plcI i < 4 := by unfold plcI; split <;> omega
  omega
theorem place_any (i : Int) (w : World) : Calls Tryd.prog 43 #[.int .i64 i] w fun e w' => e = .returned (.int .i64 (plc i)) ∧ w' = w := by
  have hr := plc_range i
  have hc := plc_cast i
  by_cases h : i.tmod 4 < 0
  · have hp : plcI i = i.tmod 4 + 4 := by unfold plcI; rw [if_pos h]
    rw [hc, hp]
    have HH := hide (And.intro hr (And.intro h hc))
    go_enter Tryd.func43, Tryd.ntmps43
    go_wp2
    go_ret
    exact ⟨rfl, rfl⟩
  · have hp : plcI i = i.tmod 4 := by unfold plcI; rw [if_neg h]
    rw [hc, hp]
    go_enter Tryd.func43, Tryd.ntmps43
    go_wp2
    go_ret
    exact ⟨rfl, rfl⟩
theorem cell_set_off {w : World} {B i j : Nat} {v : Value} (h : i ≠ j) : (w.setCell ⟨B, i, none⟩ v).cell? ⟨B, j, none⟩ = w.cell? ⟨B, j, none⟩ := by
  apply World.cell?_setCell_other
  intro e
  simp at e
set_option maxHeartbeats 1000000 in
theorem lay_no (B a : Nat) (c : Int) (v u : Value) (w : World) (hc : c ≠ 0) :
    Calls Tryd.prog 20 #[.pointer (some ⟨B, 0, none⟩), .int .i64 a, .pointer none, .int .i64 c, .agg #[v, u], .int .i64 c] w fun e w' => e = .returned (.bool true) ∧ Below w.heap.size w w' := by
  have h1 : (c != c) = false := by simp
  have h2 : (c != 0) = true := by rw [bne_iff_ne]; exact hc
  have h3 : (c == 0) = false := by rw [beq_eq_false_iff_ne]; exact hc
  clear hc
  go_enter Tryd.func20, Tryd.ntmps20
  go_wp2
  go_ret
  exact ⟨rfl, bw1⟩
set_option maxHeartbeats 1000000 in
theorem lay_yes (w0 : World) (B a N : Nat) (p : Nat → Sl) (s : Sl) (w : World) (h : Bn w0 B p w) (ha : a < 4) (hs : IsSet w s.b s.g s.c s.n s.X) (hr : Row3 w s.ao (elems s.n s.y)) (hN : w0.heap.size ≤ N) (hlt : ∀ k, k < 4 → (p k).b < N ∧ (p k).g < N) (hb : N ≤ s.b) (hg : N ≤ s.g) :
    Calls Tryd.prog 20 #[.pointer (some ⟨B, 0, none⟩), .int .i64 a, s.ptr, .int .i64 0, .agg #[.int .i64 s.n, .slice s.ao (elems s.n s.y).length s.cr], .int .i64 0] w fun e w' => e = .returned (.bool true) ∧ Bn w0 B (upd p a s) w' := by
  have P1 := h.ptr ha
  have N1 := h.num ha
  have Q1 := h.sli ha
  have f0 := h.fz a
  have f1 := h.fz (4 + a * 2)
  have f2 := h.fz (4 + a * 2 + 1)
  have hlB := h.blt
  have i0 : (0 : Int) ≤ (a : Int) := by omega
  have i1 : (a : Int) < 4 := by omega
  have HN := hide ((h.putS ha hs hr hN hlt hb hg))
  have h0 := heap_setCell_same w B a _ 45 s.ptr h.blk
  have hz : (w.setCell ⟨B, a, none⟩ s.ptr).heap.size = w.heap.size := by simp [World.setCell]
  have hl1 : B < (w.setCell ⟨B, a, none⟩ s.ptr).heap.size := by omega
  have N2 : (w.setCell ⟨B, a, none⟩ s.ptr).cell? ⟨B, 4 + a * 2, none⟩ = some (p a).num := by rw [cell_set_off (by omega)]; exact N1
  have Q2 : (w.setCell ⟨B, a, none⟩ s.ptr).cell? ⟨B, 4 + a * 2 + 1, none⟩ = some (p a).sli := by rw [cell_set_off (by omega)]; exact Q1
  have f3 : (w.setCell ⟨B, a, none⟩ s.ptr).frozen? ⟨B, 4 + a * 2, none⟩ = false := frozen_of_row _ B _ _ 45 h0
  have f4 : (w.setCell ⟨B, a, none⟩ s.ptr).frozen? ⟨B, 4 + a * 2 + 1, none⟩ = false := frozen_of_row _ B _ _ 45 h0
  unfold Sl.ptr at *
  clear h hs hr hN hlt hb hg f1 f2 N1 Q1 h0
  go_enter Tryd.func20, Tryd.ntmps20
  go_wp2_with fail
  generalize hW1 : (w.setCell ⟨B, a, none⟩ (.pointer (some ⟨s.b, 0, none⟩))) = W1 at *
  clear hW1
  rw [← hz]
  go_region
  go_wp2
  go_ret
  exact ⟨rfl, HN.out.on bw1.drew⟩
end Go.Proofs.YtdgmokelmocejabDoor
namespace Go.Proofs.YtdgmokelmocejabDoor
open Go.RowKit
section
variable {w0 w : World} {B : Nat} {p : Nat → Sl}
theorem bn_add_ok (h : Bn w0 B p w) {a i : Nat} (ha : a < 4) (hi : i < (p a).n) :
    Calls Tryd.prog 57 #[(p a).ptr, .int .i64 i] w fun e w' => e = .returned (.int .i64 0) ∧ Bn w0 B (upd p a { p a with X := (p a).X ||| 2 ^ i }) w' ∧ w.grownBy w' (some (p a).g) := by
  refine (add_fr (p a).b (p a).g (p a).c (p a).n (p a).X i w (h.set a ha) (set_bg (h.set a ha)) hi).mono ?_
  rintro e w' ⟨rfl, hs, d⟩
  exact ⟨rfl, h.change ha hs d, d⟩
theorem bn_add_no (h : Bn w0 B p w) {a : Nat} {i : Int} (ha : a < 4) (hi : ¬ (0 ≤ i ∧ i < ((p a).n : Int))) :
    Calls Tryd.prog 57 #[(p a).ptr, .int .i64 i] w fun e w' => e = .returned (.int .i64 10) ∧ Below w.heap.size w w' := by
  refine (add_out (p a).b (p a).g (p a).c (p a).n (p a).X i w (h.set a ha) hi).mono ?_
  rintro e w' ⟨rfl, rfl⟩
  exact ⟨rfl, Below.refl _ _⟩
theorem bn_rem_ok (h : Bn w0 B p w) {a i : Nat} (ha : a < 4) (hi : i < (p a).n) :
    Calls Tryd.prog 75 #[(p a).ptr, .int .i64 i] w fun e w' => e = .returned (.int .i64 0) ∧ Bn w0 B (upd p a { p a with X := minusN (p a).X (2 ^ i) }) w' ∧ w.grownBy w' (some (p a).g) := by
  refine (rem_in (p a).b (p a).g (p a).c (p a).n (p a).X i w (h.set a ha) (set_bg (h.set a ha)) hi).mono ?_
  rintro e w' ⟨rfl, hs, d⟩
  exact ⟨rfl, h.change ha hs d, d⟩
theorem bn_rem_no (h : Bn w0 B p w) {a : Nat} {i : Int} (ha : a < 4) (hi : ¬ (0 ≤ i ∧ i < ((p a).n : Int))) :
    Calls Tryd.prog 75 #[(p a).ptr, .int .i64 i] w fun e w' => e = .returned (.int .i64 10) ∧ Below w.heap.size w w' := by
  refine (rem_out (p a).b (p a).g (p a).c (p a).n (p a).X i w (h.set a ha) hi).mono ?_
  rintro e w' ⟨rfl, rfl⟩
  exact ⟨rfl, Below.refl _ _⟩
theorem bn_clr (h : Bn w0 B p w) {a : Nat} (ha : a < 4) :
    Calls Tryd.prog 77 #[(p a).ptr] w fun e w' => e = .returned (.tuple #[]) ∧ Bn w0 B (upd p a { p a with X := 0 }) w' ∧ w.grownBy w' (some (p a).g) := by
  refine (clear_any (p a).b (p a).g (p a).c (p a).n (p a).X w (h.set a ha) (set_bg (h.set a ha))).mono ?_
  rintro e w' ⟨rfl, hs, d⟩
  exact ⟨rfl, h.change ha hs d, d⟩

set_option maxHeartbeats 400000 in
theorem join_bad (b1 b2 n n2 : Nat) (w : World) (p0 : w.cell? ⟨b1, 0, none⟩ = some (.int .i64 n)) (q0 : w.cell? ⟨b2, 0, none⟩ = some (.int .i64 n2)) (h : n ≠ n2) :
    Calls Tryd.prog 9 #[.pointer (some ⟨b1, 0, none⟩), .pointer (some ⟨b2, 0, none⟩)] w fun e w' => e = .returned (.int .i64 10) ∧ Below w.heap.size w w' := by
  have H := hide h
  clear h
  go_enter Tryd.func9, Tryd.ntmps9
  go_wp2_with fail
  refine (mix_bad b1 b2 n n2 _ _ p0 q0 H.out).mono ?_
  rintro e w1 ⟨rfl, q, rfl⟩
  go_wp2
  go_ret
  exact ⟨rfl, below_drewN' (Below.refl _ _) _⟩

theorem bn_join_ok (h : Bn w0 B p w) {a o : Nat} (ha : a < 4) (ho : o < 4) (hn : (p a).n = (p o).n) :
    Calls Tryd.prog 9 #[(p a).ptr, (p o).ptr] w fun e w' => e = .returned (.int .i64 0) ∧ Bn w0 B (upd p a { p a with X := (p a).X ||| (p o).X }) w' ∧ w.grownBy w' (some (p a).g) := by
  by_cases e : a = o
  · subst e
    refine (join_self (p a).b (p a).g (p a).c (p a).n (p a).X w (h.set a ha) (set_bg (h.set a ha))).mono ?_
    rintro e w' ⟨rfl, hs, d⟩
    exact ⟨rfl, h.change ha (by rw [Nat.or_self]; exact hs) d, d⟩
  · have h2 := h.set o ho
    rw [← hn] at h2
    refine (join_g (p a).b (p a).g (p a).c (p a).n (p a).X (p o).b (p o).g (p o).c (p o).X w (h.set a ha) h2 (set_bg (h.set a ha)) (sets_bg (h.set a ha) h2) (h.ap o a ho ha (fun e2 => e e2.symm)).2).mono ?_
    rintro e w' ⟨rfl, hs, d⟩
    exact ⟨rfl, h.change ha hs d, d⟩
theorem bn_join_no (h : Bn w0 B p w) {a o : Nat} (ha : a < 4) (ho : o < 4) (hn : (p a).n ≠ (p o).n) :
    Calls Tryd.prog 9 #[(p a).ptr, (p o).ptr] w fun e w' => e = .returned (.int .i64 10) ∧ Below w.heap.size w w' :=
  join_bad (p a).b (p o).b (p a).n (p o).n w (h.set a ha).c0 (h.set o ho).c0 hn

set_option maxHeartbeats 400000 in
theorem cut_bad (b1 b2 n n2 : Nat) (w : World) (p0 : w.cell? ⟨b1, 0, none⟩ = some (.int .i64 n)) (q0 : w.cell? ⟨b2, 0, none⟩ = some (.int .i64 n2)) (h : n ≠ n2) :
    Calls Tryd.prog 10 #[.pointer (some ⟨b1, 0, none⟩), .pointer (some ⟨b2, 0, none⟩)] w fun e w' => e = .returned (.int .i64 10) ∧ Below w.heap.size w w' := by
  have H := hide h
  clear h
  go_enter Tryd.func10, Tryd.ntmps10
  go_wp2_with fail
  refine (mix_bad b1 b2 n n2 _ _ p0 q0 H.out).mono ?_
  rintro e w1 ⟨rfl, q, rfl⟩
  go_wp2
  go_ret
  exact ⟨rfl, below_drewN' (Below.refl _ _) _⟩

theorem bn_cut_ok (h : Bn w0 B p w) {a o : Nat} (ha : a < 4) (ho : o < 4) (hn : (p a).n = (p o).n) :
    Calls Tryd.prog 10 #[(p a).ptr, (p o).ptr] w fun e w' => e = .returned (.int .i64 0) ∧ Bn w0 B (upd p a { p a with X := (p a).X &&& (p o).X }) w' ∧ w.grownBy w' (some (p a).g) := by
  by_cases e : a = o
  · subst e
    refine (cut_self (p a).b (p a).g (p a).c (p a).n (p a).X w (h.set a ha) (set_bg (h.set a ha))).mono ?_
    rintro e w' ⟨rfl, hs, d⟩
    exact ⟨rfl, h.change ha (by rw [Nat.and_self]; exact hs) d, d⟩
  · have h2 := h.set o ho
    rw [← hn] at h2
    refine (cut_g (p a).b (p a).g (p a).c (p a).n (p a).X (p o).b (p o).g (p o).c (p o).X w (h.set a ha) h2 (set_bg (h.set a ha)) (sets_bg (h.set a ha) h2) (h.ap o a ho ha (fun e2 => e e2.symm)).2).mono ?_
    rintro e w' ⟨rfl, hs, d⟩
    exact ⟨rfl, h.change ha hs d, d⟩
theorem bn_cut_no (h : Bn w0 B p w) {a o : Nat} (ha : a < 4) (ho : o < 4) (hn : (p a).n ≠ (p o).n) :
    Calls Tryd.prog 10 #[(p a).ptr, (p o).ptr] w fun e w' => e = .returned (.int .i64 10) ∧ Below w.heap.size w w' :=
  cut_bad (p a).b (p o).b (p a).n (p o).n w (h.set a ha).c0 (h.set o ho).c0 hn

theorem bn_drop_ok (h : Bn w0 B p w) {a o : Nat} (ha : a < 4) (ho : o < 4) (hn : (p a).n = (p o).n) :
    Calls Tryd.prog 11 #[(p a).ptr, (p o).ptr] w fun e w' => e = .returned (.int .i64 0) ∧ Bn w0 B (upd p a { p a with X := minusN (p a).X (p o).X }) w' ∧ w.grownBy w' (some (p a).g) := by
  by_cases e : a = o
  · subst e
    refine (drop_self (p a).b (p a).g (p a).c (p a).n (p a).X w (h.set a ha) (set_bg (h.set a ha))).mono ?_
    rintro e w' ⟨rfl, hs, d⟩
    exact ⟨rfl, h.change ha (by rw [minusN_self]; exact hs) d, d⟩
  · have h2 := h.set o ho
    rw [← hn] at h2
    refine (drop_g (p a).b (p a).g (p a).c (p a).n (p a).X (p o).b (p o).g (p o).c (p o).X w (h.set a ha) h2 (set_bg (h.set a ha)) (sets_bg (h.set a ha) h2) (h.ap o a ho ha (fun e2 => e e2.symm)).2).mono ?_
    rintro e w' ⟨rfl, hs, d⟩
    exact ⟨rfl, h.change ha hs d, d⟩
theorem bn_drop_no (h : Bn w0 B p w) {a o : Nat} (ha : a < 4) (ho : o < 4) (hn : (p a).n ≠ (p o).n) :
    Calls Tryd.prog 11 #[(p a).ptr, (p o).ptr] w fun e w' => e = .returned (.int .i64 10) ∧ Below w.heap.size w w' :=
  drop_bad (p a).b (p o).b (p a).n (p o).n w (h.set a ha).c0 (h.set o ho).c0 hn
end
end Go.Proofs.YtdgmokelmocejabDoor
namespace Go.Proofs.YtdgmokelmocejabDoor
open Go.RowKit

/-- What is there behind the beginning of changes: the bench, the call's record, the two sets of the document's. -/
structure Pre (w0 w : World) (B : Nat) (p : Nat → Sl) (a o : Nat) (bx : Array Value) (wx : World) : Prop where
  bn : Bn w0 B p wx
  ob : wx.heap[w.heap.size]? = some (.cells bx 53 (0, 0))
  rb : wx.heap[w.heap.size + 1]? = some (.cells #[.int .i64 (p a).n, .slice (p a).ao (elems (p a).n (p a).y).length (p a).cr] 42 (0, 0))
  ub : wx.heap[w.heap.size + 1 + 1]? = some (.cells #[.int .i64 (p o).n, .slice (p o).ao (elems (p o).n (p o).y).length (p o).cr] 42 (0, 0))
theorem pre_mk {w0 w : World} {B : Nat} {p : Nat → Sl} {a o : Nat} {bx : Array Value} (h : Bn w0 B p w) :
    Pre w0 w B p a o bx (((w.alloc (.cells bx 53)).alloc (.cells #[.int .i64 (p a).n, .slice (p a).ao (elems (p a).n (p a).y).length (p a).cr] 42)).alloc (.cells #[.int .i64 (p o).n, .slice (p o).ao (elems (p o).n (p o).y).length (p o).cr] 42)).drew := by
  obtain ⟨q2, q0, q1, qb⟩ := box3 (w := w) (.cells bx 53) (.cells #[.int .i64 (p a).n, .slice (p a).ao (elems (p a).n (p a).y).length (p a).cr] 42) (.cells #[.int .i64 (p o).n, .slice (p o).ao (elems (p o).n (p o).y).length (p o).cr] 42) (Below.refl _ _)
  exact ⟨h.on qb.drew, q0, q1, q2⟩
theorem keepG2 {w1 w2 : World} {a1 a2 : Addr} {x y : Value} {g : Nat} (h : w1.cell? a1 = some x ∧ w1.cell? a2 = some y) (d : w1.grownBy w2 (some g)) (h1 : a1.block ≠ g) (h2 : a2.block ≠ g) : w2.cell? a1 = some x ∧ w2.cell? a2 = some y :=
  ⟨(World.cell?_of_block (d.block _ (World.block_lt_of_cell? _ _ h.1) (fun e => h1 (Option.some.inj e)))).trans h.1, (World.cell?_of_block (d.block _ (World.block_lt_of_cell? _ _ h.2) (fun e => h2 (Option.some.inj e)))).trans h.2⟩
theorem keepG3 {w1 w2 : World} {a1 a2 a3 : Addr} {x y z : Value} {g : Nat} (h : w1.cell? a1 = some x ∧ w1.cell? a2 = some y ∧ w1.cell? a3 = some z) (d : w1.grownBy w2 (some g)) (h1 : a1.block ≠ g) (h2 : a2.block ≠ g) (h3 : a3.block ≠ g) : w2.cell? a1 = some x ∧ w2.cell? a2 = some y ∧ w2.cell? a3 = some z :=
  ⟨(World.cell?_of_block (d.block _ (World.block_lt_of_cell? _ _ h.1) (fun e => h1 (Option.some.inj e)))).trans h.1, (World.cell?_of_block (d.block _ (World.block_lt_of_cell? _ _ h.2.1) (fun e => h2 (Option.some.inj e)))).trans h.2.1, (World.cell?_of_block (d.block _ (World.block_lt_of_cell? _ _ h.2.2) (fun e => h3 (Option.some.inj e)))).trans h.2.2⟩
theorem keepB2 {w1 w2 : World} {a1 a2 : Addr} {x y : Value} (h : w1.cell? a1 = some x ∧ w1.cell? a2 = some y) (d : Below w1.heap.size w1 w2) : w2.cell? a1 = some x ∧ w2.cell? a2 = some y :=
  ⟨(d.cell (World.block_lt_of_cell? _ _ h.1)).trans h.1, (d.cell (World.block_lt_of_cell? _ _ h.2)).trans h.2⟩
theorem keepB3 {w1 w2 : World} {a1 a2 a3 : Addr} {x y z : Value} (h : w1.cell? a1 = some x ∧ w1.cell? a2 = some y ∧ w1.cell? a3 = some z) (d : Below w1.heap.size w1 w2) : w2.cell? a1 = some x ∧ w2.cell? a2 = some y ∧ w2.cell? a3 = some z :=
  ⟨(d.cell (World.block_lt_of_cell? _ _ h.1)).trans h.1, (d.cell (World.block_lt_of_cell? _ _ h.2.1)).trans h.2.1, (d.cell (World.block_lt_of_cell? _ _ h.2.2)).trans h.2.2⟩
theorem grown_blk {w1 w2 : World} {P g : Nat} {o : Obj} (h : w1.heap[P]? = some o) (d : w1.grownBy w2 (some g)) (hne : P ≠ g) : w2.heap[P]? = some o := by
  rw [d.block _ (cell_lt h) (fun e => hne (Option.some.inj e))]; exact h
theorem ok_up2 {p : Nat → Sl} {a Z : Nat} {ao : Option Addr} {cr : Nat} (h : Ok4 p) : Ok4 (upd (upd p a { p a with X := Z }) a { upd p a { p a with X := Z } a with y := Z, ao := ao, cr := cr }) := by
  intro k hk
  by_cases e : k = a
  · subst e; rw [upd_same, upd_same]
  · rw [upd_ne _ _ e, upd_ne _ _ e]; exact h k hk
/-- A box is written over. -/
theorem Bn.box (w0 : World) {B P : Nat} {p : Nat → Sl} {w : World} {v0 v1 u0 u1 : Value} (h : Bn w0 B p w) (hP : w.heap[P]? = some (.cells #[v0, v1] 42 (0, 0))) (hlo : w0.heap.size ≤ P) :
    Bn w0 B p ((w.setCell ⟨P, 0, none⟩ u0).setCell ⟨P, 1, none⟩ u1) ∧ ((w.setCell ⟨P, 0, none⟩ u0).setCell ⟨P, 1, none⟩ u1).heap[P]? = some (.cells #[u0, u1] 42 (0, 0)) ∧ ∀ ao l, Row3 w ao l → Row3 ((w.setCell ⟨P, 0, none⟩ u0).setCell ⟨P, 1, none⟩ u1) ao l := by
  have h1 := heap_setCell_same w P 0 _ 42 u0 hP
  have h2 := heap_setCell_same _ P 1 _ 42 u1 h1
  have d : w.grownBy ((w.setCell ⟨P, 0, none⟩ u0).setCell ⟨P, 1, none⟩ u1) (some P) := g_set (g_set (g_refl _ _) _ _) _ _
  refine ⟨⟨?_, fun k hk => ?_, fun k hk => (h.row k hk).grown d hP (by decide), h.ap, h.lo, (h.below.setCell hlo _).setCell hlo _⟩, h2, fun ao l hr => hr.grown d hP (by decide)⟩
  · refine grown_blk h.blk d ?_
    intro e
    have := h.blk
    rw [e, hP] at this
    simp at this
  · have := set_ne (h.set k hk) hP (by decide) (by decide)
    exact (h.set k hk).other d this.1 this.2

theorem Bn.rowX {w0 w : World} {B : Nat} {p : Nat → Sl} {a Z : Nat} (h : Bn w0 B (upd p a { p a with X := Z }) w) : ∀ k, k < 4 → Row3 w (p k).ao (elems (p k).n (p k).y) := by
  intro k hk
  have := h.row k hk
  by_cases e : k = a
  · subst e; rw [upd_same] at this; exact this
  · rw [upd_ne _ _ e] at this; exact this
end Go.Proofs.YtdgmokelmocejabDoor
