import Derived.Test.YtdgmokelmocejabDoorPk
import Derived.Test.YtdgmokelmocejabDoorMixm
import Derived.Test.YtdgmokelmocejabDoorOrdP
import Derived.Test.YtdgmokelmocejabDoorRm
import Derived.Test.YtdgmokelmocejabDoorKmath
import Derived.Deep.DeepCutAuto
namespace Go.Proofs.YtdgmokelmocejabDoor
open Go.RowKit

theorem pick_minus (X Y n : Nat) : pickL (tabF false true false false) X Y n = elems n (minusN X Y) := by
  unfold pickL elems
  congr 1
  funext i
  rw [minusN_testBit]
  cases X.testBit i <;> cases Y.testBit i <;> rfl
theorem pick_not (X n : Nat) (hX : X < 2 ^ n) : pickL (tabF true false false false) X X n = elems n (notN n X) := by
  unfold pickL elems
  apply List.filter_congr
  intro i hi
  rw [notN_testBit n X i hX]
  have := List.mem_range.1 hi
  simp only [this, decide_true, Bool.true_and]
  cases X.testBit i <;> rfl
theorem elems_pow (n i : Nat) (h : i < n) : elems n (2 ^ i) = [i] := by
  have e := elems_split n (2 ^ i) i h
  rw [if_pos (Nat.testBit_two_pow_self)] at e
  have e1 : elems i (2 ^ i) = [] := by
    unfold elems
    rw [List.filter_eq_nil_iff]
    intro a ha
    have := List.mem_range.1 ha
    rw [Nat.testBit_two_pow]
    simp
    omega
  have e2 : (List.range' (i + 1) (n - i - 1)).filter (fun a => (2 ^ i).testBit a) = [] := by
    rw [List.filter_eq_nil_iff]
    intro a ha
    rw [List.mem_range'_1] at ha
    rw [Nat.testBit_two_pow]
    simp
    omega
  rw [e, e1, e2]
  rfl
theorem elems_nil (n : Nat) : elems n 0 = [] := by
  unfold elems
  rw [List.filter_eq_nil_iff]
  intro a _
  simp

/-- A slice value over an int row, that can be read as these numbers. -/
def Row3 (w : World) (ao : Option Addr) (l : List Nat) : Prop := ∀ k, k < l.length → ∃ g cs, ao = some ⟨g, 0, none⟩ ∧ w.heap[g]? = some (.cells cs 3 (0, 0)) ∧ cs[k]? = some (.int .i64 ((l.getD k 0 : Nat) : Int))
theorem Row3.reads {w : World} {ao : Option Addr} {l : List Nat} (h : Row3 w ao l) : Reads w ao l := fun k hk => by
  obtain ⟨g, cs, e, c, d⟩ := h k hk
  exact ⟨g, e, by rw [cell_of_row w g k _ 3 (0, 0) c]; exact d⟩
theorem Row3.below {w w' : World} {ao : Option Addr} {l : List Nat} (h : Row3 w ao l) (d : Below w.heap.size w w') : Row3 w' ao l := fun k hk => by
  obtain ⟨g, cs, e, c, f⟩ := h k hk
  exact ⟨g, cs, e, by rw [d.block g (cell_lt c)]; exact c, f⟩
theorem Row3.grown {w w' : World} {ao : Option Addr} {l : List Nat} {r t : Nat} {cs : Array Value} (h : Row3 w ao l) (d : w.grownBy w' (some r)) (hr : w.heap[r]? = some (.cells cs t (0, 0))) (ht : t ≠ 3) : Row3 w' ao l := fun k hk => by
  obtain ⟨g, cs', e, c, f⟩ := h k hk
  refine ⟨g, cs', e, ?_, f⟩
  rw [d.block g (cell_lt c) ?_]
  · exact c
  · intro e
    obtain rfl := Option.some.inj e
    rw [hr] at c
    simp at c
    exact ht c.2
theorem Row3.set {w : World} {ao : Option Addr} {l : List Nat} {r t i : Nat} {cs : Array Value} (h : Row3 w ao l) (hr : w.heap[r]? = some (.cells cs t (0, 0))) (ht : t ≠ 3) (u : Value) : Row3 (w.setCell ⟨r, i, none⟩ u) ao l := fun k hk => by
  obtain ⟨g, cs', e, c, f⟩ := h k hk
  refine ⟨g, cs', e, ?_, f⟩
  rw [heap_setCell_other _ _ _ _ ?_]
  · exact c
  · intro e
    simp at e
    subst e
    rw [hr] at c
    simp at c
    exact ht c.2
theorem row3_nil (w : World) (ao : Option Addr) : Row3 w ao [] := fun k hk => by simp at hk
theorem row3_own {w : World} {base : Nat} {v : Value} {l : List Nat} (h : w.ownsRow base 3 1 v l.length (intV l)) : ∃ ao cap, v = .slice ao l.length cap ∧ Row3 w ao l := by
  have h0 := h
  rcases h.2 with ⟨rfl, h1⟩ | ⟨g, cap, cur, rfl, _, hg, _⟩
  · exact ⟨none, 0, by rw [h1], fun k hk => by omega⟩
  · refine ⟨_, cap, rfl, fun k hk => ⟨g, _, rfl, hg, ?_⟩⟩
    have := h0.cells (g := g) rfl k _ (intV_get l k hk)
    rw [Addr.add_lit] at this
    rw [cell_of_row w g _ _ 3 (0, 0) hg] at this
    simpa using this
end Go.Proofs.YtdgmokelmocejabDoor
namespace Go.Proofs.YtdgmokelmocejabDoor
open Go.RowKit

theorem pick_r (n X Y Z : Nat) (aoA aoB : Option Addr) (cA cB : Nat) (nb : Int) (y0 y1 y2 y3 : Bool) (w : World) (hn : n ≤ 8192) (hA : Row3 w aoA (elems n X)) (hB : Row3 w aoB (elems n Y)) (hp : pickL (tabF y0 y1 y2 y3) X Y n = elems n Z) :
    Calls Tryd.prog 82 #[.agg #[.int .i64 n, .slice aoA (elems n X).length cA], .agg #[.int .i64 nb, .slice aoB (elems n Y).length cB], .agg #[.bool y0, .bool y1, .bool y2, .bool y3]] w fun e w' =>
      ∃ ao cap, e = .returned (.agg #[.int .i64 n, .slice ao (elems n Z).length cap]) ∧ Row3 w' ao (elems n Z) ∧ Below w.heap.size w w' := by
  refine (pick_any n X Y aoA aoB cA cB nb y0 y1 y2 y3 w hn hA.reads hB.reads).mono ?_
  rintro e w' ⟨v, rfl, ho, hb⟩
  rw [hp] at ho
  obtain ⟨ao, cap, rfl, hr⟩ := row3_own ho
  exact ⟨ao, cap, rfl, hr, hb⟩

theorem res_set {w1 : World} {P : Nat} (n : Int) (v : Value) (h : w1.heap[P]? = some (.cells #[.int .i64 0, .slice none 0 0] 42 (0, 0))) :
    (w1.frozen? ⟨P, 0, none⟩ = false ∧ w1.frozen? ⟨P, 1, none⟩ = false ∧ w1.cell? ⟨P, 0, none⟩ = some (.int .i64 0) ∧ w1.cell? ⟨P, 1, none⟩ = some (.slice none 0 0)) ∧
    ((w1.setCell ⟨P, 0, none⟩ (.int .i64 n)).setCell ⟨P, 1, none⟩ v).cell? ⟨P, 0, none⟩ = some (.int .i64 n) ∧ ((w1.setCell ⟨P, 0, none⟩ (.int .i64 n)).setCell ⟨P, 1, none⟩ v).cell? ⟨P, 1, none⟩ = some v ∧
    (∀ B w, B ≤ P → Below B w w1 → Below B w ((w1.setCell ⟨P, 0, none⟩ (.int .i64 n)).setCell ⟨P, 1, none⟩ v)) ∧ ∀ ao l, Row3 w1 ao l → Row3 ((w1.setCell ⟨P, 0, none⟩ (.int .i64 n)).setCell ⟨P, 1, none⟩ v) ao l := by
  have h1 := heap_setCell_same w1 P 0 _ 42 (.int .i64 n) h
  have h2 := heap_setCell_same _ P 1 _ 42 v h1
  refine ⟨⟨frozen_of_row w1 _ 0 _ 42 h, frozen_of_row w1 _ 1 _ 42 h, by rw [cell_of_row _ _ 0 _ 42 (0, 0) h]; rfl, by rw [cell_of_row _ _ 1 _ 42 (0, 0) h]; rfl⟩, by rw [cell_of_row _ _ 0 _ 42 (0, 0) h2]; rfl, by rw [cell_of_row _ _ 1 _ 42 (0, 0) h2]; rfl, fun B w hB hb => (hb.setCell hB _).setCell hB _, fun ao l hr => ?_⟩
  exact (hr.set h (by decide) _).set h1 (by decide) _

theorem box2 {w1 : World} {w : World} (o0 o1 : Obj) (hb : Below ((w.alloc o0).alloc o1).heap.size ((w.alloc o0).alloc o1) w1) : w1.heap[w.heap.size + 1]? = some o1 ∧ w1.heap[w.heap.size]? = some o0 ∧ Below w.heap.size w w1 := by
  refine ⟨?_, ?_, ?_⟩
  · rw [hb.block _ (by simp)]
    have := heap_alloc_new (w.alloc o0) o1
    simpa using this
  · rw [hb.block _ (by simp; omega), Below.heap_alloc _ _ _ (by simp)]
    exact heap_alloc_new w o0
  · exact (((Below.refl _ _).alloc (Nat.le_refl _) _).alloc (by simp) _).trans (hb.mono (by simp; omega))
theorem box3 {w1 : World} {w : World} (o0 o1 o2 : Obj) (hb : Below (((w.alloc o0).alloc o1).alloc o2).heap.size (((w.alloc o0).alloc o1).alloc o2) w1) : w1.heap[w.heap.size + 1 + 1]? = some o2 ∧ w1.heap[w.heap.size]? = some o0 ∧ w1.heap[w.heap.size + 1]? = some o1 ∧ Below w.heap.size w w1 := by
  have hb2 : Below ((w.alloc o0).alloc o1).heap.size ((w.alloc o0).alloc o1) w1 := (((Below.refl _ _).alloc (Nat.le_refl _) _)).trans (hb.mono (by simp))
  obtain ⟨q1, q0, q⟩ := box2 o0 o1 hb2
  refine ⟨?_, q0, q1, q⟩
  rw [hb.block _ (by simp)]
  have := heap_alloc_new ((w.alloc o0).alloc o1) o2
  simpa using this
theorem b3 {w : World} {o0 o1 o2 : Obj} : Below w.heap.size w (((w.alloc o0).alloc o1).alloc o2) := (((Below.refl _ _).alloc (Nat.le_refl _) _).alloc (by simp) _).alloc (by simp; omega) _
theorem b2w {w : World} {o0 o1 : Obj} : Below w.heap.size w ((w.alloc o0).alloc o1) := ((Below.refl _ _).alloc (Nat.le_refl _) _).alloc (by simp) _

set_option maxHeartbeats 1000000 in
theorem runion_any (n X Y : Nat) (aoA aoB : Option Addr) (cA cB : Nat) (w : World) (hn : n ≤ 8192) (hA : Row3 w aoA (elems n X)) (hB : Row3 w aoB (elems n Y)) :
    Calls Tryd.prog 69 #[.agg #[.int .i64 n, .slice aoA (elems n X).length cA], .agg #[.int .i64 n, .slice aoB (elems n Y).length cB]] w fun e w' =>
      ∃ ao cap, e = .returned (.tuple #[.agg #[.int .i64 n, .slice ao (elems n (X ||| Y)).length cap], .int .i64 0]) ∧ Row3 w' ao (elems n (X ||| Y)) ∧ Below w.heap.size w w' := by
  have HA := hide hA
  have HB := hide hB
  clear hA hB
  go_enter Tryd.func69, Tryd.ntmps69
  go_wp2_with fail
  refine (pick_r n X Y (X ||| Y) aoA aoB cA cB n false true true true _ hn (HA.out.below b3) (HB.out.below b3) (pick_or X Y n)).mono ?_
  rintro e w1 ⟨ao, cap, rfl, hr, hb⟩
  obtain ⟨q2, _, _, qb⟩ := box3 _ _ _ hb
  obtain ⟨⟨f0, f1, d0, d1⟩, c0, c1, kb, kr⟩ := res_set (n : Int) (.slice ao (elems n (X ||| Y)).length cap) q2
  have HC := hide (And.intro c0 c1)
  have HR := hide (And.intro (kr _ _ hr) (kb _ _ (by omega) qb))
  clear hb hr q2 qb c0 c1 kb kr HA HB
  go_wp2
  obtain ⟨c0, c1⟩ := HC.out
  exact bodyPost_ret (v := .tuple #[.agg #[.int .i64 n, .slice ao (elems n (X ||| Y)).length cap], .int .i64 0]) (by simp [results, Tryd.results69, go_sem, c0, c1]) rfl ⟨_, _, rfl, HR.out⟩

theorem runion_bad (n m : Nat) (v1 v2 : Value) (w : World) (h : n ≠ m) :
    Calls Tryd.prog 69 #[.agg #[.int .i64 n, v1], .agg #[.int .i64 m, v2]] w fun e w' => e = .returned (.tuple #[.agg #[.int .i64 0, .slice none 0 0], .int .i64 10]) ∧ Below w.heap.size w w' := by
  have hb : ((n : Int) != (m : Int)) = true := by rw [bne_iff_ne]; omega
  go_enter Tryd.func69, Tryd.ntmps69
  go_wp2
  exact bodyPost_ret (v := .tuple #[.agg #[.int .i64 0, .slice none 0 0], .int .i64 10]) (by simp [results, Tryd.results69, go_sem]) rfl ⟨rfl, b3⟩

set_option maxHeartbeats 1000000 in
theorem rmeet_any (n X Y : Nat) (aoA aoB : Option Addr) (cA cB : Nat) (w : World) (hn : n ≤ 8192) (hA : Row3 w aoA (elems n X)) (hB : Row3 w aoB (elems n Y)) :
    Calls Tryd.prog 70 #[.agg #[.int .i64 n, .slice aoA (elems n X).length cA], .agg #[.int .i64 n, .slice aoB (elems n Y).length cB]] w fun e w' =>
      ∃ ao cap, e = .returned (.tuple #[.agg #[.int .i64 n, .slice ao (elems n (X &&& Y)).length cap], .int .i64 0]) ∧ Row3 w' ao (elems n (X &&& Y)) ∧ Below w.heap.size w w' := by
  have HA := hide hA
  have HB := hide hB
  clear hA hB
  go_enter Tryd.func70, Tryd.ntmps70
  go_wp2_with fail
  refine (pick_r n X Y (X &&& Y) aoA aoB cA cB n false false false true _ hn (HA.out.below b3) (HB.out.below b3) (pick_and X Y n)).mono ?_
  rintro e w1 ⟨ao, cap, rfl, hr, hb⟩
  obtain ⟨q2, _, _, qb⟩ := box3 _ _ _ hb
  obtain ⟨⟨f0, f1, d0, d1⟩, c0, c1, kb, kr⟩ := res_set (n : Int) (.slice ao (elems n (X &&& Y)).length cap) q2
  have HC := hide (And.intro c0 c1)
  have HR := hide (And.intro (kr _ _ hr) (kb _ _ (by omega) qb))
  clear hb hr q2 qb c0 c1 kb kr HA HB
  go_wp2
  obtain ⟨c0, c1⟩ := HC.out
  exact bodyPost_ret (v := .tuple #[.agg #[.int .i64 n, .slice ao (elems n (X &&& Y)).length cap], .int .i64 0]) (by simp [results, Tryd.results70, go_sem, c0, c1]) rfl ⟨_, _, rfl, HR.out⟩

theorem rmeet_bad (n m : Nat) (v1 v2 : Value) (w : World) (h : n ≠ m) :
    Calls Tryd.prog 70 #[.agg #[.int .i64 n, v1], .agg #[.int .i64 m, v2]] w fun e w' => e = .returned (.tuple #[.agg #[.int .i64 0, .slice none 0 0], .int .i64 10]) ∧ Below w.heap.size w w' := by
  have hb : ((n : Int) != (m : Int)) = true := by rw [bne_iff_ne]; omega
  go_enter Tryd.func70, Tryd.ntmps70
  go_wp2
  exact bodyPost_ret (v := .tuple #[.agg #[.int .i64 0, .slice none 0 0], .int .i64 10]) (by simp [results, Tryd.results70, go_sem]) rfl ⟨rfl, b3⟩

set_option maxHeartbeats 1000000 in
theorem rminus_any (n X Y : Nat) (aoA aoB : Option Addr) (cA cB : Nat) (w : World) (hn : n ≤ 8192) (hA : Row3 w aoA (elems n X)) (hB : Row3 w aoB (elems n Y)) :
    Calls Tryd.prog 71 #[.agg #[.int .i64 n, .slice aoA (elems n X).length cA], .agg #[.int .i64 n, .slice aoB (elems n Y).length cB]] w fun e w' =>
      ∃ ao cap, e = .returned (.tuple #[.agg #[.int .i64 n, .slice ao (elems n (minusN X Y)).length cap], .int .i64 0]) ∧ Row3 w' ao (elems n (minusN X Y)) ∧ Below w.heap.size w w' := by
  have HA := hide hA
  have HB := hide hB
  clear hA hB
  go_enter Tryd.func71, Tryd.ntmps71
  go_wp2_with fail
  refine (pick_r n X Y (minusN X Y) aoA aoB cA cB n false true false false _ hn (HA.out.below b3) (HB.out.below b3) (pick_minus X Y n)).mono ?_
  rintro e w1 ⟨ao, cap, rfl, hr, hb⟩
  obtain ⟨q2, _, _, qb⟩ := box3 _ _ _ hb
  obtain ⟨⟨f0, f1, d0, d1⟩, c0, c1, kb, kr⟩ := res_set (n : Int) (.slice ao (elems n (minusN X Y)).length cap) q2
  have HC := hide (And.intro c0 c1)
  have HR := hide (And.intro (kr _ _ hr) (kb _ _ (by omega) qb))
  clear hb hr q2 qb c0 c1 kb kr HA HB
  go_wp2
  obtain ⟨c0, c1⟩ := HC.out
  exact bodyPost_ret (v := .tuple #[.agg #[.int .i64 n, .slice ao (elems n (minusN X Y)).length cap], .int .i64 0]) (by simp [results, Tryd.results71, go_sem, c0, c1]) rfl ⟨_, _, rfl, HR.out⟩

theorem rminus_bad (n m : Nat) (v1 v2 : Value) (w : World) (h : n ≠ m) :
    Calls Tryd.prog 71 #[.agg #[.int .i64 n, v1], .agg #[.int .i64 m, v2]] w fun e w' => e = .returned (.tuple #[.agg #[.int .i64 0, .slice none 0 0], .int .i64 10]) ∧ Below w.heap.size w w' := by
  have hb : ((n : Int) != (m : Int)) = true := by rw [bne_iff_ne]; omega
  go_enter Tryd.func71, Tryd.ntmps71
  go_wp2
  exact bodyPost_ret (v := .tuple #[.agg #[.int .i64 0, .slice none 0 0], .int .i64 10]) (by simp [results, Tryd.results71, go_sem]) rfl ⟨rfl, b3⟩

set_option maxHeartbeats 1000000 in
theorem rnot_any (n X : Nat) (aoA : Option Addr) (cA : Nat) (w : World) (hn : n ≤ 8192) (hX : X < 2 ^ n) (hA : Row3 w aoA (elems n X)) :
    Calls Tryd.prog 73 #[.agg #[.int .i64 n, .slice aoA (elems n X).length cA]] w fun e w' =>
      ∃ ao cap, e = .returned (.agg #[.int .i64 n, .slice ao (elems n (notN n X)).length cap]) ∧ Row3 w' ao (elems n (notN n X)) ∧ Below w.heap.size w w' := by
  have HA := hide hA
  have HX := hide hX
  clear hA hX
  go_enter Tryd.func73, Tryd.ntmps73
  go_wp2_with fail
  refine (pick_r n X X (notN n X) aoA aoA cA cA n true false false false _ hn (HA.out.below b2w) (HA.out.below b2w) (pick_not X n HX.out)).mono ?_
  rintro e w1 ⟨ao, cap, rfl, hr, hb⟩
  obtain ⟨q2, _, qb⟩ := box2 _ _ hb
  obtain ⟨⟨f0, f1, d0, d1⟩, c0, c1, kb, kr⟩ := res_set (n : Int) (.slice ao (elems n (notN n X)).length cap) q2
  have HC := hide (And.intro c0 c1)
  have HR := hide (And.intro (kr _ _ hr) (kb _ _ (by omega) qb))
  clear hb hr q2 qb c0 c1 kb kr HA
  go_wp2
  obtain ⟨c0, c1⟩ := HC.out
  exact bodyPost_ret (v := .agg #[.int .i64 n, .slice ao (elems n (notN n X)).length cap]) (by simp [results, Tryd.results73, go_sem, c0, c1]) rfl ⟨_, _, rfl, HR.out⟩

set_option maxHeartbeats 1000000 in
theorem rone_any (n i : Nat) (v : Value) (w : World) (hi : i < n) :
    Calls Tryd.prog 83 #[.agg #[.int .i64 n, v], .int .i64 i] w fun e w' =>
      ∃ ao cap, e = .returned (.agg #[.int .i64 n, .slice ao (elems n (2 ^ i)).length cap]) ∧ Row3 w' ao (elems n (2 ^ i)) ∧ Below w.heap.size w w' := by
  rw [elems_pow n i hi]
  go_enter Tryd.func83, Tryd.ntmps83
  go_wp2
  refine bodyPost_ret (v := .agg #[.int .i64 n, .slice (some ⟨w.heap.size + 1 + 1, 0, none⟩) 1 1]) (by simp [results, Tryd.results83, go_sem]) rfl ⟨_, _, rfl, fun k hk => ?_, b3⟩
  have hk0 : k = 0 := by simpa using hk
  subst hk0
  refine ⟨_, _, rfl, by have := heap_alloc_new (((w.alloc (Obj.cells #[Value.int IntKind.i64 n, v] 42)).alloc (Obj.cells #[Value.int IntKind.i64 n, Value.slice (some { block := w.heap.size + 1 + 1, off := 0 }) 1 1] 42))) (Obj.cells #[Value.int IntKind.i64 i] 3); simpa using this, rfl⟩

theorem radd_box (w : World) (a b : Value) : ((w.alloc (.cells #[a, b] 42)).alloc (.cells #[.int .i64 0, .slice none 0 0] 42)).cell? ⟨w.heap.size, 0, none⟩ = some a ∧ ((w.alloc (.cells #[a, b] 42)).alloc (.cells #[.int .i64 0, .slice none 0 0] 42)).cell? ⟨w.heap.size, 1, none⟩ = some b ∧
    Below w.heap.size w ((w.alloc (.cells #[a, b] 42)).alloc (.cells #[.int .i64 0, .slice none 0 0] 42)) ∧ ((w.alloc (.cells #[a, b] 42)).alloc (.cells #[.int .i64 0, .slice none 0 0] 42)).heap[w.heap.size + 1]? = some (.cells #[.int .i64 0, .slice none 0 0] 42 (0, 0)) := by
  obtain ⟨q1, q0, q⟩ := box2 (w := w) (.cells #[a, b] 42) (.cells #[.int .i64 0, .slice none 0 0] 42) (Below.refl _ _)
  exact ⟨by rw [cell_of_row _ _ 0 _ 42 (0, 0) q0]; rfl, by rw [cell_of_row _ _ 1 _ 42 (0, 0) q0]; rfl, q, q1⟩
theorem radd_keep {w w1 w2 : World} {a b : Value} (h : w1.cell? ⟨w.heap.size, 0, none⟩ = some a ∧ w1.cell? ⟨w.heap.size, 1, none⟩ = some b ∧ Below w.heap.size w w1) (hb : Below w1.heap.size w1 w2) :
    w2.cell? ⟨w.heap.size, 0, none⟩ = some a ∧ w2.cell? ⟨w.heap.size, 1, none⟩ = some b ∧ Below w.heap.size w w2 :=
  ⟨(hb.cell (World.block_lt_of_cell? _ _ h.1)).trans h.1, (hb.cell (World.block_lt_of_cell? _ _ h.2.1)).trans h.2.1, h.2.2.trans (hb.mono h.2.2.size)⟩
theorem radd_s {w w1 : World} {a b : Option Value} {a0 b0 : Addr} (h : w1.cell? a0 = a ∧ w1.cell? b0 = b ∧ Below w.heap.size w w1) : Below w.heap.size w w1 := h.2.2
theorem radd_res {w1 w2 : World} {P : Nat} {o : Obj} (h : w1.heap[P]? = some o) (hb : Below w1.heap.size w1 w2) : w2.heap[P]? = some o := by rw [hb.block _ (cell_lt h)]; exact h

set_option maxHeartbeats 1000000 in
theorem radd_in (n X i : Nat) (aoA : Option Addr) (cA : Nat) (w : World) (hn : n ≤ 8192) (hi : i < n) (hA : Row3 w aoA (elems n X)) :
    Calls Tryd.prog 74 #[.agg #[.int .i64 n, .slice aoA (elems n X).length cA], .int .i64 i] w fun e w' =>
      ∃ ao cap, e = .returned (.tuple #[.agg #[.int .i64 n, .slice ao (elems n (X ||| 2 ^ i)).length cap], .int .i64 0]) ∧ Row3 w' ao (elems n (X ||| 2 ^ i)) ∧ Below w.heap.size w w' := by
  have HA := hide hA
  clear hA
  have h0 : ¬ (i : Int) < 0 := by omega
  have h1 : ¬ (n : Int) ≤ (i : Int) := by omega
  have p0 := (radd_box w (.int .i64 n) (.slice aoA (elems n X).length cA)).1
  have p1 := (radd_box w (.int .i64 n) (.slice aoA (elems n X).length cA)).2.1
  have pb := (radd_box w (.int .i64 n) (.slice aoA (elems n X).length cA)).2.2.1
  have pr := (radd_box w (.int .i64 n) (.slice aoA (elems n X).length cA)).2.2.2
  go_enter Tryd.func74, Tryd.ntmps74
  go_wp2_with fail
  generalize hW0 : ((w.alloc (Obj.cells #[Value.int IntKind.i64 n, Value.slice aoA (elems n X).length cA] 42)).alloc (Obj.cells #[Value.int IntKind.i64 0, Value.slice none 0 0] 42)) = W0 at *
  go_region_held3 (fun w' => w'.cell? ⟨w.heap.size, 0, none⟩ = some (.int .i64 n) ∧ w'.cell? ⟨w.heap.size, 1, none⟩ = some (.slice aoA (elems n X).length cA) ∧ Below w.heap.size w w')
    (first | exact ⟨p0, p1, pb.drew⟩ | exact radd_keep (by assumption) hbX | go_keep)
    (first
      | (go_at_call 83; refine (rone_any n i _ _ hi).mono ?_; rintro e wX ⟨ao1, cap1, rfl, hr1, hbX⟩; have pr1 := radd_res (by exact pr) hbX)
      | (go_at_call 82; refine (pick_r n X (2 ^ i) (X ||| 2 ^ i) aoA ao1 cA cap1 n false true true true _ hn (by exact HA.out.below (radd_s (by assumption))) (by exact hr1) (pick_or X (2 ^ i) n)).mono ?_; rintro e wX ⟨ao, cap, rfl, hr, hbX⟩; have pr2 := radd_res (by exact pr1) hbX; have HF := res_set (n : Int) (.slice ao (elems n (X ||| 2 ^ i)).length cap) pr2))
  rename_i hS
  obtain ⟨_, c0, c1, _, kr⟩ := HF
  have HC := hide (And.intro c0 c1)
  have HR := hide (And.intro (kr _ _ hr) hS.2.2)
  clear hS c0 c1 kr hr
  go_wp2
  obtain ⟨c0, c1⟩ := HC.out
  exact bodyPost_ret (v := .tuple #[.agg #[.int .i64 n, .slice ao (elems n (X ||| 2 ^ i)).length cap], .int .i64 0]) (by simp [results, Tryd.results74, go_sem, c0, c1]) rfl ⟨_, _, rfl, HR.out⟩

set_option maxHeartbeats 1000000 in
theorem radd_out (n : Nat) (i : Int) (ao : Option Addr) (k c : Nat) (w : World) (hi : ¬ (0 ≤ i ∧ i < (n : Int))) :
    Calls Tryd.prog 74 #[.agg #[.int .i64 n, .slice ao k c], .int .i64 i] w fun e w' => e = .returned (.tuple #[.agg #[.int .i64 n, .slice ao k c], .int .i64 10]) ∧ Below w.heap.size w w' := by
  by_cases h0 : i < 0
  · go_enter Tryd.func74, Tryd.ntmps74
    go_wp2
    exact bodyPost_ret (v := .tuple #[.agg #[.int .i64 n, .slice ao k c], .int .i64 10]) (by simp [results, Tryd.results74, go_sem]) rfl ⟨rfl, b2w⟩
  · have h1 : (n : Int) ≤ i := by omega
    clear hi
    go_enter Tryd.func74, Tryd.ntmps74
    go_wp2
    exact bodyPost_ret (v := .tuple #[.agg #[.int .i64 n, .slice ao k c], .int .i64 10]) (by simp [results, Tryd.results74, go_sem]) rfl ⟨rfl, b2w⟩

set_option maxHeartbeats 1000000 in
theorem rrem_in (n X i : Nat) (aoA : Option Addr) (cA : Nat) (w : World) (hn : n ≤ 8192) (hi : i < n) (hA : Row3 w aoA (elems n X)) :
    Calls Tryd.prog 76 #[.agg #[.int .i64 n, .slice aoA (elems n X).length cA], .int .i64 i] w fun e w' =>
      ∃ ao cap, e = .returned (.tuple #[.agg #[.int .i64 n, .slice ao (elems n (minusN X (2 ^ i))).length cap], .int .i64 0]) ∧ Row3 w' ao (elems n (minusN X (2 ^ i))) ∧ Below w.heap.size w w' := by
  have HA := hide hA
  clear hA
  have h0 : ¬ (i : Int) < 0 := by omega
  have h1 : ¬ (n : Int) ≤ (i : Int) := by omega
  have p0 := (radd_box w (.int .i64 n) (.slice aoA (elems n X).length cA)).1
  have p1 := (radd_box w (.int .i64 n) (.slice aoA (elems n X).length cA)).2.1
  have pb := (radd_box w (.int .i64 n) (.slice aoA (elems n X).length cA)).2.2.1
  have pr := (radd_box w (.int .i64 n) (.slice aoA (elems n X).length cA)).2.2.2
  go_enter Tryd.func76, Tryd.ntmps76
  go_wp2_with fail
  generalize hW0 : ((w.alloc (Obj.cells #[Value.int IntKind.i64 n, Value.slice aoA (elems n X).length cA] 42)).alloc (Obj.cells #[Value.int IntKind.i64 0, Value.slice none 0 0] 42)) = W0 at *
  go_region_held3 (fun w' => w'.cell? ⟨w.heap.size, 0, none⟩ = some (.int .i64 n) ∧ w'.cell? ⟨w.heap.size, 1, none⟩ = some (.slice aoA (elems n X).length cA) ∧ Below w.heap.size w w')
    (first | exact ⟨p0, p1, pb.drew⟩ | exact radd_keep (by assumption) hbX | go_keep)
    (first
      | (go_at_call 83; refine (rone_any n i _ _ hi).mono ?_; rintro e wX ⟨ao1, cap1, rfl, hr1, hbX⟩; have pr1 := radd_res (by exact pr) hbX)
      | (go_at_call 82; refine (pick_r n X (2 ^ i) (minusN X (2 ^ i)) aoA ao1 cA cap1 n false true false false _ hn (by exact HA.out.below (radd_s (by assumption))) (by exact hr1) (pick_minus X (2 ^ i) n)).mono ?_; rintro e wX ⟨ao, cap, rfl, hr, hbX⟩; have pr2 := radd_res (by exact pr1) hbX; have HF := res_set (n : Int) (.slice ao (elems n (minusN X (2 ^ i))).length cap) pr2))
  rename_i hS
  obtain ⟨_, c0, c1, _, kr⟩ := HF
  have HC := hide (And.intro c0 c1)
  have HR := hide (And.intro (kr _ _ hr) hS.2.2)
  clear hS c0 c1 kr hr
  go_wp2
  obtain ⟨c0, c1⟩ := HC.out
  exact bodyPost_ret (v := .tuple #[.agg #[.int .i64 n, .slice ao (elems n (minusN X (2 ^ i))).length cap], .int .i64 0]) (by simp [results, Tryd.results76, go_sem, c0, c1]) rfl ⟨_, _, rfl, HR.out⟩

set_option maxHeartbeats 1000000 in
theorem rrem_out (n : Nat) (i : Int) (ao : Option Addr) (k c : Nat) (w : World) (hi : ¬ (0 ≤ i ∧ i < (n : Int))) :
    Calls Tryd.prog 76 #[.agg #[.int .i64 n, .slice ao k c], .int .i64 i] w fun e w' => e = .returned (.tuple #[.agg #[.int .i64 n, .slice ao k c], .int .i64 10]) ∧ Below w.heap.size w w' := by
  by_cases h0 : i < 0
  · go_enter Tryd.func76, Tryd.ntmps76
    go_wp2
    exact bodyPost_ret (v := .tuple #[.agg #[.int .i64 n, .slice ao k c], .int .i64 10]) (by simp [results, Tryd.results76, go_sem]) rfl ⟨rfl, b2w⟩
  · have h1 : (n : Int) ≤ i := by omega
    clear hi
    go_enter Tryd.func76, Tryd.ntmps76
    go_wp2
    exact bodyPost_ret (v := .tuple #[.agg #[.int .i64 n, .slice ao k c], .int .i64 10]) (by simp [results, Tryd.results76, go_sem]) rfl ⟨rfl, b2w⟩

end Go.Proofs.YtdgmokelmocejabDoor
namespace Go.Proofs.YtdgmokelmocejabDoor
open Go.RowKit

theorem bw1 {w : World} {o0 : Obj} : Below w.heap.size w (w.alloc o0) := (Below.refl _ _).alloc (Nat.le_refl _) _
theorem elems_and (n X Y : Nat) : elems n (X &&& Y) = (elems n X).filter (fun i => Y.testBit i) := by
  unfold elems
  rw [List.filter_filter]
  congr 1
  funext i
  rw [Nat.testBit_and, Bool.and_comm]
theorem minus_zero (X Y : Nat) : minusN X Y = 0 ↔ ∀ i, X.testBit i = true → Y.testBit i = true := by
  constructor
  · intro h i hi
    have := minusN_testBit X Y i
    rw [h, hi] at this
    simpa using this.symm
  · intro h
    apply Nat.eq_of_testBit_eq
    intro i
    rw [minusN_testBit, Nat.zero_testBit]
    cases hx : X.testBit i
    · rfl
    · rw [h i hx]; rfl
theorem sub_len (n X Y : Nat) (hX : X < 2 ^ n) : (((elems n (X &&& Y)).length : Int) == ((elems n X).length : Int)) = decide (minusN X Y = 0) := by
  rw [Bool.eq_iff_iff, beq_iff_eq, decide_eq_true_iff, minus_zero, elems_and]
  have : ((((elems n X).filter (fun i => Y.testBit i)).length : Int) = ((elems n X).length : Int)) ↔ ((elems n X).filter (fun i => Y.testBit i)).length = (elems n X).length := by omega
  rw [this, List.length_filter_eq_length_iff]
  constructor
  · intro h i hi
    exact h i (mem_elems.2 ⟨testBit_lt hX hi, hi⟩)
  · intro h i hi
    exact h i (mem_elems.1 hi).2
theorem meets_len (n Z : Nat) (hZ : Z < 2 ^ n) : (decide (0 < (elems n Z).length)) = !decide (Z = 0) := by
  by_cases h : Z = 0
  · subst h
    rw [elems_nil]; rfl
  · have : (elems n Z).length ≠ 0 := by
      intro e
      apply h
      apply Nat.eq_of_testBit_eq
      intro i
      rw [Nat.zero_testBit]
      cases hx : Z.testBit i
      · rfl
      · have hm : i ∈ elems n Z := mem_elems.2 ⟨testBit_lt hZ hx, hx⟩
        rw [List.length_eq_zero_iff.1 e] at hm
        cases hm
    simp [h]
    omega
theorem elems_inj {n X Y : Nat} (hX : X < 2 ^ n) (hY : Y < 2 ^ n) (h : elems n X = elems n Y) : X = Y := by
  have h1 := setOf_elems n X
  have h2 := setOf_elems n Y
  rw [h] at h1
  rw [h1] at h2
  rwa [Nat.mod_eq_of_lt hX, Nat.mod_eq_of_lt hY] at h2

set_option maxHeartbeats 1000000 in
theorem rsubset_any (n X Y : Nat) (aoA aoB : Option Addr) (cA cB : Nat) (w : World) (hn : n ≤ 8192) (hX : X < 2 ^ n) (hA : Row3 w aoA (elems n X)) (hB : Row3 w aoB (elems n Y)) :
    Calls Tryd.prog 47 #[.agg #[.int .i64 n, .slice aoA (elems n X).length cA], .agg #[.int .i64 n, .slice aoB (elems n Y).length cB]] w fun e w' => e = .returned (.bool (decide (minusN X Y = 0))) ∧ Below w.heap.size w w' := by
  have HA := hide hA
  have HB := hide hB
  have HL := hide (sub_len n X Y hX)
  clear hA hB hX
  go_enter Tryd.func47, Tryd.ntmps47
  go_wp2_with fail
  refine (rmeet_any n X Y aoA aoB cA cB _ hn (HA.out.below b2w) (HB.out.below b2w)).mono ?_
  rintro e w1 ⟨ao, cap, rfl, hr, hb⟩
  obtain ⟨q1, q0, qb⟩ := box2 _ _ hb
  have p1 : w1.cell? ⟨w.heap.size, 1, none⟩ = some (.slice aoA (elems n X).length cA) := by rw [cell_of_row _ _ 1 _ 42 (0, 0) q0]; rfl
  have hlt := cell_lt q0
  clear hb hr q1 q0 HA HB
  go_wp2
  go_ret
  exact ⟨ret_bool HL.out, qb.trans (bw1.mono qb.size)⟩
theorem rsubset_bad (n m : Nat) (v1 v2 : Value) (w : World) (h : n ≠ m) :
    Calls Tryd.prog 47 #[.agg #[.int .i64 n, v1], .agg #[.int .i64 m, v2]] w fun e w' => e = .returned (.bool false) ∧ Below w.heap.size w w' := by
  have hb : ((n : Int) != (m : Int)) = true := by rw [bne_iff_ne]; omega
  go_enter Tryd.func47, Tryd.ntmps47
  go_wp2
  go_ret
  exact ⟨rfl, b2w⟩

set_option maxHeartbeats 1000000 in
theorem rmeets_any (n X Y : Nat) (aoA aoB : Option Addr) (cA cB : Nat) (w : World) (hn : n ≤ 8192) (hX : X < 2 ^ n) (hA : Row3 w aoA (elems n X)) (hB : Row3 w aoB (elems n Y)) :
    Calls Tryd.prog 50 #[.agg #[.int .i64 n, .slice aoA (elems n X).length cA], .agg #[.int .i64 n, .slice aoB (elems n Y).length cB]] w fun e w' => e = .returned (.bool (!decide (X &&& Y = 0))) ∧ Below w.heap.size w w' := by
  have HA := hide hA
  have HB := hide hB
  have HL := hide (meets_len n (X &&& Y) (Nat.lt_of_le_of_lt Nat.and_le_left hX))
  clear hA hB hX
  go_enter Tryd.func50, Tryd.ntmps50
  go_wp2_with fail
  refine (rmeet_any n X Y aoA aoB cA cB _ hn (HA.out.below b2w) (HB.out.below b2w)).mono ?_
  rintro e w1 ⟨ao, cap, rfl, hr, hb⟩
  obtain ⟨q1, q0, qb⟩ := box2 _ _ hb
  have hlt := cell_lt q0
  clear hb hr q1 q0 HA HB
  go_wp2
  go_ret
  exact ⟨ret_bool HL.out, qb.trans (bw1.mono qb.size)⟩
theorem rmeets_bad (n m : Nat) (v1 v2 : Value) (w : World) (h : n ≠ m) :
    Calls Tryd.prog 50 #[.agg #[.int .i64 n, v1], .agg #[.int .i64 m, v2]] w fun e w' => e = .returned (.bool false) ∧ Below w.heap.size w w' := by
  have hb : ((n : Int) != (m : Int)) = true := by rw [bne_iff_ne]; omega
  go_enter Tryd.func50, Tryd.ntmps50
  go_wp2
  go_ret
  exact ⟨rfl, b2w⟩

set_option maxHeartbeats 1000000 in
theorem requal_any (n X Y : Nat) (aoA aoB : Option Addr) (cA cB : Nat) (w : World) (hn : n ≤ 8192) (hX : X < 2 ^ n) (hY : Y < 2 ^ n) (hA : Row3 w aoA (elems n X)) (hB : Row3 w aoB (elems n Y)) :
    Calls Tryd.prog 48 #[.agg #[.int .i64 n, .slice aoA (elems n X).length cA], .agg #[.int .i64 n, .slice aoB (elems n Y).length cB]] w fun e w' => e = .returned (.bool (decide (X = Y))) ∧ Below w.heap.size w w' := by
  have HA := hide hA
  have HB := hide hB
  have hlen := cnt_le n X
  unfold cnt at hlen
  have HL : Hid (decide (elems n X = elems n Y) = decide (X = Y)) := by
    show _ = _
    rw [Bool.eq_iff_iff, decide_eq_true_iff, decide_eq_true_iff]
    exact ⟨elems_inj hX hY, fun e => by rw [e]⟩
  clear hA hB hX hY
  go_enter Tryd.func48, Tryd.ntmps48
  go_wp2_with fail
  refine (same_any rfl rfl (HA.out.below b2w).reads (HB.out.below b2w).reads (by omega)).mono ?_
  rintro e w1 ⟨rfl, q, rfl⟩
  go_wp2
  go_ret
  exact ⟨ret_bool HL.out, below_drewN' b2w q⟩
theorem requal_bad (n m : Nat) (v1 v2 : Value) (w : World) (h : n ≠ m) :
    Calls Tryd.prog 48 #[.agg #[.int .i64 n, v1], .agg #[.int .i64 m, v2]] w fun e w' => e = .returned (.bool false) ∧ Below w.heap.size w w' := by
  have hb : ((n : Int) == (m : Int)) = false := by rw [beq_eq_false_iff_ne]; omega
  go_enter Tryd.func48, Tryd.ntmps48
  go_wp2
  go_ret
  exact ⟨rfl, b2w⟩

def ordI (a b : Int) : Int := if a < b then -1 else if b < a then 1 else 0
theorem order2_any (a b : Int) (w : World) : Calls Tryd.prog 79 #[.int .i64 a, .int .i64 b] w fun e w' => e = .returned (.int .i64 (ordI a b)) ∧ w' = w := by
  by_cases h : a < b
  · go_enter Tryd.func79, Tryd.ntmps79
    go_wp2
    go_ret
    exact ⟨ret_int (by simp [ordI, h]), rfl⟩
  · by_cases h2 : b < a
    · go_enter Tryd.func79, Tryd.ntmps79
      go_wp2
      go_ret
      exact ⟨ret_int (by simp [ordI, h, h2]), rfl⟩
    · go_enter Tryd.func79, Tryd.ntmps79
      go_wp2
      go_ret
      exact ⟨ret_int (by unfold ordI; rw [if_neg (by omega), if_neg (by omega)]), rfl⟩
end Go.Proofs.YtdgmokelmocejabDoor
namespace Go.Proofs.YtdgmokelmocejabDoor
open Go.RowKit

theorem elems_sorted2 (n X : Nat) : (elems n X).Pairwise (· < ·) := by
  unfold elems
  exact List.Pairwise.filter _ List.pairwise_lt_range
theorem mem_take_lt {l : List Nat} {k i : Nat} (hs : l.Pairwise (· < ·)) (hk : k < l.length) (hi : i < l.getD k 0) : i ∈ l ↔ i ∈ l.take k := by
  constructor
  · intro h
    rw [← List.take_append_drop k l] at h
    rcases List.mem_append.1 h with h | h
    · exact h
    · exfalso
      rw [drop_cons l k hk] at h
      have hs2 : (l.drop k).Pairwise (· < ·) := hs.drop
      rw [drop_cons l k hk] at hs2
      rcases List.mem_cons.1 h with h | h
      · omega
      · have := (List.pairwise_cons.1 hs2).1 i h; omega
  · exact List.mem_of_mem_take
theorem take_same {l m : List Nat} {k : Nat} (h1 : k ≤ l.length) (h2 : k ≤ m.length) (h : ∀ j, j < k → l.getD j 0 = m.getD j 0) : l.take k = m.take k := by
  apply List.ext_getElem
  · simp; omega
  · intro j a b
    have ja : j < k := by simp at a; omega
    have := h j ja
    rw [List.getElem_take, List.getElem_take]
    rw [List.getD_eq_getElem?_getD, List.getD_eq_getElem?_getD, List.getElem?_eq_getElem (by omega), List.getElem?_eq_getElem (by omega)] at this
    simpa using this
theorem parts_of (n X Y k : Nat) (hX : X < 2 ^ n) (hY : Y < 2 ^ n) (h1 : k < (elems n X).length) (h2 : k < (elems n Y).length) (h : ∀ j, j < k → (elems n X).getD j 0 = (elems n Y).getD j 0) (hlt : (elems n X).getD k 0 < (elems n Y).getD k 0) :
    Parts X Y ((elems n X).getD k 0) ∧ X.testBit ((elems n X).getD k 0) = true := by
  have ht := take_same (Nat.le_of_lt h1) (Nat.le_of_lt h2) h
  have s1 := elems_sorted2 n X
  have s2 := elems_sorted2 n Y
  have hm : (elems n X).getD k 0 ∈ elems n X := by rw [List.getD_eq_getElem?_getD, List.getElem?_eq_getElem h1]; exact List.getElem_mem h1
  have hx := (mem_elems.1 hm).2
  have hn : (elems n X).getD k 0 ∉ elems n Y := by
    intro e
    have e1 := (mem_take_lt s2 h2 hlt).1 e
    rw [← ht] at e1
    have := take_lt (elems n X) k _ s1 h1 e1
    omega
  have tb : ∀ i, i < (elems n X).getD k 0 → X.testBit i = Y.testBit i := by
    intro i hi
    have a : X.testBit i = true ↔ i ∈ elems n X := ⟨fun e => mem_elems.2 ⟨testBit_lt hX e, e⟩, fun e => (mem_elems.1 e).2⟩
    have b : Y.testBit i = true ↔ i ∈ elems n Y := ⟨fun e => mem_elems.2 ⟨testBit_lt hY e, e⟩, fun e => (mem_elems.1 e).2⟩
    rw [Bool.eq_iff_iff, a, b, mem_take_lt s1 h1 hi, mem_take_lt s2 h2 (by omega), ht]
  refine ⟨⟨?_, tb⟩, hx⟩
  rw [hx]
  intro e
  exact hn (mem_elems.2 ⟨testBit_lt hY e.symm, e.symm⟩)
theorem cmp_at (n X Y k : Nat) (hX : X < 2 ^ n) (hY : Y < 2 ^ n) (hl : (elems n X).length = (elems n Y).length) (h1 : k < (elems n X).length) (h : ∀ j, j < k → (elems n X).getD j 0 = (elems n Y).getD j 0) (hne : (elems n X).getD k 0 ≠ (elems n Y).getD k 0) :
    CmpRel n X n Y (ordI ((elems n X).getD k 0 : Nat) ((elems n Y).getD k 0 : Nat)) := by
  refine ⟨fun e => by omega, fun e => by omega, fun _ => ⟨fun e => by unfold cnt at e; omega, fun e => by unfold cnt at e; omega, fun _ => .inr ?_⟩⟩
  by_cases hlt : (elems n X).getD k 0 < (elems n Y).getD k 0
  · obtain ⟨p, hx⟩ := parts_of n X Y k hX hY h1 (by omega) h hlt
    refine ⟨_, p, ?_⟩
    rw [hx, if_pos rfl]
    unfold ordI
    rw [if_pos (by omega)]
  · obtain ⟨p, hx⟩ := parts_of n Y X k hY hX (by omega) h1 (fun j hj => (h j hj).symm) (by omega)
    have p2 := parts_symm p
    refine ⟨_, p2, ?_⟩
    have hx2 : X.testBit ((elems n Y).getD k 0) = false := by
      have := p.1
      rw [hx] at this
      cases hq : X.testBit ((elems n Y).getD k 0)
      · rfl
      · rw [hq] at this; exact absurd rfl this
    rw [hx2]
    unfold ordI
    rw [if_neg (by omega), if_pos (by omega)]
    rfl
theorem cmp_end (n X Y : Nat) (hX : X < 2 ^ n) (hY : Y < 2 ^ n) (hl : (elems n X).length = (elems n Y).length) (h : ∀ j, j < (elems n X).length → (elems n X).getD j 0 = (elems n Y).getD j 0) : CmpRel n X n Y 0 := by
  refine ⟨fun e => by omega, fun e => by omega, fun _ => ⟨fun e => by unfold cnt at e; omega, fun e => by unfold cnt at e; omega, fun _ => .inl ⟨?_, rfl⟩⟩⟩
  apply elems_inj hX hY
  have := take_same (Nat.le_refl _) (by omega) h
  rw [List.take_length] at this
  rw [this, hl, List.take_length]
theorem cmp_cnt (n X Y : Nat) (hl : (elems n X).length ≠ (elems n Y).length) : CmpRel n X n Y (ordI (elems n X).length (elems n Y).length) := by
  refine ⟨fun e => by omega, fun e => by omega, fun _ => ⟨fun e => ?_, fun e => ?_, fun e => by unfold cnt at e; omega⟩⟩
  · unfold cnt at e; unfold ordI; rw [if_pos (by omega)]
  · unfold cnt at e; unfold ordI; rw [if_neg (by omega), if_pos (by omega)]
theorem cmp_bound (n X m Y : Nat) (hl : n ≠ m) : CmpRel n X m Y (ordI n m) := by
  refine ⟨fun e => ?_, fun e => ?_, fun e => absurd e hl⟩
  · unfold ordI; rw [if_pos (by omega)]
  · unfold ordI; rw [if_neg (by omega), if_pos (by omega)]

theorem rcompare_bad (n X m Y : Nat) (v1 v2 : Value) (w : World) (h : n ≠ m) :
    Calls Tryd.prog 51 #[.agg #[.int .i64 n, v1], .agg #[.int .i64 m, v2]] w fun e w' => ∃ r, e = .returned (.int .i64 r) ∧ CmpRel n X m Y r ∧ Below w.heap.size w w' := by
  have hb : ((n : Int) != (m : Int)) = true := by rw [bne_iff_ne]; omega
  go_enter Tryd.func51, Tryd.ntmps51
  go_wp2_with fail
  refine (order2_any n m _).mono ?_
  rintro e w1 ⟨rfl, rfl⟩
  go_wp2
  go_ret
  exact ⟨_, rfl, cmp_bound n X m Y h, b2w⟩

set_option maxRecDepth 100000 in
set_option maxHeartbeats 2000000 in
theorem rcompare_any (n X Y : Nat) (aoA aoB : Option Addr) (cA cB : Nat) (w : World) (hn : n ≤ 8192) (hX : X < 2 ^ n) (hY : Y < 2 ^ n) (hA : Row3 w aoA (elems n X)) (hB : Row3 w aoB (elems n Y)) :
    Calls Tryd.prog 51 #[.agg #[.int .i64 n, .slice aoA (elems n X).length cA], .agg #[.int .i64 n, .slice aoB (elems n Y).length cB]] w fun e w' => ∃ r, e = .returned (.int .i64 r) ∧ CmpRel n X n Y r ∧ Below w.heap.size w w' := by
  have hlen := cnt_le n X
  unfold cnt at hlen
  by_cases hl : (elems n X).length = (elems n Y).length
  · have rA := (hA.below (b2w (o0 := .cells #[.int .i64 n, .slice aoA (elems n X).length cA] 42) (o1 := .cells #[.int .i64 n, .slice aoB (elems n X).length cB] 42))).reads
    have rB := (hB.below (b2w (o0 := .cells #[.int .i64 n, .slice aoA (elems n X).length cA] 42) (o1 := .cells #[.int .i64 n, .slice aoB (elems n X).length cB] 42))).reads
    obtain ⟨q1, q0, qb⟩ := box2 (w := w) (.cells #[.int .i64 n, .slice aoA (elems n X).length cA] 42) (.cells #[.int .i64 n, .slice aoB (elems n X).length cB] 42) (Below.refl _ _)
    have p1 : ((w.alloc (.cells #[.int .i64 n, .slice aoA (elems n X).length cA] 42)).alloc (.cells #[.int .i64 n, .slice aoB (elems n X).length cB] 42)).cell? ⟨w.heap.size, 1, none⟩ = some (.slice aoA (elems n X).length cA) := by rw [cell_of_row _ _ 1 _ 42 (0, 0) q0]; rfl
    have p2 : ((w.alloc (.cells #[.int .i64 n, .slice aoA (elems n X).length cA] 42)).alloc (.cells #[.int .i64 n, .slice aoB (elems n X).length cB] 42)).cell? ⟨w.heap.size + 1, 1, none⟩ = some (.slice aoB (elems n X).length cB) := by rw [cell_of_row _ _ 1 _ 42 (0, 0) q1]; rfl
    have HM := hide (And.intro hX hY)
    have hb1 : (((elems n X).length : Int) != ((elems n X).length : Int)) = false := by simp
    rw [← hl]
    have HL := hide hl
    clear hA hB hX hY hl q1 q0
    go_enter Tryd.func51, Tryd.ntmps51
    go_wp2
    generalize hW0 : ((w.alloc (.cells #[.int .i64 n, .slice aoA (elems n X).length cA] 42)).alloc (.cells #[.int .i64 n, .slice aoB (elems n X).length cB] 42)) = W0 at *
    clear hW0
    go_loopw [5] (fun i wr => ∃ k q : Nat, k ≤ (elems n X).length ∧ i = .int .i64 k ∧ wr = W0.drewN q ∧ Hid (∀ j, j < k → (elems n X).getD j 0 = (elems n Y).getD j 0)) (fun i _ => (elems n X).length - (intOf i).toNat)
    case atStart => exact ⟨0, 0, Nat.zero_le _, rfl, rfl, fun j hj => by omega⟩
    case round =>
      obtain ⟨k, q, hk, rfl, rfl, HJ⟩ := hrel
      by_cases hlt : k < (elems n X).length
      · obtain ⟨g1, rfl, hc1⟩ := rA k hlt
        obtain ⟨g2, rfl, hc2⟩ := rB k (by have := HL.out; omega)
        have hk0 : (0 : Int) ≤ k := by omega
        have hk1 : (k : Int) < (elems n X).length := by omega
        obtain ⟨x, hx⟩ : ∃ x : Nat, (elems n X).getD k 0 = x := ⟨_, rfl⟩
        obtain ⟨y, hy⟩ : ∃ y : Nat, (elems n Y).getD k 0 = y := ⟨_, rfl⟩
        rw [hx] at hc1
        rw [hy] at hc2
        have HX := hide hx
        have HY := hide hy
        clear rA rB hx hy
        by_cases hab : x = y
        · have hb : ((x : Int) != (y : Int)) = false := by rw [hab]; simp
          have HAB := hide hab
          clear hab
          go_wp2_with fail
          go_quiet (fail)
          go_wp2
          go_roundw
          case rel =>
            refine ⟨k + 1, _, by omega, by go_num, rfl, fun j hj => ?_⟩
            by_cases hjk : j = k
            · subst hjk; rw [HX.out, HY.out, HAB.out]
            · exact HJ.out j (by omega)
          case measure => simp [intOf]; omega
        · have hb : ((x : Int) != (y : Int)) = true := by rw [bne_iff_ne]; omega
          have HN := hide hab
          clear hab
          go_wp2_with fail
          go_quiet (fail)
          go_wp2_with fail
          go_quiet ((go_at_call 79; refine (order2_any _ _ _).mono ?_; rintro e w2 ⟨rfl, rfl⟩; exact ⟨rfl, _, rfl⟩))
          go_wp2
          go_ret
          refine ⟨_, rfl, ?_, ?_⟩
          · have := cmp_at n X Y k HM.out.1 HM.out.2 HL.out hlt HJ.out (by rw [HX.out, HY.out]; exact HN.out)
            rw [HX.out, HY.out] at this
            exact this
          · exact ⟨qb.os, qb.tape, qb.output, qb.size, qb.block⟩
      · clear rA rB
        go_wp2
        go_ret
        obtain rfl : k = (elems n X).length := by omega
        exact ⟨_, rfl, cmp_end n X Y HM.out.1 HM.out.2 HL.out HJ.out, ⟨qb.os, qb.tape, qb.output, qb.size, qb.block⟩⟩
  · have hb : (((elems n X).length : Int) != ((elems n Y).length : Int)) = true := by rw [bne_iff_ne]; omega
    clear hA hB
    have HL := hide hl
    clear hl
    go_enter Tryd.func51, Tryd.ntmps51
    go_wp2_with fail
    refine (order2_any _ _ _).mono ?_
    rintro e w1 ⟨rfl, rfl⟩
    go_wp2
    go_ret
    exact ⟨_, rfl, cmp_cnt n X Y HL.out, b2w⟩
end Go.Proofs.YtdgmokelmocejabDoor
