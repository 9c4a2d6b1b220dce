import Derived.Test.YtojnlpicgemlaabGreatDoorNB
import Derived.Lib.Small
import Derived.Shelf.SlSortCmp.NoneTotal
import Derived.Ground.SlsfProg
import Derived.DeepKeys4
import Derived.Maps.OwnSet
namespace Go.Proofs.YtojnlpicgemlaabGreatDoor
open Go.RowKit Go.Maps
attribute [local go_sem] Oper.semAt_some

/-! ### How two edges are compared -/
structure Only (w w' : World) (R : Nat → Prop) : Prop where
  os : w'.os = w.os
  tape : w'.tape = w.tape
  output : w'.output = w.output
  size : w.heap.size ≤ w'.heap.size
  block : ∀ k, k < w.heap.size → ¬ R k → w'.heap[k]? = w.heap[k]?
theorem Only.ofBelow {w w' : World} {R : Nat → Prop} (h : Below w.heap.size w w') : Only w w' R := ⟨h.os, h.tape, h.output, h.size, fun k hk _ => h.block k hk⟩
theorem Only.toBelow {w w' : World} {R : Nat → Prop} {B : Nat} (h : Only w w' R) (hB : B ≤ w.heap.size) (hR : ∀ k, R k → B ≤ k) : Below B w w' :=
  ⟨h.os, h.tape, h.output, h.size, fun k hk => h.block k (by omega) (fun hr => by have := hR k hr; omega)⟩
theorem Only.trans {a b c : World} {R : Nat → Prop} (h : Only a b R) (k : Only b c R) : Only a c R :=
  ⟨k.os.trans h.os, k.tape.trans h.tape, k.output.trans h.output, Nat.le_trans h.size k.size, fun i hi hn => (k.block i (Nat.lt_of_lt_of_le hi h.size) hn).trans (h.block i hi hn)⟩
theorem Only.mono {w w' : World} {R R' : Nat → Prop} (h : Only w w' R) (hr : ∀ k, k < w.heap.size → R k → R' k) : Only w w' R' := ⟨h.os, h.tape, h.output, h.size, fun k hk hn => h.block k hk (fun h' => hn (hr k hk h'))⟩
/-- What is new may be written. -/
theorem Only.andNew {a b c : World} {R S : Nat → Prop} (h : Only a b R) (k : Only b c S) (hs : ∀ i, i < a.heap.size → S i → R i) : Only a c R :=
  ⟨k.os.trans h.os, k.tape.trans h.tape, k.output.trans h.output, Nat.le_trans h.size k.size, fun i hi hn => (k.block i (Nat.lt_of_lt_of_le hi h.size) (fun hx => hn (hs i hi hx))).trans (h.block i hi hn)⟩
theorem flat_get {α : Type} (cs : α → List Value) (sz : Nat) (hl : ∀ a, (cs a).length = sz) : ∀ (l : List α) (j i : Nat) (hj : j < l.length), i < sz → (l.flatMap cs)[j * sz + i]? = (cs l[j])[i]?
  | a :: l, 0, i, _, hi => by
    rw [Nat.zero_mul, Nat.zero_add, List.flatMap_cons, List.getElem?_append_left (by rw [hl]; exact hi)]; rfl
  | a :: l, j + 1, i, hj, hi => by
    rw [List.flatMap_cons, List.getElem?_append_right (by rw [hl, Nat.succ_mul]; omega), hl, show (j + 1) * sz + i - sz = j * sz + i by rw [Nat.succ_mul]; omega]
    exact flat_get cs sz hl l j i (by simpa using hj) hi
theorem nan_any (x : Int) (w : World) : Calls Tryz.prog 78 #[.int .i64 x] w fun e w' => e = .returned (.bool false) ∧ w' = w := by
  go_enter Tryz.func78, Tryz.ntmps78
  go_wp2
  go_ret
  simp
theorem cmpi_any (x y : Int) (w : World) : Calls Tryz.prog 67 #[.int .i64 x, .int .i64 y] w fun e w' => e = .returned (.int .i64 (Lib.compareInt x y)) ∧ w' = w := by
  unfold Lib.compareInt
  by_cases h1 : x < y
  · go_enter Tryz.func67, Tryz.ntmps67
    go_wp2_with (go_at_call 78; refine (nan_any _ _).mono ?_; rintro e w' ⟨rfl, rfl⟩)
    go_ret
    simp
  · by_cases h2 : y < x
    · go_enter Tryz.func67, Tryz.ntmps67
      go_wp2_with (go_at_call 78; refine (nan_any _ _).mono ?_; rintro e w' ⟨rfl, rfl⟩)
      go_ret
      simp
    · go_enter Tryz.func67, Tryz.ntmps67
      go_wp2_with (go_at_call 78; refine (nan_any _ _).mono ?_; rintro e w' ⟨rfl, rfl⟩)
      go_ret
      simp
/-- How two edges stand: by From, by Sym, by To. -/
def cmpE (x y : EdT) : Int := if x.1 ≠ y.1 then Lib.compareInt x.1 y.1 else if x.2.1 ≠ y.2.1 then Lib.compareInt x.2.1 y.2.1 else Lib.compareInt x.2.2 y.2.2
theorem two_new (w : World) (a b : Obj) (n : Nat) : ((w.alloc a).alloc b).drewN n = { w with heap := w.heap ++ #[a, b], drawn := w.drawn + n } := by
  have h : (w.heap.push a).push b = w.heap ++ #[a, b] := by apply Array.ext'; simp
  show ({ w with heap := (w.heap.push a).push b, drawn := w.drawn + n } : World) = _
  rw [h]
set_option maxRecDepth 100000 in
set_option maxHeartbeats 1000000 in
theorem cmpE_any (x y : EdT) (w : World) : Calls Tryz.prog 69 #[.agg #[.int .i64 x.1, .int .i64 x.2.1, .int .i64 x.2.2], .agg #[.int .i64 y.1, .int .i64 y.2.1, .int .i64 y.2.2]] w fun e w' => e = .returned (.int .i64 (cmpE x y)) ∧ ∃ q os, w' = { w with heap := w.heap ++ os, drawn := w.drawn + q } := by
  obtain ⟨x0, x1, x2⟩ := x
  obtain ⟨y0, y1, y2⟩ := y
  simp only
  obtain ⟨W0, hW0⟩ : ∃ W0, (w.alloc (.cells #[.int .i64 x0, .int .i64 x1, .int .i64 x2] 35)).alloc (.cells #[.int .i64 y0, .int .i64 y1, .int .i64 y2] 35) = W0 := ⟨_, rfl⟩
  have a0 : W0.heap[w.heap.size]? = some (.cells #[.int .i64 x0, .int .i64 x1, .int .i64 x2] 35 (0, 0)) := by rw [← hW0]; exact (Below.heap_alloc _ _ _ (by simp)).trans (World.alloc_heap_new _ _)
  have b0 : W0.heap[w.heap.size + 1]? = some (.cells #[.int .i64 y0, .int .i64 y1, .int .i64 y2] 35 (0, 0)) := by
    rw [← hW0]
    have := World.alloc_heap_new (w.alloc (.cells #[.int .i64 x0, .int .i64 x1, .int .i64 x2] 35)) (.cells #[.int .i64 y0, .int .i64 y1, .int .i64 y2] 35)
    simpa using this
  have c0 : W0.cell? ⟨w.heap.size, 0, none⟩ = some (.int .i64 x0) := by simp [World.cell?, a0]
  have c1 : W0.cell? ⟨w.heap.size, 1, none⟩ = some (.int .i64 x1) := by simp [World.cell?, a0]
  have c2 : W0.cell? ⟨w.heap.size, 2, none⟩ = some (.int .i64 x2) := by simp [World.cell?, a0]
  have d0 : W0.cell? ⟨w.heap.size + 1, 0, none⟩ = some (.int .i64 y0) := by simp [World.cell?, b0]
  have d1 : W0.cell? ⟨w.heap.size + 1, 1, none⟩ = some (.int .i64 y1) := by simp [World.cell?, b0]
  have d2 : W0.cell? ⟨w.heap.size + 1, 2, none⟩ = some (.int .i64 y2) := by simp [World.cell?, b0]
  have HW := hide hW0
  clear a0 b0
  unfold cmpE
  simp only
  have T0 := fun W => cmpi_any x0 y0 W
  have T1 := fun W => cmpi_any x1 y1 W
  have T2 := fun W => cmpi_any x2 y2 W
  by_cases h0 : x0 = y0
  · by_cases h1 : x1 = y1
    · by_cases h2 : x2 = y2
      · subst h0; subst h1; subst h2
        rw [if_neg (by simp), if_neg (by simp), show Lib.compareInt x2 x2 = 0 by simp [Lib.compareInt]]
        go_enter Tryz.func69, Tryz.ntmps69
        go_wp2_with fail
        go_ret
        exact ⟨rfl, 0, _, by rw [← HW.out]; exact two_new w _ _ 0⟩
      · subst h0; subst h1
        rw [if_neg (by simp), if_neg (by simp)]
        go_enter Tryz.func69, Tryz.ntmps69
        go_wp2_with (go_at_call 67; refine (T2 _).mono ?_; rintro e w' ⟨rfl, rfl⟩)
        go_ret
        exact ⟨rfl, 0, _, by rw [← HW.out]; exact two_new w _ _ 0⟩
    · subst h0
      rw [if_neg (by simp), if_pos h1]
      go_enter Tryz.func69, Tryz.ntmps69
      go_wp2_with (go_at_call 67; refine (T1 _).mono ?_; rintro e w' ⟨rfl, rfl⟩)
      go_ret
      exact ⟨rfl, 0, _, by rw [← HW.out]; exact two_new w _ _ 0⟩
  · rw [if_pos h0]
    go_enter Tryz.func69, Tryz.ntmps69
    go_wp2_with (go_at_call 67; refine (T0 _).mono ?_; rintro e w' ⟨rfl, rfl⟩)
    go_ret
    exact ⟨rfl, 0, _, by rw [← HW.out]; exact two_new w _ _ 0⟩
end Go.Proofs.YtojnlpicgemlaabGreatDoor
namespace Go.Proofs
open Go.Shelf
def Tryz.sortEdge_ren : Go.Shelf.Ren := ⟨fun | 6 => 79 | 15 => 85 | 14 => 86 | 28 => 95 | 29 => 96 | 20 => 97 | 21 => 98 | 22 => 99 | 23 => 100 | 24 => 101 | 25 => 102 | 26 => 103 | 27 => 104 | 46 => 110 | 47 => 106 | 48 => 107 | 49 => 111 | 50 => 112 | 57 => 114 | n => n, fun | 22 => 23 | 24 => 35 | 25 => 98 | 3 => 3 | 39 => 111 | 0 => 0 | 53 => 125 | 55 => 87 | 4 => 4 | 46 => 119 | 45 => 118 | 50 => 101 | 5 => 5 | 9 => 9 | 66 => 131 | 70 => 135 | 76 => 139 | 77 => 103 | n => n, fun | n => n⟩
theorem Tryz.sortEdge : Go.Proofs.SlLaysF0.n6 Tryz.prog Tryz.sortEdge_ren := {
  mixed := by kernel_rfl
  f6 := ⟨Tryz.f79.name, by decide, Tryz.func79.trans (congrArg some (by kernel_rfl))⟩
  f14 := ⟨Tryz.f86.name, by decide, Tryz.func86.trans (congrArg some (by kernel_rfl))⟩
  f15 := Tryz.func85.trans (congrArg some (by kernel_rfl))
  f20 := ⟨Tryz.f97.name, by decide, Tryz.func97.trans (congrArg some (by kernel_rfl))⟩
  f21 := ⟨Tryz.f98.name, by decide, Tryz.func98.trans (congrArg some (by kernel_rfl))⟩
  f22 := ⟨Tryz.f99.name, by decide, Tryz.func99.trans (congrArg some (by kernel_rfl))⟩
  f23 := ⟨Tryz.f100.name, by decide, Tryz.func100.trans (congrArg some (by kernel_rfl))⟩
  f24 := ⟨Tryz.f101.name, by decide, Tryz.func101.trans (congrArg some (by kernel_rfl))⟩
  f25 := ⟨Tryz.f102.name, by decide, Tryz.func102.trans (congrArg some (by kernel_rfl))⟩
  f26 := ⟨Tryz.f103.name, by decide, Tryz.func103.trans (congrArg some (by kernel_rfl))⟩
  f27 := ⟨Tryz.f104.name, by decide, Tryz.func104.trans (congrArg some (by kernel_rfl))⟩
  f28 := Tryz.func95.trans (congrArg some (by kernel_rfl))
  f29 := Tryz.func96.trans (congrArg some (by kernel_rfl))
  f46 := ⟨Tryz.f110.name, by decide, Tryz.func110.trans (congrArg some (by kernel_rfl))⟩
  f47 := Tryz.func106.trans (congrArg some (by kernel_rfl))
  f48 := Tryz.func107.trans (congrArg some (by kernel_rfl))
  f49 := ⟨Tryz.f111.name, by decide, Tryz.func111.trans (congrArg some (by kernel_rfl))⟩
  f50 := ⟨Tryz.f112.name, by decide, Tryz.func112.trans (congrArg some (by kernel_rfl))⟩
  f57 := ⟨Tryz.f114.name, by decide, Tryz.func114.trans (congrArg some (by kernel_rfl))⟩
  t0 := Tryz.underlying0
  a0 := Tryz.isAgg0
  z0 := Tryz.sizeOf0
  v0 := Tryz.zeroValue0
  t3 := Tryz.underlying3
  a3 := Tryz.isAgg3
  z3 := Tryz.sizeOf3
  v3 := Tryz.zeroValue3
  t4 := Tryz.underlying4
  a4 := Tryz.isAgg4
  z4 := Tryz.sizeOf4
  v4 := Tryz.zeroValue4
  t5 := Tryz.underlying5
  a5 := Tryz.isAgg5
  z5 := Tryz.sizeOf5
  v5 := Tryz.zeroValue5
  t9 := Tryz.underlying9
  a9 := Tryz.isAgg9
  z9 := Tryz.sizeOf9
  v9 := Tryz.zeroValue9
  t22 := Tryz.underlying23
  a22 := Tryz.isAgg23
  z22 := Tryz.sizeOf23
  v22 := Tryz.zeroValue23
  t25 := Tryz.underlying98
  a25 := Tryz.isAgg98
  z25 := Tryz.sizeOf98
  v25 := Tryz.zeroValue98
  t39 := Tryz.underlying111
  a39 := Tryz.isAgg111
  z39 := Tryz.sizeOf111
  v39 := Tryz.zeroValue111
  t45 := Tryz.underlying118
  a45 := Tryz.isAgg118
  z45 := Tryz.sizeOf118
  v45 := Tryz.zeroValue118
  t46 := Tryz.underlying119
  a46 := Tryz.isAgg119
  z46 := Tryz.sizeOf119
  v46 := Tryz.zeroValue119
  t50 := Tryz.underlying101
  a50 := Tryz.isAgg101
  z50 := Tryz.sizeOf101
  v50 := Tryz.zeroValue101
  t53 := Tryz.underlying125
  a53 := Tryz.isAgg125
  z53 := Tryz.sizeOf125
  v53 := Tryz.zeroValue125
  t55 := Tryz.underlying87
  a55 := Tryz.isAgg87
  z55 := Tryz.sizeOf87
  v55 := Tryz.zeroValue87
  t66 := Tryz.underlying131
  a66 := Tryz.isAgg131
  z66 := Tryz.sizeOf131
  v66 := Tryz.zeroValue131
  t70 := Tryz.underlying135
  a70 := Tryz.isAgg135
  z70 := Tryz.sizeOf135
  v70 := Tryz.zeroValue135
  t76 := Tryz.underlying139
  a76 := Tryz.isAgg139
  z76 := Tryz.sizeOf139
  v76 := Tryz.zeroValue139
  t77 := Tryz.underlying103
  a77 := Tryz.isAgg103
  z77 := Tryz.sizeOf103
  v77 := Tryz.zeroValue103 }
end Go.Proofs
namespace Go.Proofs.YtojnlpicgemlaabGreatDoor
open Go.RowKit Go.Maps Go.Shelf Go.Sort

/-! ### Edges sorted -/
/-- An edge's cells. -/
def encE (x : EdT) : List Value := [.int .i64 x.1, .int .i64 x.2.1, .int .i64 x.2.2]
def ltE (x y : EdT) : Bool := decide (x.1 < y.1 ∨ (x.1 = y.1 ∧ (x.2.1 < y.2.1 ∨ (x.2.1 = y.2.1 ∧ x.2.2 < y.2.2))))
theorem ltE_iff {x y : EdT} : ltE x y = true ↔ x.1 < y.1 ∨ (x.1 = y.1 ∧ (x.2.1 < y.2.1 ∨ (x.2.1 = y.2.1 ∧ x.2.2 < y.2.2))) := decide_eq_true_iff
theorem ltE_not {x y : EdT} : ltE x y = false ↔ ¬ (x.1 < y.1 ∨ (x.1 = y.1 ∧ (x.2.1 < y.2.1 ∨ (x.2.1 = y.2.1 ∧ x.2.2 < y.2.2)))) := decide_eq_false_iff_not
theorem cmp_pos (x y : Int) : (x < y ∧ Lib.compareInt x y = -1) ∨ (y < x ∧ Lib.compareInt x y = 1) ∨ (x = y ∧ Lib.compareInt x y = 0) := by
  unfold Lib.compareInt
  rcases Int.lt_trichotomy x y with h | h | h
  · exact .inl ⟨h, by simp [h]⟩
  · exact .inr (.inr ⟨h, by simp [h]⟩)
  · exact .inr (.inl ⟨h, by rw [if_neg (by omega), if_pos (by omega)]⟩)
theorem ltE_is : ltOf cmpE = ltE := by
  funext x y
  unfold ltOf cmpE ltE
  rcases cmp_pos x.1 y.1 with ⟨h1, e1⟩ | ⟨h1, e1⟩ | ⟨h1, e1⟩ <;> rcases cmp_pos x.2.1 y.2.1 with ⟨h2, e2⟩ | ⟨h2, e2⟩ | ⟨h2, e2⟩ <;> rcases cmp_pos x.2.2 y.2.2 with ⟨h3, e3⟩ | ⟨h3, e3⟩ | ⟨h3, e3⟩ <;> simp only [e1, e2, e3] <;> (repeat' split) <;> simp <;> omega
theorem swoE : SWO ltE where
  irrefl x := by rw [ltE_not]; omega
  trans x y z h1 h2 := by rw [ltE_iff] at *; omega
  ntrans x y z h1 h2 := by rw [ltE_not] at *; omega
theorem totE (x y : EdT) (h1 : ltE x y = false) (h2 : ltE y x = false) : x = y := by
  rw [ltE_not] at h1 h2
  exact Prod.ext (by omega) (Prod.ext (by omega) (by omega))
theorem encE_len (x : EdT) : (encE x).length = 3 := rfl
theorem flatE (L : List EdT) : (flatK encE 3 L.toArray).toList = L.flatMap encE := by
  have hz : (L.flatMap encE).length = L.length * 3 := by
    induction L with
    | nil => rfl
    | cons x L ih => rw [List.flatMap_cons, List.length_append, ih, encE_len, List.length_cons]; omega
  apply List.ext_getElem?
  intro t
  by_cases ht : t < L.length * 3
  · have h1 : t / 3 < L.length := by omega
    have h2 : t % 3 < 3 := by omega
    have e := flat_get encE 3 encE_len L (t / 3) (t % 3) h1 h2
    rw [show t / 3 * 3 + t % 3 = t by omega] at e
    rw [e, Array.getElem?_toList]
    have hs : t < (flatK encE 3 L.toArray).size := by simpa using ht
    have g := get_flatK encE 3 L.toArray t (by simpa using ht)
    rw [getElem!_pos _ t hs] at g
    rw [Array.getElem?_eq_getElem hs, g]
    have h3 : t % 3 < (encE L[t / 3]).length := by rw [encE_len]; exact h2
    have h4 : L.toArray[t / 3]! = L[t / 3] := by rw [getElem!_pos _ _ (by simpa using h1)]; simp
    rw [List.getElem?_eq_getElem h3, h4, getElem!_pos (encE L[t / 3]) (t % 3) h3]
  · rw [List.getElem?_eq_none (by rw [Array.length_toList, size_flatK]; simpa using ht), List.getElem?_eq_none (by omega)]
/-- A list of edges in order. -/
def sortE (L : List EdT) : List EdT := L.mergeSort fun x y => !ltE y x
theorem sortE_len (L : List EdT) : (sortE L).length = L.length := List.length_mergeSort _
theorem cmpLays (blk off size : Nat) (w : World) : CmpLays Tryz.prog 69 #[] encE 3 cmpE blk off size w := fun _ _ _ _ x y => (cmpE_any x y _).mono fun _ _ ⟨he, q, os, hw⟩ => ⟨he, q, os, hw⟩
theorem sortE_any (W : World) (B : Nat) (v : Value) (L : List EdT) (hv : W.ownsRow B 35 3 v L.length (L.flatMap encE)) (hl : L.length ≤ 4194304) :
    Calls Tryz.prog 79 #[v, .func (.func 69) #[] #[]] W fun e w' => e = .returned (.tuple #[]) ∧ w'.ownsRow B 35 3 v L.length ((sortE L).flatMap encE) ∧ Only W w' (fun k => v.ownBlock = some k) := by
  rcases hv.2 with ⟨rfl, h0⟩ | ⟨g, cap, cur, rfl, hB, hb, hn, hcap, hsz, hxs⟩
  · obtain rfl : L = [] := List.eq_nil_of_length_eq_zero h0
    refine (AnyF.slices_SortFunc_none Tryz.sortEdge none 0 (.func (.func 69) #[] #[]) W).mono ?_
    rintro e w' ⟨rfl, rfl⟩
    refine ⟨rfl, ?_, Only.ofBelow (Below.refl _ _)⟩
    rw [show sortE [] = [] by simp [sortE]]
    exact hv
  · have eg : ∀ args w, (callFunc 69 args).run Tryz.prog w = .ok (.enter 69 args) w := enters_of Tryz.func69 (by kernel_rfl) rfl
    have hg : g < W.heap.size := (Array.getElem?_eq_some_iff.1 hb).1
    have hH : HoldsK encE 3 W g 0 L.toArray := by
      intro j hj
      have hj2 : j < L.length * 3 := by simpa using hj
      refine ⟨?_, by simp [World.frozen?, hb]⟩
      have hfe : (flatK encE 3 L.toArray).toList[j]? = cur.toList[j]? := by rw [flatE, ← hxs, List.getElem?_take_of_lt hj2]
      have hs : j < (flatK encE 3 L.toArray).size := hj
      rw [Array.getElem?_toList, Array.getElem?_eq_getElem hs, Array.getElem?_toList] at hfe
      simp only [World.cell?, hb, Nat.zero_add]
      simp only [Option.isSome_none, Bool.false_eq_true, if_false, id]
      rw [← hfe, getElem!_pos (flatK encE 3 L.toArray) j hs]
    have hO : SWO (ltOf cmpE) := by rw [ltE_is]; exact swoE
    have H := AnyQ.slices_SortFunc_total Tryz.sortEdge 3 Tryz.isAgg35 Tryz.sizeOf35 encE encE_len (fun x v hv => by simp [encE] at hv; rcases hv with rfl | rfl | rfl <;> rfl) cmpE hO 69 #[] g 0 cap L.toArray W eg (cmpLays g 0 _ W) hH hg (by simp; omega) (by rw [ltE_is]; exact totE)
    rw [ltE_is] at H
    have e1 : L.toArray.size = L.length := by simp
    rw [e1] at H
    refine Calls.mono H ?_
    rintro e w' ⟨rfl, n, os, rfl⟩
    have hq : (sortWorldK encE 3 W g 0 n (sortE L).toArray os).heap[g]? = some (.cells (putCells id 0 (flatK encE 3 (sortE L).toArray) cur) 35 (0, 0)) := by
      unfold sortWorldK putRowK
      rw [heap_grow_old _ _ (by simpa using hg)]
      simp [putRow, mapBlock, Sort.ahead, Array.getElem?_modify, hb, onCells]
    have hfs : (flatK encE 3 (sortE L).toArray).size = L.length * 3 := by simp [sortE_len]
    refine ⟨rfl, ⟨?_, .inr ⟨g, cap, _, rfl, hB, hq, hn, hcap, by simp [putCells, hsz], ?_⟩⟩, ?_⟩
    · rw [← flatE, Array.length_toList, hfs]
    · rw [← flatE]
      apply List.ext_getElem?
      intro j
      by_cases hj : j < L.length * 3
      · have hj3 : j < cur.size := by rw [hsz]; have := Nat.mul_le_mul_right 3 hn; omega
        rw [List.getElem?_take_of_lt hj, Array.getElem?_toList, Array.getElem?_toList]
        simp [putCells, hj3, sortE_len, hj]
      · rw [List.getElem?_take_eq_none (by omega), List.getElem?_eq_none (by rw [Array.length_toList, hfs]; omega)]
    · refine ⟨rfl, rfl, rfl, by simp [sortWorldK, putRowK, putRow, mapBlock, Sort.ahead, grow], fun k hk hne => ?_⟩
      unfold sortWorldK putRowK
      rw [heap_grow_old _ _ (by simpa using hk)]
      have : g ≠ k := fun e => hne (by rw [e]; rfl)
      simp [putRow, mapBlock, Sort.ahead, Array.getElem?_modify, this]
end Go.Proofs.YtojnlpicgemlaabGreatDoor
