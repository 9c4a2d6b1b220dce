import Derived.Shelf.SlSortCmp.NoneTotal
import Derived.Ground.SlsfProg
import Derived.Test.YtfoahpideglghaaGreatDoorCm
import Derived.DeepKeys4
import Derived.Maps.OwnSet
namespace Go.Proofs
open Go.Shelf
def Tryz.sortEdge_ren : Go.Shelf.Ren := ⟨fun | 6 => 127 | 15 => 130 | 14 => 131 | 28 => 140 | 29 => 141 | 20 => 142 | 21 => 143 | 22 => 144 | 23 => 145 | 24 => 146 | 25 => 147 | 26 => 148 | 27 => 149 | 46 => 155 | 47 => 151 | 48 => 152 | 49 => 156 | 50 => 157 | 57 => 159 | n => n, fun | 22 => 23 | 24 => 59 | 25 => 119 | 3 => 3 | 39 => 120 | 0 => 0 | 53 => 137 | 55 => 99 | 4 => 4 | 46 => 131 | 45 => 130 | 50 => 114 | 5 => 5 | 9 => 9 | 66 => 143 | 70 => 147 | 76 => 151 | 77 => 91 | n => n, fun | n => n⟩
theorem Tryz.sortEdge : Go.Proofs.SlLaysF0.n6 Tryz.prog Tryz.sortEdge_ren := {
  mixed := by kernel_rfl
  f6 := ⟨Tryz.f127.name, by decide, Tryz.func127.trans (congrArg some (by kernel_rfl))⟩
  f14 := ⟨Tryz.f131.name, by decide, Tryz.func131.trans (congrArg some (by kernel_rfl))⟩
  f15 := Tryz.func130.trans (congrArg some (by kernel_rfl))
  f20 := ⟨Tryz.f142.name, by decide, Tryz.func142.trans (congrArg some (by kernel_rfl))⟩
  f21 := ⟨Tryz.f143.name, by decide, Tryz.func143.trans (congrArg some (by kernel_rfl))⟩
  f22 := ⟨Tryz.f144.name, by decide, Tryz.func144.trans (congrArg some (by kernel_rfl))⟩
  f23 := ⟨Tryz.f145.name, by decide, Tryz.func145.trans (congrArg some (by kernel_rfl))⟩
  f24 := ⟨Tryz.f146.name, by decide, Tryz.func146.trans (congrArg some (by kernel_rfl))⟩
  f25 := ⟨Tryz.f147.name, by decide, Tryz.func147.trans (congrArg some (by kernel_rfl))⟩
  f26 := ⟨Tryz.f148.name, by decide, Tryz.func148.trans (congrArg some (by kernel_rfl))⟩
  f27 := ⟨Tryz.f149.name, by decide, Tryz.func149.trans (congrArg some (by kernel_rfl))⟩
  f28 := Tryz.func140.trans (congrArg some (by kernel_rfl))
  f29 := Tryz.func141.trans (congrArg some (by kernel_rfl))
  f46 := ⟨Tryz.f155.name, by decide, Tryz.func155.trans (congrArg some (by kernel_rfl))⟩
  f47 := Tryz.func151.trans (congrArg some (by kernel_rfl))
  f48 := Tryz.func152.trans (congrArg some (by kernel_rfl))
  f49 := ⟨Tryz.f156.name, by decide, Tryz.func156.trans (congrArg some (by kernel_rfl))⟩
  f50 := ⟨Tryz.f157.name, by decide, Tryz.func157.trans (congrArg some (by kernel_rfl))⟩
  f57 := ⟨Tryz.f159.name, by decide, Tryz.func159.trans (congrArg some (by kernel_rfl))⟩
  t0 := Tryz.underlying0
  a0 := Tryz.isAgg0
  z0 := Tryz.sizeOf0
  v0 := Tryz.zeroValue0
  t3 := Tryz.underlying3
  a3 := Tryz.isAgg3
  z3 := Tryz.sizeOf3
  v3 := Tryz.zeroValue3
  t4 := Tryz.underlying4
  a4 := Tryz.isAgg4
  z4 := Tryz.sizeOf4
  v4 := Tryz.zeroValue4
  t5 := Tryz.underlying5
  a5 := Tryz.isAgg5
  z5 := Tryz.sizeOf5
  v5 := Tryz.zeroValue5
  t9 := Tryz.underlying9
  a9 := Tryz.isAgg9
  z9 := Tryz.sizeOf9
  v9 := Tryz.zeroValue9
  t22 := Tryz.underlying23
  a22 := Tryz.isAgg23
  z22 := Tryz.sizeOf23
  v22 := Tryz.zeroValue23
  t25 := Tryz.underlying119
  a25 := Tryz.isAgg119
  z25 := Tryz.sizeOf119
  v25 := Tryz.zeroValue119
  t39 := Tryz.underlying120
  a39 := Tryz.isAgg120
  z39 := Tryz.sizeOf120
  v39 := Tryz.zeroValue120
  t45 := Tryz.underlying130
  a45 := Tryz.isAgg130
  z45 := Tryz.sizeOf130
  v45 := Tryz.zeroValue130
  t46 := Tryz.underlying131
  a46 := Tryz.isAgg131
  z46 := Tryz.sizeOf131
  v46 := Tryz.zeroValue131
  t50 := Tryz.underlying114
  a50 := Tryz.isAgg114
  z50 := Tryz.sizeOf114
  v50 := Tryz.zeroValue114
  t53 := Tryz.underlying137
  a53 := Tryz.isAgg137
  z53 := Tryz.sizeOf137
  v53 := Tryz.zeroValue137
  t55 := Tryz.underlying99
  a55 := Tryz.isAgg99
  z55 := Tryz.sizeOf99
  v55 := Tryz.zeroValue99
  t66 := Tryz.underlying143
  a66 := Tryz.isAgg143
  z66 := Tryz.sizeOf143
  v66 := Tryz.zeroValue143
  t70 := Tryz.underlying147
  a70 := Tryz.isAgg147
  z70 := Tryz.sizeOf147
  v70 := Tryz.zeroValue147
  t76 := Tryz.underlying151
  a76 := Tryz.isAgg151
  z76 := Tryz.sizeOf151
  v76 := Tryz.zeroValue151
  t77 := Tryz.underlying91
  a77 := Tryz.isAgg91
  z77 := Tryz.sizeOf91
  v77 := Tryz.zeroValue91 }
end Go.Proofs
namespace Go.Proofs.YtfoahpideglghaaGreatDoor
open Go.RowKit Go.Maps Go.Shelf Go.Sort

/-! ### Edges sorted -/
/-- An edge's cells. -/
def encE (x : EdT) : List Value := [.int .i64 x.1, .int .i64 x.2.1, .int .i64 x.2.2]
def ltE (x y : EdT) : Bool := decide (x.1 < y.1 ∨ (x.1 = y.1 ∧ (x.2.1 < y.2.1 ∨ (x.2.1 = y.2.1 ∧ x.2.2 < y.2.2))))
theorem ltE_iff {x y : EdT} : ltE x y = true ↔ x.1 < y.1 ∨ (x.1 = y.1 ∧ (x.2.1 < y.2.1 ∨ (x.2.1 = y.2.1 ∧ x.2.2 < y.2.2))) := decide_eq_true_iff
theorem ltE_not {x y : EdT} : ltE x y = false ↔ ¬ (x.1 < y.1 ∨ (x.1 = y.1 ∧ (x.2.1 < y.2.1 ∨ (x.2.1 = y.2.1 ∧ x.2.2 < y.2.2)))) := decide_eq_false_iff_not
theorem cmp_pos (x y : Int) : (x < y ∧ Lib.compareInt x y = -1) ∨ (y < x ∧ Lib.compareInt x y = 1) ∨ (x = y ∧ Lib.compareInt x y = 0) := by
  unfold Lib.compareInt
  rcases Int.lt_trichotomy x y with h | h | h
  · exact .inl ⟨h, by simp [h]⟩
  · exact .inr (.inr ⟨h, by simp [h]⟩)
  · exact .inr (.inl ⟨h, by rw [if_neg (by omega), if_pos (by omega)]⟩)
theorem ltE_is : ltOf cmpE = ltE := by
  funext x y
  unfold ltOf cmpE ltE
  rcases cmp_pos x.1 y.1 with ⟨h1, e1⟩ | ⟨h1, e1⟩ | ⟨h1, e1⟩ <;> rcases cmp_pos x.2.1 y.2.1 with ⟨h2, e2⟩ | ⟨h2, e2⟩ | ⟨h2, e2⟩ <;> rcases cmp_pos x.2.2 y.2.2 with ⟨h3, e3⟩ | ⟨h3, e3⟩ | ⟨h3, e3⟩ <;> simp only [e1, e2, e3] <;> (repeat' split) <;> simp <;> omega
theorem swoE : SWO ltE where
  irrefl x := by rw [ltE_not]; omega
  trans x y z h1 h2 := by rw [ltE_iff] at *; omega
  ntrans x y z h1 h2 := by rw [ltE_not] at *; omega
theorem totE (x y : EdT) (h1 : ltE x y = false) (h2 : ltE y x = false) : x = y := by
  rw [ltE_not] at h1 h2
  exact Prod.ext (by omega) (Prod.ext (by omega) (by omega))
theorem encE_len (x : EdT) : (encE x).length = 3 := rfl
theorem flatE (L : List EdT) : (flatK encE 3 L.toArray).toList = L.flatMap encE := by
  have hz : (L.flatMap encE).length = L.length * 3 := by
    induction L with
    | nil => rfl
    | cons x L ih => rw [List.flatMap_cons, List.length_append, ih, encE_len, List.length_cons]; omega
  apply List.ext_getElem?
  intro t
  by_cases ht : t < L.length * 3
  · have h1 : t / 3 < L.length := by omega
    have h2 : t % 3 < 3 := by omega
    have e := flat_get encE 3 encE_len L (t / 3) (t % 3) h1 h2
    rw [show t / 3 * 3 + t % 3 = t by omega] at e
    rw [e, Array.getElem?_toList]
    have hs : t < (flatK encE 3 L.toArray).size := by simpa using ht
    have g := get_flatK encE 3 L.toArray t (by simpa using ht)
    rw [getElem!_pos _ t hs] at g
    rw [Array.getElem?_eq_getElem hs, g]
    have h3 : t % 3 < (encE L[t / 3]).length := by rw [encE_len]; exact h2
    have h4 : L.toArray[t / 3]! = L[t / 3] := by rw [getElem!_pos _ _ (by simpa using h1)]; simp
    rw [List.getElem?_eq_getElem h3, h4, getElem!_pos (encE L[t / 3]) (t % 3) h3]
  · rw [List.getElem?_eq_none (by rw [Array.length_toList, size_flatK]; simpa using ht), List.getElem?_eq_none (by omega)]
/-- A list of edges in order. -/
def sortE (L : List EdT) : List EdT := L.mergeSort fun x y => !ltE y x
theorem sortE_len (L : List EdT) : (sortE L).length = L.length := List.length_mergeSort _
theorem cmpLays (blk off size : Nat) (w : World) : CmpLays Tryz.prog 120 #[] encE 3 cmpE blk off size w := fun _ _ _ _ x y => (cmpE_any x y _).mono fun _ _ ⟨he, q, os, hw⟩ => ⟨he, q, os, hw⟩
theorem sortE_any (W : World) (B : Nat) (v : Value) (L : List EdT) (hv : W.ownsRow B 59 3 v L.length (L.flatMap encE)) (hl : L.length ≤ 4194304) :
    Calls Tryz.prog 127 #[v, .func (.func 120) #[] #[]] W fun e w' => e = .returned (.tuple #[]) ∧ w'.ownsRow B 59 3 v L.length ((sortE L).flatMap encE) ∧ Only W w' (fun k => v.ownBlock = some k) := by
  rcases hv.2 with ⟨rfl, h0⟩ | ⟨g, cap, cur, rfl, hB, hb, hn, hcap, hsz, hxs⟩
  · obtain rfl : L = [] := List.eq_nil_of_length_eq_zero h0
    refine (AnyF.slices_SortFunc_none Tryz.sortEdge none 0 (.func (.func 120) #[] #[]) W).mono ?_
    rintro e w' ⟨rfl, rfl⟩
    refine ⟨rfl, ?_, Only.ofBelow (Below.refl _ _)⟩
    rw [show sortE [] = [] by simp [sortE]]
    exact hv
  · have eg : ∀ args w, (callFunc 120 args).run Tryz.prog w = .ok (.enter 120 args) w := enters_of Tryz.func120 (by kernel_rfl) rfl
    have hg : g < W.heap.size := (Array.getElem?_eq_some_iff.1 hb).1
    have hH : HoldsK encE 3 W g 0 L.toArray := by
      intro j hj
      have hj2 : j < L.length * 3 := by simpa using hj
      refine ⟨?_, by simp [World.frozen?, hb]⟩
      have hfe : (flatK encE 3 L.toArray).toList[j]? = cur.toList[j]? := by rw [flatE, ← hxs, List.getElem?_take_of_lt hj2]
      have hs : j < (flatK encE 3 L.toArray).size := hj
      rw [Array.getElem?_toList, Array.getElem?_eq_getElem hs, Array.getElem?_toList] at hfe
      simp only [World.cell?, hb, Nat.zero_add]
      simp only [Option.isSome_none, Bool.false_eq_true, if_false, id]
      rw [← hfe, getElem!_pos (flatK encE 3 L.toArray) j hs]
    have hO : SWO (ltOf cmpE) := by rw [ltE_is]; exact swoE
    have H := AnyQ.slices_SortFunc_total Tryz.sortEdge 3 Tryz.isAgg59 Tryz.sizeOf59 encE encE_len (fun x v hv => by simp [encE] at hv; rcases hv with rfl | rfl | rfl <;> rfl) cmpE hO 120 #[] g 0 cap L.toArray W eg (cmpLays g 0 _ W) hH hg (by simp; omega) (by rw [ltE_is]; exact totE)
    rw [ltE_is] at H
    have e1 : L.toArray.size = L.length := by simp
    rw [e1] at H
    refine Calls.mono H ?_
    rintro e w' ⟨rfl, n, os, rfl⟩
    have hq : (sortWorldK encE 3 W g 0 n (sortE L).toArray os).heap[g]? = some (.cells (putCells id 0 (flatK encE 3 (sortE L).toArray) cur) 59 (0, 0)) := by
      unfold sortWorldK putRowK
      rw [heap_grow_old _ _ (by simpa using hg)]
      simp [putRow, mapBlock, Sort.ahead, Array.getElem?_modify, hb, onCells]
    have hfs : (flatK encE 3 (sortE L).toArray).size = L.length * 3 := by simp [sortE_len]
    refine ⟨rfl, ⟨?_, .inr ⟨g, cap, _, rfl, hB, hq, hn, hcap, by simp [putCells, hsz], ?_⟩⟩, ?_⟩
    · rw [← flatE, Array.length_toList, hfs]
    · rw [← flatE]
      apply List.ext_getElem?
      intro j
      by_cases hj : j < L.length * 3
      · have hj3 : j < cur.size := by rw [hsz]; have := Nat.mul_le_mul_right 3 hn; omega
        rw [List.getElem?_take_of_lt hj, Array.getElem?_toList, Array.getElem?_toList]
        simp [putCells, hj3, sortE_len, hj]
      · rw [List.getElem?_take_eq_none (by omega), List.getElem?_eq_none (by rw [Array.length_toList, hfs]; omega)]
    · refine ⟨rfl, rfl, rfl, by simp [sortWorldK, putRowK, putRow, mapBlock, Sort.ahead, grow], fun k hk hne => ?_⟩
      unfold sortWorldK putRowK
      rw [heap_grow_old _ _ (by simpa using hk)]
      have : g ≠ k := fun e => hne (by rw [e]; rfl)
      simp [putRow, mapBlock, Sort.ahead, Array.getElem?_modify, this]
end Go.Proofs.YtfoahpideglghaaGreatDoor
