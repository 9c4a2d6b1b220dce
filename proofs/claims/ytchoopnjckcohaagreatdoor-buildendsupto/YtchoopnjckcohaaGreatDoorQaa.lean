import Derived.Shelf.Small.Bits
import Derived.Shelf.Small.Wraps
import Derived.Shelf.Strconv.Itoa0
import Derived.Shelf.Slices.Turned
import Derived.Shelf.Slices.Equal
import Derived.Shelf.Slices.CompactI
import Derived.Shelf.Slices.SearchI
import Derived.Shelf.Slices.Cells
import Derived.Shelf.Slices.Empties2
import Derived.Shelf.SlicesE.Clone
import Derived.Shelf.SlSortCmp.Insertion
import Derived.Shelf.SlSortCmp.SiftDown1
import Derived.Shelf.SlSortCmp.HeapSort1
import Derived.Shelf.SlSortCmp.Insertion1
import Derived.Shelf.SlSortCmp.Median1
import Derived.Shelf.SlSortCmp.Pivot1
import Derived.Shelf.SlSortCmp.ReverseRange1
import Derived.Shelf.SlSortCmp.PartialInsertion1
import Derived.Shelf.SlSortCmp.PartitionEqual1
import Derived.Shelf.SlSortCmp.Partition1
import Derived.Shelf.SlSortCmp.Pdq1
import Derived.Shelf.SlSortCmp.Whole1
import Derived.Shelf.SlSortCmp.NoneTotal
import Derived.Ground.Names2Prog
import Derived.Ground.SlsfProg
import Derived.Test.YtchoopnjckcohaaGreatDoorProg
import Derived.WalkKit
import Derived.WalkSpells
import Derived.WalkLawsBesides
import Derived.Lib.TrailingZeros
import Derived.BigQuiet
import Derived.Deep.QuietTactic
namespace Go.Proofs
open Go.Shelf Go.RowKit Go.Lib Go.Sort
def Tryz.laysNm220_ren : Go.Shelf.Ren := ⟨fun | 20 => 149 | n => n, fun | 22 => 22 | 3 => 3 | 4 => 4 | 0 => 0 | n => n, fun | n => n⟩
theorem Tryz.laysNm220 : Go.Proofs.Lays2.n20 Tryz.prog Tryz.laysNm220_ren := {
  mixed := by kernel_rfl
  f20 := Tryz.func149.trans (congrArg some (by kernel_rfl))
  t0 := Tryz.underlying0
  a0 := Tryz.isAgg0
  z0 := Tryz.sizeOf0
  v0 := Tryz.zeroValue0
  t3 := Tryz.underlying3
  a3 := Tryz.isAgg3
  z3 := Tryz.sizeOf3
  v3 := Tryz.zeroValue3
  t4 := Tryz.underlying4
  a4 := Tryz.isAgg4
  z4 := Tryz.sizeOf4
  v4 := Tryz.zeroValue4
  t22 := Tryz.underlying22
  a22 := Tryz.isAgg22
  z22 := Tryz.sizeOf22
  v22 := Tryz.zeroValue22
  i3 := by kernel_rfl }
theorem Tryz.slices_Compact_int (blk off cap : Nat) (zs : List Int) (w : World) (hH : Holds (Value.int .i64) w blk off zs.toArray) (hsz : zs.length ≤ 9223372036854775807) (hcap : zs.length ≤ cap) :
    Calls Tryz.prog 149 #[.slice (some ⟨blk, off, none⟩) zs.length cap] w fun e w' => e = .returned (.slice (some ⟨blk, off, none⟩) (Lib.compact zs).length cap) ∧ ∃ q, w' = putRow (Value.int .i64) (Sort.ahead w q) blk off (Lib.compact zs ++ List.replicate (zs.length - (Lib.compact zs).length) 0).toArray := Any.slices_Compact_int Tryz.laysNm220 blk off cap zs w hH hsz hcap
theorem Tryz.slices_Compact_int_empty (a : Option Addr) (cap : Nat) (w : World) :
    Calls Tryz.prog 149 #[.slice a 0 cap] w fun e w' => e = .returned (.slice a 0 cap) ∧ w' = w := Any.slices_Compact_int_empty Tryz.laysNm220 a cap w
def Tryz.laysSlF6_f125_ren : Go.Shelf.Ren := ⟨fun | 6 => 157 | 15 => 162 | 14 => 168 | 28 => 179 | 29 => 180 | 20 => 181 | 21 => 182 | 22 => 183 | 23 => 184 | 24 => 185 | 25 => 186 | 26 => 187 | 27 => 188 | 46 => 202 | 47 => 198 | 48 => 199 | 49 => 203 | 50 => 204 | 57 => 209 | n => n, fun | 22 => 22 | 24 => 3 | 25 => 146 | 3 => 3 | 39 => 160 | 0 => 0 | 53 => 180 | 55 => 143 | 4 => 4 | 46 => 174 | 45 => 173 | 50 => 154 | 5 => 5 | 9 => 9 | 66 => 191 | 70 => 195 | 76 => 201 | 77 => 159 | n => n, fun | n => n⟩
theorem Tryz.laysSlF6_f125 : Go.Proofs.SlLaysF.n6 Tryz.prog Tryz.laysSlF6_f125_ren := {
  mixed := by kernel_rfl
  f6 := ⟨Tryz.f157.name, by decide, Tryz.func157.trans (congrArg some (by kernel_rfl))⟩
  f14 := ⟨Tryz.f168.name, by decide, Tryz.func168.trans (congrArg some (by kernel_rfl))⟩
  f15 := Tryz.func162.trans (congrArg some (by kernel_rfl))
  f20 := ⟨Tryz.f181.name, by decide, Tryz.func181.trans (congrArg some (by kernel_rfl))⟩
  f21 := ⟨Tryz.f182.name, by decide, Tryz.func182.trans (congrArg some (by kernel_rfl))⟩
  f22 := ⟨Tryz.f183.name, by decide, Tryz.func183.trans (congrArg some (by kernel_rfl))⟩
  f23 := ⟨Tryz.f184.name, by decide, Tryz.func184.trans (congrArg some (by kernel_rfl))⟩
  f24 := ⟨Tryz.f185.name, by decide, Tryz.func185.trans (congrArg some (by kernel_rfl))⟩
  f25 := ⟨Tryz.f186.name, by decide, Tryz.func186.trans (congrArg some (by kernel_rfl))⟩
  f26 := ⟨Tryz.f187.name, by decide, Tryz.func187.trans (congrArg some (by kernel_rfl))⟩
  f27 := ⟨Tryz.f188.name, by decide, Tryz.func188.trans (congrArg some (by kernel_rfl))⟩
  f28 := Tryz.func179.trans (congrArg some (by kernel_rfl))
  f29 := Tryz.func180.trans (congrArg some (by kernel_rfl))
  f46 := ⟨Tryz.f202.name, by decide, Tryz.func202.trans (congrArg some (by kernel_rfl))⟩
  f47 := Tryz.func198.trans (congrArg some (by kernel_rfl))
  f48 := Tryz.func199.trans (congrArg some (by kernel_rfl))
  f49 := ⟨Tryz.f203.name, by decide, Tryz.func203.trans (congrArg some (by kernel_rfl))⟩
  f50 := ⟨Tryz.f204.name, by decide, Tryz.func204.trans (congrArg some (by kernel_rfl))⟩
  f57 := ⟨Tryz.f209.name, by decide, Tryz.func209.trans (congrArg some (by kernel_rfl))⟩
  t0 := Tryz.underlying0
  a0 := Tryz.isAgg0
  z0 := Tryz.sizeOf0
  v0 := Tryz.zeroValue0
  t3 := Tryz.underlying3
  a3 := Tryz.isAgg3
  z3 := Tryz.sizeOf3
  v3 := Tryz.zeroValue3
  t4 := Tryz.underlying4
  a4 := Tryz.isAgg4
  z4 := Tryz.sizeOf4
  v4 := Tryz.zeroValue4
  t5 := Tryz.underlying5
  a5 := Tryz.isAgg5
  z5 := Tryz.sizeOf5
  v5 := Tryz.zeroValue5
  t9 := Tryz.underlying9
  a9 := Tryz.isAgg9
  z9 := Tryz.sizeOf9
  v9 := Tryz.zeroValue9
  t22 := Tryz.underlying22
  a22 := Tryz.isAgg22
  z22 := Tryz.sizeOf22
  v22 := Tryz.zeroValue22
  a24 := Tryz.isAgg3
  z24 := Tryz.sizeOf3
  t25 := Tryz.underlying146
  a25 := Tryz.isAgg146
  z25 := Tryz.sizeOf146
  v25 := Tryz.zeroValue146
  t39 := Tryz.underlying160
  a39 := Tryz.isAgg160
  z39 := Tryz.sizeOf160
  v39 := Tryz.zeroValue160
  t45 := Tryz.underlying173
  a45 := Tryz.isAgg173
  z45 := Tryz.sizeOf173
  v45 := Tryz.zeroValue173
  t46 := Tryz.underlying174
  a46 := Tryz.isAgg174
  z46 := Tryz.sizeOf174
  v46 := Tryz.zeroValue174
  t50 := Tryz.underlying154
  a50 := Tryz.isAgg154
  z50 := Tryz.sizeOf154
  v50 := Tryz.zeroValue154
  t53 := Tryz.underlying180
  a53 := Tryz.isAgg180
  z53 := Tryz.sizeOf180
  v53 := Tryz.zeroValue180
  t55 := Tryz.underlying143
  a55 := Tryz.isAgg143
  z55 := Tryz.sizeOf143
  v55 := Tryz.zeroValue143
  t66 := Tryz.underlying191
  a66 := Tryz.isAgg191
  z66 := Tryz.sizeOf191
  v66 := Tryz.zeroValue191
  t70 := Tryz.underlying195
  a70 := Tryz.isAgg195
  z70 := Tryz.sizeOf195
  v70 := Tryz.zeroValue195
  t76 := Tryz.underlying201
  a76 := Tryz.isAgg201
  z76 := Tryz.sizeOf201
  v76 := Tryz.zeroValue201
  t77 := Tryz.underlying159
  a77 := Tryz.isAgg159
  z77 := Tryz.sizeOf159
  v77 := Tryz.zeroValue159 }
def Tryz.laysSlF06_f125_ren : Go.Shelf.Ren := ⟨fun | 6 => 157 | 15 => 162 | 14 => 168 | 28 => 179 | 29 => 180 | 20 => 181 | 21 => 182 | 22 => 183 | 23 => 184 | 24 => 185 | 25 => 186 | 26 => 187 | 27 => 188 | 46 => 202 | 47 => 198 | 48 => 199 | 49 => 203 | 50 => 204 | 57 => 209 | n => n, fun | 22 => 22 | 24 => 3 | 25 => 146 | 3 => 3 | 39 => 160 | 0 => 0 | 53 => 180 | 55 => 143 | 4 => 4 | 46 => 174 | 45 => 173 | 50 => 154 | 5 => 5 | 9 => 9 | 66 => 191 | 70 => 195 | 76 => 201 | 77 => 159 | n => n, fun | n => n⟩
theorem Tryz.laysSlF06_f125 : Go.Proofs.SlLaysF0.n6 Tryz.prog Tryz.laysSlF06_f125_ren := {
  mixed := by kernel_rfl
  f6 := ⟨Tryz.f157.name, by decide, Tryz.func157.trans (congrArg some (by kernel_rfl))⟩
  f14 := ⟨Tryz.f168.name, by decide, Tryz.func168.trans (congrArg some (by kernel_rfl))⟩
  f15 := Tryz.func162.trans (congrArg some (by kernel_rfl))
  f20 := ⟨Tryz.f181.name, by decide, Tryz.func181.trans (congrArg some (by kernel_rfl))⟩
  f21 := ⟨Tryz.f182.name, by decide, Tryz.func182.trans (congrArg some (by kernel_rfl))⟩
  f22 := ⟨Tryz.f183.name, by decide, Tryz.func183.trans (congrArg some (by kernel_rfl))⟩
  f23 := ⟨Tryz.f184.name, by decide, Tryz.func184.trans (congrArg some (by kernel_rfl))⟩
  f24 := ⟨Tryz.f185.name, by decide, Tryz.func185.trans (congrArg some (by kernel_rfl))⟩
  f25 := ⟨Tryz.f186.name, by decide, Tryz.func186.trans (congrArg some (by kernel_rfl))⟩
  f26 := ⟨Tryz.f187.name, by decide, Tryz.func187.trans (congrArg some (by kernel_rfl))⟩
  f27 := ⟨Tryz.f188.name, by decide, Tryz.func188.trans (congrArg some (by kernel_rfl))⟩
  f28 := Tryz.func179.trans (congrArg some (by kernel_rfl))
  f29 := Tryz.func180.trans (congrArg some (by kernel_rfl))
  f46 := ⟨Tryz.f202.name, by decide, Tryz.func202.trans (congrArg some (by kernel_rfl))⟩
  f47 := Tryz.func198.trans (congrArg some (by kernel_rfl))
  f48 := Tryz.func199.trans (congrArg some (by kernel_rfl))
  f49 := ⟨Tryz.f203.name, by decide, Tryz.func203.trans (congrArg some (by kernel_rfl))⟩
  f50 := ⟨Tryz.f204.name, by decide, Tryz.func204.trans (congrArg some (by kernel_rfl))⟩
  f57 := ⟨Tryz.f209.name, by decide, Tryz.func209.trans (congrArg some (by kernel_rfl))⟩
  t0 := Tryz.underlying0
  a0 := Tryz.isAgg0
  z0 := Tryz.sizeOf0
  v0 := Tryz.zeroValue0
  t3 := Tryz.underlying3
  a3 := Tryz.isAgg3
  z3 := Tryz.sizeOf3
  v3 := Tryz.zeroValue3
  t4 := Tryz.underlying4
  a4 := Tryz.isAgg4
  z4 := Tryz.sizeOf4
  v4 := Tryz.zeroValue4
  t5 := Tryz.underlying5
  a5 := Tryz.isAgg5
  z5 := Tryz.sizeOf5
  v5 := Tryz.zeroValue5
  t9 := Tryz.underlying9
  a9 := Tryz.isAgg9
  z9 := Tryz.sizeOf9
  v9 := Tryz.zeroValue9
  t22 := Tryz.underlying22
  a22 := Tryz.isAgg22
  z22 := Tryz.sizeOf22
  v22 := Tryz.zeroValue22
  t25 := Tryz.underlying146
  a25 := Tryz.isAgg146
  z25 := Tryz.sizeOf146
  v25 := Tryz.zeroValue146
  t39 := Tryz.underlying160
  a39 := Tryz.isAgg160
  z39 := Tryz.sizeOf160
  v39 := Tryz.zeroValue160
  t45 := Tryz.underlying173
  a45 := Tryz.isAgg173
  z45 := Tryz.sizeOf173
  v45 := Tryz.zeroValue173
  t46 := Tryz.underlying174
  a46 := Tryz.isAgg174
  z46 := Tryz.sizeOf174
  v46 := Tryz.zeroValue174
  t50 := Tryz.underlying154
  a50 := Tryz.isAgg154
  z50 := Tryz.sizeOf154
  v50 := Tryz.zeroValue154
  t53 := Tryz.underlying180
  a53 := Tryz.isAgg180
  z53 := Tryz.sizeOf180
  v53 := Tryz.zeroValue180
  t55 := Tryz.underlying143
  a55 := Tryz.isAgg143
  z55 := Tryz.sizeOf143
  v55 := Tryz.zeroValue143
  t66 := Tryz.underlying191
  a66 := Tryz.isAgg191
  z66 := Tryz.sizeOf191
  v66 := Tryz.zeroValue191
  t70 := Tryz.underlying195
  a70 := Tryz.isAgg195
  z70 := Tryz.sizeOf195
  v70 := Tryz.zeroValue195
  t76 := Tryz.underlying201
  a76 := Tryz.isAgg201
  z76 := Tryz.sizeOf201
  v76 := Tryz.zeroValue201
  t77 := Tryz.underlying159
  a77 := Tryz.isAgg159
  z77 := Tryz.sizeOf159
  v77 := Tryz.zeroValue159 }
theorem Tryz.slices_SortFunc_none {α : Type} [Inhabited α] (p : Option Addr) (cap : Nat) (fv : Value) (w : World) :
    Calls Tryz.prog 157 #[.slice p 0 cap, fv] w fun e w' => e = .returned (.tuple #[]) ∧ w' = w := AnyF.slices_SortFunc_none Tryz.laysSlF06_f125 p cap fv w
theorem Tryz.slices_SortFunc_total {α : Type} [Inhabited α] (enc : α → Value) (h1 : OneCell enc) (cf : α → α → Int) (hO : SWO (ltOf cf)) (g : Nat) (cb : Array Value) (blk off cap : Nat) (d : Array α) (w : World) (eg : ∀ args w, (callFunc g args).run Tryz.prog w = .ok (.enter g args) w) (hcmp : CmpLays1 Tryz.prog g cb enc cf blk off d.size w) (hH : Holds enc w blk off d) (hblk : blk < w.heap.size) (hsz : d.size < 4611686018427387904) (hT : ∀ x y, (ltOf cf) x y = false → (ltOf cf) y x = false → x = y) :
    Calls Tryz.prog 157 #[.slice (some ⟨blk, off, none⟩) d.size cap, .func (.func g) #[] cb] w fun e w' =>
      e = .returned (.tuple #[]) ∧ ∃ n os, w' = sortWorld enc w blk off n (d.toList.mergeSort fun x y => !(ltOf cf) y x).toArray os := Any.slices_SortFunc_total Tryz.laysSlF6_f125 enc h1 cf hO g cb blk off cap d w eg hcmp hH hblk hsz hT
end Go.Proofs
namespace Go.Proofs.YtchoopnjckcohaaGreatDoor

/-- The numbers below n whose bit is set in X, rising. -/
def elems (n X : Nat) : List Nat := (List.range n).filter (fun i => X.testBit i)
def cnt (n X : Nat) : Nat := (elems n X).length

theorem testBit_mod_lt (X a i : Nat) (h : i < a) : (X % 2 ^ a).testBit i = X.testBit i := by
  rw [Nat.testBit_mod_two_pow]; simp [h]

theorem elems_add (a m X : Nat) : elems (a + m) X = elems a (X % 2 ^ a) ++ (elems m (X / 2 ^ a)).map (a + ·) := by
  unfold elems
  rw [List.range_add, List.filter_append, List.filter_map]
  congr 1
  · apply List.filter_congr
    intro i hi
    rw [testBit_mod_lt _ _ _ (List.mem_range.1 hi)]
  · congr 1
    apply List.filter_congr
    intro i _
    simp [Nat.testBit_div_two_pow, Nat.add_comm]

theorem cnt_add (a m X : Nat) : cnt (a + m) X = cnt a (X % 2 ^ a) + cnt m (X / 2 ^ a) := by
  simp [cnt, elems_add]

theorem cnt_le (n X : Nat) : cnt n X ≤ n := by
  unfold cnt elems
  have := List.length_filter_le (fun i => X.testBit i) (List.range n)
  simpa using this

theorem and_split (h l mh ml : Nat) (hl : l < 256) (hml : ml < 256) : (h * 256 + l) &&& (mh * 256 + ml) = (h &&& mh) * 256 + (l &&& ml) := by
  have hlt : l &&& ml < 256 := Nat.lt_of_le_of_lt Nat.and_le_left hl
  have e1 : ((h * 256 + l) &&& (mh * 256 + ml)) / 256 = h &&& mh := by
    have := Nat.and_div_two_pow (a := h * 256 + l) (b := mh * 256 + ml) (n := 8)
    simp only [show (2:Nat)^8 = 256 from rfl] at this
    rw [this, show (h * 256 + l) / 256 = h by omega, show (mh * 256 + ml) / 256 = mh by omega]
  have e2 : ((h * 256 + l) &&& (mh * 256 + ml)) % 256 = l &&& ml := by
    have := Nat.and_mod_two_pow (a := h * 256 + l) (b := mh * 256 + ml) (n := 8)
    simp only [show (2:Nat)^8 = 256 from rfl] at this
    rw [this, show (h * 256 + l) % 256 = l by omega, show (mh * 256 + ml) % 256 = ml by omega]
  omega

def M (c : Nat) : Nat → Nat
  | 0 => 0
  | k + 1 => M c k * 256 + c

def pA (k x : Nat) : Nat := (x / 2 &&& M 85 k) + (x &&& M 85 k)
def pB (k x : Nat) : Nat := (pA k x / 4 &&& M 51 k) + (pA k x &&& M 51 k)
def pC (k x : Nat) : Nat := (pB k x / 16 + pB k x) &&& M 15 k
def a1 (l : Nat) : Nat := (l / 2 &&& 85) + (l &&& 85)
def b1 (l : Nat) : Nat := (a1 l / 4 &&& 51) + (a1 l &&& 51)
def c1 (l : Nat) : Nat := (b1 l / 16 + b1 l) &&& 15

theorem a_fin : ∀ l < 256, (a1 l < 256 ∧ (128 + l / 2) &&& 85 = l / 2 &&& 85) := by decide +kernel
theorem b_fin : ∀ r < 4, ∀ l < 256, (b1 l ≤ 68 ∧ b1 l % 16 ≤ 4 ∧ (r * 64 + a1 l / 4) &&& 51 = a1 l / 4 &&& 51) := by decide +kernel
theorem c_fin : ∀ r < 5, ∀ l < 256, ((r * 16 + b1 l / 16 + b1 l) &&& 15 = c1 l ∧ c1 l = cnt 8 l) := by decide +kernel

theorem pA_step (k h l : Nat) (hl : l < 256) : pA (k + 1) (h * 256 + l) = pA k h * 256 + a1 l := by
  have f := (a_fin l hl)
  have hd : (h * 256 + l) / 2 = (h / 2) * 256 + (h % 2 * 128 + l / 2) := by omega
  unfold pA
  rw [M, hd, and_split _ _ _ _ (by omega) (by omega), and_split _ _ _ _ hl (by omega)]
  have e : (h % 2 * 128 + l / 2) &&& 85 = l / 2 &&& 85 := by
    rcases Nat.mod_two_eq_zero_or_one h with hh | hh <;> rw [hh]
    · simp
    · simpa using f.2
  rw [e]; unfold a1; omega

theorem pB_step (k h l : Nat) (hl : l < 256) : pB (k + 1) (h * 256 + l) = pB k h * 256 + b1 l := by
  have f := (a_fin l hl).1
  unfold pB
  rw [pA_step k h l hl, M]
  have hd : (pA k h * 256 + a1 l) / 4 = (pA k h / 4) * 256 + (pA k h % 4 * 64 + a1 l / 4) := by omega
  rw [hd, and_split _ _ _ _ (by omega) (by omega), and_split _ _ _ _ f (by omega), (b_fin (pA k h % 4) (by omega) l hl).2.2]
  unfold b1; omega

theorem pB_mod (k h : Nat) : pB k h % 16 ≤ 4 := by
  cases k with
  | zero => simp [pB, pA, M]
  | succ k =>
    have e : h = (h / 256) * 256 + h % 256 := by omega
    rw [e, pB_step k _ _ (by omega)]
    have := (b_fin 0 (by omega) (h % 256) (by omega)).2.1
    omega

theorem pC_step (k h l : Nat) (hl : l < 256) : pC (k + 1) (h * 256 + l) = pC k h * 256 + c1 l := by
  have f := (b_fin 0 (by omega) l hl).1
  have g := pB_mod k h
  unfold pC
  rw [pB_step k h l hl, M]
  have hd : (pB k h * 256 + b1 l) / 16 + (pB k h * 256 + b1 l) = (pB k h / 16 + pB k h) * 256 + (pB k h % 16 * 16 + b1 l / 16 + b1 l) := by omega
  rw [hd, and_split _ _ _ _ (by omega) (by omega), (c_fin (pB k h % 16) (by omega) l hl).1]

theorem pC_eq (k x : Nat) : pC (k + 1) x = pC k (x / 256) * 256 + cnt 8 (x % 256) := by
  have e : x = (x / 256) * 256 + x % 256 := by omega
  have h := pC_step k (x / 256) (x % 256) (by omega)
  rw [← e] at h
  rw [h, (c_fin 0 (by omega) (x % 256) (by omega)).2]

theorem pA_le (k x : Nat) : pA k x ≤ 2 * M 85 k := by
  unfold pA
  have := @Nat.and_le_right (x / 2) (M 85 k)
  have := @Nat.and_le_right x (M 85 k)
  omega
theorem pB_le (k x : Nat) : pB k x ≤ 2 * M 51 k := by
  unfold pB
  have := @Nat.and_le_right (pA k x / 4) (M 51 k)
  have := @Nat.and_le_right (pA k x) (M 51 k)
  omega
theorem pC_le (k x : Nat) : pC k x ≤ M 15 k := by
  unfold pC
  exact Nat.and_le_right
theorem M85 : M 85 8 = 6148914691236517205 := by decide +kernel
theorem M51 : M 51 8 = 3689348814741910323 := by decide +kernel
theorem M15 : M 15 8 = 1085102592571150095 := by decide +kernel

theorem pop_fin (e0 e1 e2 e3 e4 e5 e6 e7 x3 x4 x5 x6 : Nat) (h0 : e0 ≤ 8) (h1 : e1 ≤ 8) (h2 : e2 ≤ 8) (h3 : e3 ≤ 8) (h4 : e4 ≤ 8) (h5 : e5 ≤ 8) (h6 : e6 ≤ 8) (h7 : e7 ≤ 8)
    (k3 : x3 = (((((((e7 * 256 + e6) * 256 + e5) * 256 + e4) * 256 + e3) * 256 + e2) * 256 + e1) * 256 + e0)) (k4 : x4 = x3 + x3 / 256) (k5 : x5 = x4 + x4 / 65536) (k6 : x6 = x5 + x5 / 4294967296) :
    x6 % 128 = e0 + e1 + e2 + e3 + e4 + e5 + e6 + e7 := by
  have d3 : x3 / 256 = ((((((e7 * 256 + e6) * 256 + e5) * 256 + e4) * 256 + e3) * 256 + e2) * 256 + e1) := by omega
  have f4 : x4 = (((((((e7 * 256 + (e6 + e7)) * 256 + (e5 + e6)) * 256 + (e4 + e5)) * 256 + (e3 + e4)) * 256 + (e2 + e3)) * 256 + (e1 + e2)) * 256 + (e0 + e1)) := by omega
  have d4 : x4 / 65536 = (((((e7 * 256 + (e6 + e7)) * 256 + (e5 + e6)) * 256 + (e4 + e5)) * 256 + (e3 + e4)) * 256 + (e2 + e3)) := by clear k4 d3 k3; omega
  have f5 : ∃ m, x5 = m * 4294967296 + ((((e3 + e4 + e5 + e6) * 256 + (e2 + e3 + e4 + e5)) * 256 + (e1 + e2 + e3 + e4)) * 256 + (e0 + e1 + e2 + e3)) ∧ ∃ j, m = j * 256 + (e4 + e5 + e6 + e7) := by
    refine ⟨((e7 * 256 + (e6 + e7)) * 256 + (e5 + e6 + e7)) * 256 + (e4 + e5 + e6 + e7), ?_, ((e7 * 256 + (e6 + e7)) * 256 + (e5 + e6 + e7)), rfl⟩
    rw [k5, d4, f4]; clear k4 d3 k3 k5 f4 d4 k6; omega
  obtain ⟨m, hm, j, hj⟩ := f5
  have d5 : x5 / 4294967296 = m := by clear k4 d3 k3 k5 f4 d4 k6; omega
  rw [k6, d5, hm, hj]; clear k4 d3 k3 k5 f4 d4 k6 hm hj d5; omega

theorem pop_eq (x x4 x5 x6 : Nat) (hx : x < 18446744073709551616) (k4 : x4 = pC 8 x + pC 8 x / 256) (k5 : x5 = x4 + x4 / 65536) (k6 : x6 = x5 + x5 / 4294967296) : x6 % 128 = cnt 64 x := by
  have e := pop_fin (cnt 8 (x % 256)) (cnt 8 (x / 256 % 256)) (cnt 8 (x / 256 / 256 % 256)) (cnt 8 (x / 256 / 256 / 256 % 256)) (cnt 8 (x / 256 / 256 / 256 / 256 % 256)) (cnt 8 (x / 256 / 256 / 256 / 256 / 256 % 256)) (cnt 8 (x / 256 / 256 / 256 / 256 / 256 / 256 % 256)) (cnt 8 (x / 256 / 256 / 256 / 256 / 256 / 256 / 256 % 256)) (pC 8 x) x4 x5 x6
    (cnt_le _ _) (cnt_le _ _) (cnt_le _ _) (cnt_le _ _) (cnt_le _ _) (cnt_le _ _) (cnt_le _ _) (cnt_le _ _)
    (by rw [pC_eq 7, pC_eq 6, pC_eq 5, pC_eq 4, pC_eq 3, pC_eq 2, pC_eq 1, pC_eq 0]; simp [pC, M]) k4 k5 k6
  rw [e]
  have p8 : (2 : Nat) ^ 8 = 256 := rfl
  rw [show (64 : Nat) = 8 + 56 from rfl, cnt_add, show (56 : Nat) = 8 + 48 from rfl, cnt_add, show (48 : Nat) = 8 + 40 from rfl, cnt_add, show (40 : Nat) = 8 + 32 from rfl, cnt_add, show (32 : Nat) = 8 + 24 from rfl, cnt_add, show (24 : Nat) = 8 + 16 from rfl, cnt_add, show (16 : Nat) = 8 + 8 from rfl, cnt_add, p8]
  have : x / 256 / 256 / 256 / 256 / 256 / 256 / 256 % 256 = x / 256 / 256 / 256 / 256 / 256 / 256 / 256 := by omega
  rw [this]; omega
end Go.Proofs.YtchoopnjckcohaaGreatDoor
namespace Go.Proofs.YtchoopnjckcohaaGreatDoor
open Go.RowKit

theorem ret_int {k : IntKind} {a b : Int} (h : a = b) : Ending.returned (.int k a) = .returned (.int k b) := by rw [h]
theorem bit_wrap (k : Nat) (h : k < 64) : IntKind.u64.wrap (2 ^ k) = (2 ^ k : Nat) := by
  rw [IntKind.wrap_u64]
  have hl : (2:Nat)^k < 18446744073709551616 := by
    have : (2:Nat)^k < 2^64 := Nat.pow_lt_pow_right (by decide) h
    exact this
  have e : ((2:Int)^k) = ((2^k : Nat) : Int) := by simp
  rw [e]
  generalize (2:Nat)^k = z at hl
  omega
set_option maxHeartbeats 400000 in
theorem bit_any (i : Int) (w : World) (h0 : 0 ≤ i) (h1 : i ≤ 65535) :
    Calls Tryz.prog 154 #[.int .i64 i] w fun e w' => e = .returned (.int .u64 ((2 ^ (i % 64).toNat : Nat) : Int)) ∧ w' = w := by
  go_enter Tryz.func154, Tryz.ntmps154
  go_wp2
  go_ret
  exact ⟨ret_int (bit_wrap _ (by omega)), rfl⟩
set_option maxHeartbeats 400000 in
theorem inRange_any (b : Nat) (i n : Int) (w : World) (hc : w.cell? ⟨b, 0, none⟩ = some (.int .i64 n)) :
    Calls Tryz.prog 153 #[.pointer (some ⟨b, 0, none⟩), .int .i64 i] w fun e w' => e = .returned (.bool (decide (0 ≤ i ∧ i < n))) ∧ w' = w := by
  by_cases h : 0 ≤ i
  all_goals
    go_enter Tryz.func153, Tryz.ntmps153
    go_wp2
    go_ret
    exact ⟨by simp; omega, rfl⟩
/-- The table of math/bits in its variable. -/
def TabAt (w : World) : Prop := ∀ j, j < 64 → w.cell? ⟨0, j, none⟩ = some (.int .u8 (Lib.deBruijn64tab.getD j 0))
set_option maxHeartbeats 1000000 in
theorem tz_core (x k idx : Nat) (w : World) (hx0 : ((x : Int) == 0) = false)
    (key : IntKind.u64.wrap (bits BinOp.and IntKind.u64 (x : Int) (IntKind.u64.wrap (-(x : Int))) * 285870213051353865) / 288230376151711744 = (idx : Int))
    (hi : idx < 64) (hk : k < 64) (hcell : w.cell? ⟨0, idx, none⟩ = some (.int .u8 k)) :
    Calls Tryz.prog 143 #[.int .u64 x] w fun e w' => e = .returned (.int .i64 k) ∧ w' = w := by
  go_enter Tryz.func143, Tryz.ntmps143
  go_wp2_with (simp only [key])
  go_ret
  exact ⟨rfl, rfl⟩
theorem tz_key (x a : Nat) (hx : x < 18446744073709551616) (hx0 : x ≠ 0) (hlow : x &&& (18446744073709551616 - x) = a) :
    IntKind.u64.wrap (bits BinOp.and IntKind.u64 (x : Int) (IntKind.u64.wrap (-(x : Int))) * 285870213051353865) / 288230376151711744 = ((a * 285870213051353865 % 18446744073709551616 / 288230376151711744 : Nat) : Int) := by
  have e1 : IntKind.u64.wrap (-(x : Int)) = ((18446744073709551616 - x : Nat) : Int) := by rw [IntKind.wrap_u64]; omega
  rw [e1, bits_and_u64_nat x _ hx (by omega), hlow, IntKind.wrap_u64]
  omega
theorem tz_any (x : Nat) (hx : x < 18446744073709551616) (hx0 : x ≠ 0) (w : World) (hT : TabAt w) :
    Calls Tryz.prog 143 #[.int .u64 x] w fun e w' => e = .returned (.int .i64 (Lib.ctz 64 x)) ∧ w' = w := by
  obtain ⟨hlow, hk⟩ := Lib.lowest_bit 64 x hx0 hx
  obtain ⟨hi, htab⟩ := Lib.deBruijn64_at _ hk
  have hcell := hT _ hi
  rw [htab] at hcell
  exact tz_core x _ _ w (by simp; omega) (tz_key x _ hx hx0 hlow) hi hk hcell
set_option maxHeartbeats 400000 in
theorem ones_core (x x1 x2 x3 x4 x5 x6 r : Nat) (w : World)
    (k1 : IntKind.u64.wrap (bits BinOp.and IntKind.u64 ((x : Int) / 2) 6148914691236517205 + bits BinOp.and IntKind.u64 (x : Int) 6148914691236517205) = (x1 : Int))
    (k2 : IntKind.u64.wrap (bits BinOp.and IntKind.u64 ((x1 : Int) / 4) 3689348814741910323 + bits BinOp.and IntKind.u64 (x1 : Int) 3689348814741910323) = (x2 : Int))
    (k3 : bits BinOp.and IntKind.u64 (IntKind.u64.wrap ((x2 : Int) / 16 + (x2 : Int))) 1085102592571150095 = (x3 : Int))
    (k4 : IntKind.u64.wrap ((x3 : Int) + (x3 : Int) / 256) = (x4 : Int))
    (k5 : IntKind.u64.wrap ((x4 : Int) + (x4 : Int) / 65536) = (x5 : Int))
    (k6 : IntKind.u64.wrap ((x5 : Int) + (x5 : Int) / 4294967296) = (x6 : Int))
    (k7 : bits BinOp.and IntKind.i64 (wrap64 (x6 : Int)) 127 = (r : Int)) :
    Calls Tryz.prog 142 #[.int .u64 x] w fun e w' => e = .returned (.int .i64 r) ∧ w' = w := by
  go_enter Tryz.func142, Tryz.ntmps142
  go_wp2
  go_ret
  exact ⟨rfl, rfl⟩
theorem wrap64_small (x : Nat) (h : x < 9223372036854775808) : wrap64 (x : Int) = x := by
  unfold wrap64; omega
theorem and127 (x : Nat) (h : x < 9223372036854775808) : bits BinOp.and IntKind.i64 (x : Int) 127 = ((x % 128 : Nat) : Int) := by
  have h1 : (BitVec.ofInt 64 (x : Int)).toNat = x := by
    rw [BitVec.ofInt_natCast, BitVec.toNat_ofNat]; exact Nat.mod_eq_of_lt (by omega)
  have h2 : (BitVec.ofInt 64 (127 : Int)).toNat = 127 := by decide
  have h3 : x &&& 127 = x % 128 := Nat.and_two_pow_sub_one_eq_mod x 7
  show IntKind.i64.wrap ((BitVec.ofInt 64 (x : Int) &&& BitVec.ofInt 64 (127 : Int)).toNat : Int) = _
  rw [BitVec.toNat_and, h1, h2, h3]
  simp [IntKind.wrap, IntKind.bits, IntKind.signed]
  omega
theorem wrap_add_div (a d : Nat) (h : a + a / d < 18446744073709551616) : IntKind.u64.wrap ((a : Int) + (a : Int) / (d : Int)) = ((a + a / d : Nat) : Int) := by
  rw [IntKind.wrap_u64, ← Int.natCast_ediv, ← Int.natCast_add]
  generalize a + a / d = z at *
  omega
theorem ones_any (x : Nat) (w : World) (hx : x < 18446744073709551616) :
    Calls Tryz.prog 142 #[.int .u64 x] w fun e w' => e = .returned (.int .i64 (cnt 64 x)) ∧ w' = w := by
  have hA := pA_le 8 x
  have hB := pB_le 8 x
  have hC := pC_le 8 x
  rw [M85] at hA; rw [M51] at hB; rw [M15] at hC
  have hp := pop_eq x _ _ _ hx rfl rfl rfl
  have q1 : ((6148914691236517205 : Nat) : Int) = 6148914691236517205 := rfl
  have q2 : ((3689348814741910323 : Nat) : Int) = 3689348814741910323 := rfl
  have q3 : ((1085102592571150095 : Nat) : Int) = 1085102592571150095 := rfl
  have hBd : pB 8 x = (pA 8 x / 4 &&& 3689348814741910323) + (pA 8 x &&& 3689348814741910323) := by unfold pB; rw [M51]
  have hAd : pA 8 x = (x / 2 &&& 6148914691236517205) + (x &&& 6148914691236517205) := by unfold pA; rw [M85]
  have hCd : pC 8 x = (pB 8 x / 16 + pB 8 x) &&& 1085102592571150095 := by unfold pC; rw [M15]
  rw [← hp]
  generalize pA 8 x = A at *
  generalize pB 8 x = B at *
  generalize pC 8 x = C at *
  refine ones_core x A B C (C + C / 256) (C + C / 256 + (C + C / 256) / 65536) (C + C / 256 + (C + C / 256) / 65536 + (C + C / 256 + (C + C / 256) / 65536) / 4294967296) _ w ?_ ?_ ?_ ?_ ?_ ?_ ?_
  · rw [← q1, show ((x : Int) / 2) = ((x / 2 : Nat) : Int) by omega, bits_and_u64_nat _ _ (by omega) (by omega), bits_and_u64_nat _ _ hx (by omega), IntKind.wrap_u64]
    omega
  · rw [← q2, show ((A : Int) / 4) = ((A / 4 : Nat) : Int) by omega, bits_and_u64_nat _ _ (by omega) (by omega), bits_and_u64_nat _ _ (by omega) (by omega), IntKind.wrap_u64]
    omega
  · rw [IntKind.wrap_u64, ← q3, show ((B : Int) / 16 + B) % 18446744073709551616 = ((B / 16 + B : Nat) : Int) by omega, bits_and_u64_nat _ _ (by omega) (by omega)]
    omega
  · exact wrap_add_div C 256 (by clear hp hAd hBd hCd; omega)
  · exact wrap_add_div _ 65536 (by clear hp hAd hBd hCd; omega)
  · exact wrap_add_div _ 4294967296 (by clear hp hAd hBd hCd; omega)
  · rw [wrap64_small _ (by clear hp hAd hBd hCd; omega), and127 _ (by clear hp hAd hBd hCd; omega)]
end Go.Proofs.YtchoopnjckcohaaGreatDoor
namespace Go.Proofs.YtchoopnjckcohaaGreatDoor

def nw (n : Nat) : Nat := (n + 63) / 64
def wordAt (X k : Nat) : Nat := X / 2 ^ (64 * k) % 18446744073709551616

theorem wordAt_lt (X k : Nat) : wordAt X k < 18446744073709551616 := Nat.mod_lt _ (by decide)

theorem elems_mod (a X : Nat) : elems a (X % 2 ^ a) = elems a X := by
  unfold elems
  apply List.filter_congr
  intro i hi
  rw [testBit_mod_lt _ _ _ (List.mem_range.1 hi)]

theorem elems_word (X k : Nat) : elems 64 (wordAt X k) = elems 64 (X / 2 ^ (64 * k)) := by
  have := elems_mod 64 (X / 2 ^ (64 * k))
  exact this

theorem elems_succ (X k : Nat) : elems (64 * (k + 1)) X = elems (64 * k) X ++ (elems 64 (wordAt X k)).map (64 * k + ·) := by
  rw [show 64 * (k + 1) = 64 * k + 64 by omega, elems_add, elems_mod, elems_word]

theorem cnt_succ (X k : Nat) : cnt (64 * (k + 1)) X = cnt (64 * k) X + cnt 64 (wordAt X k) := by
  simp [cnt, elems_succ]

theorem elems_zero (n : Nat) : elems n 0 = [] := by simp [elems]

theorem elems_full (n m X : Nat) (hX : X < 2 ^ n) (h : n ≤ m) : elems m X = elems n X := by
  obtain ⟨d, rfl⟩ : ∃ d, m = n + d := ⟨m - n, by omega⟩
  rw [elems_add, elems_mod, Nat.div_eq_of_lt hX, elems_zero]
  simp

theorem cnt_full (n X : Nat) (hX : X < 2 ^ n) : cnt (64 * nw n) X = cnt n X := by
  unfold cnt
  rw [elems_full n _ X hX (by unfold nw; omega)]

/-- The least set bit. -/
theorem ctz_spec (x : Nat) (h0 : x ≠ 0) (hx : x < 18446744073709551616) : ∃ m, x = 2 ^ Lib.ctz 64 x * (2 * m + 1) ∧ Lib.ctz 64 x < 64 := by
  unfold Lib.ctz
  rw [if_neg h0]
  exact Lib.ctzFrom_spec 64 x (by omega) hx

theorem testBit_odd (c m i : Nat) : (2 ^ c * (2 * m + 1)).testBit i = (decide (i = c) || (decide (c < i) && m.testBit (i - c - 1))) := by
  rw [Nat.mul_comm, Nat.testBit_mul_two_pow]
  by_cases h : i = c
  · subst h; simp [Nat.testBit_zero]
  · by_cases h2 : c < i
    · obtain ⟨j, rfl⟩ : ∃ j, i = c + (j + 1) := ⟨i - c - 1, by omega⟩
      have e1 : c + (j + 1) - c = j + 1 := by omega
      have e2 : c + (j + 1) - c - 1 = j := by omega
      rw [e2, e1, Nat.testBit_succ, show (2 * m + 1) / 2 = m by omega]
      simp
    · have : ¬ c ≤ i := by omega
      simp [h, h2, this]

theorem and_pred (c m : Nat) : (2 ^ c * (2 * m + 1)) &&& (2 ^ c * (2 * m + 1) - 1) = 2 ^ (c + 1) * m := by
  apply Nat.eq_of_testBit_eq
  intro i
  have hp : 0 < 2 ^ c := Nat.two_pow_pos c
  have e : 2 ^ c * (2 * m + 1) - 1 = 2 ^ c * (2 * m) + (2 ^ c - 1) := by
    rw [Nat.mul_add]; omega
  rw [Nat.testBit_and, testBit_odd, e, Nat.testBit_two_pow_mul_add _ (by omega), Nat.mul_comm (2 ^ (c + 1)), Nat.testBit_mul_two_pow]
  by_cases h : i < c
  · have h1 : ¬ i = c := by omega
    have h2 : ¬ c < i := by omega
    have h3 : ¬ c + 1 ≤ i := by omega
    simp [h1, h2, h3]
  · rw [if_neg h]
    by_cases h1 : i = c
    · subst h1
      have : ¬ (i + 1 ≤ i) := by omega
      simp [Nat.testBit_zero, this]
    · obtain ⟨j, rfl⟩ : ∃ j, i = c + (j + 1) := ⟨i - c - 1, by omega⟩
      have e1 : c + (j + 1) - c = j + 1 := by omega
      have e2 : c + (j + 1) - c - 1 = j := by omega
      have e3 : c + (j + 1) - (c + 1) = j := by omega
      have e4 : c + 1 ≤ c + (j + 1) := by omega
      rw [e2, e1, e3, Nat.testBit_succ, show (2 * m) / 2 = m by omega]
      simp [e4]

theorem elems_step (x : Nat) (h0 : x ≠ 0) (hx : x < 18446744073709551616) : elems 64 x = Lib.ctz 64 x :: elems 64 (x &&& (x - 1)) := by
  obtain ⟨m, hm, hc⟩ := ctz_spec x h0 hx
  generalize Lib.ctz 64 x = c at *
  subst hm
  rw [and_pred]
  have hr : List.range 64 = List.range c ++ (c :: (List.range (63 - c)).map (c + 1 + ·)) := by
    rw [show (64 : Nat) = c + (1 + (63 - c)) by omega, List.range_add]
    congr 1
    rw [List.range_add]
    have e : c + (1 + (63 - c)) - (1 + (63 - c)) = c := by omega
    simp [Function.comp_def, Nat.add_assoc]
  have p1 : (List.range c).filter (fun i => (2 ^ c * (2 * m + 1)).testBit i) = [] := by
    rw [List.filter_eq_nil_iff]
    intro i hi
    have := List.mem_range.1 hi
    rw [testBit_odd]
    simp; omega
  have p2 : (List.range c).filter (fun i => (2 ^ (c + 1) * m).testBit i) = [] := by
    rw [List.filter_eq_nil_iff]
    intro i hi
    have := List.mem_range.1 hi
    rw [Nat.mul_comm, Nat.testBit_mul_two_pow]
    simp; omega
  unfold elems
  rw [hr, List.filter_append, List.filter_append, p1, p2, List.filter_cons, List.filter_cons]
  have b1 : (2 ^ c * (2 * m + 1)).testBit c = true := by rw [testBit_odd]; simp
  have b2 : (2 ^ (c + 1) * m).testBit c = false := by rw [Nat.mul_comm, Nat.testBit_mul_two_pow]; simp; omega
  rw [b1, b2]
  simp only [List.nil_append, if_true, Bool.false_eq_true, if_false]
  congr 1
  apply List.filter_congr
  intro i hi
  obtain ⟨j, _, rfl⟩ := List.mem_map.1 hi
  rw [testBit_odd, Nat.mul_comm, Nat.testBit_mul_two_pow]
  have e3 : c + 1 + j - c - 1 = j := by omega
  have e4 : c + 1 + j - (c + 1) = j := by omega
  rw [e3, e4]
  have h5 : ¬ (c + 1 + j = c) := by omega
  have h6 : c < c + 1 + j := by omega
  have h7 : c + 1 ≤ c + 1 + j := by omega
  simp [h5, h6, h7]

theorem and_pred_lt (x : Nat) (h0 : x ≠ 0) : x &&& (x - 1) < x := Nat.lt_of_le_of_lt Nat.and_le_right (by omega)
end Go.Proofs.YtchoopnjckcohaaGreatDoor
namespace Go.Proofs.YtchoopnjckcohaaGreatDoor
open Go.RowKit

def wordVals (n X : Nat) : List Value := (List.range (nw n)).map fun k => .int .u64 (wordAt X k)

theorem wordVals_length (n X : Nat) : (wordVals n X).length = nw n := by simp [wordVals]
theorem wordVals_get (n X k : Nat) (h : k < nw n) : (wordVals n X)[k]? = some (.int .u64 (wordAt X k)) := by
  simp [wordVals, h]

/-- A set of the program: its struct is block b, its words begin block g. -/
structure IsSet (w : World) (b g cap n X : Nat) : Prop where
  hn : n ≤ 8192
  hX : X < 2 ^ n
  blk : w.heap[b]? = some (.cells #[.int .i64 n, .slice (some ⟨g, 0, none⟩) (nw n) cap] 120 (0, 0))
  own : w.ownsRow 0 143 1 (.slice (some ⟨g, 0, none⟩) (nw n) cap) (nw n) (wordVals n X)

theorem IsSet.c0 {w : World} {b g cap n X : Nat} (h : IsSet w b g cap n X) : w.cell? ⟨b, 0, none⟩ = some (.int .i64 n) := by
  rw [cell_of_row w b 0 _ 120 (0, 0) h.blk]; rfl
theorem IsSet.c1 {w : World} {b g cap n X : Nat} (h : IsSet w b g cap n X) : w.cell? ⟨b, 1, none⟩ = some (.slice (some ⟨g, 0, none⟩) (nw n) cap) := by
  rw [cell_of_row w b 1 _ 120 (0, 0) h.blk]; rfl
theorem IsSet.word {w : World} {b g cap n X : Nat} (h : IsSet w b g cap n X) (k : Nat) (hk : k < nw n) : w.cell? ⟨g, k, none⟩ = some (.int .u64 (wordAt X k)) := by
  have := h.own.cells (g := g) rfl k _ (wordVals_get n X k hk)
  rw [Addr.add_lit] at this
  simpa using this
theorem nw_le {n : Nat} (h : n ≤ 8192) : nw n ≤ 128 := by unfold nw; omega

theorem cell_lt {w : World} {k : Nat} {o : Obj} (h : w.heap[k]? = some o) : k < w.heap.size := (Array.getElem?_eq_some_iff.1 h).1
theorem IsSet.blt {w : World} {b g cap n X : Nat} (h : IsSet w b g cap n X) : b < w.heap.size := cell_lt h.blk
theorem IsSet.glt {w : World} {b g cap n X : Nat} (h : IsSet w b g cap n X) : g < w.heap.size := (h.own.lt g rfl).2

theorem IsSet.below {w w' : World} {b g cap n X : Nat} (h : IsSet w b g cap n X) (hb : Below w.heap.size w w') : IsSet w' b g cap n X := by
  refine ⟨h.hn, h.hX, ?_, ?_⟩
  · rw [hb.block b h.blt]; exact h.blk
  · exact h.own.kept (row := none) ⟨hb.os, hb.tape, hb.output, hb.size, fun k hk _ => hb.block k hk⟩ (.inr (by simp [Value.ownBlock]))

set_option maxHeartbeats 400000 in
theorem count_any (b g cap n X : Nat) (w : World) (hs : IsSet w b g cap n X) :
    Calls Tryz.prog 116 #[.pointer (some ⟨b, 0, none⟩)] w fun e w' => e = .returned (.int .i64 (cnt n X)) ∧ w' = w := by
  have h1 := hs.c1
  have hnw := nw_le hs.hn
  have hfull := cnt_full n X hs.hX
  have HF : Hid (cnt (64 * nw n) X = cnt n X) := hfull
  have hword := hs.word
  clear hfull hs
  generalize nw n = m at *
  go_enter Tryz.func116, Tryz.ntmps116
  go_wp2
  go_loop [3, 11] (fun c i => ∃ k : Nat, k ≤ m ∧ i = .int .i64 k ∧ c = .int .i64 (cnt (64 * k) X)) (fun _ i => m - (intOf i).toNat)
  case atStart => exact ⟨0, Nat.zero_le _, rfl, rfl⟩
  case round =>
    obtain ⟨k, hk, rfl, rfl⟩ := hrel
    by_cases hlt : k < m
    · have hw := hword k hlt
      have hc1 := cnt_le (64 * k) X
      have hc2 := cnt_le 64 (wordAt X k)
      have HS : Hid (cnt (64 * (k + 1)) X = cnt (64 * k) X + cnt 64 (wordAt X k)) := cnt_succ X k
      have hlw := wordAt_lt X k
      clear hword
      go_wp2_with (go_at_call 142; refine (ones_any _ _ hlw).mono ?_; rintro e w' ⟨rfl, rfl⟩)
      go_round
      case rel => exact ⟨k + 1, by omega, by go_num, by rw [HS.out]; go_num⟩
      case measure => simp [intOf]; omega
    · clear hword
      go_wp2
      go_ret
      have : k = m := by omega
      subst this
      exact ⟨ret_int (by rw [← HF.out]), rfl⟩
end Go.Proofs.YtchoopnjckcohaaGreatDoor
namespace Go.Proofs.YtchoopnjckcohaaGreatDoor
open Go.RowKit

set_option maxRecDepth 100000 in
theorem inRange_yes (b : Nat) (i n : Int) (w : World) (hc : w.cell? ⟨b, 0, none⟩ = some (.int .i64 n)) (hi : 0 ≤ i ∧ i < n) :
    Calls Tryz.prog 153 #[.pointer (some ⟨b, 0, none⟩), .int .i64 i] w fun e w' => e = .returned (.bool true) ∧ w' = w := by
  have := inRange_any b i n w hc
  rwa [decide_eq_true hi] at this

/-- Has of whatever number. -/
def hasB (X : Nat) (i : Int) : Bool := decide (0 ≤ i) && X.testBit i.toNat

theorem ownsRow_base {w : World} {base base' : Nat} {e : TypeId} {size : Nat} {v : Value} {n : Nat} {xs : List Value} (h : w.ownsRow base e size v n xs) (hb : base' ≤ base) : w.ownsRow base' e size v n xs := by
  refine ⟨h.1, ?_⟩
  rcases h.2 with h2 | ⟨g, cap, cur, hv, hg, r⟩
  · exact .inl h2
  · exact .inr ⟨g, cap, cur, hv, by omega, r⟩
theorem wordVals_zero (n : Nat) : wordVals n 0 = List.replicate (nw n) (.int .u64 0) := by
  unfold wordVals wordAt
  apply List.ext_getElem?
  intro i
  by_cases h : i < nw n <;> simp [h]

set_option maxRecDepth 100000 in
theorem info67 : (Tryz.prog.info? 143).map (fun i => (i.zero, i.size, i.bytes)) = some (some (.int .u64 0), 1, 8) := by kernel_rfl

set_option maxRecDepth 100000 in
set_option maxHeartbeats 400000 in
theorem new_ok (n : Nat) (w : World) (h : n ≤ 8192) :
    Calls Tryz.prog 137 #[.int .i64 n] w fun e w' => ∃ b g cap, e = .returned (.tuple #[.pointer (some ⟨b, 0, none⟩), .int .i64 0]) ∧ IsSet w' b g cap n 0 ∧ w.heap.size ≤ b ∧ w.heap.size ≤ g ∧ b ≠ g ∧ Below w.heap.size w w' := by
  obtain ⟨i0, hi, hz0, hz1, hz2⟩ := info_parts info67
  go_enter Tryz.func137, Tryz.ntmps137
  go_wp2_with (at_make; refine wpList_make_full _ rfl _ _ 118 rfl w.heap.size 143 i0 (.int .u64 0) 1 Tryz.underlying118 hi hz0 hz1 _ _ _ _ (nw n) rfl rfl ?_ ?_ ?_ ?_ ?_ ?_)
  · unfold nw; omega
  · unfold nw; omega
  · rw [hz2]; unfold nw; omega
  · unfold nw maxLen; omega
  · exact Nat.le_refl _
  · intro w1 hown hgrow
    go_wp2
    go_ret2
    have hg : w.heap.size < w1.heap.size := (hown.lt _ rfl).2
    rw [toList_madeCells_one, ← wordVals_zero] at hown
    have hA := hown.alloc (.cells #[.int .i64 n, .slice (some ⟨w.heap.size, 0, none⟩) (nw n) (nw n)] 120)
    refine ⟨w1.heap.size, w.heap.size, nw n, rfl, ⟨h, Nat.two_pow_pos n, heap_alloc_new _ _, ownsRow_base hA (Nat.zero_le _)⟩, by omega, Nat.le_refl _, by omega, ?_⟩
    exact ((Below.refl _ _).grown hgrow (Nat.le_refl _) (by intro k hk; cases hk)).alloc (by omega) _
end Go.Proofs.YtchoopnjckcohaaGreatDoor
namespace Go.Proofs.YtchoopnjckcohaaGreatDoor

theorem wordAt_testBit (X k t : Nat) : (wordAt X k).testBit t = (decide (t < 64) && X.testBit (64 * k + t)) := by
  have e : wordAt X k = X / 2 ^ (64 * k) % 2 ^ 64 := rfl
  rw [e, Nat.testBit_mod_two_pow, Nat.testBit_div_two_pow, Nat.add_comm]

end Go.Proofs.YtchoopnjckcohaaGreatDoor
namespace Go.Proofs.YtchoopnjckcohaaGreatDoor
open Go.RowKit

theorem drewN_cell (w : World) (q : Nat) (a : Addr) : (w.drewN q).cell? a = w.cell? a := rfl
theorem TabAt.drewN {w : World} (h : TabAt w) (q : Nat) : TabAt (w.drewN q) := fun j hj => (drewN_cell w q _).trans (h j hj)

end Go.Proofs.YtchoopnjckcohaaGreatDoor
