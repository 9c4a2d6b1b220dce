import Derived.Test.YtchoopnjckcohaaGreatQab
import Derived.Shelf.Sort.Plain
import Derived.Shelf.Slices.Clone
import Derived.Shelf.Slices.In.SortNone
import Derived.Laws.IdiomStrings
import Derived.Laws.AppendOwnNone
import Derived.Deep.RegionLaw
namespace Go.Proofs
open Go.Shelf Go.RowKit Go.Lib Go.Sort
def Tryz.lays189_ren : Go.Shelf.Ren := ⟨fun | 189 => 86 | 125 => 94 | 257 => 93 | 128 => 108 | 129 => 109 | 294 => 99 | 295 => 100 | 296 => 101 | 297 => 102 | 298 => 103 | 299 => 104 | 216 => 105 | 300 => 106 | 301 => 107 | 328 => 112 | 329 => 113 | 330 => 114 | 331 => 115 | 332 => 116 | 215 => 96 | 343 => 133 | n => n, fun | 28 => 22 | 3 => 3 | 46 => 116 | 0 => 0 | 51 => 127 | 53 => 129 | 4 => 4 | 183 => 121 | 182 => 120 | 131 => 105 | 5 => 5 | 9 => 9 | 218 => 132 | 222 => 136 | 228 => 148 | 229 => 149 | n => n, fun | n => n⟩
theorem Tryz.lays189 : Go.Proofs.Lays.n189 Tryz.prog Tryz.lays189_ren := {
  mixed := by kernel_rfl
  f125 := Tryz.func94.trans (congrArg some (by kernel_rfl))
  f128 := Tryz.func108.trans (congrArg some (by kernel_rfl))
  f129 := Tryz.func109.trans (congrArg some (by kernel_rfl))
  f189 := Tryz.func86.trans (congrArg some (by kernel_rfl))
  f215 := Tryz.func96.trans (congrArg some (by kernel_rfl))
  f216 := Tryz.func105.trans (congrArg some (by kernel_rfl))
  f257 := Tryz.func93.trans (congrArg some (by kernel_rfl))
  f294 := Tryz.func99.trans (congrArg some (by kernel_rfl))
  f295 := Tryz.func100.trans (congrArg some (by kernel_rfl))
  f296 := Tryz.func101.trans (congrArg some (by kernel_rfl))
  f297 := Tryz.func102.trans (congrArg some (by kernel_rfl))
  f298 := Tryz.func103.trans (congrArg some (by kernel_rfl))
  f299 := Tryz.func104.trans (congrArg some (by kernel_rfl))
  f300 := Tryz.func106.trans (congrArg some (by kernel_rfl))
  f301 := Tryz.func107.trans (congrArg some (by kernel_rfl))
  f328 := Tryz.func112.trans (congrArg some (by kernel_rfl))
  f329 := Tryz.func113.trans (congrArg some (by kernel_rfl))
  f330 := Tryz.func114.trans (congrArg some (by kernel_rfl))
  f331 := Tryz.func115.trans (congrArg some (by kernel_rfl))
  f332 := Tryz.func116.trans (congrArg some (by kernel_rfl))
  f343 := Tryz.func133.trans (congrArg some (by kernel_rfl))
  t0 := Tryz.underlying0
  a0 := Tryz.isAgg0
  z0 := Tryz.sizeOf0
  v0 := Tryz.zeroValue0
  t3 := Tryz.underlying3
  a3 := Tryz.isAgg3
  z3 := Tryz.sizeOf3
  v3 := Tryz.zeroValue3
  t4 := Tryz.underlying4
  a4 := Tryz.isAgg4
  z4 := Tryz.sizeOf4
  v4 := Tryz.zeroValue4
  t5 := Tryz.underlying5
  a5 := Tryz.isAgg5
  z5 := Tryz.sizeOf5
  v5 := Tryz.zeroValue5
  t9 := Tryz.underlying9
  a9 := Tryz.isAgg9
  z9 := Tryz.sizeOf9
  v9 := Tryz.zeroValue9
  t28 := Tryz.underlying22
  a28 := Tryz.isAgg22
  z28 := Tryz.sizeOf22
  v28 := Tryz.zeroValue22
  t46 := Tryz.underlying116
  a46 := Tryz.isAgg116
  z46 := Tryz.sizeOf116
  v46 := Tryz.zeroValue116
  t51 := Tryz.underlying127
  a51 := Tryz.isAgg127
  z51 := Tryz.sizeOf127
  v51 := Tryz.zeroValue127
  t53 := Tryz.underlying129
  a53 := Tryz.isAgg129
  z53 := Tryz.sizeOf129
  v53 := Tryz.zeroValue129
  t131 := Tryz.underlying105
  a131 := Tryz.isAgg105
  z131 := Tryz.sizeOf105
  v131 := Tryz.zeroValue105
  t182 := Tryz.underlying120
  a182 := Tryz.isAgg120
  z182 := Tryz.sizeOf120
  v182 := Tryz.zeroValue120
  t183 := Tryz.underlying121
  a183 := Tryz.isAgg121
  z183 := Tryz.sizeOf121
  v183 := Tryz.zeroValue121
  t218 := Tryz.underlying132
  a218 := Tryz.isAgg132
  z218 := Tryz.sizeOf132
  v218 := Tryz.zeroValue132
  t222 := Tryz.underlying136
  a222 := Tryz.isAgg136
  z222 := Tryz.sizeOf136
  v222 := Tryz.zeroValue136
  t228 := Tryz.underlying148
  a228 := Tryz.isAgg148
  z228 := Tryz.sizeOf148
  v228 := Tryz.zeroValue148
  t229 := Tryz.underlying149
  a229 := Tryz.isAgg149
  z229 := Tryz.sizeOf149
  v229 := Tryz.zeroValue149 }
open Go.Sort Go.RowKit in
theorem Tryz.slices_Sort_int (blk off cap : Nat) (zs : List Int) (w : World) (hH : Holds (Value.int .i64) w blk off zs.toArray) (hblk : blk < w.heap.size) (hsz : zs.length < 4611686018427387904) :
    Calls Tryz.prog 86 #[.slice (some ⟨blk, off, none⟩) zs.length cap] w fun e w' =>
      e = .returned (.tuple #[]) ∧ ∃ n os, w' = grow (putRow (Value.int .i64) (Sort.ahead w n) blk off (zs.mergeSort fun x y => decide (x ≤ y)).toArray) os := Any.slices_Sort_int Tryz.lays189 blk off cap zs w hH hblk hsz
def Tryz.laysNm215_ren : Go.Shelf.Ren := ⟨fun | 15 => 73 | n => n, fun | 22 => 22 | 3 => 3 | 4 => 4 | n => n, fun | n => n⟩
theorem Tryz.laysNm215 : Go.Proofs.Lays2.n15 Tryz.prog Tryz.laysNm215_ren := {
  mixed := by kernel_rfl
  f15 := Tryz.func73.trans (congrArg some (by kernel_rfl))
  t3 := Tryz.underlying3
  a3 := Tryz.isAgg3
  z3 := Tryz.sizeOf3
  v3 := Tryz.zeroValue3
  t4 := Tryz.underlying4
  a4 := Tryz.isAgg4
  z4 := Tryz.sizeOf4
  v4 := Tryz.zeroValue4
  t22 := Tryz.underlying22
  a22 := Tryz.isAgg22
  z22 := Tryz.sizeOf22
  v22 := Tryz.zeroValue22
  i3 := by kernel_rfl }
theorem Tryz.slices_Clone_int (b off n c : Nat) (zs : List Int) (w : World) (hz : n ≤ zs.length) (hbig : n * 8 ≤ 140737488355328) (hc : ∀ j, j < zs.length → w.cell? ⟨b, off + j, none⟩ = some (.int .i64 (zs.getD j 0))) :
    Calls Tryz.prog 73 #[.slice (some ⟨b, off, none⟩) n c] w fun e w' => ∃ v', e = .returned v' ∧ w'.ownsRow w.heap.size 3 1 v' n ((zs.take n).map (Value.int .i64)) ∧ v' ≠ .slice none 0 0 ∧ Below w.heap.size w w' := Any.slices_Clone_int Tryz.laysNm215 b off n c zs w hz hbig hc
theorem Tryz.slices_Clone_int_nil (n c : Nat) (w : World) :
    Calls Tryz.prog 73 #[.slice none n c] w fun e w' => e = .returned (.slice none 0 0) ∧ w' = w := Any.slices_Clone_int_nil Tryz.laysNm215 n c w
theorem Tryz.slices_Clone_int_zero (a : Addr) (c : Nat) (w : World) :
    Calls Tryz.prog 73 #[.slice (some a) 0 c] w fun e w' => ∃ v', e = .returned v' ∧ w'.ownsRow w.heap.size 3 1 v' 0 [] ∧ v' ≠ .slice none 0 0 ∧ Below w.heap.size w w' := Any.slices_Clone_int_zero Tryz.laysNm215 a c w
theorem Tryz.slices_Sort_int_none (p : Option Addr) (cap : Nat) (w : World) :
    Calls Tryz.prog 86 #[.slice p 0 cap] w fun e w' => e = .returned (.tuple #[]) ∧ w' = w := Any.slices_Sort_int_none Tryz.lays189 p cap w
end Go.Proofs
namespace Go.Proofs.YtchoopnjckcohaaGreat
open Go.RowKit Go.Maps Go.Sort Go.Proofs
theorem sort_own (W : World) (B n : Nat) (v : Value) (L : List Int) (hn : n = L.length) (hv : W.ownsRow B 3 1 v n (L.map (Value.int .i64))) (hl : n ≤ 4194304) :
    Calls Tryz.prog 86 #[v] W fun e w' => e = .returned (.tuple #[]) ∧ w'.ownsRow B 3 1 v n ((sortI L).map (Value.int .i64)) ∧ W.grownBy w' v.ownBlock := by
  rcases hv.2 with ⟨ev, e0⟩ | ⟨g, cap, cur, rfl, hB, hb, h1, h2, h3, h4⟩
  · subst ev e0
    obtain rfl : L = [] := List.eq_nil_of_length_eq_zero hn.symm
    refine (Tryz.slices_Sort_int_none none 0 W).mono ?_
    rintro e w' ⟨rfl, rfl⟩
    exact ⟨rfl, by rw [show sortI [] = [] from List.mergeSort_nil]; exact hv, rfl, rfl, rfl, Nat.le_refl _, fun _ _ _ => rfl⟩
  · subst hn
    rw [Nat.mul_one] at h4
    refine (Tryz.slices_Sort_int g 0 cap L W (holds_of_blockI hb h4) (Array.getElem?_eq_some_iff.1 hb).1 (by omega)).mono ?_
    rintro e w' ⟨rfl, k, os, rfl⟩
    exact ⟨rfl, ownsRow_sortedI (ts := sortI L) (ss := L) (sortI_len L) hB hb h1 h2 h3, grownBy_sortedI _⟩
theorem compact_own (W : World) (B n : Nat) (v : Value) (L : List Int) (hn : n = L.length) (hv : W.ownsRow B 3 1 v n (L.map (Value.int .i64))) (hl : n ≤ 4194304) :
    Calls Tryz.prog 87 #[v] W fun e w' => ∃ v', e = .returned v' ∧ w'.ownsRow B 3 1 v' (Lib.compact L).length ((Lib.compact L).map (Value.int .i64)) ∧ W.grownBy w' v.ownBlock ∧ v'.ownBlock = v.ownBlock := by
  rcases hv.2 with ⟨ev, e0⟩ | ⟨g, cap, cur, rfl, _⟩
  · subst ev e0
    obtain rfl : L = [] := List.eq_nil_of_length_eq_zero hn.symm
    refine (Tryz.slices_Compact_int_empty none 0 W).mono ?_
    rintro e w' ⟨rfl, rfl⟩
    have : Lib.compact ([] : List Int) = [] := List.eq_nil_of_length_eq_zero (Nat.le_zero.1 (compact_len _))
    rw [this]
    exact ⟨_, rfl, hv, ⟨rfl, rfl, rfl, Nat.le_refl _, fun _ _ _ => rfl⟩, rfl⟩
  · refine (compactI_any W B g cap n L hn hv hl).mono ?_
    rintro e w' ⟨rfl, a, b⟩
    exact ⟨_, rfl, a, b, rfl⟩
theorem clone_own (w : World) (ao : Option Addr) (n c : Nat) (L : List Int) (hn : L.length = n) (hA : Hid (RdN w ao L)) (hl : n ≤ 4194304) :
    Calls Tryz.prog 73 #[.slice ao n c] w fun e w' => ∃ v', e = .returned v' ∧ Hid (w'.ownsRow w.heap.size 3 1 v' n (L.map (Value.int .i64)) ∧ Below w.heap.size w w') := by
  subst hn
  cases ao with
  | none =>
    obtain rfl : L = [] := by
      cases L with
      | nil => rfl
      | cons x L => obtain ⟨g, o, e, _⟩ := hA.out 0 (by simp); cases e
    refine (Tryz.slices_Clone_int_nil _ c w).mono ?_
    rintro e w' ⟨rfl, rfl⟩
    exact ⟨_, rfl, hide ⟨World.ownsRow_nil _ _ _ _, Below.refl _ _⟩⟩
  | some a =>
    by_cases h0 : L.length = 0
    · obtain rfl := List.eq_nil_of_length_eq_zero h0
      refine (Tryz.slices_Clone_int_zero a c w).mono ?_
      rintro e w' ⟨v, rfl, o, _, d⟩
      exact ⟨v, rfl, hide ⟨o, d⟩⟩
    · obtain ⟨g, o, e, _⟩ := hA.out 0 (by omega)
      cases e
      refine (Tryz.slices_Clone_int g o L.length c L w (Nat.le_refl _) (by omega) (fun j hj => by
        obtain ⟨g', o', e, q⟩ := hA.out j hj
        cases e
        rw [q]
        simp [List.getD, List.getElem?_eq_getElem hj])).mono ?_
      rintro e w' ⟨v, rfl, o, _, d⟩
      rw [List.take_length] at o
      exact ⟨v, rfl, hide ⟨o, d⟩⟩
end Go.Proofs.YtchoopnjckcohaaGreat
namespace Go.Proofs.YtchoopnjckcohaaGreat
open Go.RowKit Go.Maps Go.Shelf
attribute [local go_sem] Oper.semAt_some
/-! ### lead: edges behind a row, to each of some ends once -/
/-- The edges, and one from p by s to each of the ends, rising, once. -/
def ledL (E : List EdT) (p s : Int) (C : List Int) : List EdT := E ++ C.map fun q => (p, s, q)
theorem ledL_snoc (E : List EdT) (p s : Int) (C : List Int) (i : Nat) (h : i < C.length) : ledL E p s (C.take (i + 1)) = ledL E p s (C.take i) ++ [(p, s, C[i])] := by
  unfold ledL
  rw [List.take_succ_eq_append_getElem h, List.map_append, ← List.append_assoc]
  rfl
theorem ledL_len (E : List EdT) (p s : Int) (C : List Int) : (ledL E p s C).length = E.length + C.length := by simp [ledL]
theorem grown_only {w w' : World} {r : Option Nat} (h : w.grownBy w' r) : Only w w' (fun k => r = some k) := ⟨h.os, h.tape, h.output, h.size, fun k hk hn => h.block k hk (fun e => hn e.symm)⟩
theorem rows_differ {W : World} {B C n m sz sy : Nat} {e t : TypeId} {v u : Value} {xs ys : List Value} (h : W.ownsRow B e sz v n xs) (h2 : W.ownsRow C t sy u m ys) (hne : t ≠ e) {k : Nat} (hk : v.ownBlock = some k) (hk2 : u.ownBlock = some k) : False := by
  rcases h2.2 with ⟨hv, _⟩ | ⟨g', cap', cur', hv, _, hgc, _⟩
  · subst hv
    cases hk2
  · subst hv
    have e2 : g' = k := by simpa [Value.ownBlock] using hk2
    subst e2
    exact row_tag h hgc hne hk
theorem wpList_appG {ops : Array Oper} {rest : List Oper} {o : Oper} {a : Act} {Q : Exit → Act → World → Prop} {w : World} (hgd : o.guard = none) (s x : Operand)
    (ho : o.op = .call { callee := .builtin .append, args := #[s, x], argTypes := #[23, 23] }) (B : Nat) (v : Value) (X : List EdT) (hs : a.eval s = v) (hown : w.ownsRow B 50 3 v X.length (X.flatMap encE)) (p : Nat) (y : EdT) (hx : a.eval x = .slice (some ⟨p, 0, none⟩) 1 1) (hp : w.heap[p]? = some (.cells #[.int .i64 y.1, .int .i64 y.2.1, .int .i64 y.2.2] 50 (0, 0))) (hl : X.length ≤ 16777216) (hB : B ≤ w.heap.size)
    (h : ∀ v' w', Hid (w'.ownsRow B 50 3 v' (X ++ [y]).length ((X ++ [y]).flatMap encE)) → Hid (Only w w' (fun k => v.ownBlock = some k)) → wpList Tryz.prog ops Q rest (a.put o.dst v') w') : wpList Tryz.prog ops Q (o :: rest) a w := by
  obtain ⟨i5, hi5, hz50, hz51, hz52⟩ := info_parts info59
  refine wpList_append_own_at _ hgd s x 23 ho B 50 i5 _ 3 24 Tryz.underlying23 hi5 hz50 hz51 hz52 rfl (by omega) v X.length (X.flatMap encE) hs hown ⟨p, 0, none⟩ 1 1 (encE y) hx rfl (three_cells hp) (by simp [encE, Value.oneCell']) (by unfold maxLen; omega) (by omega) (by omega) ?_
  intro v2 w2 h2 hgr _ _
  exact h v2 w2 (hide (by rw [List.flatMap_append, List.length_append]; simpa using h2)) (hide (grown_only hgr))
/-- What lead holds. -/
structure LedI (w : World) (B : Nat) (E : List EdT) (p s : Int) (C : List Int) (i : Nat) (vc v : Value) (wr : World) : Prop where
  ed : wr.ownsRow B 50 3 v (ledL E p s (C.take i)).length ((ledL E p s (C.take i)).flatMap encE)
  en : wr.ownsRow B 3 1 vc C.length (C.map (Value.int .i64))
  be : Below B w wr
theorem ledI_next {w wr w5 : World} {B i : Nat} {E : List EdT} {p s : Int} {C : List Int} {vc v v5 : Value} {cs : Array Value} (hB : B ≤ w.heap.size) (h : LedI w B E p s C i vc v wr) (hi : i < C.length) (ho : w5.ownsRow B 50 3 v5 (ledL E p s (C.take i) ++ [(p, s, C[i])]).length ((ledL E p s (C.take i) ++ [(p, s, C[i])]).flatMap encE)) (oo : Only (wr.alloc (.cells cs 50)) w5 (fun k => v.ownBlock = some k)) : LedI w B E p s C (i + 1) vc v5 w5 := by
  have d1 : Below wr.heap.size wr (wr.alloc (.cells cs 50)) := (Below.refl _ _).alloc (Nat.le_refl _) _
  have e1 := own_below h.ed d1
  have c1 := own_below h.en d1
  have b1 := h.be.trans (d1.mono (Nat.le_trans hB h.be.size))
  refine ⟨by rw [ledL_snoc _ _ _ _ _ hi]; exact ho, row_only c1 oo (fun k hk hk2 => rows_differ e1 c1 (by decide) hk2 hk), b1.trans (oo.toBelow (Nat.le_trans hB b1.size) (fun k hk => (e1.lt k hk).1))⟩
set_option maxRecDepth 100000 in
set_option maxHeartbeats 1000000 in
theorem lead_any (w : World) (B : Nat) (vE vL : Value) (E : List EdT) (p s : Int) (n : Nat) (L : List Int) (hn : n = L.length) (hE : Hid (w.ownsRow B 50 3 vE E.length (E.flatMap encE))) (hL : Hid (w.ownsRow B 3 1 vL n (L.map (Value.int .i64)))) (hB : B ≤ w.heap.size) (hl : n ≤ 4194304) (hl2 : E.length ≤ 4194304) :
    Calls Tryz.prog 75 #[vE, .int .i64 p, .int .i64 s, vL] w fun e w' => ∃ v', e = .returned v' ∧ Hid (w'.ownsRow B 50 3 v' (ledL E p s (riseL L)).length ((ledL E p s (riseL L)).flatMap encE) ∧ Below B w w') := by
  have TS := sort_own w B n vL L hn hL.out hl
  obtain ⟨C, hC⟩ : ∃ C, riseL L = C := ⟨_, rfl⟩
  have hCl : C.length ≤ 4194304 := by rw [← hC]; have := riseL_len L; omega
  rw [hC]
  have HC := hide hC
  clear hC
  go_enter Tryz.func75, Tryz.ntmps75
  go_wp2_with (go_at_call 86; refine TS.mono ?_; rintro e w1 ⟨rfl, o1, g1⟩)
  have HO := hide (And.intro o1 g1)
  clear TS o1 g1
  have TC := compact_own w1 B n vL (sortI L) (by rw [sortI_len]; exact hn) HO.out.1 hl
  rw [show Lib.compact (sortI L) = riseL L from rfl, HC.out] at TC
  go_wp2_with (go_at_call 87; refine TC.mono ?_; rintro e w2 ⟨v2, rfl, o2, g2, b2⟩; obtain ⟨ac, cc, rfl⟩ := own_slice o2)
  have H0 : Hid (LedI w B E p s C 0 (.slice ac C.length cc) vE w2) := hide (by
    have e1 := row_only hE.out (grown_only HO.out.2) (fun k hk hk2 => rows_differ hE.out hL.out (by decide) hk hk2)
    have e2 := row_only e1 (grown_only g2) (fun k hk hk2 => rows_differ e1 HO.out.1 (by decide) hk hk2)
    have d1 := (grown_only HO.out.2).toBelow hB (fun k hk => (hL.out.lt k hk).1)
    have d2 := (grown_only g2).toBelow (Nat.le_trans hB d1.size) (fun k hk => (HO.out.1.lt k hk).1)
    have z : ledL E p s (C.take 0) = E := by simp [ledL]
    exact ⟨by rw [z]; exact e2, o2, d1.trans d2⟩)
  clear TC HO o2 g2 b2 hL hE hn HC
  go_loopw [0, 16] (fun ev iv wr => ∃ i : Nat, i ≤ C.length ∧ iv = .int .i64 (i : Int) ∧ Hid (LedI w B E p s C i (.slice ac C.length cc) ev wr)) (fun _ iv _ => C.length - (intOf iv).toNat)
  case atStart => exact ⟨0, Nat.zero_le _, rfl, H0⟩
  case round =>
    obtain ⟨i, hi, rfl, HY⟩ := hrel
    clear H0
    by_cases hil : i < C.length
    · have i0 : (0 : Int) ≤ (i : Int) := by omega
      have i1 : (i : Int) < (C.length : Int) := by omega
      obtain ⟨g, o, rfl, q⟩ := own_rdN HY.out.en i hil
      have hbw : B ≤ wr.heap.size := Nat.le_trans hB HY.out.be.size
      have hll : (ledL E p s (C.take i)).length ≤ 16777216 := by rw [ledL_len, List.length_take]; omega
      obtain ⟨x, hx⟩ : ∃ x, C[i] = x := ⟨_, rfl⟩
      rw [hx] at q
      have HX := hide hx
      clear hx
      go_wp2_with (at_builtin; refine wpList_appG rfl _ _ rfl B u0 (ledL E p s (C.take i)) rfl (own_below HY.out.ed ((Below.refl _ _).alloc (Nat.le_refl _) _)) wr.heap.size (p, s, x) rfl (World.alloc_heap_new _ _) hll (by rw [World.size_alloc]; omega) ?_; intro v5 w5 HO5 HG5)
      refine ⟨⟨i + 1, by omega, by go_num, hide (ledI_next hB HY.out hil (by rw [HX.out]; exact HO5.out) HG5.out)⟩, by simp [intOf]; omega⟩
    · obtain rfl : i = C.length := by omega
      have i1 : ¬ (C.length : Int) < (C.length : Int) := by omega
      go_wp2_with fail
      refine bodyPost_ret (results_tmp rfl _ _ _) rfl ?_
      have z := HY.out.ed
      rw [List.take_length] at z
      exact ⟨_, rfl, hide ⟨z, HY.out.be⟩⟩
theorem Only.grown {w w' : World} {r : Option Nat} {R : Nat → Prop} (h : w.grownBy w' r) (hr : ∀ k, r = some k → R k) : Only w w' R :=
  ⟨h.os, h.tape, h.output, h.size, fun k hk hn => h.block k hk (fun e => hn (hr k e.symm))⟩
/-! ### Several rows that are written full, then grown -/
section
variable {w W W' : World} {N : Nat} {v : Nat → Value} {bx : List (Nat × Array Value × TypeId)} {e sz n : Nat → Nat} {mk : Nat → Nat → Value} {x : Nat → List Value} {a : Nat → Nat}
end
/-! ### bridged: the edges, with those that lead on from a final state to a beginning -/
theorem RwA.down {B : Nat} {w : World} {m R : Nat} {Ed : List EdT} {aE : Option Addr} {n cE g : Nat} (h : RwA B w m R Ed aE n cE g) : RwA 0 w m R Ed aE n cE g := ⟨owns_down h.ow (Nat.zero_le _), h.fi, Nat.zero_le _⟩
theorem RwA.on {B : Nat} {w w' : World} {m R : Nat} {Ed : List EdT} {aE : Option Addr} {n cE g : Nat} (h : RwA B w m R Ed aE n cE g) (d : Below w.heap.size w w') : RwA B w' m R Ed aE n cE g := ⟨own_below h.ow d, h.fi.below d h.fi.lt, h.ge⟩
def rwsP (m R n : Nat) (Ed : List EdT) : MkP := fun x _ _ W => ∃ aE cE g, x = .agg #[.int .i64 (m : Int), .slice aE n cE, .slice (some ⟨g, 0, none⟩) (R + 1) (R + 1)] ∧ RwA 0 W m R Ed aE n cE g
theorem rwsP_mono {m R n : Nat} {Ed : List EdT} : MonoP (rwsP m R n Ed) := fun _ _ _ _ _ _ d ⟨aE, cE, g, e, h⟩ => ⟨aE, cE, g, e, h.on d⟩
def finP (N : Nat) (Fi : List Int) : MkP := fun x _ _ W => ∃ gf, x = .slice (some ⟨gf, 0, none⟩) N N ∧ Mrw W gf 4 N (fun c => .bool (finB Fi c)) N
theorem finP_mono {N : Nat} {Fi : List Int} : MonoP (finP N Fi) := fun _ _ _ _ _ _ d ⟨gf, e, h⟩ => ⟨gf, e, h.below d h.lt⟩
def b3P : MkP := fun x lo hi W => x = .pointer (some ⟨lo, 0, none⟩) ∧ lo < hi ∧ W.heap[lo]? = some (.cells #[.int .i64 0, .slice none 0 0, .slice none 0 0] 67 (0, 0))
theorem b3P_mono : MonoP b3P := fun _ _ _ _ _ hs d ⟨e, l, z⟩ => ⟨e, l, (d.block _ (by omega)).trans z⟩
def b1P : MkP := fun x lo hi W => x = .pointer (some ⟨lo, 0, none⟩) ∧ lo < hi ∧ W.heap[lo]? = some (.cells #[.slice none 0 0] 76 (0, 0))
theorem b1P_mono : MonoP b1P := fun _ _ _ _ _ hs d ⟨e, l, z⟩ => ⟨e, l, (d.block _ (by omega)).trans z⟩
/-- What bridged holds all the while: the rows and the final states, in boxes. -/
structure BrA (w W : World) (N m R n : Nat) (Ed : List EdT) (Fi : List Int) (p6 p7 : Nat) (aE : Option Addr) (cE g gf : Nat) : Prop where
  b6 : W.heap[p6]? = some (.cells #[.int .i64 (m : Int), .slice aE n cE, .slice (some ⟨g, 0, none⟩) (R + 1) (R + 1)] 67 (0, 0))
  b7 : W.heap[p7]? = some (.cells #[.slice (some ⟨gf, 0, none⟩) N N] 76 (0, 0))
  rw : RwA 0 W m R Ed aE n cE g
  fi : Mrw W gf 4 N (fun c => .bool (finB Fi c)) N
  be : Below w.heap.size w W
theorem BrA.on {w W W' : World} {N m R n : Nat} {Ed : List EdT} {Fi : List Int} {p6 p7 : Nat} {aE : Option Addr} {cE g gf : Nat} (h : BrA w W N m R n Ed Fi p6 p7 aE cE g gf) (d : Below W.heap.size W W') : BrA w W' N m R n Ed Fi p6 p7 aE cE g gf :=
  ⟨blk_on h.b6 d, blk_on h.b7 d, h.rw.on d, h.fi.below d h.fi.lt, h.be.trans (d.mono h.be.size)⟩
theorem mrw_tag {W : World} {g N k : Nat} {t t' : TypeId} {f : Nat → Value} {cs : Array Value} (h : Mrw W g t N f N) (z : W.heap[k]? = some (.cells cs t' (0, 0))) (ne : t ≠ t') : g ≠ k := fun e => by
  obtain ⟨cur, h1, _⟩ := h
  rw [e, z] at h1
  cases h1
  exact ne rfl
theorem brA_of {w W : World} {N m R n : Nat} {Ed : List EdT} {Fi : List Int} {p6 p7 : Nat} {aE : Option Addr} {cE g gf : Nat} (z1 : RwA 0 W m R Ed aE n cE g) (z3 : Mrw W gf 4 N (fun c => .bool (finB Fi c)) N) (z4 : W.heap[p6]? = some (.cells #[.int .i64 0, .slice none 0 0, .slice none 0 0] 67 (0, 0))) (z5 : W.heap[p7]? = some (.cells #[.slice none 0 0] 76 (0, 0))) (d : Below w.heap.size w W) (a4 : w.heap.size ≤ p6) (a5 : w.heap.size ≤ p7) :
    BrA w ((((W.setCell ⟨p6, 0, none⟩ (.int .i64 (m : Int))).setCell ⟨p6, 1, none⟩ (.slice aE n cE)).setCell ⟨p6, 2, none⟩ (.slice (some ⟨g, 0, none⟩) (R + 1) (R + 1))).setCell ⟨p7, 0, none⟩ (.slice (some ⟨gf, 0, none⟩) N N)) N m R n Ed Fi p6 p7 aE cE g gf := by
  have o1 := only3 W p6 0 1 2 (.int .i64 (m : Int)) (.slice aE n cE) (.slice (some ⟨g, 0, none⟩) (R + 1) (R + 1))
  have s1 := set3 W p6 _ _ _ (.int .i64 (m : Int)) (.slice aE n cE) (.slice (some ⟨g, 0, none⟩) (R + 1) (R + 1)) 67 z4
  have ne : p7 ≠ p6 := fun e => by rw [e, z4] at z5; cases z5
  have t5 := (o1.block p7 (Array.getElem?_eq_some_iff.1 z5).1 ne).trans z5
  have r1 := row_only z1.ow o1 (fun k hk e => by subst e; exact row_tag z1.ow z4 (by decide) hk)
  have m1 := z1.fi.only o1 (mrw_tag z1.fi z4 (by decide))
  have f1 := z3.only o1 (mrw_tag z3 z4 (by decide))
  have d1 := d.trans (o1.toBelow d.size (fun k hk => by rw [hk]; exact a4))
  generalize ((W.setCell ⟨p6, 0, none⟩ (.int .i64 (m : Int))).setCell ⟨p6, 1, none⟩ (.slice aE n cE)).setCell ⟨p6, 2, none⟩ (.slice (some ⟨g, 0, none⟩) (R + 1) (R + 1)) = W1 at *
  have o2 := only_set W1 p7 0 (.slice (some ⟨gf, 0, none⟩) N N)
  exact ⟨(o2.block p6 (Array.getElem?_eq_some_iff.1 s1).1 (fun e => ne e.symm)).trans s1, heap_setCell_same _ _ 0 _ 76 _ t5, ⟨row_only r1 o2 (fun k hk e => by subst e; exact row_tag r1 t5 (by decide) hk), m1.only o2 (mrw_tag m1 t5 (by decide)), Nat.zero_le _⟩, f1.only o2 (mrw_tag f1 t5 (by decide)), d1.trans (o2.toBelow d1.size (fun k hk => by rw [hk]; exact a5))⟩
/-- The ends from p by s, and the beginning where one of them is final. -/
def endL (Ed : List EdT) (Fi Bg : List Int) (p s : Nat) : List Int := if (toL (fromL Ed p (s : Int))).any (fun x => finB Fi x.toNat) then toL (fromL Ed p (s : Int)) ++ Bg else toL (fromL Ed p (s : Int))
def celL (Ed : List EdT) (Fi Bg : List Int) (p s : Nat) : List EdT := (riseL (endL Ed Fi Bg p s)).map fun q => ((p : Int), (s : Int), q)
def rowL (Ed : List EdT) (Fi Bg : List Int) (p k : Nat) : List EdT := (List.range k).flatMap (celL Ed Fi Bg p)
def brL (Ed : List EdT) (Fi Bg : List Int) (m p : Nat) : List EdT := (List.range p).flatMap (fun q => rowL Ed Fi Bg q m)
theorem rowL_next (Ed : List EdT) (Fi Bg : List Int) (p k : Nat) : rowL Ed Fi Bg p (k + 1) = rowL Ed Fi Bg p k ++ celL Ed Fi Bg p k := by simp [rowL, List.range_succ]
theorem brL_next (Ed : List EdT) (Fi Bg : List Int) (m p : Nat) : brL Ed Fi Bg m (p + 1) = brL Ed Fi Bg m p ++ rowL Ed Fi Bg p m := by simp [brL, List.range_succ]
theorem rowL_le (Ed : List EdT) (Fi Bg : List Int) (p : Nat) {k j : Nat} (h : k ≤ j) : (rowL Ed Fi Bg p k).length ≤ (rowL Ed Fi Bg p j).length := by
  induction h with
  | refl => exact Nat.le_refl _
  | step h ih => rw [rowL_next, List.length_append]; omega
theorem brL_le (Ed : List EdT) (Fi Bg : List Int) (m : Nat) {k j : Nat} (h : k ≤ j) : (brL Ed Fi Bg m k).length ≤ (brL Ed Fi Bg m j).length := by
  induction h with
  | refl => exact Nat.le_refl _
  | step h ih => rw [brL_next, List.length_append]; omega
theorem brL_part (Ed : List EdT) (Fi Bg : List Int) (m N : Nat) {p k : Nat} (hp : p < N) (hk : k ≤ m) : (brL Ed Fi Bg m p ++ rowL Ed Fi Bg p k).length ≤ (brL Ed Fi Bg m N).length := by
  have h1 := brL_le Ed Fi Bg m (show p + 1 ≤ N from hp)
  have h2 := rowL_le Ed Fi Bg p hk
  rw [brL_next, List.length_append] at h1
  rw [List.length_append]
  omega
theorem endL_len (Ed : List EdT) (Fi Bg : List Int) (p s : Nat) : (endL Ed Fi Bg p s).length ≤ Ed.length + Bg.length := by
  have h : (fromL Ed p (s : Int)).length ≤ Ed.length := List.length_filter_le _ _
  unfold endL
  split
  · rw [List.length_append, toL_len]; omega
  · rw [toL_len]; omega
/-- A list that can be read, behind a row of one's own. -/
theorem wpList_appL {ops : Array Oper} {rest : List Oper} {o : Oper} {a : Act} {Q : Exit → Act → World → Prop} {w : World} (hgd : o.guard = none) (s x : Operand)
    (ho : o.op = .call { callee := .builtin .append, args := #[s, x], argTypes := #[22, 22] }) (B : Nat) (v : Value) (X : List Int) (hs : a.eval s = v) (hown : w.ownsRow B 3 1 v X.length (X.map (Value.int .i64))) (ao : Option Addr) (n c : Nat) (Y : List Int) (hn : Y.length = n) (hz : ao = none → c = 0) (hx : a.eval x = .slice ao n c) (hr : RdN w ao Y) (hl : X.length + Y.length ≤ 16777216) (hB : B ≤ w.heap.size)
    (h : ∀ v' w', Hid (w'.ownsRow B 3 1 v' (X ++ Y).length ((X ++ Y).map (Value.int .i64))) → Hid (Only w w' (fun k => v.ownBlock = some k)) → wpList Tryz.prog ops Q rest (a.put o.dst v') w') : wpList Tryz.prog ops Q (o :: rest) a w := by
  obtain ⟨i3, hi3, hz30, hz31, hz32⟩ := info_parts info3
  subst hn
  cases ao with
  | none =>
    obtain rfl : Y = [] := by
      cases Y with
      | nil => rfl
      | cons y Y => obtain ⟨g, o, e, _⟩ := hr 0 (by simp); cases e
    obtain rfl := hz rfl
    refine wpList_append_own_none hgd s x 22 ho B 3 i3 1 Tryz.underlying22 hi3 v X.length (X.map (Value.int .i64)) hs hown hx ?_
    exact h v w (hide (by rw [List.append_nil]; exact hown)) (hide (Only.ofBelow (Below.refl _ _)))
  | some ad =>
    refine wpList_append_own _ hgd s x 22 ho B 3 i3 _ 1 8 Tryz.underlying22 hi3 hz30 hz31 hz32 rfl (by omega) v X.length (X.map (Value.int .i64)) hs hown ad Y.length c (Y.map (Value.int .i64)) hx (by simp) (fun j u hu => ?_) (by simp [Value.oneCell']) (by unfold maxLen; omega) (by omega) hB ?_
    · have hj : j < Y.length := by
        have := (List.getElem?_eq_some_iff.1 hu).1
        simpa using this
      obtain ⟨g, o, e, q⟩ := hr j hj
      cases e
      rw [Addr.add_lit, q]
      rw [List.getElem?_map, List.getElem?_eq_getElem hj] at hu
      exact hu
    · intro v2 w2 h2 hgr _
      exact h v2 w2 (hide (by rw [List.map_append, List.length_append]; exact h2)) (hide (grown_only hgr))
/-- What bridged has made. -/
structure BrI (wx : World) (E : List EdT) (v : Value) (wr : World) : Prop where
  ow : wr.ownsRow wx.heap.size 50 3 v E.length (E.flatMap encE)
  be : Below wx.heap.size wx wr
  le : E.length ≤ 65536
theorem celL_led (E : List EdT) (Ed : List EdT) (Fi Bg : List Int) (p s : Nat) : ledL E (p : Int) (s : Int) (riseL (endL Ed Fi Bg p s)) = E ++ celL Ed Fi Bg p s := rfl
/-- What bridged answers. -/
def BrP (w : World) (E : List EdT) (e : Ending) (w' : World) : Prop :=
  if 65536 < E.length then e = .returned (.tuple #[.slice none 0 0, .int .i64 8]) ∧ Below w.heap.size w w'
  else ∃ v, e = .returned (.tuple #[v, .int .i64 0]) ∧ w'.ownsRow w.heap.size 50 3 v E.length (E.flatMap encE) ∧ Below w.heap.size w w'
theorem brP_big {w w' : World} {E : List EdT} {e : Ending} (h : 65536 < E.length) (he : e = .returned (.tuple #[.slice none 0 0, .int .i64 8])) (d : Below w.heap.size w w') : BrP w E e w' := by
  unfold BrP
  rw [if_pos h]
  exact ⟨he, d⟩
theorem brP_ok {w w' : World} {E : List EdT} {e : Ending} {v : Value} (h : E.length ≤ 65536) (he : e = .returned (.tuple #[v, .int .i64 0])) (o : w'.ownsRow w.heap.size 50 3 v E.length (E.flatMap encE)) (d : Below w.heap.size w w') : BrP w E e w' := by
  unfold BrP
  rw [if_neg (by omega)]
  exact ⟨v, he, o, d⟩
set_option maxRecDepth 100000 in
set_option maxHeartbeats 4000000 in
theorem bridged_any (w : World) (N m n1 n2 n3 : Nat) (a1 a2 a3 aB : Option Addr) (c1 c2 c3 nB cB : Nat) (Ed : List EdT) (Fi Bg : List Int) (e2 : Fi.length = n2) (e3 : Ed.length = n3) (eB : Bg.length = nB) (zB : aB = none → cB = 0) (hN : N ≤ 4096) (hm : m ≤ 128) (hE : Hid (RdE w a3 Ed)) (hfi : Hid (RdN w a2 Fi)) (hBg : Hid (RdN w aB Bg)) (h2 : n2 ≤ 2000000) (h3 : n3 ≤ 2000000) (hB : nB ≤ 2000000) (hS : Hid (SsE Ed)) (hF : Hid (∀ e ∈ Ed, (0 ≤ e.1 ∧ e.1 < (N : Int)) ∧ (0 ≤ e.2.1 ∧ e.2.1 < (m : Int)) ∧ (0 ≤ e.2.2 ∧ e.2.2 < (N : Int)))) (hG : Hid (∀ x ∈ Fi, ∃ q : Nat, q < N ∧ x = (q : Int))) :
    Calls Tryz.prog 54 #[.agg #[.int .i64 (N : Int), .int .i64 (m : Int), .slice a1 n1 c1, .slice a2 n2 c2, .slice a3 n3 c3], .slice aB nB cB] w fun e w' => BrP w (brL Ed Fi Bg m N) e w' := by
  obtain ⟨R, hR⟩ : ∃ R, N * m = R := ⟨_, rfl⟩
  have hRl : R ≤ 524288 := by rw [← hR]; exact Nat.le_trans (Nat.mul_le_mul hN hm) (by decide)
  obtain ⟨W0, hW0⟩ : ∃ W0, w.alloc (.cells #[.int .i64 (N : Int), .int .i64 (m : Int), .slice a1 n1 c1, .slice a2 n2 c2, .slice a3 n3 c3] 25) = W0 := ⟨_, rfl⟩
  have HD : Hid (W0.heap[w.heap.size]? = some (.cells #[.int .i64 (N : Int), .int .i64 (m : Int), .slice a1 n1 c1, .slice a2 n2 c2, .slice a3 n3 c3] 25 (0, 0)) ∧ Below w.heap.size w W0 ∧ W0.heap.size = w.heap.size + 1) := hide (by rw [← hW0]; exact ⟨World.alloc_heap_new _ _, (Below.refl _ _).alloc (Nat.le_refl _) _, by simp⟩)
  have TR : Hid (∀ W : World, Below W0.heap.size W0 W → Calls Tryz.prog 34 #[.agg #[.int .i64 (N : Int), .int .i64 (m : Int), .slice a1 n1 c1, .slice a2 n2 c2, .slice a3 n3 c3]] W fun e w' => ∃ aE cE g, e = .returned (.agg #[.int .i64 (m : Int), .slice aE n3 cE, .slice (some ⟨g, 0, none⟩) (R + 1) (R + 1)]) ∧ Hid (RwA W.heap.size w' m R Ed aE n3 cE g) ∧ Below W.heap.size W w') := hide (fun W d => by
    have q := newRows_any W N m a1 a2 a3 n1 n2 c1 c2 c3 Ed hN hm (hide (hE.out.on (HD.out.2.1.trans (d.mono HD.out.2.1.size)))) (by omega) (hide (fun e he => ⟨(hF.out e he).1, (hF.out e he).2.1⟩))
    rw [hR, e3] at q
    exact q)
  have TF : Hid (∀ W : World, Below W0.heap.size W0 W → Calls Tryz.prog 38 #[.agg #[.int .i64 (N : Int), .int .i64 (m : Int), .slice a1 n1 c1, .slice a2 n2 c2, .slice a3 n3 c3]] W fun e w' => ∃ gf, e = .returned (.slice (some ⟨gf, 0, none⟩) N N) ∧ Hid (Mrw w' gf 4 N (fun c => .bool (finB Fi c)) N ∧ W.heap.size ≤ gf) ∧ Below W.heap.size W w') := hide (fun W d => by
    have q := finals_any W N (m : Int) a1 a2 a3 c1 c2 c3 n1 n3 Fi (hide (hfi.out.on (HD.out.2.1.trans (d.mono HD.out.2.1.size)))) hG (by omega) (by omega)
    rw [e2] at q
    exact q)
  have HR := hide hR
  have HL := hide (And.intro e2 (And.intro e3 eB))
  clear hR e2 e3 eB
  go_enter Tryz.func54, Tryz.ntmps54
  go_upto_region 1 with fail
  go_cut [6, 7] from 6 to 15 (fun v6 v7 W => ∃ p6 p7 aE cE g gf, v6 = .pointer (some ⟨p6, 0, none⟩) ∧ v7 = .pointer (some ⟨p7, 0, none⟩) ∧ Hid (BrA W0 W N m R n3 Ed Fi p6 p7 aE cE g gf))
  case first =>
    have hmo : MonIL 0 [vI 0 (.agg #[.int .i64 (N : Int), .int .i64 (m : Int), .slice a1 n1 c1, .slice a2 n2 c2, .slice a3 n3 c3]), pI 1 (rwsP m R n3 Ed), vI 2 (.agg #[.int .i64 (N : Int), .int .i64 (m : Int), .slice a1 n1 c1, .slice a2 n2 c2, .slice a3 n3 c3]), pI 3 (finP N Fi), pI 4 (b3P), pI 5 (b1P)] := ⟨vI_mono _ _, pI_mono rwsP_mono, vI_mono _ _, pI_mono finP_mono, pI_mono b3P_mono, pI_mono b1P_mono, trivial⟩
    refine wp_region_sl [vI 0 (.agg #[.int .i64 (N : Int), .int .i64 (m : Int), .slice a1 n1 c1, .slice a2 n2 c2, .slice a3 n3 c3]), pI 1 (rwsP m R n3 Ed), vI 2 (.agg #[.int .i64 (N : Int), .int .i64 (m : Int), .slice a1 n1 c1, .slice a2 n2 c2, .slice a3 n3 c3]), pI 3 (finP N Fi), pI 4 (b3P), pI 5 (b1P)] (by kernel_rfl) (by kernel_rfl) (by kernel_rfl) (by kernel_rfl) hmo ⟨?o0, ?o1, ?o2, ?o3, ?o4, ?o5, trivial⟩ ?fin
    case o0 =>
      intro At yy W hy hb d hd K hK
      have s2 : At.tmps.getD 2 undef = .pointer (some ⟨w.heap.size, 0, none⟩) := hb 2 rfl
      have s2' := s2
      rw [Array.getD_eq_getD_getElem?] at s2'
      clear hd hy hb
      have bx := blk_on HD.out.1 d
      have y0 : W.cell? ⟨w.heap.size, 0, none⟩ = some (.int .i64 (N : Int)) := cell_of bx rfl
      have y1 : W.cell? ⟨w.heap.size, 1, none⟩ = some (.int .i64 (m : Int)) := cell_of bx rfl
      have y2 : W.cell? ⟨w.heap.size, 2, none⟩ = some (.slice a1 n1 c1) := cell_of bx rfl
      have y3 : W.cell? ⟨w.heap.size, 3, none⟩ = some (.slice a2 n2 c2) := cell_of bx rfl
      have y4 : W.cell? ⟨w.heap.size, 4, none⟩ = some (.slice a3 n3 c3) := cell_of bx rfl
      clear bx
      go_simp
      exact hK.out _ W (stp_of hmo d (Below.refl _ _)) (if_pos rfl)
    case o1 =>
      intro At yy W hy hb d hd K hK
      have e0 : yy 0 = .agg #[.int .i64 (N : Int), .int .i64 (m : Int), .slice a1 n1 c1, .slice a2 n2 c2, .slice a3 n3 c3] := by obtain ⟨_, _, _, _, e⟩ := hd ⟨0, .data⟩ (by simp) rfl rfl; exact e
      have s12 := (hy 0 _ 12 rfl rfl).trans e0
      have s12' := s12
      rw [Array.getD_eq_getD_getElem?] at s12'
      clear hd hy hb
      go_simp
      go_wp2_with (go_at_call 34; refine (TR.out _ d).mono ?_; rintro e wa ⟨aE, cE, g, rfl, hR, da⟩)
      exact hK.out _ wa (stp_of hmo d da) ⟨aE, cE, g, if_pos rfl, hR.out.down⟩
    case o2 =>
      intro At yy W hy hb d hd K hK
      have s2 : At.tmps.getD 2 undef = .pointer (some ⟨w.heap.size, 0, none⟩) := hb 2 rfl
      have s2' := s2
      rw [Array.getD_eq_getD_getElem?] at s2'
      clear hd hy hb
      have bx := blk_on HD.out.1 d
      have y0 : W.cell? ⟨w.heap.size, 0, none⟩ = some (.int .i64 (N : Int)) := cell_of bx rfl
      have y1 : W.cell? ⟨w.heap.size, 1, none⟩ = some (.int .i64 (m : Int)) := cell_of bx rfl
      have y2 : W.cell? ⟨w.heap.size, 2, none⟩ = some (.slice a1 n1 c1) := cell_of bx rfl
      have y3 : W.cell? ⟨w.heap.size, 3, none⟩ = some (.slice a2 n2 c2) := cell_of bx rfl
      have y4 : W.cell? ⟨w.heap.size, 4, none⟩ = some (.slice a3 n3 c3) := cell_of bx rfl
      clear bx
      go_simp
      exact hK.out _ W (stp_of hmo d (Below.refl _ _)) (if_pos rfl)
    case o3 =>
      intro At yy W hy hb d hd K hK
      have e2 : yy 2 = .agg #[.int .i64 (N : Int), .int .i64 (m : Int), .slice a1 n1 c1, .slice a2 n2 c2, .slice a3 n3 c3] := by obtain ⟨_, _, _, _, e⟩ := hd ⟨2, .data⟩ (by simp) rfl rfl; exact e
      have s14 := (hy 2 _ 14 rfl rfl).trans e2
      have s14' := s14
      rw [Array.getD_eq_getD_getElem?] at s14'
      clear hd hy hb
      go_simp
      go_wp2_with (go_at_call 38; refine (TF.out _ d).mono ?_; rintro e wa ⟨gf, rfl, hR, da⟩)
      exact hK.out _ wa (stp_of hmo d da) ⟨gf, if_pos rfl, hR.out.1⟩
    case o4 =>
      intro At yy W hy hb d hd K hK
      clear hd hy hb
      go_simp
      exact hK.out _ _ (stp_of hmo d ((Below.refl _ _).alloc (Nat.le_refl _) _)) ⟨if_pos rfl, by simp, World.alloc_heap_new _ _⟩
    case o5 =>
      intro At yy W hy hb d hd K hK
      clear hd hy hb
      go_simp
      exact hK.out _ _ (stp_of hmo d ((Below.refl _ _).alloc (Nat.le_refl _) _)) ⟨if_pos rfl, by simp, World.alloc_heap_new _ _⟩
    case fin =>
      intro yy lo hi W hM
      show wpList _ _ _ [_, _] _ _
      have e0 : yy 0 = .agg #[.int .i64 (N : Int), .int .i64 (m : Int), .slice a1 n1 c1, .slice a2 n2 c2, .slice a3 n3 c3] := hM.fact 0 (by simp) rfl (notR_all 0 rfl)
      have e2 : yy 2 = .agg #[.int .i64 (N : Int), .int .i64 (m : Int), .slice a1 n1 c1, .slice a2 n2 c2, .slice a3 n3 c3] := hM.fact 2 (by simp) rfl (notR_all 2 rfl)
      obtain ⟨aE, cE, g, e1, z1⟩ := hM.fact 1 (by simp) rfl (notR_all 1 rfl)
      obtain ⟨gf, e3, z3⟩ := hM.fact 3 (by simp) rfl (notR_all 3 rfl)
      obtain ⟨e4, l4, z4⟩ := hM.fact 4 (by simp) rfl (notR_all 4 rfl)
      obtain ⟨e5, l5, z5⟩ := hM.fact 5 (by simp) rfl (notR_all 5 rfl)
      have dd := hM.d
      have a4 := hM.at' 4 (by simp) rfl
      have a5 := hM.at' 5 (by simp) rfl
      simp only [fills, Act.put, List.take, List.length, List.setIfInBounds_toArray, List.set_cons_zero, List.set_cons_succ, e0, e2, e1, e3, e4, e5]
      generalize lo 4 = p6 at z4 a4 l4 ⊢
      generalize lo 5 = p7 at z5 a5 l5 ⊢
      clear hM hmo e0 e2 e1 e3 e4 e5
      have HF := hide (brA_of (m := m) z1 z3 z4 z5 dd a4.1 a5.1)
      clear z1 z3 dd
      have ne : p6 ≠ p7 := fun e => by rw [e, z5] at z4; cases z4
      have o0 : W.cell? ⟨p6, 0, none⟩ = some (.int .i64 0) := cell_of z4 rfl
      have o1 : W.cell? ⟨p6, 1, none⟩ = some (.slice none 0 0) := cell_of z4 rfl
      have o2 : W.cell? ⟨p6, 2, none⟩ = some (.slice none 0 0) := cell_of z4 rfl
      have f0 : W.frozen? ⟨p6, 0, none⟩ = false := fz_of z4
      have f1 : W.frozen? ⟨p6, 1, none⟩ = false := fz_of z4
      have f2 : W.frozen? ⟨p6, 2, none⟩ = false := fz_of z4
      have q0 : W.cell? ⟨p7, 0, none⟩ = some (.slice none 0 0) := cell_of z5 rfl
      have g0 : W.frozen? ⟨p7, 0, none⟩ = false := fz_of z5
      clear z4 z5
      go_wp2_with fail
      go_meet
      exact ⟨p6, p7, aE, cE, g, gf, rfl, rfl, HF⟩
  case rest =>
    obtain ⟨p6, p7, aE, cE, g, gf, rfl, rfl, HA⟩ := hcut
    rename World => wx
    have y0 : wx.cell? ⟨w.heap.size, 0, none⟩ = some (.int .i64 (N : Int)) := cell_of (blk_on HD.out.1 HA.out.be) rfl
    have H0 : Hid (BrI wx (brL Ed Fi Bg m 0) (.slice none 0 0) wx) := hide ⟨World.ownsRow_nil _ _ _ _, Below.refl _ _, Nat.zero_le _⟩
    clear TR TF
    go_wp2_with fail
    clear y0
    go_loopw [8, 18] (fun v8 v18 wr => ∃ p : Nat, p ≤ N ∧ v18 = .int .i64 (p : Int) ∧ Hid (BrI wx (brL Ed Fi Bg m p) v8 wr)) (fun _ v18 _ => N - (intOf v18).toNat)
    case atStart => exact ⟨0, Nat.zero_le _, rfl, H0⟩
    case round =>
      obtain ⟨p, hp, rfl, HY⟩ := hrel
      clear H0
      by_cases hpl : p < N
      · have i0 : (p : Int) < (N : Int) := by omega
        have y1 : wr.cell? ⟨w.heap.size, 1, none⟩ = some (.int .i64 (m : Int)) := cell_of (blk_on HD.out.1 (HA.out.on HY.out.be).be) rfl
        rename World => wo
        have H1 : Hid (BrI wx (brL Ed Fi Bg m p ++ rowL Ed Fi Bg p 0) u8 wo) := hide (by
          have q := HY.out
          rw [show rowL Ed Fi Bg p 0 = [] from rfl, List.append_nil]
          exact q)
        clear HY
        go_wp2_with fail
        clear y1
        go_loopw [8, 23] (fun v8 v23 wr => ∃ s : Nat, s ≤ m ∧ v23 = .int .i64 (s : Int) ∧ Hid (BrI wx (brL Ed Fi Bg m p ++ rowL Ed Fi Bg p s) v8 wr)) (fun _ v23 _ => m - (intOf v23).toNat)
        case atStart => exact ⟨0, Nat.zero_le _, rfl, H1⟩
        case round =>
          obtain ⟨s, hs, rfl, HI⟩ := hrel
          clear H1
          by_cases hsl : s < m
          · have j0 : (s : Int) < (m : Int) := by omega
            obtain ⟨k, hk⟩ : ∃ k, p * m + s = k := ⟨_, rfl⟩
            have hkR : k < R := by
              rw [← hk, ← HR.out]
              have : (p + 1) * m ≤ N * m := Nat.mul_le_mul_right _ hpl
              rw [Nat.add_mul, Nat.one_mul] at this
              omega
            have HAr := hide (HA.out.on HI.out.be)
            have z0 : wr.cell? ⟨p6, 0, none⟩ = some (.int .i64 (m : Int)) := cell_of HAr.out.b6 rfl
            have z1 : wr.cell? ⟨p6, 1, none⟩ = some (.slice aE n3 cE) := cell_of HAr.out.b6 rfl
            have z2 : wr.cell? ⟨p6, 2, none⟩ = some (.slice (some ⟨g, 0, none⟩) (R + 1) (R + 1)) := cell_of HAr.out.b6 rfl
            have TO := of_any wr 0 m R p s n3 k aE cE g Ed HL.out.2.1 (hide HAr.out.rw) hS (hide (fun e he => (hF.out e he).2.1)) hsl hk hkR hRl (by omega)
            have HFr : Hid ((∀ x ∈ toL (fromL Ed p (s : Int)), ∃ q : Nat, q < N ∧ x = (q : Int)) ∧ (fromL Ed p (s : Int)).length ≤ n3) := hide ⟨fun x hx => by
              obtain ⟨e, he, rfl⟩ := List.mem_map.1 hx
              have q := (hF.out e (List.mem_filter.1 he).1).2.2
              obtain ⟨t, ht⟩ := Int.eq_ofNat_of_zero_le q.1
              exact ⟨t, by omega, ht⟩, by rw [← HL.out.2.1]; exact List.length_filter_le _ _⟩
            have HEn : Hid (endL Ed Fi Bg p s = if (toL (fromL Ed p (s : Int))).any (fun x => finB Fi x.toNat) then toL (fromL Ed p (s : Int)) ++ Bg else toL (fromL Ed p (s : Int))) := hide rfl
            have HTL := hide (toL_len (fromL Ed p (s : Int)))
            have HKK := hide (And.intro hk hkR)
            clear hk hkR
            generalize toL (fromL Ed p (s : Int)) = X at TO HFr HEn HTL
            generalize (fromL Ed p (s : Int)).length = nf at TO HFr HTL
            have hnf : nf ≤ 2000000 := by have := HFr.out.2; omega
            obtain ⟨y, hy⟩ : ∃ y, X.any (fun x => finB Fi x.toNat) = y := ⟨_, rfl⟩
            rw [hy] at HEn
            have HYY := hide hy
            clear hy
            go_wp2_with (go_at_call 41; refine TO.mono ?_; rintro e w1 ⟨ao, co, rfl, H1⟩)
            clear TO z0 z1 z2
            have T62 := clone_own w1 ao nf co X HTL.out (hide (H1.out.1.on H1.out.2.2)) (by omega)
            go_wp2_with (go_at_call 73; refine T62.mono ?_; rintro e w2 ⟨v2, rfl, H2⟩; obtain ⟨b2, d2, rfl⟩ := own_slice H2.out.1)
            clear T62
            have HB2 : Hid (Below wr.heap.size wr w2) := hide (H1.out.2.2.trans (H2.out.2.mono H1.out.2.2.size))
            have T52 := cont122 w2 b2 d2 X p7 gf N (finB Fi) (hide (cell_of (blk_on HAr.out.b7 HB2.out) rfl)) (hide (HAr.out.fi.below HB2.out HAr.out.fi.lt)) (hide HFr.out.1) (hide (own_rdN (c := d2) (by rw [HTL.out]; exact H2.out.1))) (by rw [HTL.out]; omega)
            rw [HTL.out, HYY.out] at T52
            have G3 : Hid (∀ w3, Below w2.heap.size w2 w3 → w3.ownsRow wx.heap.size 3 1 (.slice b2 nf d2) nf (X.map (Value.int .i64)) ∧ Below wr.heap.size wr w3 ∧ wx.heap.size ≤ w3.heap.size) := hide (fun w3 d3 => by
              have q1 := HI.out.be.size
              have q2 := H1.out.2.2.size
              have q3 := HB2.out.size
              have q4 := d3.size
              exact ⟨owns_down (own_below H2.out.1 d3) (by omega), HB2.out.trans (d3.mono q3), by omega⟩)
            clear H1 HAr
            obtain ⟨E, hE'⟩ : ∃ E, brL Ed Fi Bg m p ++ rowL Ed Fi Bg p s = E := ⟨_, rfl⟩
            have HEE : Hid (brL Ed Fi Bg m p ++ rowL Ed Fi Bg p (s + 1) = ledL E (p : Int) (s : Int) (riseL (endL Ed Fi Bg p s)) ∧ (brL Ed Fi Bg m p ++ rowL Ed Fi Bg p (s + 1)).length ≤ (brL Ed Fi Bg m N).length) := hide ⟨by rw [celL_led, ← hE', rowL_next, List.append_assoc], brL_part Ed Fi Bg m N hpl hsl⟩
            rw [hE'] at HI
            clear hE'
            have HEL : Hid ((endL Ed Fi Bg p s).length ≤ 4194304) := hide (by have q := endL_len Ed Fi Bg p s; have := HL.out; omega)
            generalize endL Ed Fi Bg p s = Z at HEn HEE HEL
            have GI : Hid (∀ w3, Below wr.heap.size wr w3 → w3.ownsRow wx.heap.size 50 3 u8 E.length (E.flatMap encE) ∧ Below wx.heap.size wx w3) := hide (fun w3 d => ⟨own_below HI.out.ow d, HI.out.be.trans (d.mono HI.out.be.size)⟩)
            have HIl := hide HI.out.le
            clear HI HFr HB2 H2
            obtain ⟨E2, hE2⟩ : ∃ E2, brL Ed Fi Bg m p ++ rowL Ed Fi Bg p (s + 1) = E2 := ⟨_, rfl⟩
            rw [hE2] at HEE
            have HE2 := hide hE2
            clear hE2
            have key : ∀ (v4 : Value) (w4 : World), Hid (w4.ownsRow wx.heap.size 3 1 v4 Z.length (Z.map (Value.int .i64))) → Hid (w4.ownsRow wx.heap.size 50 3 u8 E.length (E.flatMap encE)) → Hid (Below wx.heap.size wx w4) → Calls Tryz.prog 75 #[u8, .int .i64 (p : Int), .int .i64 (s : Int), v4] w4 fun e w' => ∃ b5 d5, e = .returned (.slice b5 E2.length d5) ∧ Hid (w'.ownsRow wx.heap.size 50 3 (.slice b5 E2.length d5) E2.length (E2.flatMap encE) ∧ Below wx.heap.size wx w') := fun v4 w4 o1 o2 o3 => by
              refine (lead_any w4 wx.heap.size u8 v4 E (p : Int) (s : Int) Z.length Z rfl o2 o1 o3.out.size HEL.out (by have := HIl.out; omega)).mono ?_
              rintro e w5 ⟨v5, rfl, H5⟩
              rw [HEE.out.1]
              obtain ⟨b5, d5, rfl⟩ := own_slice H5.out.1
              exact ⟨b5, d5, rfl, hide ⟨H5.out.1, o3.out.trans H5.out.2⟩⟩
            have HK2 := hide key
            clear key
            have HZ := hide HEE.out.2
            clear HEE HEL
            cases y with
            | true =>
              obtain rfl := HTL.out
              go_wp2_with (first
                | (go_at_call 28; refine T52.mono ?_; rintro e w3 ⟨rfl, d3⟩; have H3 := hide (G3.out w3 d3); have HI3 := hide (GI.out w3 H3.out.2.1); clear d3)
                | (at_builtin; refine wpList_appL rfl _ _ rfl wx.heap.size (.slice b2 X.length d2) X rfl H3.out.1 aB nB cB Bg HL.out.2.2 zB rfl (hBg.out.on (HD.out.2.1.trans ((HA.out.be.trans (HI3.out.2.mono HA.out.be.size)).mono HD.out.2.1.size))) (by have := HL.out.2.2; omega) H3.out.2.2 ?_; intro v4 w4 HO4 HG4))
              have T := HK2.out v4 w4 (hide (by rw [HEn.out]; exact HO4.out)) (hide (row_only HI3.out.1 HG4.out (fun k hk hk2 => rows_differ HI3.out.1 H3.out.1 (by decide) hk hk2))) (hide (HI3.out.2.trans (HG4.out.toBelow H3.out.2.2 (fun k hk => (H3.out.1.lt k hk).1))))
              by_cases hbig : 65536 < E2.length
              · have jb : (65536 : Int) < (E2.length : Int) := by omega
                go_wp2_with (go_at_call 75; refine T.mono ?_; rintro e w5 ⟨b5, d5, rfl, H5⟩)
                refine bodyPost_ret (results_tmp2 rfl _ _ _) rfl ?_
                refine brP_big (Nat.lt_of_lt_of_le hbig HZ.out) rfl ?_
                have q := HA.out.be.trans (H5.out.2.mono HA.out.be.size)
                exact HD.out.2.1.trans (q.mono HD.out.2.1.size)
              · have jb : ¬ (65536 : Int) < (E2.length : Int) := by omega
                go_wp2_with (go_at_call 75; refine T.mono ?_; rintro e w5 ⟨b5, d5, rfl, H5⟩)
                refine ⟨⟨s + 1, by omega, by go_num, hide (by rw [HE2.out]; exact ⟨H5.out.1, H5.out.2, by omega⟩)⟩, by simp [intOf]; omega⟩
            | false =>
              go_wp2_with (go_at_call 28; refine T52.mono ?_; rintro e w3 ⟨rfl, d3⟩; have H3 := hide (G3.out w3 d3); have HI3 := hide (GI.out w3 H3.out.2.1); clear d3)
              have T := HK2.out (.slice b2 nf d2) w3 (hide (by rw [HEn.out, if_neg (by decide), HTL.out]; exact H3.out.1)) (hide HI3.out.1) (hide HI3.out.2)
              by_cases hbig : 65536 < E2.length
              · have jb : (65536 : Int) < (E2.length : Int) := by omega
                go_wp2_with (go_at_call 75; refine T.mono ?_; rintro e w5 ⟨b5, d5, rfl, H5⟩)
                refine bodyPost_ret (results_tmp2 rfl _ _ _) rfl ?_
                refine brP_big (Nat.lt_of_lt_of_le hbig HZ.out) rfl ?_
                have q := HA.out.be.trans (H5.out.2.mono HA.out.be.size)
                exact HD.out.2.1.trans (q.mono HD.out.2.1.size)
              · have jb : ¬ (65536 : Int) < (E2.length : Int) := by omega
                go_wp2_with (go_at_call 75; refine T.mono ?_; rintro e w5 ⟨b5, d5, rfl, H5⟩)
                refine ⟨⟨s + 1, by omega, by go_num, hide (by rw [HE2.out]; exact ⟨H5.out.1, H5.out.2, by omega⟩)⟩, by simp [intOf]; omega⟩
          · obtain rfl : m = s := by omega
            have j0 : ¬ (m : Int) < (m : Int) := by omega
            have HN : Hid (BrI wx (brL Ed Fi Bg m (p + 1)) u8 wr) := hide (by rw [brL_next]; exact HI.out)
            clear HI
            go_wp2_with fail
            refine ⟨⟨p + 1, by omega, by go_num, HN⟩, by simp [intOf]; omega⟩
      · obtain rfl : N = p := by omega
        have i0 : ¬ (N : Int) < (N : Int) := by omega
        go_wp2_with fail
        refine bodyPost_ret (results_tmp2 rfl _ _ _) rfl ?_
        have q := HA.out.be.trans (HY.out.be.mono HA.out.be.size)
        have s1 := HD.out.2.2
        have s2 := HA.out.be.size
        exact brP_ok HY.out.le rfl (owns_down HY.out.ow (by omega)) (HD.out.2.1.trans (q.mono HD.out.2.1.size))
/-! ### movedStates: numbers, each moved by one number -/
def movN (L : List Int) (b : Int) : List Int := L.map (· + b)
theorem movN_len (L : List Int) (b : Int) : (movN L b).length = L.length := by simp [movN]
theorem mrw_row {W : World} {B H n : Nat} {K : List Int} (h : Mrw W H 3 n (fun c => .int .i64 (K.getD c 0)) n) (hK : K.length = n) (hB : B ≤ H) (hn : n ≤ maxLen) : W.ownsRow B 3 1 (.slice (some ⟨H, 0, none⟩) n n) n (K.map (Value.int .i64)) := by
  obtain ⟨cur, h1, h2, h3⟩ := h
  refine ⟨by simp [hK], .inr ⟨H, n, cur, rfl, hB, h1, Nat.le_refl _, hn, by omega, ?_⟩⟩
  rw [Nat.mul_one, List.take_of_length_le (by simp; omega)]
  apply List.ext_getElem?
  intro j
  by_cases hj : j < n
  · rw [Array.getElem?_toList, h3 j hj, List.getElem?_map, List.getElem?_eq_getElem (by omega)]
    simp [List.getD, List.getElem?_eq_getElem (show j < K.length by omega)]
  · rw [List.getElem?_eq_none (by simp; omega), List.getElem?_eq_none (by simp; omega)]
set_option maxRecDepth 100000 in
set_option maxHeartbeats 2000000 in
theorem movedS_any (w : World) (ao : Option Addr) (n c : Nat) (L : List Int) (b : Int) (hn : L.length = n) (hA : Hid (RdN w ao L)) (hl : n ≤ 4194304) (hb : 0 ≤ b ∧ b ≤ 4194304) (hin : Hid (∀ x ∈ L, 0 ≤ x ∧ x ≤ 4194304)) :
    Calls Tryz.prog 57 #[.slice ao n c, .int .i64 b] w fun e w' => ∃ g, e = .returned (.slice (some ⟨g, 0, none⟩) n n) ∧ Hid (w'.ownsRow w.heap.size 3 1 (.slice (some ⟨g, 0, none⟩) n n) n ((movN L b).map (Value.int .i64)) ∧ Below w.heap.size w w') := by
  have HN := hide hn
  clear hn
  obtain ⟨i9, hi9, hz90, hz91, hz92⟩ := info_parts info3
  go_enter Tryz.func57, Tryz.ntmps57
  go_upto_region 2 with (at_make; refine wpList_make_full _ rfl _ _ 22 rfl w.heap.size 3 i9 (.int .i64 0) 1 Tryz.underlying22 hi9 hz90 hz91 _ _ _ _ n rfl rfl (by go_num) (by go_num) (by rw [hz92]; omega) (by unfold maxLen; omega) (Nat.le_refl _) ?_; intro w6 ho hg)
  have D6 : Below w.heap.size w w6 := (Below.refl _ _).grown hg (Nat.le_refl _) (by intro k hk; cases hk)
  have M6 : Mrw w6 w.heap.size 3 n (fun c => .int .i64 ((movN L b).getD c 0)) 0 := by
    have q := Mrw.ofRow (fun c => .int .i64 ((movN L b).getD c 0)) ho
    rw [Nat.mul_one] at q
    exact q
  have H6 := hide (And.intro M6 D6)
  clear ho hg D6 M6
  go_wp2_with fail
  go_loopw [13] (fun iv wr => ∃ i : Nat, i ≤ n ∧ iv = .int .i64 (i : Int) ∧ Hid (Mrw wr w.heap.size 3 n (fun c => .int .i64 ((movN L b).getD c 0)) i ∧ Below w.heap.size w wr)) (fun iv _ => n - (intOf iv).toNat)
  case atStart => exact ⟨0, Nat.zero_le _, rfl, H6⟩
  case round =>
    obtain ⟨i, hi, rfl, HY⟩ := hrel
    clear H6
    by_cases hlt : i < n
    · have l0 : (i : Int) < (n : Int) := by omega
      have i0 : (0 : Int) ≤ (i : Int) := by omega
      have hil : i < L.length := by have := HN.out; omega
      obtain ⟨g, o, ea, ca⟩ := (hA.out.on HY.out.2) i hil
      subst ea
      have hx := hin.out _ (List.getElem_mem hil)
      have HV : Hid ((movN L b).getD i 0 = L[i] + b) := hide (by simp [movN, List.getD, List.getElem?_eq_getElem hil])
      generalize L[i] = x at ca hx HV
      have ew : IntKind.i64.wrap (x + b) = x + b := by rw [IntKind.wrap_i64]; omega
      obtain ⟨u, cu⟩ := HY.out.1.cell i hlt
      have zu := HY.out.1.fz i
      have J : Hid (Mrw (wr.setCell ⟨w.heap.size, i, none⟩ (.int .i64 (x + b))) w.heap.size 3 n (fun c => .int .i64 ((movN L b).getD c 0)) (i + 1) ∧ Below w.heap.size w (wr.setCell ⟨w.heap.size, i, none⟩ (.int .i64 (x + b)))) := hide ⟨HY.out.1.put hlt _ (by rw [HV.out]), HY.out.2.setCell (Nat.le_refl _) _⟩
      clear HY
      go_wp2_with fail
      go_roundw
      case rel => exact ⟨i + 1, by omega, by go_num, J⟩
      case measure => simp [intOf]; omega
    · have l0 : ¬ (i : Int) < (n : Int) := by omega
      obtain rfl : i = n := by omega
      have J := hide (And.intro (mrw_row HY.out.1 ((movN_len L b).trans HN.out) (Nat.le_refl _) (by unfold maxLen; omega)) HY.out.2)
      clear HY
      go_wp2_with fail
      go_ret
      exact ⟨_, rfl, J⟩
/-! ### The document's Edges -/
theorem riseE_one {L : List EdT} (h : L.length < 2) : riseE L = L :=
  ss_eq _ _ (riseE_ss _) (by
    match L, h with
    | [], _ => exact List.Pairwise.nil
    | [x], _ => exact List.pairwise_singleton _ _) fun x => riseE_iff L x
/-! ### The document's below, Valid, Normal -/
theorem may_not {n m : Int} {St Fi : List Int} {Ed : List EdT} (h : mayA n m St Fi Ed = true → False) : mayA n m St Fi Ed = false := by
  cases q : mayA n m St Fi Ed with
  | false => rfl
  | true => exact (h q).elim
set_option maxRecDepth 100000 in
theorem below_any (w : World) (ao : Option Addr) (L : List Int) (c : Nat) (n : Int) (hr : Hid (RdN w ao L)) (hl : L.length ≤ 4194304) :
    Calls Tryz.prog 79 #[.slice ao L.length c, .int .i64 n] w fun e w' => e = .returned (.bool (L.all (inB n))) ∧ w' = w := by
  go_enter Tryz.func79, Tryz.ntmps79
  go_wp2
  go_loopw [5] (fun iv wr => ∃ i : Nat, i ≤ L.length ∧ iv = .int .i64 i ∧ Hid ((L.take i).all (inB n) = true) ∧ wr = w) (fun iv _ => L.length - (intOf iv).toNat)
  case atStart => exact ⟨0, Nat.zero_le _, rfl, hide (by simp), rfl⟩
  case round =>
    obtain ⟨i, hi, rfl, HY, hw⟩ := hrel
    obtain rfl := hw.symm
    clear hw
    by_cases hlt : i < L.length
    · have l0 : (i : Int) < (L.length : Int) := by omega
      have l1 : (0 : Int) ≤ (i : Int) := by omega
      have iw : IntKind.i64.wrap ((i : Int) + 1) = (i : Int) + 1 := by rw [IntKind.wrap_i64]; omega
      obtain ⟨g, o, rfl, q⟩ := hr.out i hlt
      by_cases hb : inB n L[i] = true
      · have HN : Hid ((L.take (i + 1)).all (inB n) = true) := hide (by rw [List.take_succ_eq_append_getElem hlt, List.all_append, HY.out]; simp [hb])
        have h2 := inB_iff.1 hb
        clear hb
        generalize L[i] = x at q h2
        have x0 : ¬ x < 0 := by omega
        have x1 : ¬ x ≥ n := by omega
        clear h2
        go_wp2
        go_roundw
        case rel => exact ⟨i + 1, by omega, by go_num, HN, by simp⟩
        case measure => simp [intOf]; omega
      · have HD : Hid (L.all (inB n) = false) := hide (by
          rw [List.all_eq_false]
          exact ⟨L[i], List.getElem_mem hlt, hb⟩)
        have h2 : ¬ (0 ≤ L[i] ∧ L[i] < n) := fun h => hb (inB_iff.2 h)
        clear hb
        generalize L[i] = x at q h2
        by_cases x0 : x < 0
        · clear h2
          go_wp2
          refine bodyPost_ret (results_tmp rfl _ _ _) rfl ?_
          exact ⟨by rw [HD.out]; rfl, rfl⟩
        · have x1 : x ≥ n := by omega
          clear h2
          go_wp2
          refine bodyPost_ret (results_tmp rfl _ _ _) rfl ?_
          exact ⟨by rw [HD.out]; rfl, rfl⟩
    · have l0 : ¬ (i : Int) < (L.length : Int) := by omega
      have HD : Hid (L.all (inB n) = true) := hide (by have := HY.out; rwa [List.take_of_length_le (by omega)] at this)
      go_wp2
      refine bodyPost_ret (results_tmp rfl _ _ _) rfl ?_
      exact ⟨by rw [HD.out]; rfl, rfl⟩
set_option maxRecDepth 100000 in
set_option maxHeartbeats 4000000 in
theorem rvalid_any (w : World) (n m : Int) (a1 a2 a3 : Option Addr) (c1 c2 c3 : Nat) (St Fi : List Int) (Ed : List EdT) (hA : Hid (RdA w a1 a2 a3 St Fi Ed)) (h1 : St.length ≤ 4194304) (h2 : Fi.length ≤ 4194304) (h3 : Ed.length ≤ 4194304) :
    Calls Tryz.prog 78 #[.agg #[.int .i64 n, .int .i64 m, .slice a1 St.length c1, .slice a2 Fi.length c2, .slice a3 Ed.length c3]] w fun e w' => e = .returned (.int .i64 (if mayA n m St Fi Ed then 0 else 2)) ∧ Below w.heap.size w w' := by
  obtain ⟨r, hr⟩ : ∃ r : Int, (if mayA n m St Fi Ed then (0 : Int) else 2) = r := ⟨_, rfl⟩
  rw [hr]
  have HRr := hide hr
  clear hr
  obtain ⟨W0, hW0⟩ : ∃ W0, w.alloc (.cells #[.int .i64 n, .int .i64 m, .slice a1 St.length c1, .slice a2 Fi.length c2, .slice a3 Ed.length c3] 25) = W0 := ⟨_, rfl⟩
  have D0 : Hid (Below w.heap.size w W0) := hide (by rw [← hW0]; exact (Below.refl _ _).alloc (Nat.le_refl _) _)
  have B0 : Hid (W0.heap[w.heap.size]? = some (.cells #[.int .i64 n, .int .i64 m, .slice a1 St.length c1, .slice a2 Fi.length c2, .slice a3 Ed.length c3] 25 (0, 0))) := hide (by rw [← hW0]; exact World.alloc_heap_new _ _)
  have y0 : W0.cell? ⟨w.heap.size, 0, none⟩ = some (.int .i64 n) := cell_of B0.out rfl
  have y1 : W0.cell? ⟨w.heap.size, 1, none⟩ = some (.int .i64 m) := cell_of B0.out rfl
  have y2 : W0.cell? ⟨w.heap.size, 2, none⟩ = some (.slice a1 St.length c1) := cell_of B0.out rfl
  have y3 : W0.cell? ⟨w.heap.size, 3, none⟩ = some (.slice a2 Fi.length c2) := cell_of B0.out rfl
  have y4 : W0.cell? ⟨w.heap.size, 4, none⟩ = some (.slice a3 Ed.length c3) := cell_of B0.out rfl
  have T1 := below_any W0 a1 St c1 n (hide (hA.out.s.on D0.out)) h1
  have T2 := below_any W0 a2 Fi c2 n (hide (hA.out.f.on D0.out)) h2
  go_enter Tryz.func78, Tryz.ntmps78
  by_cases x0 : n < 0
  · have HM : Hid (mayA n m St Fi Ed = false) := hide (may_not fun h => by
      have := may_parts h
      omega)
    go_wp2_with fail
    refine bodyPost_ret (results_tmp rfl _ _ _) rfl ?_
    exact ⟨by rw [← HRr.out, HM.out]; rfl, D0.out⟩
  · by_cases x1 : n > 4096
    · have HM : Hid (mayA n m St Fi Ed = false) := hide (may_not fun h => by
        have := may_parts h
        omega)
      go_wp2_with fail
      refine bodyPost_ret (results_tmp rfl _ _ _) rfl ?_
      exact ⟨by rw [← HRr.out, HM.out]; rfl, D0.out⟩
    · by_cases x2 : m < 0
      · have HM : Hid (mayA n m St Fi Ed = false) := hide (may_not fun h => by
          have := may_parts h
          omega)
        go_wp2_with fail
        refine bodyPost_ret (results_tmp rfl _ _ _) rfl ?_
        exact ⟨by rw [← HRr.out, HM.out]; rfl, D0.out⟩
      · by_cases x3 : m > 128
        · have HM : Hid (mayA n m St Fi Ed = false) := hide (may_not fun h => by
            have := may_parts h
            omega)
          go_wp2_with fail
          refine bodyPost_ret (results_tmp rfl _ _ _) rfl ?_
          exact ⟨by rw [← HRr.out, HM.out]; rfl, D0.out⟩
        · by_cases x4 : (Ed.length : Int) > 65536
          · have HM : Hid (mayA n m St Fi Ed = false) := hide (may_not fun h => by
              have := may_parts h
              omega)
            go_wp2_with fail
            refine bodyPost_ret (results_tmp rfl _ _ _) rfl ?_
            exact ⟨by rw [← HRr.out, HM.out]; rfl, D0.out⟩
          · cases hs : St.all (inB n) with
            | false =>
              rw [hs] at T1
              have HM : Hid (mayA n m St Fi Ed = false) := hide (may_not fun h => by
                have := (may_parts h).2.2.2.1
                rw [hs] at this
                cases this)
              clear hs T2
              go_wp2_with (go_at_call 79; refine T1.mono ?_; rintro e wa ⟨rfl, hw⟩; obtain rfl := hw.symm; clear hw)
              refine bodyPost_ret (results_tmp rfl _ _ _) rfl ?_
              exact ⟨by rw [← HRr.out, HM.out]; rfl, D0.out⟩
            | true =>
              rw [hs] at T1
              cases hf : Fi.all (inB n) with
              | false =>
                rw [hf] at T2
                have HM : Hid (mayA n m St Fi Ed = false) := hide (may_not fun h => by
                  have := (may_parts h).2.2.2.2.1
                  rw [hf] at this
                  cases this)
                clear hf hs
                go_wp2_with (first
                  | (go_at_call 79; refine T1.mono ?_; rintro e wa ⟨rfl, hw⟩; obtain rfl := hw.symm; clear hw T1)
                  | (go_at_call 79; refine T2.mono ?_; rintro e wa ⟨rfl, hw⟩; obtain rfl := hw.symm; clear hw))
                refine bodyPost_ret (results_tmp rfl _ _ _) rfl ?_
                exact ⟨by rw [← HRr.out, HM.out]; rfl, D0.out⟩
              | true =>
                rw [hf] at T2
                have HSF := hide (And.intro hs hf)
                clear hf hs
                have HNM : Hid ((0 ≤ n ∧ n ≤ 4096) ∧ (0 ≤ m ∧ m ≤ 128) ∧ Ed.length ≤ 65536) := hide (by omega)
                go_wp2_with (first
                  | (go_at_call 79; refine T1.mono ?_; rintro e wa ⟨rfl, hw⟩; obtain rfl := hw.symm; clear hw T1)
                  | (go_at_call 79; refine T2.mono ?_; rintro e wa ⟨rfl, hw⟩; obtain rfl := hw.symm; clear hw T2))
                go_loopw [3] (fun iv wr => ∃ i : Nat, i ≤ Ed.length ∧ iv = .int .i64 i ∧ Hid ((∀ e ∈ Ed.take i, edOk n m e = true) ∧ Below W0.heap.size W0 wr)) (fun iv _ => Ed.length - (intOf iv).toNat)
                case atStart => exact ⟨0, Nat.zero_le _, rfl, hide ⟨by simp, Below.refl _ _⟩⟩
                case round =>
                  obtain ⟨i, hi, rfl, HY⟩ := hrel
                  clear y0 y1 y2 y3 y4
                  have KE := hide (D0.out.trans (HY.out.2.mono D0.out.size))
                  by_cases hlt : i < Ed.length
                  · have l0 : (i : Int) < (Ed.length : Int) := by omega
                    have l1 : (0 : Int) ≤ (i : Int) := by omega
                    have iw : IntKind.i64.wrap ((i : Int) + 1) = (i : Int) + 1 := by rw [IntKind.wrap_i64]; omega
                    obtain ⟨g, o, haa, q1, q2, q3⟩ := (hA.out.e.on KE.out) i hlt
                    subst haa
                    have HIN := hide (List.getElem_mem hlt)
                    have HTK := hide (List.take_succ_eq_append_getElem hlt)
                    generalize Ed[i] = x at q1 q2 q3 HIN HTK
                    obtain ⟨X1, hX1⟩ : ∃ X1, wr.alloc (.cells #[.int .i64 x.1, .int .i64 x.2.1, .int .i64 x.2.2] 50) = X1 := ⟨_, rfl⟩
                    have HX : Hid (X1.heap[wr.heap.size]? = some (.cells #[.int .i64 x.1, .int .i64 x.2.1, .int .i64 x.2.2] 50 (0, 0)) ∧ Below wr.heap.size wr X1) := hide (by rw [← hX1]; exact ⟨World.alloc_heap_new _ _, (Below.refl _ _).alloc (Nat.le_refl _) _⟩)
                    have HD := hide (HY.out.2.trans (HX.out.2.mono HY.out.2.size))
                    have KX := hide (D0.out.trans (HD.out.mono D0.out.size))
                    have z0 : X1.cell? ⟨wr.heap.size, 0, none⟩ = some (.int .i64 x.1) := cell_of HX.out.1 rfl
                    have z1 : X1.cell? ⟨wr.heap.size, 1, none⟩ = some (.int .i64 x.2.1) := cell_of HX.out.1 rfl
                    have z2 : X1.cell? ⟨wr.heap.size, 2, none⟩ = some (.int .i64 x.2.2) := cell_of HX.out.1 rfl
                    have B1 := blk_on B0.out HY.out.2
                    have B2 := blk_on B0.out HD.out
                    have y4 : wr.cell? ⟨w.heap.size, 4, none⟩ = some (.slice (some ⟨g, o, none⟩) Ed.length c3) := cell_of B1 rfl
                    have y0 : X1.cell? ⟨w.heap.size, 0, none⟩ = some (.int .i64 n) := cell_of B2 rfl
                    have y1 : X1.cell? ⟨w.heap.size, 1, none⟩ = some (.int .i64 m) := cell_of B2 rfl
                    clear B1 B2
                    have NO : Hid (edOk n m x = false → mayA n m St Fi Ed = false) := hide (fun hx => may_not fun h => by
                      have := (may_parts h).2.2.2.2.2 x HIN.out
                      rw [show edOk n m x = true by unfold edOk; simp only [Bool.and_eq_true, inB_iff]; omega] at hx
                      cases hx)
                    cases hx : edOk n m x with
                    | true =>
                      have hxx := hx
                      unfold edOk at hxx
                      simp only [Bool.and_eq_true, inB_iff] at hxx
                      have p0 : ¬ x.1 < 0 := by omega
                      have p1 : ¬ x.1 ≥ n := by omega
                      have p2 : ¬ x.2.2 < 0 := by omega
                      have p3 : ¬ x.2.2 ≥ n := by omega
                      have p4 : ¬ x.2.1 < 0 := by omega
                      have p5 : ¬ x.2.1 ≥ m := by omega
                      have HX2 : Hid (∀ e ∈ Ed.take (i + 1), edOk n m e = true) := hide (fun e he => by
                        rw [HTK.out, List.mem_append] at he
                        rcases he with he | he
                        · exact HY.out.1 e he
                        · rw [List.mem_singleton] at he
                          rw [he]
                          exact hx)
                      clear hxx hx NO
                      go_wp2_with fail
                      go_roundw
                      case rel => exact ⟨i + 1, by omega, by go_num, hide ⟨HX2.out, HD.out⟩⟩
                      case measure => simp [intOf]; omega
                    | false =>
                      have HM := hide (NO.out hx)
                      have hxx : ¬ (((0 ≤ x.1 ∧ x.1 < n) ∧ 0 ≤ x.2.1 ∧ x.2.1 < m) ∧ 0 ≤ x.2.2 ∧ x.2.2 < n) := fun h => by
                        rw [show edOk n m x = true by unfold edOk; simp only [Bool.and_eq_true, inB_iff]; exact h] at hx
                        cases hx
                      clear hx NO
                      by_cases p0 : x.1 < 0
                      · clear hxx
                        go_wp2_with fail
                        refine bodyPost_ret (results_tmp rfl _ _ _) rfl ?_
                        exact ⟨by rw [← HRr.out, HM.out]; rfl, KX.out⟩
                      · by_cases p1 : x.1 ≥ n
                        · clear hxx
                          go_wp2_with fail
                          refine bodyPost_ret (results_tmp rfl _ _ _) rfl ?_
                          exact ⟨by rw [← HRr.out, HM.out]; rfl, KX.out⟩
                        · by_cases p2 : x.2.2 < 0
                          · clear hxx
                            go_wp2_with fail
                            refine bodyPost_ret (results_tmp rfl _ _ _) rfl ?_
                            exact ⟨by rw [← HRr.out, HM.out]; rfl, KX.out⟩
                          · by_cases p3 : x.2.2 ≥ n
                            · clear hxx
                              go_wp2_with fail
                              refine bodyPost_ret (results_tmp rfl _ _ _) rfl ?_
                              exact ⟨by rw [← HRr.out, HM.out]; rfl, KX.out⟩
                            · by_cases p4 : x.2.1 < 0
                              · clear hxx
                                go_wp2_with fail
                                refine bodyPost_ret (results_tmp rfl _ _ _) rfl ?_
                                exact ⟨by rw [← HRr.out, HM.out]; rfl, KX.out⟩
                              · have p5 : x.2.1 ≥ m := by omega
                                clear hxx
                                go_wp2_with fail
                                refine bodyPost_ret (results_tmp rfl _ _ _) rfl ?_
                                exact ⟨by rw [← HRr.out, HM.out]; rfl, KX.out⟩
                  · have l0 : ¬ (i : Int) < (Ed.length : Int) := by omega
                    have y4 : wr.cell? ⟨w.heap.size, 4, none⟩ = some (.slice a3 Ed.length c3) := cell_of (blk_on B0.out HY.out.2) rfl
                    have HM : Hid (mayA n m St Fi Ed = true) := hide (by
                      have h5 := HY.out.1
                      rw [List.take_of_length_le (by omega)] at h5
                      have h6 := HNM.out
                      unfold mayA
                      simp only [Bool.and_eq_true, decide_eq_true_eq, inB_iff]
                      exact ⟨⟨⟨⟨⟨by omega, by omega⟩, by omega⟩, HSF.out.1⟩, HSF.out.2⟩, List.all_eq_true.2 h5⟩)
                    go_wp2_with fail
                    refine bodyPost_ret (results_tmp rfl _ _ _) rfl ?_
                    exact ⟨by rw [← HRr.out, HM.out]; rfl, KE.out⟩
/-! ### The document's Normal -/
/-- Rows of one's own, with where they lie. -/
def ownNI (X : List Int) : MkP := fun x lo hi W => W.ownsRow lo 3 1 x X.length (X.map (Value.int .i64)) ∧ ∀ g, x.ownBlock = some g → g < hi
theorem ownNI_mono {X : List Int} : MonoP (ownNI X) := fun _ _ _ _ _ _ d h => ⟨own_below h.1 d, h.2⟩
theorem ownNI_of {X : List Int} {B : Nat} {W : World} {x v : Value} (e : x = v) (h : W.ownsRow B 3 1 v X.length (X.map (Value.int .i64))) : ownNI X x B W.heap.size W := by
  subst e
  exact ⟨h, fun g hg => (h.lt g hg).2⟩
/-- An automaton's lists, each in a row of one's own. -/
structure OwnO (B : Nat) (w : World) (v1 v2 v3 : Value) (S F : List Int) (E : List EdT) : Prop where
  s : w.ownsRow B 3 1 v1 S.length (S.map (Value.int .i64))
  f : w.ownsRow B 3 1 v2 F.length (F.map (Value.int .i64))
  e : w.ownsRow B 50 3 v3 E.length (E.flatMap encE)
  ne : ∀ g, v1.ownBlock = some g → v2.ownBlock ≠ some g
theorem ownO_of {B l1 l2 l3 h1 h2 : Nat} {w : World} {v1 v2 v3 : Value} {S F : List Int} {E : List EdT} (s : w.ownsRow l1 3 1 v1 S.length (S.map (Value.int .i64))) (f : w.ownsRow l2 3 1 v2 F.length (F.map (Value.int .i64))) (e : w.ownsRow l3 50 3 v3 E.length (E.flatMap encE)) (g1 : ∀ g, v1.ownBlock = some g → g < h1) (g2 : ∀ g, v2.ownBlock = some g → g < h2) (hB1 : B ≤ l1) (hB2 : B ≤ l2) (hB3 : B ≤ l3) (ap : h1 ≤ l2 ∨ h2 ≤ l1) : OwnO B w v1 v2 v3 S F E :=
  ⟨owns_down s hB1, owns_down f hB2, owns_down e hB3, fun g hg hh => by
    have a1 := s.lt g hg
    have a2 := f.lt g hh
    have b1 := g1 g hg
    have b2 := g2 g hh
    omega⟩
theorem OwnO.on {B : Nat} {w w' : World} {v1 v2 v3 : Value} {S F : List Int} {E : List EdT} (h : OwnO B w v1 v2 v3 S F E) (d : Below w.heap.size w w') : OwnO B w' v1 v2 v3 S F E := ⟨own_below h.s d, own_below h.f d, own_below h.e d, h.ne⟩
theorem OwnO.down {B C : Nat} {w : World} {v1 v2 v3 : Value} {S F : List Int} {E : List EdT} (h : OwnO C w v1 v2 v3 S F E) (hB : B ≤ C) : OwnO B w v1 v2 v3 S F E := ⟨owns_down h.s hB, owns_down h.f hB, owns_down h.e hB, h.ne⟩
theorem OwnO.keep {B p : Nat} {w w' : World} {v1 v2 v3 : Value} {S F : List Int} {E : List EdT} {cs : Array Value} (h : OwnO B w v1 v2 v3 S F E) (z : w.heap[p]? = some (.cells cs 25 (0, 0))) (o : Only w w' (fun k => k = p)) : OwnO B w' v1 v2 v3 S F E := ⟨own_keep h.s z (by decide) o, own_keep h.f z (by decide) o, own_keep h.e z (by decide) o, h.ne⟩
theorem OwnO.rd {B : Nat} {w : World} {b1 b2 b3 : Option Addr} {k1 k2 k3 : Nat} {S F : List Int} {E : List EdT} (h : OwnO B w (.slice b1 S.length k1) (.slice b2 F.length k2) (.slice b3 E.length k3) S F E) : RdA w b1 b2 b3 S F E := ⟨own_rdN h.s, own_rdN h.f, own_rdE h.e⟩
/-! ### moved: an automaton whose states are moved by a number -/
def movE (L : List EdT) (b : Int) : List EdT := L.map fun e => (e.1 + b, e.2.1, e.2.2 + b)
theorem movE_len (L : List EdT) (b : Int) : (movE L b).length = L.length := by simp [movE]
theorem movE_snoc (L : List EdT) (b : Int) (i : Nat) (h : i < L.length) : movE (L.take (i + 1)) b = movE (L.take i) b ++ [(L[i].1 + b, L[i].2.1, L[i].2.2 + b)] := by
  unfold movE
  rw [List.take_succ_eq_append_getElem h, List.map_append]
  rfl
/-- What moved has made: a box, and rows of its own. -/
structure MvA (w W : World) (p : Nat) (n m : Int) (v1 v2 v3 : Value) (S F : List Int) (E : List EdT) : Prop where
  bx : W.heap[p]? = some (.cells #[.int .i64 n, .int .i64 m, v1, v2, v3] 25 (0, 0))
  ge : w.heap.size ≤ p
  ow : OwnO w.heap.size W v1 v2 v3 S F E
  be : Below w.heap.size w W
theorem mvA_of {w W : World} {p : Nat} {n m : Int} {v1 v2 : Value} {S F : List Int} (z : W.heap[p]? = some (.cells #[.int .i64 0, .int .i64 0, .slice none 0 0, .slice none 0 0, .slice none 0 0] 25 (0, 0))) (d : Below w.heap.size w W) (hp : w.heap.size ≤ p) (o : OwnO w.heap.size W v1 v2 (.slice none 0 0) S F []) :
    MvA w (((((W.setCell ⟨p, 0, none⟩ (.int .i64 n)).setCell ⟨p, 1, none⟩ (.int .i64 m)).setCell ⟨p, 2, none⟩ v1).setCell ⟨p, 3, none⟩ v2).setCell ⟨p, 4, none⟩ (.slice none 0 0)) p n m v1 v2 (.slice none 0 0) S F [] := by
  have o5 := only5 W p (.int .i64 n) (.int .i64 m) v1 v2 (.slice none 0 0)
  exact ⟨set5 W p _ _ _ _ _ (.int .i64 n) (.int .i64 m) v1 v2 (.slice none 0 0) 25 z, hp, o.keep z o5, d.trans (o5.toBelow d.size (fun k hk => by rw [hk]; exact hp))⟩
theorem mvA_next {w wr w5 : World} {p : Nat} {n m : Int} {v1 v2 v3 v5 : Value} {S F : List Int} {X Y : List EdT} {cs1 cs2 : Array Value} (h : MvA w wr p n m v1 v2 v3 S F X) (o : w5.ownsRow w.heap.size 50 3 v5 Y.length (Y.flatMap encE)) (oo : Only ((wr.alloc (.cells cs1 50)).alloc (.cells cs2 50)) w5 (fun k => v3.ownBlock = some k)) :
    w5.heap[p]? = some (.cells #[.int .i64 n, .int .i64 m, v1, v2, v3] 25 (0, 0)) ∧ MvA w (w5.setCell ⟨p, 4, none⟩ v5) p n m v1 v2 v5 S F Y := by
  have d1 : Below wr.heap.size wr ((wr.alloc (.cells cs1 50)).alloc (.cells cs2 50)) := ((Below.refl _ _).alloc (Nat.le_refl _) _).alloc (by simp) _
  have s2 := own_below h.ow.s d1
  have f2 := own_below h.ow.f d1
  have e2 := own_below h.ow.e d1
  have b2 := blk_on h.bx d1
  have b5 := (oo.block p (Array.getElem?_eq_some_iff.1 b2).1 (fun hk => row_tag e2 b2 (by decide) hk)).trans b2
  have s5 := row_only s2 oo (fun k hk hk2 => rows_differ e2 s2 (by decide) hk2 hk)
  have f5 := row_only f2 oo (fun k hk hk2 => rows_differ e2 f2 (by decide) hk2 hk)
  have o2 := only_set w5 p 4 v5
  have dd := h.be.trans (d1.mono h.be.size)
  have d5 := dd.trans (oo.toBelow dd.size (fun k hk => (e2.lt k hk).1))
  exact ⟨b5, heap_setCell_same _ _ 4 _ 25 _ b5, h.ge, ⟨own_keep s5 b5 (by decide) o2, own_keep f5 b5 (by decide) o2, own_keep o b5 (by decide) o2, h.ow.ne⟩, d5.trans (o2.toBelow d5.size (fun k hk => by rw [hk]; exact h.ge))⟩
set_option maxRecDepth 100000 in
set_option maxHeartbeats 4000000 in
theorem moved_any (w : World) (N n1 n2 n3 : Nat) (m b : Int) (a1 a2 a3 : Option Addr) (c1 c2 c3 : Nat) (St Fi : List Int) (Ed : List EdT) (e1 : St.length = n1) (e2 : Fi.length = n2) (e3 : Ed.length = n3) (hA : Hid (RdA w a1 a2 a3 St Fi Ed)) (h1 : n1 ≤ 2000000) (h2 : n2 ≤ 2000000) (h3 : n3 ≤ 2000000) (hN : N ≤ 4096) (hb : 0 ≤ b ∧ b ≤ 4096) (hS : Hid (∀ x ∈ St, 0 ≤ x ∧ x ≤ 4096)) (hF : Hid (∀ x ∈ Fi, 0 ≤ x ∧ x ≤ 4096)) (hE : Hid (∀ e ∈ Ed, (0 ≤ e.1 ∧ e.1 ≤ 4096) ∧ 0 ≤ e.2.2 ∧ e.2.2 ≤ 4096)) :
    Calls Tryz.prog 33 #[.agg #[.int .i64 (N : Int), .int .i64 m, .slice a1 n1 c1, .slice a2 n2 c2, .slice a3 n3 c3], .int .i64 b] w fun e w' => ∃ b1 k1 b2 k2 b3 k3, e = .returned (.agg #[.int .i64 ((N : Int) + b), .int .i64 m, .slice b1 n1 k1, .slice b2 n2 k2, .slice b3 n3 k3]) ∧ Hid (OwnO w.heap.size w' (.slice b1 n1 k1) (.slice b2 n2 k2) (.slice b3 n3 k3) (movN St b) (movN Fi b) (movE Ed b) ∧ Below w.heap.size w w') := by
  obtain ⟨W0, hW0⟩ : ∃ W0, (w.alloc (.cells #[.int .i64 (N : Int), .int .i64 m, .slice a1 n1 c1, .slice a2 n2 c2, .slice a3 n3 c3] 25)).alloc (.cells #[.int .i64 0, .int .i64 0, .slice none 0 0, .slice none 0 0, .slice none 0 0] 25) = W0 := ⟨_, rfl⟩
  have HD := hide (box2 w #[.int .i64 (N : Int), .int .i64 m, .slice a1 n1 c1, .slice a2 n2 c2, .slice a3 n3 c3] #[.int .i64 0, .int .i64 0, .slice none 0 0, .slice none 0 0, .slice none 0 0] 25)
  rw [hW0] at HD
  have SK : Hid (∀ W, Below W0.heap.size W0 W → W.cell? ⟨w.heap.size, 0, none⟩ = some (.int .i64 (N : Int)) ∧ W.cell? ⟨w.heap.size, 1, none⟩ = some (.int .i64 m) ∧ W.cell? ⟨w.heap.size, 2, none⟩ = some (.slice a1 n1 c1) ∧ W.cell? ⟨w.heap.size, 3, none⟩ = some (.slice a2 n2 c2) ∧ W.cell? ⟨w.heap.size, 4, none⟩ = some (.slice a3 n3 c3)) := hide (fun W d => by
    have e := blk_on HD.out.2.1 d
    exact ⟨cell_of e rfl, cell_of e rfl, cell_of e rfl, cell_of e rfl, cell_of e rfl⟩)
  have T1 : Hid (∀ W, Below W0.heap.size W0 W → Calls Tryz.prog 57 #[.slice a1 n1 c1, .int .i64 b] W fun e w' => ∃ g, e = .returned (.slice (some ⟨g, 0, none⟩) n1 n1) ∧ Hid (w'.ownsRow W.heap.size 3 1 (.slice (some ⟨g, 0, none⟩) n1 n1) n1 ((movN St b).map (Value.int .i64)) ∧ Below W.heap.size W w')) := hide (fun W d => movedS_any W a1 n1 c1 St b e1 (hide (hA.out.s.on (HD.out.1.trans (d.mono HD.out.1.size)))) (by omega) (by omega) (hide (fun x hx => by have := hS.out x hx; omega)))
  have T2 : Hid (∀ W, Below W0.heap.size W0 W → Calls Tryz.prog 57 #[.slice a2 n2 c2, .int .i64 b] W fun e w' => ∃ g, e = .returned (.slice (some ⟨g, 0, none⟩) n2 n2) ∧ Hid (w'.ownsRow W.heap.size 3 1 (.slice (some ⟨g, 0, none⟩) n2 n2) n2 ((movN Fi b).map (Value.int .i64)) ∧ Below W.heap.size W w')) := hide (fun W d => movedS_any W a2 n2 c2 Fi b e2 (hide (hA.out.f.on (HD.out.1.trans (d.mono HD.out.1.size)))) (by omega) (by omega) (hide (fun x hx => by have := hF.out x hx; omega)))
  have HL := hide (And.intro e1 (And.intro e2 e3))
  have ew : IntKind.i64.wrap ((N : Int) + b) = (N : Int) + b := by rw [IntKind.wrap_i64]; omega
  clear e1 e2 e3
  go_enter Tryz.func33, Tryz.ntmps33
  go_upto_region 1 with fail
  go_cut [5] from 5 to 22 (fun v5 W => ∃ p5 b1 k1 b2 k2, v5 = .pointer (some ⟨p5, 0, none⟩) ∧ Hid (MvA W0 W p5 ((N : Int) + b) m (.slice b1 n1 k1) (.slice b2 n2 k2) (.slice none 0 0) (movN St b) (movN Fi b) []))
  case first =>
    have hmo : MonIL 0 [vI 0 (.pointer (some ⟨w.heap.size, 0, none⟩)), vI 1 (.int .i64 (N : Int)), vI 2 (.int .i64 b), vI 3 (.int .i64 ((N : Int) + b)), vI 4 (.pointer (some ⟨w.heap.size, 1, none⟩)), vI 5 (.int .i64 m), vI 6 (.pointer (some ⟨w.heap.size, 2, none⟩)), vI 7 (.slice a1 n1 c1), vI 8 (.int .i64 b), pI 9 (ownNI (movN St b)), vI 10 (.pointer (some ⟨w.heap.size, 3, none⟩)), vI 11 (.slice a2 n2 c2), vI 12 (.int .i64 b), pI 13 (ownNI (movN Fi b)), ⟨[9, 13], [], fun y _ _ _ => y 14 = .agg #[.int .i64 ((N : Int) + b), .int .i64 m, y 9, y 13, .slice none 0 0]⟩, pI 15 (boxP)] := ⟨vI_mono _ _, vI_mono _ _, vI_mono _ _, vI_mono _ _, vI_mono _ _, vI_mono _ _, vI_mono _ _, vI_mono _ _, vI_mono _ _, pI_mono ownNI_mono, vI_mono _ _, vI_mono _ _, vI_mono _ _, pI_mono ownNI_mono, (fun _ _ _ _ _ _ _ _ hy h => by dsimp only at hy h ⊢; rw [hy 14 (Or.inl rfl), hy 9 (Or.inr (by simp)), hy 13 (Or.inr (by simp))]; exact h), pI_mono boxP_mono, trivial⟩
    refine wp_region_sl [vI 0 (.pointer (some ⟨w.heap.size, 0, none⟩)), vI 1 (.int .i64 (N : Int)), vI 2 (.int .i64 b), vI 3 (.int .i64 ((N : Int) + b)), vI 4 (.pointer (some ⟨w.heap.size, 1, none⟩)), vI 5 (.int .i64 m), vI 6 (.pointer (some ⟨w.heap.size, 2, none⟩)), vI 7 (.slice a1 n1 c1), vI 8 (.int .i64 b), pI 9 (ownNI (movN St b)), vI 10 (.pointer (some ⟨w.heap.size, 3, none⟩)), vI 11 (.slice a2 n2 c2), vI 12 (.int .i64 b), pI 13 (ownNI (movN Fi b)), ⟨[9, 13], [], fun y _ _ _ => y 14 = .agg #[.int .i64 ((N : Int) + b), .int .i64 m, y 9, y 13, .slice none 0 0]⟩, pI 15 (boxP)] (by kernel_rfl) (by kernel_rfl) (by kernel_rfl) (by kernel_rfl) hmo ⟨?o0, ?o1, ?o2, ?o3, ?o4, ?o5, ?o6, ?o7, ?o8, ?o9, ?o10, ?o11, ?o12, ?o13, ?o14, ?o15, trivial⟩ ?fin
    case o0 =>
      intro At yy W hy hb d hd K hK
      have s2 : At.tmps.getD 2 undef = .pointer (some ⟨w.heap.size, 0, none⟩) := hb 2 rfl
      have s2' := s2
      rw [Array.getD_eq_getD_getElem?] at s2'
      clear hd hy hb
      go_simp
      exact hK.out _ W (stp_of hmo d (Below.refl _ _)) (if_pos rfl)
    case o1 =>
      intro At yy W hy hb d hd K hK
      have e0 : yy 0 = .pointer (some ⟨w.heap.size, 0, none⟩) := by obtain ⟨_, _, _, _, e⟩ := hd ⟨0, .data⟩ (by simp) rfl rfl; exact e
      have s8 := (hy 0 _ 8 rfl rfl).trans e0
      have s8' := s8
      rw [Array.getD_eq_getD_getElem?] at s8'
      clear hd hy hb
      obtain ⟨y0, y1, y2, y3, y4⟩ := SK.out W d
      go_simp
      exact hK.out _ W (stp_of hmo d (Below.refl _ _)) (if_pos rfl)
    case o2 =>
      intro At yy W hy hb d hd K hK
      have s1 : At.tmps.getD 1 undef = .int .i64 b := hb 1 rfl
      have s1' := s1
      rw [Array.getD_eq_getD_getElem?] at s1'
      clear hd hy hb
      go_simp
      exact hK.out _ W (stp_of hmo d (Below.refl _ _)) (if_pos rfl)
    case o3 =>
      intro At yy W hy hb d hd K hK
      have e1 : yy 1 = .int .i64 (N : Int) := by obtain ⟨_, _, _, _, e⟩ := hd ⟨1, .data⟩ (by simp) rfl rfl; exact e
      have e2 : yy 2 = .int .i64 b := by obtain ⟨_, _, _, _, e⟩ := hd ⟨2, .data⟩ (by simp) rfl rfl; exact e
      have s9 := (hy 1 _ 9 rfl rfl).trans e1
      have s9' := s9
      rw [Array.getD_eq_getD_getElem?] at s9'
      have s10 := (hy 2 _ 10 rfl rfl).trans e2
      have s10' := s10
      rw [Array.getD_eq_getD_getElem?] at s10'
      clear hd hy hb
      go_simp
      exact hK.out _ W (stp_of hmo d (Below.refl _ _)) (if_pos rfl)
    case o4 =>
      intro At yy W hy hb d hd K hK
      have s2 : At.tmps.getD 2 undef = .pointer (some ⟨w.heap.size, 0, none⟩) := hb 2 rfl
      have s2' := s2
      rw [Array.getD_eq_getD_getElem?] at s2'
      clear hd hy hb
      go_simp
      exact hK.out _ W (stp_of hmo d (Below.refl _ _)) (if_pos rfl)
    case o5 =>
      intro At yy W hy hb d hd K hK
      have e4 : yy 4 = .pointer (some ⟨w.heap.size, 1, none⟩) := by obtain ⟨_, _, _, _, e⟩ := hd ⟨4, .data⟩ (by simp) rfl rfl; exact e
      have s12 := (hy 4 _ 12 rfl rfl).trans e4
      have s12' := s12
      rw [Array.getD_eq_getD_getElem?] at s12'
      clear hd hy hb
      obtain ⟨y0, y1, y2, y3, y4⟩ := SK.out W d
      go_simp
      exact hK.out _ W (stp_of hmo d (Below.refl _ _)) (if_pos rfl)
    case o6 =>
      intro At yy W hy hb d hd K hK
      have s2 : At.tmps.getD 2 undef = .pointer (some ⟨w.heap.size, 0, none⟩) := hb 2 rfl
      have s2' := s2
      rw [Array.getD_eq_getD_getElem?] at s2'
      clear hd hy hb
      go_simp
      exact hK.out _ W (stp_of hmo d (Below.refl _ _)) (if_pos rfl)
    case o7 =>
      intro At yy W hy hb d hd K hK
      have e6 : yy 6 = .pointer (some ⟨w.heap.size, 2, none⟩) := by obtain ⟨_, _, _, _, e⟩ := hd ⟨6, .data⟩ (by simp) rfl rfl; exact e
      have s14 := (hy 6 _ 14 rfl rfl).trans e6
      have s14' := s14
      rw [Array.getD_eq_getD_getElem?] at s14'
      clear hd hy hb
      obtain ⟨y0, y1, y2, y3, y4⟩ := SK.out W d
      go_simp
      exact hK.out _ W (stp_of hmo d (Below.refl _ _)) (if_pos rfl)
    case o8 =>
      intro At yy W hy hb d hd K hK
      have s1 : At.tmps.getD 1 undef = .int .i64 b := hb 1 rfl
      have s1' := s1
      rw [Array.getD_eq_getD_getElem?] at s1'
      clear hd hy hb
      go_simp
      exact hK.out _ W (stp_of hmo d (Below.refl _ _)) (if_pos rfl)
    case o9 =>
      intro At yy W hy hb d hd K hK
      have e7 : yy 7 = .slice a1 n1 c1 := by obtain ⟨_, _, _, _, e⟩ := hd ⟨7, .data⟩ (by simp) rfl rfl; exact e
      have e8 : yy 8 = .int .i64 b := by obtain ⟨_, _, _, _, e⟩ := hd ⟨8, .data⟩ (by simp) rfl rfl; exact e
      have s15 := (hy 7 _ 15 rfl rfl).trans e7
      have s15' := s15
      rw [Array.getD_eq_getD_getElem?] at s15'
      have s16 := (hy 8 _ 16 rfl rfl).trans e8
      have s16' := s16
      rw [Array.getD_eq_getD_getElem?] at s16'
      clear hd hy hb
      go_simp
      go_wp2_with (go_at_call 57; refine (T1.out _ d).mono ?_; rintro e wa ⟨g, rfl, hR⟩)
      exact hK.out _ wa (stp_of hmo d hR.out.2) (ownNI_of (if_pos rfl) (by rw [movN_len, HL.out.1]; exact hR.out.1))
    case o10 =>
      intro At yy W hy hb d hd K hK
      have s2 : At.tmps.getD 2 undef = .pointer (some ⟨w.heap.size, 0, none⟩) := hb 2 rfl
      have s2' := s2
      rw [Array.getD_eq_getD_getElem?] at s2'
      clear hd hy hb
      go_simp
      exact hK.out _ W (stp_of hmo d (Below.refl _ _)) (if_pos rfl)
    case o11 =>
      intro At yy W hy hb d hd K hK
      have e10 : yy 10 = .pointer (some ⟨w.heap.size, 3, none⟩) := by obtain ⟨_, _, _, _, e⟩ := hd ⟨10, .data⟩ (by simp) rfl rfl; exact e
      have s18 := (hy 10 _ 18 rfl rfl).trans e10
      have s18' := s18
      rw [Array.getD_eq_getD_getElem?] at s18'
      clear hd hy hb
      obtain ⟨y0, y1, y2, y3, y4⟩ := SK.out W d
      go_simp
      exact hK.out _ W (stp_of hmo d (Below.refl _ _)) (if_pos rfl)
    case o12 =>
      intro At yy W hy hb d hd K hK
      have s1 : At.tmps.getD 1 undef = .int .i64 b := hb 1 rfl
      have s1' := s1
      rw [Array.getD_eq_getD_getElem?] at s1'
      clear hd hy hb
      go_simp
      exact hK.out _ W (stp_of hmo d (Below.refl _ _)) (if_pos rfl)
    case o13 =>
      intro At yy W hy hb d hd K hK
      have e11 : yy 11 = .slice a2 n2 c2 := by obtain ⟨_, _, _, _, e⟩ := hd ⟨11, .data⟩ (by simp) rfl rfl; exact e
      have e12 : yy 12 = .int .i64 b := by obtain ⟨_, _, _, _, e⟩ := hd ⟨12, .data⟩ (by simp) rfl rfl; exact e
      have s19 := (hy 11 _ 19 rfl rfl).trans e11
      have s19' := s19
      rw [Array.getD_eq_getD_getElem?] at s19'
      have s20 := (hy 12 _ 20 rfl rfl).trans e12
      have s20' := s20
      rw [Array.getD_eq_getD_getElem?] at s20'
      clear hd hy hb
      go_simp
      go_wp2_with (go_at_call 57; refine (T2.out _ d).mono ?_; rintro e wa ⟨g, rfl, hR⟩)
      exact hK.out _ wa (stp_of hmo d hR.out.2) (ownNI_of (if_pos rfl) (by rw [movN_len, HL.out.2.1]; exact hR.out.1))
    case o14 =>
      intro At yy W hy hb d hd K hK
      have e3 : yy 3 = .int .i64 ((N : Int) + b) := by obtain ⟨_, _, _, _, e⟩ := hd ⟨3, .data⟩ (by simp) rfl rfl; exact e
      have e5 : yy 5 = .int .i64 m := by obtain ⟨_, _, _, _, e⟩ := hd ⟨5, .data⟩ (by simp) rfl rfl; exact e
      have f9 := hd ⟨9, .data⟩ (by simp) rfl rfl
      have f13 := hd ⟨13, .data⟩ (by simp) rfl rfl
      obtain ⟨_, _, _, _, o9, _⟩ := f9
      obtain ⟨_, _, _, _, o13, _⟩ := f13
      obtain ⟨b1, k1, e9⟩ := own_slice o9
      obtain ⟨b2, k2, e13⟩ := own_slice o13
      have s11 := (hy 3 _ 11 rfl rfl).trans e3
      have s11' := s11
      rw [Array.getD_eq_getD_getElem?] at s11'
      have s13 := (hy 5 _ 13 rfl rfl).trans e5
      have s13' := s13
      rw [Array.getD_eq_getD_getElem?] at s13'
      have s17 := (hy 9 _ 17 rfl rfl).trans e9
      have s17' := s17
      rw [Array.getD_eq_getD_getElem?] at s17'
      have s21 := (hy 13 _ 21 rfl rfl).trans e13
      have s21' := s21
      rw [Array.getD_eq_getD_getElem?] at s21'
      clear hd hy hb
      go_simp
      exact hK.out _ W (stp_of hmo d (Below.refl _ _)) (by show updV yy 14 _ 14 = .agg #[.int .i64 ((N : Int) + b), .int .i64 m, updV yy 14 _ 9, updV yy 14 _ 13, .slice none 0 0]; simp [updV, e9, e13])
    case o15 =>
      intro At yy W hy hb d hd K hK
      clear hd hy hb
      go_simp
      exact hK.out _ _ (stp_of hmo d ((Below.refl _ _).alloc (Nat.le_refl _) _)) ⟨if_pos rfl, by simp, World.alloc_heap_new _ _⟩
    case fin =>
      intro yy lo hi W hM
      show wpList _ _ _ [_] _ _
      have e0 : yy 0 = .pointer (some ⟨w.heap.size, 0, none⟩) := hM.fact 0 (by simp) rfl (notR_all 0 rfl)
      have e1 : yy 1 = .int .i64 (N : Int) := hM.fact 1 (by simp) rfl (notR_all 1 rfl)
      have e2 : yy 2 = .int .i64 b := hM.fact 2 (by simp) rfl (notR_all 2 rfl)
      have e3 : yy 3 = .int .i64 ((N : Int) + b) := hM.fact 3 (by simp) rfl (notR_all 3 rfl)
      have e4 : yy 4 = .pointer (some ⟨w.heap.size, 1, none⟩) := hM.fact 4 (by simp) rfl (notR_all 4 rfl)
      have e5 : yy 5 = .int .i64 m := hM.fact 5 (by simp) rfl (notR_all 5 rfl)
      have e6 : yy 6 = .pointer (some ⟨w.heap.size, 2, none⟩) := hM.fact 6 (by simp) rfl (notR_all 6 rfl)
      have e7 : yy 7 = .slice a1 n1 c1 := hM.fact 7 (by simp) rfl (notR_all 7 rfl)
      have e8 : yy 8 = .int .i64 b := hM.fact 8 (by simp) rfl (notR_all 8 rfl)
      have e10 : yy 10 = .pointer (some ⟨w.heap.size, 3, none⟩) := hM.fact 10 (by simp) rfl (notR_all 10 rfl)
      have e11 : yy 11 = .slice a2 n2 c2 := hM.fact 11 (by simp) rfl (notR_all 11 rfl)
      have e12 : yy 12 = .int .i64 b := hM.fact 12 (by simp) rfl (notR_all 12 rfl)
      have e14 : yy 14 = .agg #[.int .i64 ((N : Int) + b), .int .i64 m, yy 9, yy 13, .slice none 0 0] := hM.fact 14 (by simp) rfl (notR_all 14 rfl)
      obtain ⟨o9, l9⟩ := hM.fact 9 (by simp) rfl (notR_all 9 rfl)
      obtain ⟨o13, l13⟩ := hM.fact 13 (by simp) rfl (notR_all 13 rfl)
      obtain ⟨e15, l15, z15⟩ := hM.fact 15 (by simp) rfl (notR_all 15 rfl)
      have t9 := hM.at' 9 (by simp) rfl
      have t13 := hM.at' 13 (by simp) rfl
      have t15 := hM.at' 15 (by simp) rfl
      have ap := hM.apart 9 13 (by simp) (by simp) rfl rfl (by decide)
      have dd := hM.d
      have HOO : OwnO W0.heap.size W (yy 9) (yy 13) (.slice none 0 0) (movN St b) (movN Fi b) [] := ownO_of o9 o13 (World.ownsRow_nil W W0.heap.size _ _) l9 l13 (by omega) (by omega) (by omega) ap
      obtain ⟨b1, k1, e9⟩ := own_slice o9
      obtain ⟨b2, k2, e13⟩ := own_slice o13
      rw [e9, e13] at HOO e14
      rw [movN_len, HL.out.1] at e9
      rw [movN_len, HL.out.2.1] at e13
      rw [movN_len, movN_len, HL.out.1, HL.out.2.1] at HOO e14
      generalize lo 15 = p5 at e15 z15 t15 l15
      have o0' : W.cell? ⟨p5, 0, none⟩ = some (.int .i64 0) := cell_of z15 rfl
      have g0 : W.frozen? ⟨p5, 0, none⟩ = false := fz_of z15
      have o1' : W.cell? ⟨p5, 1, none⟩ = some (.int .i64 0) := cell_of z15 rfl
      have g1 : W.frozen? ⟨p5, 1, none⟩ = false := fz_of z15
      have o2' : W.cell? ⟨p5, 2, none⟩ = some (.slice none 0 0) := cell_of z15 rfl
      have g2 : W.frozen? ⟨p5, 2, none⟩ = false := fz_of z15
      have o3' : W.cell? ⟨p5, 3, none⟩ = some (.slice none 0 0) := cell_of z15 rfl
      have g3 : W.frozen? ⟨p5, 3, none⟩ = false := fz_of z15
      have o4' : W.cell? ⟨p5, 4, none⟩ = some (.slice none 0 0) := cell_of z15 rfl
      have g4 : W.frozen? ⟨p5, 4, none⟩ = false := fz_of z15
      have HF := hide (mvA_of (n := (N : Int) + b) (m := m) z15 dd t15.1 HOO)
      simp only [fills, Act.put, List.take, List.length, List.setIfInBounds_toArray, List.set_cons_zero, List.set_cons_succ, e0, e1, e2, e3, e4, e5, e6, e7, e8, e10, e11, e12, e9, e13, e14, e15]
      clear hM hmo e0 e1 e2 e3 e4 e5 e6 e7 e8 e10 e11 e12 e9 e13 e14 e15 o9 o13 l9 l13 l15 z15 t9 t13 t15 ap dd HOO
      go_wp2_with fail
      go_meet
      exact ⟨p5, b1, k1, b2, k2, rfl, HF⟩
  case rest =>
    obtain ⟨p5, b1, k1, b2, k2, rfl, HA⟩ := hcut
    rename World => wx
    clear T1 T2
    have y4 := (SK.out wx HA.out.be).2.2.2.2
    go_wp2_with fail
    clear y4
    go_loopw [26] (fun iv wr => ∃ i : Nat, i ≤ n3 ∧ iv = .int .i64 (i : Int) ∧ ∃ b3 k3, Hid (MvA W0 wr p5 ((N : Int) + b) m (.slice b1 n1 k1) (.slice b2 n2 k2) (.slice b3 i k3) (movN St b) (movN Fi b) (movE (Ed.take i) b))) (fun iv _ => n3 - (intOf iv).toNat)
    case atStart => exact ⟨0, Nat.zero_le _, rfl, none, 0, HA⟩
    case round =>
      obtain ⟨i, hi, rfl, b3, k3, HY⟩ := hrel
      clear HA
      by_cases hil : i < n3
      · have i0 : (0 : Int) ≤ (i : Int) := by omega
        have i1 : (i : Int) < (n3 : Int) := by omega
        have hjl : i < Ed.length := by have := HL.out.2.2; omega
        obtain ⟨ge, o, ea, q1, q2, q3⟩ := (hA.out.e.on (HD.out.1.trans (HY.out.be.mono HD.out.1.size))) i hjl
        subst ea
        have HT := hide (movE_snoc Ed b i hjl)
        have hx := hE.out _ (List.getElem_mem hjl)
        generalize Ed[i] = x at q1 q2 q3 HT hx
        obtain ⟨x1, x2, x3⟩ := x
        simp only at q1 q2 q3 hx
        have HT2 : Hid (movE (Ed.take (i + 1)) b = movE (Ed.take i) b ++ [(x1 + b, x2, x3 + b)]) := HT
        have HTl : Hid ((movE (Ed.take i) b).length = i) := hide (by rw [movE_len, List.length_take]; omega)
        clear HT
        have r1 : IntKind.i64.wrap (x1 + b) = x1 + b := by rw [IntKind.wrap_i64]; omega
        have r3 : IntKind.i64.wrap (x3 + b) = x3 + b := by rw [IntKind.wrap_i64]; omega
        have HS0 := hide HY.out.be.size
        obtain ⟨W1, hW1⟩ : ∃ W1, wr.alloc (.cells #[.int .i64 x1, .int .i64 x2, .int .i64 x3] 50) = W1 := ⟨_, rfl⟩
        have HW : Hid (W1.heap[wr.heap.size]? = some (.cells #[.int .i64 x1, .int .i64 x2, .int .i64 x3] 50 (0, 0)) ∧ Below wr.heap.size wr W1 ∧ W1.heap.size = wr.heap.size + 1 ∧ wr.alloc (.cells #[.int .i64 x1, .int .i64 x2, .int .i64 x3] 50) = W1) := hide (by rw [← hW1]; exact ⟨World.alloc_heap_new _ _, (Below.refl _ _).alloc (Nat.le_refl _) _, by simp, rfl⟩)
        have z0 : W1.cell? ⟨wr.heap.size, 0, none⟩ = some (.int .i64 x1) := cell_of HW.out.1 rfl
        have z1 : W1.cell? ⟨wr.heap.size, 1, none⟩ = some (.int .i64 x2) := cell_of HW.out.1 rfl
        have z2 : W1.cell? ⟨wr.heap.size, 2, none⟩ = some (.int .i64 x3) := cell_of HW.out.1 rfl
        have z4 : W1.cell? ⟨p5, 4, none⟩ = some (.slice b3 i k3) := cell_of (blk_on HY.out.bx HW.out.2.1) rfl
        have HX := hide (own_below HY.out.ow.e HW.out.2.1)
        go_wp2_with (at_builtin; refine wpList_appG rfl _ _ rfl W0.heap.size (.slice b3 i k3) (movE (Ed.take i) b) rfl (own_below HX.out ((Below.refl _ _).alloc (Nat.le_refl _) _)) W1.heap.size (x1 + b, x2, x3 + b) rfl (World.alloc_heap_new _ _) (by have := HTl.out; omega) (by have := HS0.out; have := HW.out.2.2.1; rw [World.size_alloc]; omega) ?_; intro v5 w5 HO5 HG5; obtain ⟨z5, d5, e5⟩ := own_slice HO5.out; have E5 : v5 = .slice z5 (i + 1) d5 := (by rw [e5, List.length_append, HTl.out]; rfl); clear e5; subst E5; have HQ := hide (mvA_next (cs1 := #[.int .i64 x1, .int .i64 x2, .int .i64 x3]) HY.out HO5.out (by rw [HW.out.2.2.2]; exact HG5.out)); have c5 : w5.cell? ⟨p5, 4, none⟩ = some (.slice b3 i k3) := cell_of HQ.out.1 rfl; have f5 : w5.frozen? ⟨p5, 4, none⟩ = false := fz_of HQ.out.1)
        refine ⟨⟨i + 1, by omega, by go_num, z5, d5, hide (by rw [HT2.out]; exact HQ.out.2)⟩, by simp [intOf]; omega⟩
      · obtain rfl : n3 = i := by omega
        have i1 : ¬ (n3 : Int) < (n3 : Int) := by omega
        have HZ : Hid (MvA W0 wr p5 ((N : Int) + b) m (.slice b1 n1 k1) (.slice b2 n2 k2) (.slice b3 n3 k3) (movN St b) (movN Fi b) (movE Ed b)) := hide (by
          have q := HY.out
          rw [List.take_of_length_le (by have := HL.out.2.2; omega)] at q
          exact q)
        clear HY
        have F3 := blk_on HD.out.2.2.1 HZ.out.be
        have F4 := HZ.out.bx
        have o0 : wr.cell? ⟨w.heap.size + 1, 0, none⟩ = some (.int .i64 0) := cell_of F3 rfl
        have f0 : wr.frozen? ⟨w.heap.size + 1, 0, none⟩ = false := fz_of F3
        have v0 : wr.cell? ⟨p5, 0, none⟩ = some (.int .i64 ((N : Int) + b)) := cell_of F4 rfl
        have o1 : wr.cell? ⟨w.heap.size + 1, 1, none⟩ = some (.int .i64 0) := cell_of F3 rfl
        have f1 : wr.frozen? ⟨w.heap.size + 1, 1, none⟩ = false := fz_of F3
        have v1 : wr.cell? ⟨p5, 1, none⟩ = some (.int .i64 m) := cell_of F4 rfl
        have o2 : wr.cell? ⟨w.heap.size + 1, 2, none⟩ = some (.slice none 0 0) := cell_of F3 rfl
        have f2 : wr.frozen? ⟨w.heap.size + 1, 2, none⟩ = false := fz_of F3
        have v2 : wr.cell? ⟨p5, 2, none⟩ = some (.slice b1 n1 k1) := cell_of F4 rfl
        have o3 : wr.cell? ⟨w.heap.size + 1, 3, none⟩ = some (.slice none 0 0) := cell_of F3 rfl
        have f3 : wr.frozen? ⟨w.heap.size + 1, 3, none⟩ = false := fz_of F3
        have v3 : wr.cell? ⟨p5, 3, none⟩ = some (.slice b2 n2 k2) := cell_of F4 rfl
        have o4 : wr.cell? ⟨w.heap.size + 1, 4, none⟩ = some (.slice none 0 0) := cell_of F3 rfl
        have f4 : wr.frozen? ⟨w.heap.size + 1, 4, none⟩ = false := fz_of F3
        have v4 : wr.cell? ⟨p5, 4, none⟩ = some (.slice b3 n3 k3) := cell_of F4 rfl
        have O6 := hide (And.intro (set5 wr (w.heap.size + 1) _ _ _ _ _ (.int .i64 ((N : Int) + b)) (.int .i64 m) (.slice b1 n1 k1) (.slice b2 n2 k2) (.slice b3 n3 k3) 25 F3) (only5 wr (w.heap.size + 1) (.int .i64 ((N : Int) + b)) (.int .i64 m) (.slice b1 n1 k1) (.slice b2 n2 k2) (.slice b3 n3 k3)))
        have HO2 := hide (HZ.out.ow.keep F3 O6.out.2)
        clear F3 F4
        go_wp2_with fail
        refine bodyPost_ret (results_cell_row (p := 4) (ty := 25) rfl _ _ (w.heap.size + 1) 25 _ (0, 0) _ rfl O6.out.1 Tryz.underlying25 rfl (by kernel_rfl)) rfl ?_
        have s1 := HD.out.2.2.2
        have s2 := HZ.out.be.size
        exact ⟨b1, k1, b2, k2, b3, k3, rfl, hide ⟨HO2.out.down (by omega), (HD.out.1.trans (HZ.out.be.mono (by omega))).trans (O6.out.2.toBelow (by omega) (fun k hk => by omega))⟩⟩
/-! ### One: the automaton of one word -/
def oneE (L : List Int) : List EdT := L.zipIdx.map fun p => ((p.2 : Int), p.1, (p.2 : Int) + 1)
theorem oneE_len (L : List Int) : (oneE L).length = L.length := by simp [oneE]
theorem oneE_snoc (L : List Int) (i : Nat) (h : i < L.length) : oneE (L.take (i + 1)) = oneE (L.take i) ++ [((i : Int), L[i], (i : Int) + 1)] := by
  unfold oneE
  rw [List.take_succ_eq_append_getElem h, List.zipIdx_append, List.map_append]
  have : (L.take i).length = i := by rw [List.length_take]; omega
  simp [this]
theorem own_one {W : World} {B g : Nat} {x : Value} (h : W.heap[g]? = some (.cells #[x] 3 (0, 0))) (hB : B ≤ g) : W.ownsRow B 3 1 (.slice (some ⟨g, 0, none⟩) 1 1) 1 [x] :=
  ⟨by simp, .inr ⟨g, 1, #[x], rfl, hB, h, Nat.le_refl _, by unfold maxLen; omega, by simp, by simp⟩⟩
theorem mvA_put {w wr wa w5 : World} {p : Nat} {n m : Int} {v1 v2 v3 v5 : Value} {S F : List Int} {X Y : List EdT} (h : MvA w wr p n m v1 v2 v3 S F X) (d1 : Below wr.heap.size wr wa) (o : w5.ownsRow w.heap.size 50 3 v5 Y.length (Y.flatMap encE)) (oo : Only wa w5 (fun k => v3.ownBlock = some k)) :
    w5.heap[p]? = some (.cells #[.int .i64 n, .int .i64 m, v1, v2, v3] 25 (0, 0)) ∧ MvA w (w5.setCell ⟨p, 4, none⟩ v5) p n m v1 v2 v5 S F Y := by
  have s2 := own_below h.ow.s d1
  have f2 := own_below h.ow.f d1
  have e2 := own_below h.ow.e d1
  have b2 := blk_on h.bx d1
  have b5 := (oo.block p (Array.getElem?_eq_some_iff.1 b2).1 (fun hk => row_tag e2 b2 (by decide) hk)).trans b2
  have s5 := row_only s2 oo (fun k hk hk2 => rows_differ e2 s2 (by decide) hk2 hk)
  have f5 := row_only f2 oo (fun k hk hk2 => rows_differ e2 f2 (by decide) hk2 hk)
  have o2 := only_set w5 p 4 v5
  have dd := h.be.trans (d1.mono h.be.size)
  have d5 := dd.trans (oo.toBelow dd.size (fun k hk => (e2.lt k hk).1))
  exact ⟨b5, heap_setCell_same _ _ 4 _ 25 _ b5, h.ge, ⟨own_keep s5 b5 (by decide) o2, own_keep f5 b5 (by decide) o2, own_keep o b5 (by decide) o2, h.ow.ne⟩, d5.trans (o2.toBelow d5.size (fun k hk => by rw [hk]; exact h.ge))⟩
set_option maxRecDepth 100000 in
set_option maxHeartbeats 4000000 in
theorem one_ok (w : World) (ao : Option Addr) (c n s : Nat) (L : List Int) (en : Hid (L.length = n)) (hr : Hid (RdN w ao L)) (hn : n < 4096) (hs : s ≤ 128) (hL : Hid (∀ x ∈ L, 0 ≤ x ∧ x < (s : Int))) :
    Calls Tryz.prog 19 #[.slice ao n c, .int .i64 (s : Int)] w fun e w' => ∃ b1 k1 b2 k2 b3 k3, e = .returned (.tuple #[.agg #[.int .i64 ((n : Int) + 1), .int .i64 (s : Int), .slice b1 1 k1, .slice b2 1 k2, .slice b3 n k3], .int .i64 0]) ∧ Hid (OwnO w.heap.size w' (.slice b1 1 k1) (.slice b2 1 k2) (.slice b3 n k3) [0] [(n : Int)] (oneE L) ∧ Below w.heap.size w w') := by
  obtain ⟨W0, hW0⟩ : ∃ W0, (w.alloc (.cells #[.int .i64 (s : Int)] 3)).alloc (.cells #[.int .i64 0, .int .i64 0, .slice none 0 0, .slice none 0 0, .slice none 0 0] 25) = W0 := ⟨_, rfl⟩
  have HD : Hid (Below w.heap.size w W0 ∧ W0.heap[w.heap.size]? = some (.cells #[.int .i64 (s : Int)] 3 (0, 0)) ∧ W0.heap[w.heap.size + 1]? = some (.cells #[.int .i64 0, .int .i64 0, .slice none 0 0, .slice none 0 0, .slice none 0 0] 25 (0, 0)) ∧ W0.heap.size = w.heap.size + 2) := hide (by
    have k1 := (Below.refl w.heap.size w).alloc (Nat.le_refl _) (.cells #[.int .i64 (s : Int)] 3)
    have z1 := World.alloc_heap_new w (.cells #[.int .i64 (s : Int)] 3)
    have s1 : (w.alloc (.cells #[.int .i64 (s : Int)] 3)).heap.size = w.heap.size + 1 := by simp
    generalize w.alloc (.cells #[.int .i64 (s : Int)] 3) = X at k1 z1 s1 hW0
    have k2 := (Below.refl X.heap.size X).alloc (Nat.le_refl _) (.cells #[.int .i64 0, .int .i64 0, .slice none 0 0, .slice none 0 0, .slice none 0 0] 25)
    have z2 := World.alloc_heap_new X (.cells #[.int .i64 0, .int .i64 0, .slice none 0 0, .slice none 0 0, .slice none 0 0] 25)
    rw [hW0] at k2 z2
    rw [s1] at z2
    exact ⟨k1.trans (k2.mono k1.size), blk_on z1 k2, z2, by rw [← hW0, World.size_alloc, s1]⟩)
  have y0 : W0.cell? ⟨w.heap.size, 0, none⟩ = some (.int .i64 (s : Int)) := cell_of HD.out.2.1 rfl
  have TC := cont53 W0 ao c L w.heap.size (s : Int) (hide y0) (hide (hr.out.on HD.out.1)) (by have := en.out; omega)
  rw [show L.any (badS (s : Int)) = false by
    rw [List.any_eq_false]
    intro x hx
    have := hL.out x hx
    simp [badS]; omega, en.out] at TC
  have TM : ∀ W, Calls Tryz.prog 30 #[.int .i64 (s : Int)] W fun e w' => e = .returned (.bool true) ∧ w' = W := fun W => by
    have := mayBe_any W (s : Int)
    rwa [show symOk (s : Int) = true by simp [symOk]; omega] at this
  have HM := hide TM
  clear TM
  have jn : ¬ (4096 : Int) ≤ (n : Int) := by omega
  have ew : IntKind.i64.wrap ((n : Int) + 1) = (n : Int) + 1 := by rw [IntKind.wrap_i64]; omega
  go_enter Tryz.func19, Tryz.ntmps19
  go_upto_region 3 with (go_at_call 28; refine TC.mono ?_; rintro e w2 ⟨rfl, D2⟩; have H2 := hide D2; clear D2)
  clear TC y0
  have y0 : w2.cell? ⟨w.heap.size, 0, none⟩ = some (.int .i64 (s : Int)) := cell_of (blk_on HD.out.2.1 H2.out) rfl
  go_upto_region 8 with (go_at_call 30; refine (HM.out w2).mono ?_; rintro e wq ⟨rfl, rfl⟩)
  clear y0 HM
  obtain ⟨W1, hW1⟩ : ∃ W, ((wq.alloc (.cells #[.int .i64 0] 3)).alloc (.cells #[.int .i64 (n : Int)] 3)).alloc (.cells #[.int .i64 ((n : Int) + 1), .int .i64 (s : Int), .slice (some ⟨wq.heap.size, 0, none⟩) 1 1, .slice (some ⟨wq.heap.size + 1, 0, none⟩) 1 1, .slice none 0 0] 25) = W := ⟨_, rfl⟩
  rw [hW1]
  have HA : Hid (MvA W0 W1 (wq.heap.size + 1 + 1) ((n : Int) + 1) (s : Int) (.slice (some ⟨wq.heap.size, 0, none⟩) 1 1) (.slice (some ⟨wq.heap.size + 1, 0, none⟩) 1 1) (.slice none 0 0) [0] [(n : Int)] []) := hide (by
    have k1 := (Below.refl wq.heap.size wq).alloc (Nat.le_refl _) (.cells #[.int .i64 0] 3)
    have z1 := World.alloc_heap_new wq (.cells #[.int .i64 0] 3)
    have s1 : (wq.alloc (.cells #[.int .i64 0] 3)).heap.size = wq.heap.size + 1 := by simp
    generalize wq.alloc (.cells #[.int .i64 0] 3) = X at k1 z1 s1 hW1
    have k2 := (Below.refl X.heap.size X).alloc (Nat.le_refl _) (.cells #[.int .i64 (n : Int)] 3)
    have z2 := World.alloc_heap_new X (.cells #[.int .i64 (n : Int)] 3)
    have s2 : (X.alloc (.cells #[.int .i64 (n : Int)] 3)).heap.size = wq.heap.size + 1 + 1 := by simp [s1]
    generalize X.alloc (.cells #[.int .i64 (n : Int)] 3) = Y at k2 z2 s2 hW1
    have k3 := (Below.refl Y.heap.size Y).alloc (Nat.le_refl _) (.cells #[.int .i64 ((n : Int) + 1), .int .i64 (s : Int), .slice (some ⟨wq.heap.size, 0, none⟩) 1 1, .slice (some ⟨wq.heap.size + 1, 0, none⟩) 1 1, .slice none 0 0] 25)
    have z3 := World.alloc_heap_new Y (.cells #[.int .i64 ((n : Int) + 1), .int .i64 (s : Int), .slice (some ⟨wq.heap.size, 0, none⟩) 1 1, .slice (some ⟨wq.heap.size + 1, 0, none⟩) 1 1, .slice none 0 0] 25)
    rw [hW1] at k3 z3
    rw [s2] at z3
    rw [s1] at z2
    have sq := H2.out.size
    have kk := k1.trans ((k2.trans (k3.mono k2.size)).mono k1.size)
    exact ⟨z3, by omega, ⟨own_one (blk_on (blk_on z1 k2) k3) (by omega), own_one (blk_on z2 k3) (by omega), World.ownsRow_nil W1 W0.heap.size _ _, fun x hx hy => by
      simp only [Value.ownBlock, Option.some.injEq] at hx hy
      omega⟩, H2.out.trans (kk.mono sq)⟩)
  obtain ⟨g, hg⟩ : ∃ g, wq.heap.size = g := ⟨_, rfl⟩
  clear hW1 H2
  rw [hg] at HA ⊢
  clear hg
  go_wp2_with fail
  go_loopw [32] (fun iv wr => ∃ i : Nat, i ≤ n ∧ iv = .int .i64 (i : Int) ∧ ∃ b3 k3, Hid (MvA W0 wr (g + 1 + 1) ((n : Int) + 1) (s : Int) (.slice (some ⟨g, 0, none⟩) 1 1) (.slice (some ⟨g + 1, 0, none⟩) 1 1) (.slice b3 i k3) [0] [(n : Int)] (oneE (L.take i)))) (fun iv _ => n - (intOf iv).toNat)
  case atStart => exact ⟨0, Nat.zero_le _, rfl, none, 0, HA⟩
  case round =>
    obtain ⟨i, hi, rfl, b3, k3, HY⟩ := hrel
    clear HA
    by_cases hil : i < n
    · have i0 : (0 : Int) ≤ (i : Int) := by omega
      have i1 : (i : Int) < (n : Int) := by omega
      have hjl : i < L.length := by have := en.out; omega
      obtain ⟨ge, o, ea, q1⟩ := (hr.out.on (HD.out.1.trans (HY.out.be.mono HD.out.1.size))) i hjl
      subst ea
      have HT := hide (oneE_snoc L i hjl)
      generalize L[i] = x at q1 HT
      have HTl : Hid ((oneE (L.take i)).length = i) := hide (by rw [oneE_len, List.length_take]; omega)
      have r1 : IntKind.i64.wrap ((i : Int) + 1) = (i : Int) + 1 := by rw [IntKind.wrap_i64]; omega
      have HS0 := hide HY.out.be.size
      have z4 : wr.cell? ⟨g + 1 + 1, 4, none⟩ = some (.slice b3 i k3) := cell_of HY.out.bx rfl
      go_wp2_with (at_builtin; refine wpList_appG rfl _ _ rfl W0.heap.size (.slice b3 i k3) (oneE (L.take i)) rfl (own_below HY.out.ow.e ((Below.refl _ _).alloc (Nat.le_refl _) _)) wr.heap.size ((i : Int), x, (i : Int) + 1) rfl (World.alloc_heap_new _ _) (by have := HTl.out; omega) (by have := HS0.out; rw [World.size_alloc]; omega) ?_; intro v5 w5 HO5 HG5; obtain ⟨z5, d5, e5⟩ := own_slice HO5.out; have E5 : v5 = .slice z5 (i + 1) d5 := (by rw [e5, List.length_append, HTl.out]; rfl); clear e5; subst E5; have HQ := hide (mvA_put HY.out ((Below.refl _ _).alloc (Nat.le_refl _) _) HO5.out HG5.out); have c5 : w5.cell? ⟨g + 1 + 1, 4, none⟩ = some (.slice b3 i k3) := cell_of HQ.out.1 rfl; have f5 : w5.frozen? ⟨g + 1 + 1, 4, none⟩ = false := fz_of HQ.out.1)
      refine ⟨⟨i + 1, by omega, by go_num, z5, d5, hide (by rw [HT.out]; exact HQ.out.2)⟩, by simp [intOf]; omega⟩
    · obtain rfl : n = i := by omega
      have i1 : ¬ (n : Int) < (n : Int) := by omega
      have HZ : Hid (MvA W0 wr (g + 1 + 1) ((n : Int) + 1) (s : Int) (.slice (some ⟨g, 0, none⟩) 1 1) (.slice (some ⟨g + 1, 0, none⟩) 1 1) (.slice b3 n k3) [0] [(n : Int)] (oneE L)) := hide (by
        have q := HY.out
        rw [List.take_of_length_le (by have := en.out; omega)] at q
        exact q)
      clear HY
      have F3 := blk_on HD.out.2.2.1 HZ.out.be
      have F4 := HZ.out.bx
      have o0 : wr.cell? ⟨w.heap.size + 1, 0, none⟩ = some (.int .i64 0) := cell_of F3 rfl
      have f0 : wr.frozen? ⟨w.heap.size + 1, 0, none⟩ = false := fz_of F3
      have v0 : wr.cell? ⟨g + 1 + 1, 0, none⟩ = some (.int .i64 ((n : Int) + 1)) := cell_of F4 rfl
      have o1 : wr.cell? ⟨w.heap.size + 1, 1, none⟩ = some (.int .i64 0) := cell_of F3 rfl
      have f1 : wr.frozen? ⟨w.heap.size + 1, 1, none⟩ = false := fz_of F3
      have v1 : wr.cell? ⟨g + 1 + 1, 1, none⟩ = some (.int .i64 (s : Int)) := cell_of F4 rfl
      have o2 : wr.cell? ⟨w.heap.size + 1, 2, none⟩ = some (.slice none 0 0) := cell_of F3 rfl
      have f2 : wr.frozen? ⟨w.heap.size + 1, 2, none⟩ = false := fz_of F3
      have v2 : wr.cell? ⟨g + 1 + 1, 2, none⟩ = some (.slice (some ⟨g, 0, none⟩) 1 1) := cell_of F4 rfl
      have o3 : wr.cell? ⟨w.heap.size + 1, 3, none⟩ = some (.slice none 0 0) := cell_of F3 rfl
      have f3 : wr.frozen? ⟨w.heap.size + 1, 3, none⟩ = false := fz_of F3
      have v3 : wr.cell? ⟨g + 1 + 1, 3, none⟩ = some (.slice (some ⟨g + 1, 0, none⟩) 1 1) := cell_of F4 rfl
      have o4 : wr.cell? ⟨w.heap.size + 1, 4, none⟩ = some (.slice none 0 0) := cell_of F3 rfl
      have f4 : wr.frozen? ⟨w.heap.size + 1, 4, none⟩ = false := fz_of F3
      have v4 : wr.cell? ⟨g + 1 + 1, 4, none⟩ = some (.slice b3 n k3) := cell_of F4 rfl
      have O6 := hide (And.intro (set5 wr (w.heap.size + 1) _ _ _ _ _ (.int .i64 ((n : Int) + 1)) (.int .i64 (s : Int)) (.slice (some ⟨g, 0, none⟩) 1 1) (.slice (some ⟨g + 1, 0, none⟩) 1 1) (.slice b3 n k3) 25 F3) (only5 wr (w.heap.size + 1) (.int .i64 ((n : Int) + 1)) (.int .i64 (s : Int)) (.slice (some ⟨g, 0, none⟩) 1 1) (.slice (some ⟨g + 1, 0, none⟩) 1 1) (.slice b3 n k3)))
      have HO2 := hide (HZ.out.ow.keep F3 O6.out.2)
      clear F3 F4
      go_wp2_with fail
      refine bodyPost_ret (results_c1 (p := 4) (q := 5) (ty := 25) rfl _ _ (w.heap.size + 1) 25 _ (0, 0) _ _ rfl rfl O6.out.1 Tryz.underlying25 rfl (by kernel_rfl)) rfl ?_
      have s1 := HD.out.2.2.2
      have s2 := HZ.out.be.size
      exact ⟨_, _, _, _, _, _, rfl, hide ⟨HO2.out.down (by omega), (HD.out.1.trans (HZ.out.be.mono (by omega))).trans (O6.out.2.toBelow (by omega) (fun k hk => by omega))⟩⟩
end Go.Proofs.YtchoopnjckcohaaGreat
namespace Go.Proofs.YtchoopnjckcohaaGreat
open Go.RowKit Go.Maps Go.Shelf
/-! ### Pairs and their places -/
/-- A kind of items: a type whose values may be keys, and how a value lies in memory. -/
structure Kd (α : Type) where
  ty : Nat
  sz : Nat
  val : α → Value
  cs : α → List Value
  key : α → Lit
  ok : α → Prop
  kmk : ∀ a, ok a → keyOf Tryz.prog ty (val a) = some (key a)
  inj : ∀ a b, ok a → ok b → key a = key b → a = b
  lit : ∀ a, WideAt.IsKeyLit (key a)
  len : ∀ a, (cs a).length = sz
  one : ∀ a, ∀ u ∈ cs a, u.oneCell' = true
  law : Keyed Tryz.prog ty
section
variable {α : Type} (K : Kd α)
/-- A map says at which place each item stands. -/
structure IsPl (D : DataW Unit) (l : List α) : Prop where
  tidy : Tidy D
  has : ∀ s, K.ok s → (Maps.has D (K.key s) = true ↔ s ∈ l)
  at_ : ∀ i (h : i < l.length) z, D.atKey (K.key l[i]) z = .lit (.int .i64 (i : Nat))
theorem isPl_nil : IsPl K (.map []) [] := ⟨tidy_empty, fun s _ => (by constructor <;> intro h <;> cases h), fun i h => (by simp at h)⟩
variable {K}
theorem IsPl.new {D : DataW Unit} {l : List α} {s : α} (h : IsPl K D l) (hok : ∀ x ∈ l, K.ok x) (hs : s ∉ l) (ho : K.ok s) : IsPl K (D.put (K.key s) (.lit (.int .i64 (l.length : Nat)))) (l ++ [s]) := by
  refine ⟨h.tidy.put (K.lit s) _, fun t ht => ?_, fun i hi z => ?_⟩
  · by_cases e : t = s
    · subst e; rw [has_put_same h.tidy.isMap (K.lit _)]; simp
    · rw [has_put_other (fun h => e (K.inj _ _ ht ho h)), h.has t ht]; simp [e]
  · by_cases e : i < l.length
    · rw [List.getElem_append_left e]
      have hm : l[i] ∈ l := List.getElem_mem e
      rw [atKey_put_other (fun h => hs (by rw [← K.inj _ _ (hok _ hm) ho h]; exact hm)), h.at_ i e z]
    · have : i = l.length := by simp at hi; omega
      subst this
      rw [List.getElem_append_right (Nat.le_refl _)]
      simp only [Nat.sub_self, List.getElem_cons_zero]
      rw [atKey_put_same h.tidy.isMap (K.lit _)]
variable (K)
variable {K}
end
theorem laidOutP : laidOutB Tryz.prog = true := by kernel_rfl
theorem row79 : (57 : TypeId) < Tryz.prog.types.size := of_decide_eq_true (by kernel_rfl)
theorem wide79 : (match Tryz.prog.underlying 57 with | some (.array _ _) | some (.struct _) => true | _ => false) = true := by rw [Tryz.underlying57]
set_option maxRecDepth 100000 in
theorem law79 : Keyed Tryz.prog 57 := Keyed.of_law (deep_law_laid laidOutP (m := 2) (by omega) row79 (by kernel_rfl) wide79)
theorem keyTy79 : Tryz.prog.keyType 57 = true := by kernel_rfl
theorem cells79 : Tryz.prog.cellsOf 57 = 2 := by kernel_rfl
theorem cells3' : Tryz.prog.cellsOf 3 = 1 := by kernel_rfl
theorem key_pair {Q : Program} {k a : TypeId} (hu : Q.underlying k = some (.array 2 a)) (ua : Q.underlying a = some (.int .i64)) (ca : Q.cellsOf a = 1) (ck : Q.cellsOf k = 2) (hkt : Q.keyType k = true) (hk0 : k < Q.types.size) (p r : Int) (w1 : (Lit.int .i64 p).wf = true) (w2 : (Lit.int .i64 r).wf = true) : keyOf Q k (.agg #[.int .i64 p, .int .i64 r]) = some (.string (keyBytes [.int .i64 p, .int .i64 r])) := by
  obtain ⟨n, hn⟩ : ∃ n, Q.types.size = n + 1 := ⟨Q.types.size - 1, (Nat.sub_add_cancel (Nat.lt_of_le_of_lt (Nat.zero_le _) hk0)).symm⟩
  unfold keyOf
  rw [hu]
  simp only [hkt, Value.formed, hu, ck, Value.cells, hn, Program.keyLits]
  simp [ua, ca, w1, w2, List.range, List.range.loop]
abbrev PrT := Int × Int
def prV (s : PrT) : Value := .agg #[.int .i64 s.1, .int .i64 s.2]
def prC (s : PrT) : List Value := [.int .i64 s.1, .int .i64 s.2]
def kPr (s : PrT) : Lit := .string (keyBytes [.int .i64 s.1, .int .i64 s.2])
def okPr (s : PrT) : Prop := (0 ≤ s.1 ∧ s.1 ≤ 8192) ∧ 0 ≤ s.2 ∧ s.2 ≤ 8192
theorem keyPr (s : PrT) (h : okPr s) : keyOf Tryz.prog 57 (prV s) = some (kPr s) :=
  key_pair Tryz.underlying57 Tryz.underlying3 cells3' cells79 keyTy79 row79 s.1 s.2 (WalkArith.wf_i64 (by have := h.1; omega)) (WalkArith.wf_i64 (by have := h.2; omega))
theorem kPr_inj (s t : PrT) (hs : okPr s) (ht : okPr t) (h : kPr s = kPr t) : s = t := by
  have := law79.inj (keyPr s hs) (by rw [h]; exact keyPr t ht)
  obtain ⟨p, r⟩ := s
  obtain ⟨p', r'⟩ := t
  simp only [prV, Value.agg.injEq, Array.mk.injEq, List.cons.injEq, Value.int.injEq, true_and, and_true] at this
  exact Prod.ext this.1 this.2
/-- Pairs as items. -/
def kPrs : Kd PrT where
  ty := 57
  sz := 2
  val := prV
  cs := prC
  key := kPr
  ok := okPr
  kmk := keyPr
  inj := kPr_inj
  lit := fun _ => trivial
  len := fun _ => rfl
  one := fun s u hu => by
    simp only [prC, List.mem_cons, List.not_mem_nil, or_false] at hu
    rcases hu with rfl | rfl <;> rfl
  law := law79
end Go.Proofs.YtchoopnjckcohaaGreat
namespace Go.Proofs.YtchoopnjckcohaaGreat
open Go.RowKit Go.Maps Go.Shelf
attribute [local go_sem] Oper.semAt_some
/-! ### The search for pairs -/
theorem look_in_run {α : Type} (K : Kd α) (w : World) (mt : TypeId) (ht : Tryz.prog.underlying mt = some (.map K.ty 3)) (b : Nat) (l : List α) (i : Nat) (hi : i < l.length) (D : DataW Unit) (hown : w.ownsMap Tryz.prog K.ty (plainElem Tryz.prog 3) b l.length D) (hp : IsPl K D l) (ho : K.ok l[i]) :
    (Instr.lookup mt (.map (some b)) (K.val l[i]) true).run Tryz.prog w = .ok (.tuple #[.int .i64 (i : Nat), .bool true]) w := by
  obtain ⟨v, ps, hrun, hv⟩ := hown.look_ok K.law ht (z := .int .i64 0) (by kernel_rfl) (plainElem_int Tryz.underlying3 (by decide)) (K.kmk _ ho)
  obtain ⟨c, rfl, hc, _⟩ := plainElem_int_inv Tryz.underlying3 hv
  have e : D.atKey (K.key l[i]) (.lit (.int .i64 0)) = .lit (.int .i64 c) := congrArg Prod.fst hc
  rw [hp.at_ i hi] at e
  simp only [DataW.lit.injEq, Lit.int.injEq, true_and] at e
  rw [hrun, (hp.has _ ho).2 (List.getElem_mem hi), ← e]
theorem look_out_run {α : Type} (K : Kd α) (w : World) (mt : TypeId) (ht : Tryz.prog.underlying mt = some (.map K.ty 3)) (b : Nat) (l : List α) (s : α) (hs : s ∉ l) (D : DataW Unit) (hown : w.ownsMap Tryz.prog K.ty (plainElem Tryz.prog 3) b l.length D) (hp : IsPl K D l) (ho : K.ok s) :
    ∃ c : Int, (Instr.lookup mt (.map (some b)) (K.val s) true).run Tryz.prog w = .ok (.tuple #[.int .i64 c, .bool false]) w := by
  obtain ⟨v, ps, hrun, hv⟩ := hown.look_ok K.law ht (z := .int .i64 0) (by kernel_rfl) (plainElem_int Tryz.underlying3 (by decide)) (K.kmk _ ho)
  obtain ⟨c, rfl, hc, _⟩ := plainElem_int_inv Tryz.underlying3 hv
  have : Maps.has D (K.key s) = false := by
    rw [Bool.eq_false_iff]; intro e; exact hs ((hp.has s ho).1 e)
  rw [this] at hrun
  exact ⟨c, hrun⟩
/-- A search: its box, its map, and the three rows that it makes. -/
structure SS (D : Nat) (W : World) (b bm : Nat) (f : Value) (bud : Int) (vp ve vn : Value) (ps : List PrT) (es : List EdT) (nn : Nat) (xn : List Value) : Prop where
  bx : W.heap[b]? = some (.cells #[f, .int .i64 bud, .map (some bm), vp, ve, vn] 71 (0, 0))
  po : W.ownsRow D 57 2 vp ps.length (ps.flatMap prC)
  mo : ∃ Dm, W.ownsMap Tryz.prog 57 (plainElem Tryz.prog 3) bm ps.length Dm ∧ IsPl kPrs Dm ps
  eo : W.ownsRow D 50 3 ve es.length (es.flatMap encE)
  no : W.ownsRow D 3 1 vn nn xn
  ok : ∀ x ∈ ps, okPr x
  nd : ps.Nodup
theorem map_only {W W' : World} {k e : TypeId} {b n : Nat} {Dm : DataW Unit} {R : Nat → Prop} (o : W.ownsMap Tryz.prog k (plainElem Tryz.prog e) b n Dm) (h : Only W W' R) (hn : ¬ R b) : W'.ownsMap Tryz.prog k (plainElem Tryz.prog e) b n Dm := by
  have hlt := o.lt
  obtain ⟨es, ck, h1, h2⟩ := o
  exact ⟨es, ck, (h.block b hlt hn).trans h1, h2⟩
theorem SS.onlyR {D : Nat} {W W' : World} {b bm : Nat} {f : Value} {bud : Int} {vp ve vn : Value} {ps : List PrT} {es : List EdT} {nn : Nat} {xn : List Value} {R : Nat → Prop} (h : SS D W b bm f bud vp ve vn ps es nn xn) (o : Only W W' R) (h1 : ¬ R b) (h2 : ¬ R bm) (h3 : ∀ k, vp.ownBlock = some k → ¬ R k) (h4 : ∀ k, ve.ownBlock = some k → ¬ R k) (h5 : ∀ k, vn.ownBlock = some k → ¬ R k) : SS D W' b bm f bud vp ve vn ps es nn xn := by
  obtain ⟨Dm, hm, hp⟩ := h.mo
  exact ⟨o.cellK h.bx h1, row_only h.po o h3, ⟨Dm, map_only hm o h2, hp⟩, row_only h.eo o h4, row_only h.no o h5, h.ok, h.nd⟩
theorem SS.on {D : Nat} {W W' : World} {b bm : Nat} {f : Value} {bud : Int} {vp ve vn : Value} {ps : List PrT} {es : List EdT} {nn : Nat} {xn : List Value} (h : SS D W b bm f bud vp ve vn ps es nn xn) (d : Below W.heap.size W W') : SS D W' b bm f bud vp ve vn ps es nn xn :=
  h.onlyR (Only.ofBelow (R := fun _ => False) d) id id (fun _ _ => id) (fun _ _ => id) (fun _ _ => id)
theorem pr_new (w : World) (s : PrT) : ∀ (j : Nat) (u : Value), ([Value.int .i64 s.1, Value.int .i64 s.2])[j]? = some u → (w.alloc (.cells #[Value.int .i64 s.1, Value.int .i64 s.2] 57)).cell? ((⟨w.heap.size, 0, none⟩ : Addr).add j) = some u := by
  intro j u hu
  rw [Addr.add_lit, Nat.zero_add]
  refine cell_of (World.alloc_heap_new _ _) ?_
  rw [← hu]
  rw [List.getElem?_toArray]
set_option maxRecDepth 100000 in
set_option maxHeartbeats 4000000 in
theorem full_any (w : World) (D b bm : Nat) (f : Value) (bud : Int) (vp ve vn : Value) (ps : List PrT) (es : List EdT) (nn : Nat) (xn : List Value) (h : Hid (SS D w b bm f bud vp ve vn ps es nn xn)) : Calls Tryz.prog 61 #[.pointer (some ⟨b, 0, none⟩)] w fun e w' => e = .returned (.bool (decide (65536 < es.length))) ∧ w' = w := by
  obtain ⟨ae, ce, hv⟩ := own_slice h.out.eo
  have c4 : w.cell? ⟨b, 4, none⟩ = some (.slice ae es.length ce) := by rw [← hv]; exact cell_of h.out.bx rfl
  clear hv
  have e1 : (decide ((es.length : Int) > 65536)) = decide (65536 < es.length) := by rw [decide_eq_decide]; omega
  go_enter Tryz.func61, Tryz.ntmps61
  go_wp2
  go_ret
  exact ⟨by first | rfl | (rw [← e1]; rfl) | (rw [e1]), rfl⟩
set_option maxRecDepth 100000 in
set_option maxHeartbeats 4000000 in
theorem smeet_old (i : Nat) (w : World) (D b bm : Nat) (f : Value) (bud : Int) (vp ve vn : Value) (ps : List PrT) (es : List EdT) (nn : Nat) (xn : List Value) (s : PrT) (h : Hid (SS D w b bm f bud vp ve vn ps es nn xn)) (hi : i < ps.length) (HS : Hid (s = ps[i])) :
    Calls Tryz.prog 58 #[.pointer (some ⟨b, 0, none⟩), .agg #[.int .i64 s.1, .int .i64 s.2]] w fun e w' => e = .returned (.tuple #[.int .i64 (i : Int), .int .i64 0]) ∧ Below w.heap.size w w' := by
  obtain ⟨ap, cp, hv⟩ := own_slice h.out.po
  have HV := hide hv
  clear hv
  obtain ⟨X, hX⟩ : ∃ X, w.alloc (.cells #[Value.int .i64 s.1, Value.int .i64 s.2] 57) = X := ⟨_, rfl⟩
  have hA : Below w.heap.size w X := by rw [← hX]; exact (Below.refl _ _).alloc (Nat.le_refl _) _
  have hbx : X.heap[w.heap.size]? = some (.cells #[Value.int .i64 s.1, Value.int .i64 s.2] 57 (0, 0)) := by rw [← hX]; exact World.alloc_heap_new _ _
  have hSX := h.out.on hA
  obtain ⟨Dm, hm, hp⟩ := hSX.mo
  have c1 : X.cell? ⟨b, 1, none⟩ = some (.int .i64 bud) := cell_of hSX.bx rfl
  have c2 : X.cell? ⟨b, 2, none⟩ = some (.map (some bm)) := cell_of hSX.bx rfl
  have c3 : X.cell? ⟨b, 3, none⟩ = some (.slice ap ps.length cp) := by rw [← HV.out]; exact cell_of hSX.bx rfl
  have x0 : X.cell? ⟨w.heap.size, 0, none⟩ = some (.int .i64 s.1) := cell_of hbx rfl
  have x1 : X.cell? ⟨w.heap.size, 1, none⟩ = some (.int .i64 s.2) := cell_of hbx rfl
  have hlook := look_in_run kPrs X.drew 69 Tryz.underlying69 bm ps i hi Dm hm.drew hp (hSX.ok _ (List.getElem_mem hi))
  rw [← HS.out] at hlook
  have hlook' : (Instr.lookup 69 (.map (some bm)) (.agg #[.int .i64 s.1, .int .i64 s.2]) true).run Tryz.prog X.drew = _ := hlook
  clear hm hp hlook hSX hbx
  go_enter Tryz.func58, Tryz.ntmps58
  go_wp2_with fail
  go_region
  go_wp2
  refine bodyPost_ret (results_tmp2 rfl _ _ _) rfl ?_
  exact ⟨rfl, hA.drew⟩
set_option maxRecDepth 100000 in
set_option maxHeartbeats 4000000 in
theorem smeet_full (w : World) (D b bm : Nat) (f : Value) (bud : Int) (vp ve vn : Value) (ps : List PrT) (es : List EdT) (nn : Nat) (xn : List Value) (s : PrT) (h : Hid (SS D w b bm f bud vp ve vn ps es nn xn)) (hs : Hid (s ∉ ps)) (hok : Hid (okPr s)) (er : Int) (he : (bud ≤ (ps.length : Int) ∧ er = 9) ∨ (¬ bud ≤ (ps.length : Int) ∧ 4096 ≤ ps.length ∧ er = 8)) :
    Calls Tryz.prog 58 #[.pointer (some ⟨b, 0, none⟩), .agg #[.int .i64 s.1, .int .i64 s.2]] w fun e w' => e = .returned (.tuple #[.int .i64 0, .int .i64 er]) ∧ Below w.heap.size w w' := by
  obtain ⟨ap, cp, hv⟩ := own_slice h.out.po
  have HV := hide hv
  clear hv
  obtain ⟨X, hX⟩ : ∃ X, w.alloc (.cells #[Value.int .i64 s.1, Value.int .i64 s.2] 57) = X := ⟨_, rfl⟩
  have hA : Below w.heap.size w X := by rw [← hX]; exact (Below.refl _ _).alloc (Nat.le_refl _) _
  have hbx : X.heap[w.heap.size]? = some (.cells #[Value.int .i64 s.1, Value.int .i64 s.2] 57 (0, 0)) := by rw [← hX]; exact World.alloc_heap_new _ _
  have hSX := h.out.on hA
  obtain ⟨Dm, hm, hp⟩ := hSX.mo
  have c1 : X.cell? ⟨b, 1, none⟩ = some (.int .i64 bud) := cell_of hSX.bx rfl
  have c2 : X.cell? ⟨b, 2, none⟩ = some (.map (some bm)) := cell_of hSX.bx rfl
  have c3 : X.cell? ⟨b, 3, none⟩ = some (.slice ap ps.length cp) := by rw [← HV.out]; exact cell_of hSX.bx rfl
  have x0 : X.cell? ⟨w.heap.size, 0, none⟩ = some (.int .i64 s.1) := cell_of hbx rfl
  have x1 : X.cell? ⟨w.heap.size, 1, none⟩ = some (.int .i64 s.2) := cell_of hbx rfl
  obtain ⟨c, hlook⟩ := look_out_run kPrs X.drew 69 Tryz.underlying69 bm ps s hs.out Dm hm.drew hp hok.out
  have hlook' : (Instr.lookup 69 (.map (some bm)) (.agg #[.int .i64 s.1, .int .i64 s.2]) true).run Tryz.prog X.drew = _ := hlook
  have HA := hide hA
  clear hm hp hlook hSX hbx hA
  rcases he with ⟨h1, rfl⟩ | ⟨h1, h2, rfl⟩
  · have e1 : (ps.length : Int) ≥ bud := h1
    clear h1
    go_enter Tryz.func58, Tryz.ntmps58
    go_wp2_with fail
    go_region
    go_wp2
    refine bodyPost_ret (results_tmp2 rfl _ _ _) rfl ?_
    exact ⟨rfl, HA.out.drew⟩
  · have e1 : ¬ (ps.length : Int) ≥ bud := h1
    have e2 : (ps.length : Int) ≥ 4096 := by omega
    clear h1 h2
    go_enter Tryz.func58, Tryz.ntmps58
    go_wp2_with fail
    go_region
    go_wp2
    refine bodyPost_ret (results_tmp2 rfl _ _ _) rfl ?_
    exact ⟨rfl, HA.out.drew⟩
theorem infoP79 : (Tryz.prog.info? 57).map (fun i => (i.zero, i.size, i.bytes)) = some (some (.agg #[.int .i64 0, .int .i64 0]), 2, 16) := by kernel_rfl
theorem row_map {W : World} {B n m sz : Nat} {e k x : TypeId} {v : Value} {xs : List Value} {bm : Nat} {Dm : DataW Unit} (h : W.ownsRow B e sz v n xs) (hm : W.ownsMap Tryz.prog k (plainElem Tryz.prog x) bm m Dm) : v.ownBlock ≠ some bm := by
  intro hk
  obtain ⟨es, ck, q1, _⟩ := hm
  rcases h.2 with ⟨e, _⟩ | ⟨g, cap, cur, e, _, hg, _⟩
  · rw [e] at hk; cases hk
  · rw [e] at hk
    obtain rfl : g = bm := by simpa [Value.ownBlock] using hk
    rw [hg] at q1; cases q1
/-- What a search is behind a new pair. -/
theorem SS.put {D : Nat} {W : World} {b bm : Nat} {f : Value} {bud : Int} {vp ve vn : Value} {ps : List PrT} {es : List EdT} {nn : Nat} {xn : List Value} {w2 w4 : World} {v' : Value} {s : PrT} {Dm : DataW Unit} (h : SS D W b bm f bud vp ve vn ps es nn xn) (hbD : b < D) (hp : IsPl kPrs Dm ps) (hm : W.ownsMap Tryz.prog 57 (plainElem Tryz.prog 3) bm ps.length Dm) (hs : s ∉ ps) (hok : okPr s)
    (hm2 : w2.ownsMap Tryz.prog 57 (plainElem Tryz.prog 3) bm (ps.length + 1) (Dm.put (kPr s) (.lit (.int .i64 (ps.length : Nat))))) (hg2 : W.grownBy w2 (some bm)) (hg4 : w2.grownBy w4 vp.ownBlock) (ho4 : w4.ownsRow D 57 2 v' (ps.length + 1) (ps.flatMap prC ++ prC s)) :
    SS D (w4.setCell ⟨b, 3, none⟩ v') b bm f bud v' ve vn (ps ++ [s]) es nn xn ∧ Only W (w4.setCell ⟨b, 3, none⟩ v') (fun k => k = b ∨ k = bm ∨ vp.ownBlock = some k) := by
  have hblt : b < W.heap.size := (Array.getElem?_eq_some_iff.1 h.bx).1
  have hbb : b ≠ bm := by
    rintro rfl
    obtain ⟨es, ck, q1, _⟩ := hm
    rw [h.bx] at q1; cases q1
  have hvb : some b ≠ vp.ownBlock := fun e => by have := (h.po.lt b e.symm).1; omega
  have hvm : some bm ≠ vp.ownBlock := fun e => row_map h.po hm e.symm
  have hm4 := hm2.kept hg4 hvm
  have hb4 : w4.heap[b]? = some (.cells #[f, .int .i64 bud, .map (some bm), vp, ve, vn] 71 (0, 0)) := (hg4.block b (Nat.lt_of_lt_of_le hblt hg2.size) hvb).trans ((hg2.block b hblt (by simp; omega)).trans h.bx)
  have o1 : Only W w2 (fun k => k = b ∨ k = bm ∨ vp.ownBlock = some k) := Only.grown hg2 (fun k hk => .inr (.inl (by cases hk; rfl)))
  have o2 : Only W w4 (fun k => k = bm ∨ vp.ownBlock = some k) := (Only.grown hg2 (R := fun k => k = bm ∨ vp.ownBlock = some k) (fun k hk => .inl (by cases hk; rfl))).trans (Only.grown hg4 (fun k hk => .inr hk))
  have o3 := only_set w4 b 3 v'
  have he4 : w4.ownsRow D 50 3 ve es.length (es.flatMap encE) := row_only h.eo o2 (fun k hk e => by
    rcases e with rfl | e
    · exact row_map h.eo hm hk
    · exact rows_differ h.po h.eo (by decide) e hk)
  have hn4 : w4.ownsRow D 3 1 vn nn xn := row_only h.no o2 (fun k hk e => by
    rcases e with rfl | e
    · exact row_map h.no hm hk
    · exact rows_differ h.po h.no (by decide) e hk)
  refine ⟨⟨?_, ?_, ⟨Dm.put (kPr s) (.lit (.int .i64 (ps.length : Nat))), ?_, ?_⟩, ?_, ?_, ?_, ?_⟩, ?_⟩
  · have := heap_setCell_same w4 b 3 _ 71 v' hb4
    simpa using this
  · rw [List.length_append, List.length_singleton, List.flatMap_append, List.flatMap_singleton]
    exact row_only ho4 o3 (fun k hk e => by have := (ho4.lt k hk).1; omega)
  · rw [List.length_append, List.length_singleton]
    obtain ⟨es, ck, h1, h2⟩ := hm4
    exact ⟨es, ck, (o3.block bm (Array.getElem?_eq_some_iff.1 h1).1 (by omega)).trans h1, h2⟩
  · exact hp.new h.ok hs hok
  · exact row_only he4 o3 (fun k hk e => by have := (he4.lt k hk).1; omega)
  · exact row_only hn4 o3 (fun k hk e => by have := (hn4.lt k hk).1; omega)
  · intro x hx
    rcases List.mem_append.1 hx with hx | hx
    · exact h.ok x hx
    · simp at hx; subst hx; exact hok
  · rw [List.nodup_append]
    exact ⟨h.nd, by simp, fun a ha b hb he => by simp at hb; subst hb; subst he; exact hs ha⟩
  · exact (o1.trans (Only.grown hg4 (fun k hk => .inr (.inr hk)))).andNew o3 (fun i _ e => .inl e)
set_option maxRecDepth 100000 in
set_option maxHeartbeats 4000000 in
theorem smeet_new (w : World) (D b bm : Nat) (f : Value) (bud : Int) (vp ve vn : Value) (ps : List PrT) (es : List EdT) (nn : Nat) (xn : List Value) (s : PrT) (h : Hid (SS D w b bm f bud vp ve vn ps es nn xn)) (hs : Hid (s ∉ ps)) (hok : Hid (okPr s)) (hbD : Hid (b < D ∧ D ≤ w.heap.size)) (e1 : ¬ (ps.length : Int) ≥ bud) (hl : ps.length < 4096) :
    Calls Tryz.prog 58 #[.pointer (some ⟨b, 0, none⟩), .agg #[.int .i64 s.1, .int .i64 s.2]] w fun e w' => e = .returned (.tuple #[.int .i64 (ps.length : Int), .int .i64 0]) ∧ ∃ vp', SS D w' b bm f bud vp' ve vn (ps ++ [s]) es nn xn ∧ Only w w' (fun k => k = b ∨ k = bm ∨ vp.ownBlock = some k) ∧ ∀ k, vp'.ownBlock = some k → vp.ownBlock = some k ∨ w.heap.size ≤ k := by
  obtain ⟨i0, hi, hz0, hz1, hz2⟩ := info_parts infoP79
  obtain ⟨ap, cp, hv⟩ := own_slice h.out.po
  have HV := hide hv
  obtain ⟨X, hX⟩ : ∃ X, w.alloc (.cells #[Value.int .i64 s.1, Value.int .i64 s.2] 57) = X := ⟨_, rfl⟩
  have hA : Below w.heap.size w X := by rw [← hX]; exact (Below.refl _ _).alloc (Nat.le_refl _) _
  have hzX : X.heap.size = w.heap.size + 1 := by rw [← hX]; simp
  have hbx : X.heap[w.heap.size]? = some (.cells #[Value.int .i64 s.1, Value.int .i64 s.2] 57 (0, 0)) := by rw [← hX]; exact World.alloc_heap_new _ _
  have hSX := h.out.on hA
  obtain ⟨Dm, hm, hp⟩ := hSX.mo
  have hblt : b < w.heap.size := (Array.getElem?_eq_some_iff.1 h.out.bx).1
  have hbb : b ≠ bm := by
    rintro rfl
    obtain ⟨es, ck, q1, _⟩ := hm
    rw [hSX.bx] at q1; cases q1
  have hbmlt : bm < w.heap.size := by obtain ⟨_, q, _⟩ := h.out.mo; exact q.lt
  have hvb : ∀ k, vp.ownBlock = some k → D ≤ k ∧ k < w.heap.size := fun k hk => h.out.po.lt k hk
  have c1 : X.cell? ⟨b, 1, none⟩ = some (.int .i64 bud) := cell_of hSX.bx rfl
  have c2 : X.cell? ⟨b, 2, none⟩ = some (.map (some bm)) := cell_of hSX.bx rfl
  have c3 : X.cell? ⟨b, 3, none⟩ = some (.slice ap ps.length cp) := by rw [← hv]; exact cell_of hSX.bx rfl
  have x0 : X.cell? ⟨w.heap.size, 0, none⟩ = some (.int .i64 s.1) := cell_of hbx rfl
  have x1 : X.cell? ⟨w.heap.size, 1, none⟩ = some (.int .i64 s.2) := cell_of hbx rfl
  have e2 : ¬ (ps.length : Int) ≥ 4096 := by omega
  have hkey := keyPr s hok.out
  obtain ⟨c, hlook⟩ := look_out_run kPrs X.drew 69 Tryz.underlying69 bm ps s hs.out Dm hm.drew hp hok.out
  have hlook' : (Instr.lookup 69 (.map (some bm)) (.agg #[.int .i64 s.1, .int .i64 s.2]) true).run Tryz.prog X.drew = _ := hlook
  obtain ⟨w5, hrun5, hm5, hg5⟩ := World.ownsMap.update (w := X.drew.drew) (t := 69) (e := 3) (show X.drew.drew.ownsMap Tryz.prog 57 (plainElem Tryz.prog 3) bm ps.length Dm from hm) law79 Tryz.underlying69 (by unfold maxLen; omega) (val := .int .i64 (ps.length : Nat)) hkey (plainElem_int Tryz.underlying3 (WalkArith.wf_i64 (by omega)))
  have hrun5' : (Instr.mapUpdate 69 (.map (some bm)) (.agg #[.int .i64 s.1, .int .i64 s.2]) (.int .i64 (ps.length : Nat))).run Tryz.prog X.drew.drew = .ok () w5 := hrun5
  have hgX : X.grownBy w5 (some bm) := ⟨hg5.os, hg5.tape, hg5.output, hg5.size, hg5.block⟩
  have hs5 : X.heap.size ≤ w5.heap.size := hgX.size
  have hb5 : w5.heap[b]? = some (.cells #[f, .int .i64 bud, .map (some bm), vp, ve, vn] 71 (0, 0)) := (hgX.block b (by omega) (by simp; omega)).trans hSX.bx
  have hx5 : w5.heap[w.heap.size]? = some (.cells #[Value.int .i64 s.1, Value.int .i64 s.2] 57 (0, 0)) := (hgX.block _ (by omega) (by simp; omega)).trans hbx
  have c05 : w5.cell? ⟨b, 3, none⟩ = some (.slice ap ps.length cp) := by rw [← hv]; exact cell_of hb5 rfl
  have y0 : w5.cell? ⟨w.heap.size, 0, none⟩ = some (.int .i64 s.1) := cell_of hx5 rfl
  have y1 : w5.cell? ⟨w.heap.size, 1, none⟩ = some (.int .i64 s.2) := cell_of hx5 rfl
  have hov : w5.ownsRow D 57 2 (.slice ap ps.length cp) ps.length (ps.flatMap prC) := by
    rw [← hv]
    exact row_only (R := fun k => k = bm) hSX.po (Only.grown hgX (fun k hk => by cases hk; rfl)) (fun k hk e => by subst e; exact row_map hSX.po hm hk)
  have hDs : b < D ∧ D ≤ w.heap.size := hbD.out
  have HS6 := hide (fun (w6 : World) (hg : (w5.alloc (.cells #[Value.int .i64 s.1, Value.int .i64 s.2] 57)).drew.grownBy w6 (Value.slice ap ps.length cp).ownBlock) => show (w6.cell? ⟨b, 3, none⟩ = some (.slice ap ps.length cp) ∧ w6.cell? ⟨w.heap.size, 0, none⟩ = some (.int .i64 s.1) ∧ w6.cell? ⟨w.heap.size, 1, none⟩ = some (.int .i64 s.2)) ∧ w6.frozen? ⟨b, 3, none⟩ = false by
    rw [← hv] at hg
    have q1 : w6.heap[b]? = some (.cells #[f, .int .i64 bud, .map (some bm), vp, ve, vn] 71 (0, 0)) := (hg.block b (by simp; omega) (fun e => by have := (hvb b e.symm).1; omega)).trans ((Below.heap_alloc _ _ b (by omega)).trans hb5)
    have q2 : w6.heap[w.heap.size]? = some (.cells #[Value.int .i64 s.1, Value.int .i64 s.2] 57 (0, 0)) := (hg.block _ (by simp; omega) (fun e => by have := (hvb _ e.symm).2; omega)).trans ((Below.heap_alloc _ _ _ (by omega)).trans hx5)
    exact ⟨⟨by rw [← hv]; exact cell_of q1 rfl, cell_of q2 rfl, cell_of q2 rfl⟩, by simp [World.frozen?, q1]⟩)
  have hbw5 : b < w5.heap.size := by omega
  have hDw5 : D ≤ w5.heap.size + 1 := by omega
  have HX := hide (And.intro hm (And.intro hp (And.intro hm5 (And.intro hgX (And.intro hSX (And.intro hA (And.intro hov (And.intro hDs (And.intro hzX hs5)))))))))
  clear hm hp hlook hrun5 hg5 hgX hm5 hb5 hSX hA hv hbx hx5 hov hDs hbb hzX hs5 hvb hbmlt
  go_enter Tryz.func58, Tryz.ntmps58
  go_wp2_with fail
  go_region
  go_wp2_with fail
  go_region
  go_wp2_with fail
  have hov := HX.out.2.2.2.2.2.2.1
  have cA5 : (w5.alloc (.cells #[Value.int .i64 s.1, Value.int .i64 s.2] 57)).cell? ⟨b, 3, none⟩ = some (.slice ap ps.length cp) := (World.cell?_of_block (a := ⟨b, 3, none⟩) (Below.heap_alloc _ _ b (by omega))).trans c05
  go_region_law (refine step_append_lies _ (by rfl) _ _ _ (by rfl) D 57 i0 _ 2 16 Tryz.underlying29 hi hz0 hz1 hz2 rfl (by omega) (.slice ap ps.length cp) ps.length (ps.flatMap prC) (by rfl) (by exact hov.alloc _) ⟨w5.heap.size, 0, none⟩ 1 1 ([Value.int .i64 s.1, Value.int .i64 s.2]) (by rfl) (by rfl) (by exact pr_new w5 s) (kPrs.one s) (by omega) (by unfold maxLen; omega) (by omega) (by simp; omega) (w5.heap.size + 1) (by simp) ?_; intro gg cap2 w6 hown6 hgr6 hat hlt; have S6 := (HS6.out w6 hgr6).1; have F6 := (HS6.out w6 hgr6).2; have C6 := S6.1; have HF := hide (And.intro hown6 (And.intro hgr6 hat)); clear hown6 hgr6 hat)
  all_goals
    go_wp2
    refine bodyPost_ret (results_tmp2 rfl _ _ _) rfl ?_
    obtain ⟨ho, hgr, hat⟩ := HF.out
    obtain ⟨hm, hp, hm5, hgX, hSX, hA, _, hDs, hzX, hs5⟩ := HX.out
    have hgr2 : w5.grownBy w6 vp.ownBlock := by rw [HV.out]; exact (World.grownBy_alloc w5 (.cells #[Value.int .i64 s.1, Value.int .i64 s.2] 57) _).trans ⟨hgr.os, hgr.tape, hgr.output, hgr.size, hgr.block⟩
    obtain ⟨p1, p3⟩ := SS.put hSX hDs.1 hp hm hs.out hok.out hm5 hgX hgr2 ho
    refine ⟨rfl, _, p1, (Only.ofBelow hA).andNew p3 (fun _ _ e => e), ?_⟩
    intro k hk
    rcases hat with e | e
    · exact .inl (by rw [HV.out, e]; exact hk)
    · right
      simp [Value.ownBlock] at hk
      omega
set_option maxRecDepth 100000 in
set_option maxHeartbeats 4000000 in
theorem lost_any (w : World) (D b bm : Nat) (f : Value) (bud : Int) (vp ve vn : Value) (ps : List PrT) (es : List EdT) (nn : Nat) (xn : List Value) (h : Hid (SS D w b bm f bud vp ve vn ps es nn xn)) : Calls Tryz.prog 60 #[.pointer (some ⟨b, 0, none⟩)] w fun e w' => e = .returned (.bool (decide (65536 < es.length ∧ 4096 < bud))) ∧ w' = w := by
  have c1 : w.cell? ⟨b, 1, none⟩ = some (.int .i64 bud) := cell_of h.out.bx rfl
  by_cases e1 : 65536 < es.length
  · have T := full_any w D b bm f bud vp ve vn ps es nn xn h
    rw [decide_eq_true e1] at T
    have hE := hide e1
    clear e1
    go_enter Tryz.func60, Tryz.ntmps60
    go_wp2_with (go_at_call 61; refine T.mono ?_; rintro e W ⟨rfl, rfl⟩)
    go_ret
    refine ⟨?_, rfl⟩
    simp [hE.out]
  · have T := full_any w D b bm f bud vp ve vn ps es nn xn h
    rw [decide_eq_false e1] at T
    have hE := hide e1
    clear e1
    go_enter Tryz.func60, Tryz.ntmps60
    go_wp2_with (go_at_call 61; refine T.mono ?_; rintro e W ⟨rfl, rfl⟩)
    go_ret
    refine ⟨?_, rfl⟩
    simp [hE.out]
end Go.Proofs.YtchoopnjckcohaaGreat
namespace Go.Proofs.YtchoopnjckcohaaGreat
open Go.RowKit
/-! ### A range over a function whose rounds may leave -/
/-- A function that goes through the values of a list in their order, as long as each round goes on, and stops where one does not. -/
def SeqL (n gf : Nat) (lb : Array Value) (E : List Value) (Kp : World → World → Prop) (w : World) : Prop :=
  ∀ (l : Nat) (J : Nat → World → Prop) (Jx : World → Prop) (W : World), Below w.heap.size w W → (∀ k A A', J k A → Below A.heap.size A A' → J k A') → (∀ A A', Jx A → Below A.heap.size A A' → Jx A') →
    (∀ (k : Nat) (W1 : World) (hk : k < E.length), J k W1 → YieldAt Fence.wide (n - 1) Tryz.prog l #[E[k]] W1 fun e W' => (e = .returned (.bool true) ∧ J (k + 1) W' ∧ Kp W1 W') ∨ (e = .returned (.bool false) ∧ Jx W')) →
    J 0 W → CallsIn Fence.wide n Tryz.prog gf (#[.func (.yield l) #[] #[]] ++ lb) W fun e W' => (∃ v, e = .returned v) ∧ (J E.length W' ∨ Jx W')
/-- How a round's body ends: it goes on, or leaves by a return; the loop's own two blocks are as they were. -/
def mayLeave (L : Nat) (Kp : World → World → Prop) (I : Nat → World → Prop) (Ix : World → Prop) (k : Nat) (W : World) : Exit → Act → World → Prop
  | .normal, _, W' => (W'.heap[L]? = W.heap[L]? ∧ W'.heap[L + 1]? = W.heap[L + 1]?) ∧ Kp W W' ∧ I k W'
  | .ret, _, W' => (W'.heap[L]? = W.heap[L]? ∧ W'.heap[L + 1]? = W.heap[L + 1]?) ∧ Ix W'
  | _, _, _ => False
/-- The loop over such a function. -/
theorem range_leaves {n : Nat} {g : Operand} {t : Tmp} {assign body : Code} {Q : Exit → Act → World → Prop} {a : Act} {w w0 : World} {gf : Nat} {lb : Array Value} {E : List Value} {Kp : World → World → Prop}
    (h1 : 1 ≤ n) (hg : a.eval g = .func (.func gf) #[] lb) (eg : ∀ args w, (callFunc gf args).run Tryz.prog w = .ok (.enter gf args) w) (hseq : SeqL (n - 1) gf lb E Kp w0)
    (hKt : ∀ {A B C : World}, Kp A B → Kp B C → Kp A C) (hKn : ∀ (A B : World), w.heap.size ≤ A.heap.size → Below A.heap.size A B → Kp A B) (hKb : ∀ (W : World) (r r' : Loop), W.heap[w.heap.size + 1]? = some (.loop r) → Kp W (W.putObj (w.heap.size + 1) (.loop r'))) (hb0 : Below w0.heap.size w0 w)
    (I : Nat → World → Prop) (Ix : World → Prop) (hI : ∀ k A A', I k A → Below A.heap.size A A' → I k A') (hIp : ∀ k (A : World) (r r' : Loop), I k A → A.heap[w.heap.size + 1]? = some (.loop r) → I k (A.putObj (w.heap.size + 1) (.loop r'))) (hX : ∀ A A', Ix A → Below A.heap.size A A' → Ix A') (hXp : ∀ (A : World) (r r' : Loop), Ix A → A.heap[w.heap.size + 1]? = some (.loop r) → Ix (A.putObj (w.heap.size + 1) (.loop r'))) (h0 : I 0 w)
    (Ax : Value → Act → World → Prop) (hAp : ∀ x a' (A : World) (r r' : Loop), Ax x a' A → A.heap[w.heap.size + 1]? = some (.loop r) → Ax x a' (A.putObj (w.heap.size + 1) (.loop r')))
    (hassign : ∀ (l : Nat) (x : Value) (hx : x ∈ E) (W : World) (K : Act → World → Prop), (∀ a' W', Below W.heap.size W W' → Ax x a' W' → K a' W') → assign.wpIn (Fence.wide.inRound l) (n - 1 - 1) Tryz.prog (Exit.then K (fun _ _ _ => False)) { tmps := (#[t].zip #[x]).foldl (fun t (p, v) => t.setIfInBounds p v) a.tmps, defers := [] } W)
    (hbody : ∀ (l k : Nat) (a' : Act) (W : World) (hk : k < E.length), I k W → Ax E[k] a' W → W.heap[w.heap.size]? = some (.deferred (some [])) → (∃ r, W.heap[w.heap.size + 1]? = some (.loop r)) → body.wpIn (Fence.wide.inRound l) (n - 1 - 1) Tryz.prog (mayLeave w.heap.size Kp I Ix (k + 1) W) a' W)
    (hdone : ∀ (D : Nat) (W : World), w.heap.size ≤ D → I E.length W → W.heap[D]? = some (.deferred (some [])) → Q .normal { a with defers := { target := .collected D, args := #[] } :: a.defers } W)
    (hstop : ∀ (D : Nat) (W : World), w.heap.size ≤ D → Ix W → W.heap[D]? = some (.deferred (some [])) → Code.ret.wpIn Fence.wide n Tryz.prog Q { a with defers := { target := .collected D, args := #[] } :: a.defers } W) :
    (Code.rangeFunc g #[t] assign body).wpIn Fence.wide n Tryz.prog Q a w := by
  refine wpIn_rangeFunc fun fn hfn => ?_
  obtain ⟨rec, hrec⟩ : ∃ rec : LoopState → Option Code → Loop, rec = fun st pe => { state := st, pending := pe, fn, tmps := a.tmps, params := #[t], assign, body, defers := w.heap.size } := ⟨_, rfl⟩
  obtain ⟨Wl, hWl⟩ : ∃ Wl, (w.alloc (.deferred (some []))).alloc (.loop (rec .ready none)) = Wl := ⟨_, rfl⟩
  have hLl : Wl.heap[w.heap.size + 1]? = some (.loop (rec .ready none)) := by
    rw [← hWl]; have := World.alloc_heap_new (w.alloc (.deferred (some []))) (.loop (rec .ready none)); rwa [World.size_alloc] at this
  have hDl : Wl.heap[w.heap.size]? = some (.deferred (some [])) := by
    rw [← hWl]; exact (Below.heap_alloc _ _ _ (by simp)).trans (World.alloc_heap_new w _)
  have hIl : I 0 Wl := by rw [← hWl]; exact hI _ _ _ (hI _ _ _ h0 ((Below.refl _ _).alloc (Nat.le_refl _) _)) ((Below.refl _ _).alloc (Nat.le_refl _) _)
  have hbl : Below w0.heap.size w0 Wl := by
    rw [← hWl]; exact hb0.trans ((((Below.refl _ w).alloc (Nat.le_refl _) _).alloc (by simp) _).mono hb0.size)
  refine ⟨w.heap.size + 1, [{ target := .collected w.heap.size, args := #[] }], Wl, { target := .fn (.func gf) lb, args := #[.func (.yield (w.heap.size + 1)) #[] #[]] }, Wl, gf,
    #[.func (.yield (w.heap.size + 1)) #[] #[]] ++ lb, Wl, by rw [← hWl, hrec]; exact run_enterLoop_outer _ _ _ _ _, by simp only [resolve, hg]; simp [go_sem], fun f' hf' => trivial, by simp [invoke, go_sem, eg], fun _ => h1, ?_⟩
  refine (hseq (w.heap.size + 1) (fun k W => I k W ∧ W.heap[w.heap.size + 1]? = some (.loop (rec .ready none)) ∧ W.heap[w.heap.size]? = some (.deferred (some []))) (fun W => Ix W ∧ W.heap[w.heap.size + 1]? = some (.loop (rec .done (some .ret))) ∧ W.heap[w.heap.size]? = some (.deferred (some []))) Wl hbl ?_ ?_ ?_ ⟨hIl, hLl, hDl⟩).mono ?_
  · rintro k A A' ⟨hi, hl, hd⟩ hb
    exact ⟨hI _ _ _ hi hb, (hb.block _ (Array.getElem?_eq_some_iff.1 hl).1).trans hl, (hb.block _ (Array.getElem?_eq_some_iff.1 hd).1).trans hd⟩
  · rintro A A' ⟨hi, hl, hd⟩ hb
    exact ⟨hX _ _ hi hb, (hb.block _ (Array.getElem?_eq_some_iff.1 hl).1).trans hl, (hb.block _ (Array.getElem?_eq_some_iff.1 hd).1).trans hd⟩
  · rintro k W hk ⟨hi, hl, hd⟩
    have hy := run_yield (P := Tryz.prog) (args := #[E[k]]) hl (by rw [hrec]; rfl)
    rw [hrec] at hy
    refine ⟨fn, _, assign, body, hy, roundIn_of_wpIn hfn (hassign _ E[k] (List.getElem_mem hk) W _ ?_)⟩
    intro a' Wa hba hax
    have hla : Wa.heap[w.heap.size + 1]? = some (.loop (rec .ready none)) := (hba.block _ (Array.getElem?_eq_some_iff.1 hl).1).trans hl
    have hda : Wa.heap[w.heap.size]? = some (.deferred (some [])) := (hba.block _ (Array.getElem?_eq_some_iff.1 hd).1).trans hd
    have hkn : Kp W Wa := hKn _ _ (by have := (Array.getElem?_eq_some_iff.1 hl).1; omega) hba
    have hlt : w.heap.size + 1 < Wa.heap.size := (Array.getElem?_eq_some_iff.1 hla).1
    refine ⟨_, run_beginRound hla (by rw [hrec]), ?_⟩
    obtain ⟨busy, hbusy⟩ : ∃ busy : Loop, busy = { rec .ready none with state := .busy } := ⟨_, rfl⟩
    have hl2 : (Wa.putObj (w.heap.size + 1) (.loop busy)).heap[w.heap.size + 1]? = some (.loop busy) := World.putObj_heap_same hlt
    have hd2 : (Wa.putObj (w.heap.size + 1) (.loop busy)).heap[w.heap.size]? = some (.deferred (some [])) := (World.putObj_heap_other (by omega)).trans hda
    have hkp : Kp Wa (Wa.putObj (w.heap.size + 1) (.loop busy)) := hKb _ _ _ hla
    rw [← hbusy]
    refine wpIn_mono (hbody _ k a' _ hk (hIp _ _ _ _ (hI _ _ _ hi hba) hla) (hAp _ _ _ _ _ hax hla) hd2 ⟨_, hl2⟩) ?_
    rintro e a3 W3 hp
    cases e with
    | normal =>
      obtain ⟨hk3, hkp3, hi3⟩ := hp
      have hl3 := hk3.2.trans hl2
      have hr3 := run_endRound (P := Tryz.prog) none hl3
      rw [hbusy, hrec] at hr3
      refine ⟨_, _, hr3, .inl ⟨rfl, ⟨hIp _ _ _ _ hi3 hl3, ?_, (World.putObj_heap_other (by omega)).trans (hk3.1.trans hd2)⟩, hKt hkn (hKt (hKt hkp hkp3) (hKb _ _ _ hl3))⟩⟩
      rw [hrec]
      exact World.putObj_heap_same (Array.getElem?_eq_some_iff.1 hl3).1
    | ret =>
      obtain ⟨hk3, hi3⟩ := hp
      have hl3 := hk3.2.trans hl2
      have hr3 := run_endRound (P := Tryz.prog) (some .ret) hl3
      rw [hbusy, hrec] at hr3
      refine ⟨_, _, hr3, .inr ⟨rfl, hXp _ _ _ hi3 hl3, ?_, (World.putObj_heap_other (by omega)).trans (hk3.1.trans hd2)⟩⟩
      rw [hrec]
      exact World.putObj_heap_same (Array.getElem?_eq_some_iff.1 hl3).1
    | exit id => exact hp.elim
    | goto t => exact hp.elim
    | panic ch => exact hp.elim
    | outgrown => exact hp.elim
  · rintro e W2 ⟨⟨v, rfl⟩, ⟨hi, hl, hd⟩ | ⟨hi, hl, hd⟩⟩
    · exact ⟨none, _, by have := run_endLoop (P := Tryz.prog) hl (by rw [hrec]; simp); rw [hrec] at this; exact this, hdone _ _ (Nat.le_refl _) (hIp _ _ _ _ hi hl) ((World.putObj_heap_other (by omega)).trans hd)⟩
    · exact ⟨some .ret, _, by have := run_endLoop (P := Tryz.prog) hl (by rw [hrec]; simp); rw [hrec] at this; exact this, hstop _ _ (Nat.le_refl _) (hXp _ _ _ hi hl) ((World.putObj_heap_other (by omega)).trans hd)⟩
end Go.Proofs.YtchoopnjckcohaaGreat
