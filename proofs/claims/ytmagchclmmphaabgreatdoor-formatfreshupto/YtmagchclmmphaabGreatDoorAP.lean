import Derived.Shelf.Slices.Clone
import Derived.Ground.Names2Prog
import Derived.Test.YtmagchclmmphaabGreatDoorLM
import Derived.Test.YtmagchclmmphaabGreatDoorAU
namespace Go.Proofs
open Go.Shelf Go.RowKit Go.Lib Go.Sort
def Tryz.laysNm216_ren : Go.Shelf.Ren := ⟨fun | 16 => 34 | n => n, fun | 24 => 26 | 9 => 9 | 4 => 4 | n => n, fun | n => n⟩
theorem Tryz.laysNm216 : Go.Proofs.Lays2.n16 Tryz.prog Tryz.laysNm216_ren := {
  mixed := by kernel_rfl
  f16 := Tryz.func34.trans (congrArg some (by kernel_rfl))
  t4 := Tryz.underlying4
  a4 := Tryz.isAgg4
  z4 := Tryz.sizeOf4
  v4 := Tryz.zeroValue4
  t9 := Tryz.underlying9
  a9 := Tryz.isAgg9
  z9 := Tryz.sizeOf9
  v9 := Tryz.zeroValue9
  t24 := Tryz.underlying26
  a24 := Tryz.isAgg26
  z24 := Tryz.sizeOf26
  v24 := Tryz.zeroValue26
  i9 := by kernel_rfl }
theorem Tryz.slices_Clone_string (b off n c : Nat) (zs : List ByteArray) (w : World) (hz : n ≤ zs.length) (hbig : n * 16 ≤ 140737488355328) (hc : ∀ j, j < zs.length → w.cell? ⟨b, off + j, none⟩ = some (.string (zs.getD j ByteArray.empty))) :
    Calls Tryz.prog 34 #[.slice (some ⟨b, off, none⟩) n c] w fun e w' => ∃ v', e = .returned v' ∧ w'.ownsRow w.heap.size 9 1 v' n ((zs.take n).map (Value.string)) ∧ v' ≠ .slice none 0 0 ∧ Below w.heap.size w w' := Any.slices_Clone_string Tryz.laysNm216 b off n c zs w hz hbig hc
theorem Tryz.slices_Clone_string_nil (n c : Nat) (w : World) :
    Calls Tryz.prog 34 #[.slice none n c] w fun e w' => e = .returned (.slice none 0 0) ∧ w' = w := Any.slices_Clone_string_nil Tryz.laysNm216 n c w
theorem Tryz.slices_Clone_string_zero (a : Addr) (c : Nat) (w : World) :
    Calls Tryz.prog 34 #[.slice (some a) 0 c] w fun e w' => ∃ v', e = .returned v' ∧ w'.ownsRow w.heap.size 9 1 v' 0 [] ∧ v' ≠ .slice none 0 0 ∧ Below w.heap.size w w' := Any.slices_Clone_string_zero Tryz.laysNm216 a c w
end Go.Proofs
namespace Go.Proofs.YtmagchclmmphaabGreatDoor
open Go.RowKit Go.Maps
/-- A list of texts, cloned. -/
theorem cloneS_any (w : World) (ao : Option Addr) (c : Nat) (S : List ByteArray) (hA : ReadsS w ao S) (hl : S.length ≤ 4194304) :
    Calls Tryz.prog 34 #[.slice ao S.length c] w fun e w' => ∃ v, e = .returned v ∧ w'.ownsRow w.heap.size 9 1 v S.length (strV S) ∧ Below w.heap.size w w' := by
  by_cases h0 : S.length = 0
  · obtain rfl : S = [] := List.eq_nil_of_length_eq_zero h0
    cases ao with
    | none =>
      refine (Tryz.slices_Clone_string_nil 0 c w).mono ?_
      rintro e w' ⟨rfl, rfl⟩
      exact ⟨_, rfl, ⟨rfl, .inl ⟨rfl, rfl⟩⟩, Below.refl _ _⟩
    | some a =>
      refine (Tryz.slices_Clone_string_zero a c w).mono ?_
      rintro e w' ⟨v, rfl, ho, _, d⟩
      exact ⟨_, rfl, ho, d⟩
  · obtain ⟨b, o, rfl, _⟩ := hA 0 (by omega)
    refine (Tryz.slices_Clone_string b o S.length c S w (Nat.le_refl _) (by omega) fun j hj => ?_).mono ?_
    · obtain ⟨b', o', e, q⟩ := hA j hj
      cases e
      rw [q]
      simp [List.getD, hj]
    · rintro e w' ⟨v, rfl, ho, _, d⟩
      rw [List.take_length] at ho
      exact ⟨_, rfl, ho, d⟩
end Go.Proofs.YtmagchclmmphaabGreatDoor
namespace Go.Proofs.YtmagchclmmphaabGreatDoor
open Go.RowKit Go.Maps
attribute [local go_sem] Oper.semAt_some

theorem results_c4 {P : Program} {fn : Func} {p q r s : Tmp} {ty : TypeId} (h : fn.results = #[.cell p ty, .tmp q, .tmp r, .tmp s]) (tmps : Array Value) (w : World) (g : Nat) (t : TypeId) (cs : Array Value) (fr : Nat × Nat) (d : TypeDesc) (x y z : Value)
    (hp : tmps.getD p undef = .pointer (some ⟨g, 0, none⟩)) (hq : tmps.getD q undef = x) (hr : tmps.getD r undef = y) (hs : tmps.getD s undef = z) (hg : w.heap[g]? = some (.cells cs t fr))
    (hu : P.underlying ty = some d) (hd : (match d with | .struct _ | .array _ _ => true | _ => false) = true) (hi : (P.info? ty).map (·.size) = some cs.size) :
    (results fn tmps).run P w = .ok (.tuple #[.agg cs, x, y, z]) w := by
  have hp' : tmps[p]?.getD undef = .pointer (some ⟨g, 0, none⟩) := by simpa using hp
  have hq' : tmps[q]?.getD undef = x := by simpa using hq
  have hr' : tmps[r]?.getD undef = y := by simpa using hr
  have hs' : tmps[s]?.getD undef = z := by simpa using hs
  simp [results, h, hp', hq', hr', hs', asAddr, run_loadVar_row w g t ty cs fr d hg hu hd hi]
set_option maxRecDepth 100000 in
set_option maxHeartbeats 4000000 in
theorem auto_bad (w : World) (ti : ByteArray) (ao asx af ar : Option Addr) (co cs cf cr : Nat) (O : List OpI) (S F : List ByteArray) (R : List RuT) (hT : Hid (BytesAt w ∧ 1 < w.heap.size)) (hO : Hid (RdO w ao O)) (hS : Hid (ReadsS w asx S)) (hF : Hid (ReadsS w af F)) (hR : Hid (RdRu w ar R))
    (hok : Hid ((∀ x ∈ F, kText.ok x) ∧ ∀ x ∈ R, kRules.ok x)) (hlo : O.length ≤ 4194304) (hls : S.length ≤ 4194304) (hlf : F.length ≤ 4194304) (hlr : R.length ≤ 4194304) (hv : valF ti O S F R = false) :
    Calls Tryz.prog 14 #[.agg #[.string ti, .slice ao O.length co, .slice asx S.length cs, .slice af F.length cf, .slice ar R.length cr]] w fun e w' => e = .returned (.tuple #[.agg #[.int .i64 0, .int .i64 0, .slice none 0 0, .slice none 0 0, .slice none 0 0], .slice none 0 0, .slice none 0 0, .int .i64 5]) ∧ Below w.heap.size w w' := by
  obtain ⟨W0, hW0⟩ : ∃ W0, (w.alloc (.cells #[.string ti, .slice ao O.length co, .slice asx S.length cs, .slice af F.length cf, .slice ar R.length cr] 32)).alloc (.cells #[.int .i64 0, .int .i64 0, .slice none 0 0, .slice none 0 0, .slice none 0 0] 25) = W0 := ⟨_, rfl⟩
  have d0 : Below w.heap.size w W0 := by rw [← hW0]; exact ((Below.refl _ _).alloc (Nat.le_refl _) _).alloc (by simp) _
  have b0 : W0.heap[w.heap.size]? = some (.cells #[.string ti, .slice ao O.length co, .slice asx S.length cs, .slice af F.length cf, .slice ar R.length cr] 32 (0, 0)) := by rw [← hW0]; exact (Below.heap_alloc _ _ _ (by simp)).trans (World.alloc_heap_new _ _)
  have b1 : W0.heap[w.heap.size + 1]? = some (.cells #[.int .i64 0, .int .i64 0, .slice none 0 0, .slice none 0 0, .slice none 0 0] 25 (0, 0)) := by rw [← hW0]; exact heap_alloc2_new w _ _
  have z0 : W0.heap.size = w.heap.size + 2 := by rw [← hW0]; simp
  have T1 := valid_file W0 ti ao asx af ar co cs cf cr O S F R (hide ⟨hT.out.1.below d0 hT.out.2, Nat.lt_of_lt_of_le hT.out.2 d0.size⟩) (hide (hO.out.on d0)) (hide (hS.out.below d0)) (hide (hF.out.below d0)) (hide (hR.out.on d0)) hok hlo hls hlf hlr
  rw [hv] at T1
  have HD := hide (And.intro d0 (And.intro b0 (And.intro b1 z0)))
  have c0 : W0.cell? ⟨w.heap.size, 0, none⟩ = some (.string ti) := cell_of b0 rfl
  have c1 : W0.cell? ⟨w.heap.size, 1, none⟩ = some (.slice ao O.length co) := cell_of b0 rfl
  have c2 : W0.cell? ⟨w.heap.size, 2, none⟩ = some (.slice asx S.length cs) := cell_of b0 rfl
  have c3 : W0.cell? ⟨w.heap.size, 3, none⟩ = some (.slice af F.length cf) := cell_of b0 rfl
  have c4 : W0.cell? ⟨w.heap.size, 4, none⟩ = some (.slice ar R.length cr) := cell_of b0 rfl
  clear d0 b0 b1 z0
  go_enter Tryz.func14, Tryz.ntmps14
  go_upto_region 2 with (go_at_call 40; refine T1.mono ?_; rintro e w1 ⟨rfl, d1⟩)
  have hbx : w1.heap[w.heap.size + 1]? = _ := (d1.block _ (by have := HD.out.2.2.2; omega)).trans HD.out.2.2.1
  have HW := hide (HD.out.1.trans (d1.mono HD.out.1.size))
  have HX := hide hbx
  clear hbx d1 T1 c0 c1 c2 c3 c4
  have z0 : w1.cell? ⟨w.heap.size + 1, 0, none⟩ = some (.int .i64 0) := cell_of HX.out rfl
  have z1 : w1.cell? ⟨w.heap.size + 1, 1, none⟩ = some (.int .i64 0) := cell_of HX.out rfl
  have z2 : w1.cell? ⟨w.heap.size + 1, 2, none⟩ = some (.slice none 0 0) := cell_of HX.out rfl
  have z3 : w1.cell? ⟨w.heap.size + 1, 3, none⟩ = some (.slice none 0 0) := cell_of HX.out rfl
  have z4 : w1.cell? ⟨w.heap.size + 1, 4, none⟩ = some (.slice none 0 0) := cell_of HX.out rfl
  have f0 : w1.frozen? ⟨w.heap.size + 1, 0, none⟩ = false := fz_of HX.out
  have f1 : w1.frozen? ⟨w.heap.size + 1, 1, none⟩ = false := fz_of HX.out
  have f2 : w1.frozen? ⟨w.heap.size + 1, 2, none⟩ = false := fz_of HX.out
  have f3 : w1.frozen? ⟨w.heap.size + 1, 3, none⟩ = false := fz_of HX.out
  have f4 : w1.frozen? ⟨w.heap.size + 1, 4, none⟩ = false := fz_of HX.out
  have HZ := hide (set5 w1 (w.heap.size + 1) _ _ _ _ _ (.int .i64 0) (.int .i64 0) (.slice none 0 0) (.slice none 0 0) (.slice none 0 0) 25 HX.out)
  go_wp2
  refine bodyPost_ret (results_c4 (p := 2) (q := 3) (r := 4) (s := 5) (ty := 25) rfl _ _ (w.heap.size + 1) 25 _ (0, 0) _ _ _ _ rfl rfl rfl rfl HZ.out.1 Tryz.underlying25 rfl (by kernel_rfl)) rfl ?_
  exact ⟨rfl, HW.out.trans (HZ.out.2.toBelow HW.out.size fun k z => by omega)⟩
set_option maxRecDepth 100000 in
set_option maxHeartbeats 4000000 in
theorem auto_big (w : World) (ti : ByteArray) (ao asx af ar : Option Addr) (co cs cf cr : Nat) (O : List OpI) (S F : List ByteArray) (R : List RuT) (hT : Hid (BytesAt w ∧ 1 < w.heap.size)) (hO : Hid (RdO w ao O)) (hS : Hid (ReadsS w asx S)) (hF : Hid (ReadsS w af F)) (hR : Hid (RdRu w ar R))
    (hok : Hid ((∀ x ∈ F, kText.ok x) ∧ ∀ x ∈ R, kRules.ok x)) (hlo : O.length ≤ 4194304) (hls : S.length ≤ 4194304) (hlf : F.length ≤ 4194304) (hlr : R.length ≤ 4194304) (hv : valF ti O S F R = true) (hcond : 4096 < S.length ∨ 128 < (symF O).length ∨ 65536 < (R.filter fun r => !isSt r).length) :
    Calls Tryz.prog 14 #[.agg #[.string ti, .slice ao O.length co, .slice asx S.length cs, .slice af F.length cf, .slice ar R.length cr]] w fun e w' => e = .returned (.tuple #[.agg #[.int .i64 0, .int .i64 0, .slice none 0 0, .slice none 0 0, .slice none 0 0], .slice none 0 0, .slice none 0 0, .int .i64 8]) ∧ Below w.heap.size w w' := by
  obtain ⟨W0, hW0⟩ : ∃ W0, (w.alloc (.cells #[.string ti, .slice ao O.length co, .slice asx S.length cs, .slice af F.length cf, .slice ar R.length cr] 32)).alloc (.cells #[.int .i64 0, .int .i64 0, .slice none 0 0, .slice none 0 0, .slice none 0 0] 25) = W0 := ⟨_, rfl⟩
  have d0 : Below w.heap.size w W0 := by rw [← hW0]; exact ((Below.refl _ _).alloc (Nat.le_refl _) _).alloc (by simp) _
  have b0 : W0.heap[w.heap.size]? = some (.cells #[.string ti, .slice ao O.length co, .slice asx S.length cs, .slice af F.length cf, .slice ar R.length cr] 32 (0, 0)) := by rw [← hW0]; exact (Below.heap_alloc _ _ _ (by simp)).trans (World.alloc_heap_new _ _)
  have b1 : W0.heap[w.heap.size + 1]? = some (.cells #[.int .i64 0, .int .i64 0, .slice none 0 0, .slice none 0 0, .slice none 0 0] 25 (0, 0)) := by rw [← hW0]; exact heap_alloc2_new w _ _
  have z0 : W0.heap.size = w.heap.size + 2 := by rw [← hW0]; simp
  have T1 := valid_file W0 ti ao asx af ar co cs cf cr O S F R (hide ⟨hT.out.1.below d0 hT.out.2, Nat.lt_of_lt_of_le hT.out.2 d0.size⟩) (hide (hO.out.on d0)) (hide (hS.out.below d0)) (hide (hF.out.below d0)) (hide (hR.out.on d0)) hok hlo hls hlf hlr
  rw [hv] at T1
  have HD := hide (And.intro d0 (And.intro b0 (And.intro b1 z0)))
  have c0 : W0.cell? ⟨w.heap.size, 0, none⟩ = some (.string ti) := cell_of b0 rfl
  have c1 : W0.cell? ⟨w.heap.size, 1, none⟩ = some (.slice ao O.length co) := cell_of b0 rfl
  have c2 : W0.cell? ⟨w.heap.size, 2, none⟩ = some (.slice asx S.length cs) := cell_of b0 rfl
  have c3 : W0.cell? ⟨w.heap.size, 3, none⟩ = some (.slice af F.length cf) := cell_of b0 rfl
  have c4 : W0.cell? ⟨w.heap.size, 4, none⟩ = some (.slice ar R.length cr) := cell_of b0 rfl
  clear d0 b0 b1 z0
  go_enter Tryz.func14, Tryz.ntmps14
  go_upto_region 4 with (first
    | (go_at_call 40; refine T1.mono ?_; rintro e w1 ⟨rfl, d1⟩; have T2 := symbols_any w1 ao co O (hide (hO.out.on (HD.out.1.trans (d1.mono HD.out.1.size)))) hlo; have e1 : w1.cell? ⟨w.heap.size, 1, none⟩ = some (.slice ao O.length co) := (d1.cell (p := ⟨w.heap.size, 1, none⟩) (by have := HD.out.2.2.2; show w.heap.size < _; omega)).trans c1)
    | (go_at_call 44; refine T2.mono ?_; rintro e w2 ⟨vy, rfl, hvy, d2⟩; obtain ⟨ay, cy, rfl⟩ := rowForm hvy))
  have d12 : Below W0.heap.size W0 w2 := d1.trans (d2.mono d1.size)
  have DW := hide (HD.out.1.trans (d12.mono HD.out.1.size))
  have HB := hide (And.intro ((d12.block _ (by have := HD.out.2.2.2; omega)).trans HD.out.2.1) ((d12.block _ (by have := HD.out.2.2.2; omega)).trans HD.out.2.2.1))
  have HYB := hide (fun k (q : (Value.slice ay (symF O).length cy).ownBlock = some k) => show w.heap.size + 2 ≤ k by have := (hvy.lt k q).1; have := d1.size; have := HD.out.2.2.2; omega)
  have HVY := hide (own_wide hvy (show w.heap.size ≤ w1.heap.size by have := d1.size; have := HD.out.2.2.2; omega))
  clear d12 d1 d2 hvy T1 T2 e1 c0 c1 c2 c3 c4
  have hly : (symF O).length ≤ 4194304 := by unfold symF; rw [List.length_map]; exact Nat.le_trans (List.length_filter_le _ _) hlo
  obtain ⟨Y, hY⟩ : ∃ Y, symF O = Y := ⟨_, rfl⟩
  rw [hY] at HVY HYB hly hcond
  rw [hY]
  have HY := hide hY
  have c2 : w2.cell? ⟨w.heap.size, 2, none⟩ = some (.slice asx S.length cs) := cell_of HB.out.1 rfl
  have c4 : w2.cell? ⟨w.heap.size, 4, none⟩ = some (.slice ar R.length cr) := cell_of HB.out.1 rfl
  by_cases hs : 4096 < S.length
  · have i1 : (4096 : Int) < (S.length : Int) := by omega
    go_upto_region 5 with fail
    have HX := hide HB.out.2
    have z0 : w2.cell? ⟨w.heap.size + 1, 0, none⟩ = some (.int .i64 0) := cell_of HX.out rfl
    have z1 : w2.cell? ⟨w.heap.size + 1, 1, none⟩ = some (.int .i64 0) := cell_of HX.out rfl
    have z2 : w2.cell? ⟨w.heap.size + 1, 2, none⟩ = some (.slice none 0 0) := cell_of HX.out rfl
    have z3 : w2.cell? ⟨w.heap.size + 1, 3, none⟩ = some (.slice none 0 0) := cell_of HX.out rfl
    have z4 : w2.cell? ⟨w.heap.size + 1, 4, none⟩ = some (.slice none 0 0) := cell_of HX.out rfl
    have f0 : w2.frozen? ⟨w.heap.size + 1, 0, none⟩ = false := fz_of HX.out
    have f1 : w2.frozen? ⟨w.heap.size + 1, 1, none⟩ = false := fz_of HX.out
    have f2 : w2.frozen? ⟨w.heap.size + 1, 2, none⟩ = false := fz_of HX.out
    have f3 : w2.frozen? ⟨w.heap.size + 1, 3, none⟩ = false := fz_of HX.out
    have f4 : w2.frozen? ⟨w.heap.size + 1, 4, none⟩ = false := fz_of HX.out
    have HZ := hide (set5 w2 (w.heap.size + 1) _ _ _ _ _ (.int .i64 0) (.int .i64 0) (.slice none 0 0) (.slice none 0 0) (.slice none 0 0) 25 HX.out)
    go_wp2
    refine bodyPost_ret (results_c4 (p := 2) (q := 3) (r := 4) (s := 5) (ty := 25) rfl _ _ (w.heap.size + 1) 25 _ (0, 0) _ _ _ _ rfl rfl rfl rfl HZ.out.1 Tryz.underlying25 rfl (by kernel_rfl)) rfl ?_
    exact ⟨rfl, DW.out.trans (HZ.out.2.toBelow DW.out.size fun k z => by omega)⟩
  · have i1 : ¬ (4096 : Int) < (S.length : Int) := by omega
    by_cases hy : 128 < Y.length
    · have i2 : (128 : Int) < (Y.length : Int) := by omega
      go_upto_region 5 with fail
      have HX := hide HB.out.2
      have z0 : w2.cell? ⟨w.heap.size + 1, 0, none⟩ = some (.int .i64 0) := cell_of HX.out rfl
      have z1 : w2.cell? ⟨w.heap.size + 1, 1, none⟩ = some (.int .i64 0) := cell_of HX.out rfl
      have z2 : w2.cell? ⟨w.heap.size + 1, 2, none⟩ = some (.slice none 0 0) := cell_of HX.out rfl
      have z3 : w2.cell? ⟨w.heap.size + 1, 3, none⟩ = some (.slice none 0 0) := cell_of HX.out rfl
      have z4 : w2.cell? ⟨w.heap.size + 1, 4, none⟩ = some (.slice none 0 0) := cell_of HX.out rfl
      have f0 : w2.frozen? ⟨w.heap.size + 1, 0, none⟩ = false := fz_of HX.out
      have f1 : w2.frozen? ⟨w.heap.size + 1, 1, none⟩ = false := fz_of HX.out
      have f2 : w2.frozen? ⟨w.heap.size + 1, 2, none⟩ = false := fz_of HX.out
      have f3 : w2.frozen? ⟨w.heap.size + 1, 3, none⟩ = false := fz_of HX.out
      have f4 : w2.frozen? ⟨w.heap.size + 1, 4, none⟩ = false := fz_of HX.out
      have HZ := hide (set5 w2 (w.heap.size + 1) _ _ _ _ _ (.int .i64 0) (.int .i64 0) (.slice none 0 0) (.slice none 0 0) (.slice none 0 0) 25 HX.out)
      go_wp2
      refine bodyPost_ret (results_c4 (p := 2) (q := 3) (r := 4) (s := 5) (ty := 25) rfl _ _ (w.heap.size + 1) 25 _ (0, 0) _ _ _ _ rfl rfl rfl rfl HZ.out.1 Tryz.underlying25 rfl (by kernel_rfl)) rfl ?_
      exact ⟨rfl, DW.out.trans (HZ.out.2.toBelow DW.out.size fun k z => by omega)⟩
    · have i2 : ¬ (128 : Int) < (Y.length : Int) := by omega
      have T3 := countE_any w2 ar cr R (hide (hR.out.on DW.out)) hlr
      obtain ⟨n, hn⟩ : ∃ n, (R.filter fun r => !isSt r).length = n := ⟨_, rfl⟩
      rw [hn] at T3 hcond
      have i3 : (65536 : Int) < (n : Int) := by omega
      go_upto_region 5 with (go_at_call 45; refine T3.mono ?_; rintro e w3 ⟨rfl, d3⟩)
      have HX := hide ((d3.block _ (by have := (Array.getElem?_eq_some_iff.1 HB.out.2).1; omega)).trans HB.out.2)
      have DW3 := hide (DW.out.trans (d3.mono DW.out.size))
      clear d3 T3
      have z0 : w3.cell? ⟨w.heap.size + 1, 0, none⟩ = some (.int .i64 0) := cell_of HX.out rfl
      have z1 : w3.cell? ⟨w.heap.size + 1, 1, none⟩ = some (.int .i64 0) := cell_of HX.out rfl
      have z2 : w3.cell? ⟨w.heap.size + 1, 2, none⟩ = some (.slice none 0 0) := cell_of HX.out rfl
      have z3 : w3.cell? ⟨w.heap.size + 1, 3, none⟩ = some (.slice none 0 0) := cell_of HX.out rfl
      have z4 : w3.cell? ⟨w.heap.size + 1, 4, none⟩ = some (.slice none 0 0) := cell_of HX.out rfl
      have f0 : w3.frozen? ⟨w.heap.size + 1, 0, none⟩ = false := fz_of HX.out
      have f1 : w3.frozen? ⟨w.heap.size + 1, 1, none⟩ = false := fz_of HX.out
      have f2 : w3.frozen? ⟨w.heap.size + 1, 2, none⟩ = false := fz_of HX.out
      have f3 : w3.frozen? ⟨w.heap.size + 1, 3, none⟩ = false := fz_of HX.out
      have f4 : w3.frozen? ⟨w.heap.size + 1, 4, none⟩ = false := fz_of HX.out
      have HZ := hide (set5 w3 (w.heap.size + 1) _ _ _ _ _ (.int .i64 0) (.int .i64 0) (.slice none 0 0) (.slice none 0 0) (.slice none 0 0) 25 HX.out)
      go_wp2
      refine bodyPost_ret (results_c4 (p := 2) (q := 3) (r := 4) (s := 5) (ty := 25) rfl _ _ (w.heap.size + 1) 25 _ (0, 0) _ _ _ _ rfl rfl rfl rfl HZ.out.1 Tryz.underlying25 rfl (by kernel_rfl)) rfl ?_
      exact ⟨rfl, DW3.out.trans (HZ.out.2.toBelow DW3.out.size fun k z => by omega)⟩
/-- What is left at the end. -/
theorem auto_end {w w3 w5 w6 W : World} {v1 v2 v3 vs vy : Value} {St Fi : List Int} {Ed : List EdT} {S Y : List ByteArray} {n m e : Nat} (hw : w.heap.size + 1 < w3.heap.size) (d3 : Below w.heap.size w w3) (h5 : AtR w3.drew w5 v1 v2 v3 St Fi Ed) (hs : w6.ownsRow w5.heap.size 9 1 vs S.length (strV S)) (d6 : Below w5.heap.size w5 w6) (hy : w3.ownsRow w.heap.size 9 1 vy Y.length (strV Y)) (ho : Only w6 W (fun k => k = w.heap.size + 1)) (hyb : ∀ k, vy.ownBlock = some k → k ≠ w.heap.size + 1) :
    ∃ u1 u2 u3 us uy, Ending.returned (.tuple #[.agg #[.int .i64 (n : Nat), .int .i64 (m : Nat), v1, v2, v3], vs, vy, .int .i64 (e : Nat)]) = .returned (.tuple #[.agg #[.int .i64 (n : Nat), .int .i64 (m : Nat), u1, u2, u3], us, uy, .int .i64 (e : Nat)]) ∧ AtR w W u1 u2 u3 St Fi Ed ∧ W.ownsRow w.heap.size 9 1 us S.length (strV S) ∧ W.ownsRow w.heap.size 9 1 uy Y.length (strV Y) ∧ ∀ k, us.ownBlock = some k → uy.ownBlock ≠ some k := by
  have d5 : Below w3.heap.size w3 w5 := ⟨h5.dw.os, h5.dw.tape, h5.dw.output, h5.dw.size, h5.dw.block⟩
  have s3 := d3.size
  have s5 := d5.size
  have d36 : Below w3.heap.size w3 w6 := d5.trans (d6.mono d5.size)
  have k : ∀ {e sz n : Nat} {v : Value} {xs : List Value}, w5.ownsRow w3.heap.size e sz v n xs → W.ownsRow w.heap.size e sz v n xs := fun h => own_wide (row_only (owns_below h d6) ho fun k q z => by have := (h.lt k q).1; omega) s3
  refine ⟨v1, v2, v3, vs, vy, rfl, ⟨k h5.o1, k h5.o2, k h5.o3, h5.a12, h5.a13, h5.a23, d3.trans ((d36.mono s3).trans (ho.toBelow (Nat.le_trans s3 d36.size) fun k z => by omega))⟩, own_wide (row_only hs ho fun k q z => by have := (hs.lt k q).1; omega) (by omega), row_only (owns_below hy d36) ho hyb, fun k q q' => by have := (hs.lt k q).1; have := (hy.lt k q').2; omega⟩
set_option maxRecDepth 100000 in
set_option maxHeartbeats 4000000 in
theorem auto_ok2 (w : World) (ti : ByteArray) (ao asx af ar : Option Addr) (co cs cf cr : Nat) (O : List OpI) (S F : List ByteArray) (R : List RuT) (hT : Hid (BytesAt w ∧ 1 < w.heap.size)) (hO : Hid (RdO w ao O)) (hS : Hid (ReadsS w asx S)) (hF : Hid (ReadsS w af F)) (hR : Hid (RdRu w ar R))
    (hok : Hid ((∀ x ∈ F, kText.ok x) ∧ ∀ x ∈ R, kRules.ok x)) (hlo : O.length ≤ 4194304) (hls : S.length ≤ 4194304) (hlf : F.length ≤ 4194304) (hlr : R.length ≤ 4194304) (hv : valF ti O S F R = true) (hcond : ¬ (4096 < S.length ∨ 128 < (symF O).length ∨ 65536 < (R.filter fun r => !isSt r).length)) :
    Calls Tryz.prog 14 #[.agg #[.string ti, .slice ao O.length co, .slice asx S.length cs, .slice af F.length cf, .slice ar R.length cr]] w fun e w' => ∃ v1 v2 v3 vs vy, e = .returned (.tuple #[.agg #[.int .i64 (S.length : Nat), .int .i64 ((symF O).length : Nat), v1, v2, v3], vs, vy, .int .i64 0]) ∧ AtR w w' v1 v2 v3 (riseL (stF S R)) (fiF S F) (sortE (edF S (symF O) R)) ∧ w'.ownsRow w.heap.size 9 1 vs S.length (strV S) ∧ w'.ownsRow w.heap.size 9 1 vy (symF O).length (strV (symF O)) ∧ ∀ k, vs.ownBlock = some k → vy.ownBlock ≠ some k := by
  obtain ⟨W0, hW0⟩ : ∃ W0, (w.alloc (.cells #[.string ti, .slice ao O.length co, .slice asx S.length cs, .slice af F.length cf, .slice ar R.length cr] 32)).alloc (.cells #[.int .i64 0, .int .i64 0, .slice none 0 0, .slice none 0 0, .slice none 0 0] 25) = W0 := ⟨_, rfl⟩
  have d0 : Below w.heap.size w W0 := by rw [← hW0]; exact ((Below.refl _ _).alloc (Nat.le_refl _) _).alloc (by simp) _
  have b0 : W0.heap[w.heap.size]? = some (.cells #[.string ti, .slice ao O.length co, .slice asx S.length cs, .slice af F.length cf, .slice ar R.length cr] 32 (0, 0)) := by rw [← hW0]; exact (Below.heap_alloc _ _ _ (by simp)).trans (World.alloc_heap_new _ _)
  have b1 : W0.heap[w.heap.size + 1]? = some (.cells #[.int .i64 0, .int .i64 0, .slice none 0 0, .slice none 0 0, .slice none 0 0] 25 (0, 0)) := by rw [← hW0]; exact heap_alloc2_new w _ _
  have z0 : W0.heap.size = w.heap.size + 2 := by rw [← hW0]; simp
  have T1 := valid_file W0 ti ao asx af ar co cs cf cr O S F R (hide ⟨hT.out.1.below d0 hT.out.2, Nat.lt_of_lt_of_le hT.out.2 d0.size⟩) (hide (hO.out.on d0)) (hide (hS.out.below d0)) (hide (hF.out.below d0)) (hide (hR.out.on d0)) hok hlo hls hlf hlr
  rw [hv] at T1
  have HD := hide (And.intro d0 (And.intro b0 (And.intro b1 z0)))
  have c0 : W0.cell? ⟨w.heap.size, 0, none⟩ = some (.string ti) := cell_of b0 rfl
  have c1 : W0.cell? ⟨w.heap.size, 1, none⟩ = some (.slice ao O.length co) := cell_of b0 rfl
  have c2 : W0.cell? ⟨w.heap.size, 2, none⟩ = some (.slice asx S.length cs) := cell_of b0 rfl
  have c3 : W0.cell? ⟨w.heap.size, 3, none⟩ = some (.slice af F.length cf) := cell_of b0 rfl
  have c4 : W0.cell? ⟨w.heap.size, 4, none⟩ = some (.slice ar R.length cr) := cell_of b0 rfl
  clear d0 b0 b1 z0
  go_enter Tryz.func14, Tryz.ntmps14
  go_upto_region 4 with (first
    | (go_at_call 40; refine T1.mono ?_; rintro e w1 ⟨rfl, d1⟩; have T2 := symbols_any w1 ao co O (hide (hO.out.on (HD.out.1.trans (d1.mono HD.out.1.size)))) hlo; have e1 : w1.cell? ⟨w.heap.size, 1, none⟩ = some (.slice ao O.length co) := (d1.cell (p := ⟨w.heap.size, 1, none⟩) (by have := HD.out.2.2.2; show w.heap.size < _; omega)).trans c1)
    | (go_at_call 44; refine T2.mono ?_; rintro e w2 ⟨vy, rfl, hvy, d2⟩; obtain ⟨ay, cy, rfl⟩ := rowForm hvy))
  have d12 : Below W0.heap.size W0 w2 := d1.trans (d2.mono d1.size)
  have DW := hide (HD.out.1.trans (d12.mono HD.out.1.size))
  have HB := hide (And.intro ((d12.block _ (by have := HD.out.2.2.2; omega)).trans HD.out.2.1) ((d12.block _ (by have := HD.out.2.2.2; omega)).trans HD.out.2.2.1))
  have HYB := hide (fun k (q : (Value.slice ay (symF O).length cy).ownBlock = some k) => show w.heap.size + 2 ≤ k by have := (hvy.lt k q).1; have := d1.size; have := HD.out.2.2.2; omega)
  have HVY := hide (own_wide hvy (show w.heap.size ≤ w1.heap.size by have := d1.size; have := HD.out.2.2.2; omega))
  clear d12 d1 d2 hvy T1 T2 e1 c0 c1 c2 c3 c4
  have hly : (symF O).length ≤ 4194304 := by unfold symF; rw [List.length_map]; exact Nat.le_trans (List.length_filter_le _ _) hlo
  obtain ⟨Y, hY⟩ : ∃ Y, symF O = Y := ⟨_, rfl⟩
  rw [hY] at HVY HYB hly hcond
  rw [hY]
  have HY := hide hY
  have c2 : w2.cell? ⟨w.heap.size, 2, none⟩ = some (.slice asx S.length cs) := cell_of HB.out.1 rfl
  have c4 : w2.cell? ⟨w.heap.size, 4, none⟩ = some (.slice ar R.length cr) := cell_of HB.out.1 rfl
  have i1 : ¬ (4096 : Int) < (S.length : Int) := by omega
  have i2 : ¬ (128 : Int) < (Y.length : Int) := by omega
  have T3 := countE_any w2 ar cr R (hide (hR.out.on DW.out)) hlr
  obtain ⟨n, hn⟩ : ∃ n, (R.filter fun r => !isSt r).length = n := ⟨_, rfl⟩
  rw [hn] at T3 hcond
  have i3 : ¬ (65536 : Int) < (n : Int) := by omega
  go_upto_region 6 with (go_at_call 45; refine T3.mono ?_; rintro e w3 ⟨rfl, d3⟩)
  have D3 := hide (DW.out.trans (d3.mono DW.out.size))
  have hl2 := (Array.getElem?_eq_some_iff.1 HB.out.2).1
  have HB3 := hide (And.intro ((d3.block _ (by omega)).trans HB.out.1) ((d3.block _ (by omega)).trans HB.out.2))
  have HVY3 := hide (owns_below HVY.out d3)
  clear d3 T3 c2 c4
  have hw3 : w.heap.size + 1 < w3.heap.size := (Array.getElem?_eq_some_iff.1 HB3.out.2).1
  have HAO := hide (aok_of hv)
  obtain ⟨_, _, eqy, hry⟩ := rdS_of HVY3.out
  cases eqy
  have T46 := fun (W : World) (d : Below w3.heap.size w3 W) => autoOf_any W ti ao asx af ar ay O.length co cs cf cr cy S F Y R (hide ⟨hS.out.below (D3.out.trans (d.mono D3.out.size)), hF.out.below (D3.out.trans (d.mono D3.out.size)), hR.out.on (D3.out.trans (d.mono D3.out.size)), hry.below d⟩) (hide ⟨HAO.out.sk, HAO.out.fk, by rw [← HY.out]; exact HAO.out.yk, HAO.out.rk⟩) (hide ⟨HAO.out.sn, by rw [← HY.out]; exact HAO.out.yn⟩) (hide ⟨HAO.out.fm, by rw [← HY.out]; exact HAO.out.rm⟩) hls hlf hlr hly
  have T34 := fun (W : World) (d : Below w3.heap.size w3 W) => cloneS_any W asx cs S (hS.out.below (D3.out.trans (d.mono D3.out.size))) hls
  have c0 : w3.cell? ⟨w.heap.size, 0, none⟩ = some (.string ti) := cell_of HB3.out.1 rfl
  have c1 : w3.cell? ⟨w.heap.size, 1, none⟩ = some (.slice ao O.length co) := cell_of HB3.out.1 rfl
  have c2 : w3.cell? ⟨w.heap.size, 2, none⟩ = some (.slice asx S.length cs) := cell_of HB3.out.1 rfl
  have c3 : w3.cell? ⟨w.heap.size, 3, none⟩ = some (.slice af F.length cf) := cell_of HB3.out.1 rfl
  have c4 : w3.cell? ⟨w.heap.size, 4, none⟩ = some (.slice ar R.length cr) := cell_of HB3.out.1 rfl
  have HT := hide (And.intro T46 T34)
  clear T46 T34 hry
  go_region_with (first
    | (go_at_call 46; refine (HT.out.1 _ (Below.refl _ _).drew).mono ?_; rintro e w5 ⟨v1, v2, v3, rfl, hR5⟩; obtain ⟨a1, d1, rfl⟩ := rowForm hR5.o1; obtain ⟨a2, d2, rfl⟩ := rowForm hR5.o2; obtain ⟨a3, d3, rfl⟩ := rowForm hR5.o3; have d5 : Below w3.heap.size w3 w5 := ⟨hR5.dw.os, hR5.dw.tape, hR5.dw.output, hR5.dw.size, hR5.dw.block⟩; have c25 : w5.cell? ⟨w.heap.size, 2, none⟩ = some (.slice asx S.length cs) := (d5.cell (p := ⟨w.heap.size, 2, none⟩) (by show w.heap.size < _; omega)).trans c2; have HR5 := hide hR5; have D5 := hide d5; clear hR5 d5)
    | (go_at_call 34; refine (HT.out.2 w5 D5.out).mono ?_; rintro e w6 ⟨vs, rfl, hvs, d6⟩; obtain ⟨ax, dx, rfl⟩ := rowForm hvs; have hbx := (d6.block _ (Nat.lt_of_lt_of_le hw3 D5.out.size)).trans ((D5.out.block _ hw3).trans HB3.out.2); have z0 : w6.cell? ⟨w.heap.size + 1, 0, none⟩ = some (.int .i64 0) := cell_of hbx rfl; have z1 : w6.cell? ⟨w.heap.size + 1, 1, none⟩ = some (.int .i64 0) := cell_of hbx rfl; have z2 : w6.cell? ⟨w.heap.size + 1, 2, none⟩ = some (.slice none 0 0) := cell_of hbx rfl; have z3 : w6.cell? ⟨w.heap.size + 1, 3, none⟩ = some (.slice none 0 0) := cell_of hbx rfl; have z4 : w6.cell? ⟨w.heap.size + 1, 4, none⟩ = some (.slice none 0 0) := cell_of hbx rfl; have f0 : w6.frozen? ⟨w.heap.size + 1, 0, none⟩ = false := fz_of hbx; have f1 : w6.frozen? ⟨w.heap.size + 1, 1, none⟩ = false := fz_of hbx; have f2 : w6.frozen? ⟨w.heap.size + 1, 2, none⟩ = false := fz_of hbx; have f3 : w6.frozen? ⟨w.heap.size + 1, 3, none⟩ = false := fz_of hbx; have f4 : w6.frozen? ⟨w.heap.size + 1, 4, none⟩ = false := fz_of hbx; have HV := hide (And.intro hvs d6); have HZ := hide (set5 w6 (w.heap.size + 1) _ _ _ _ _ (.int .i64 (S.length : Nat)) (.int .i64 (Y.length : Nat)) (.slice a1 (riseL (stF S R)).length d1) (.slice a2 (fiF S F).length d2) (.slice a3 (sortE (edF S Y R)).length d3) 25 hbx); clear hvs d6 hbx))
  all_goals (
    go_wp2
    refine bodyPost_ret (results_c4 (p := 2) (q := 3) (r := 4) (s := 5) (ty := 25) rfl _ _ (w.heap.size + 1) 25 _ (0, 0) _ (.slice ax S.length dx) (.slice ay Y.length cy) (.int .i64 0) rfl rfl rfl rfl HZ.out.1 Tryz.underlying25 rfl (by kernel_rfl)) rfl ?_
    rw [HY.out]
    exact auto_end hw3 D3.out HR5.out HV.out.1 HV.out.2 HVY3.out HZ.out.2 (fun k q => by have := HYB.out k q; omega))
theorem auto_ok (w : World) (ti : ByteArray) (ao asx af ar : Option Addr) (co cs cf cr : Nat) (O : List OpI) (S F : List ByteArray) (R : List RuT) (hT : Hid (BytesAt w ∧ 1 < w.heap.size)) (hO : Hid (RdO w ao O)) (hS : Hid (ReadsS w asx S)) (hF : Hid (ReadsS w af F)) (hR : Hid (RdRu w ar R))
    (hok : Hid ((∀ x ∈ F, kText.ok x) ∧ ∀ x ∈ R, kRules.ok x)) (hlo : O.length ≤ 4194304) (hls : S.length ≤ 4194304) (hlf : F.length ≤ 4194304) (hlr : R.length ≤ 4194304) (hv : valF ti O S F R = true) (hcond : ¬ (4096 < S.length ∨ 128 < (symF O).length ∨ 65536 < (R.filter fun r => !isSt r).length)) :
    Calls Tryz.prog 14 #[.agg #[.string ti, .slice ao O.length co, .slice asx S.length cs, .slice af F.length cf, .slice ar R.length cr]] w fun e w' => ∃ v1 v2 v3 vs vy, e = .returned (.tuple #[.agg #[.int .i64 (S.length : Nat), .int .i64 ((symF O).length : Nat), v1, v2, v3], vs, vy, .int .i64 0]) ∧ AtR w w' v1 v2 v3 (riseL (stF S R)) (fiF S F) (sortE (edF S (symF O) R)) ∧ w'.ownsRow w.heap.size 9 1 vs S.length (strV S) ∧ w'.ownsRow w.heap.size 9 1 vy (symF O).length (strV (symF O)) := by
  refine (auto_ok2 w ti ao asx af ar co cs cf cr O S F R hT hO hS hF hR hok hlo hls hlf hlr hv hcond).mono ?_
  rintro e w' ⟨v1, v2, v3, vs, vy, h0, h1, h2, h3, _⟩
  exact ⟨v1, v2, v3, vs, vy, h0, h1, h2, h3⟩
end Go.Proofs.YtmagchclmmphaabGreatDoor
